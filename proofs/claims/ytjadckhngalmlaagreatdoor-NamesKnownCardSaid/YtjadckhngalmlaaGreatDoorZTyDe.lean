/-
  Plain: declarations.
-/
import Derived.WalkKit
import Derived.Lib.UnsafeStr
import Derived.Lib.Bytealg
import Derived.Lib.LastIndexByte
import Derived.Lib.ItoaNum
import Derived.Lib.ParseIntB
import Derived.Lib.ItoaMem
import Derived.Lib.IndexMore
/-! Plain: how a byte is spelt between quotes; a text in quotes; the place in its line. -/
namespace Go.Proofs.YtjadckhngalmlaaGreatDoor
set_option linter.unusedVariables false
set_option linter.unusedSimpArgs false

/-- Does a byte stand for itself between these quotes? -/
def plainI (c q : Int) : Bool := decide (32 ≤ c) && decide (c ≤ 126) && !(c == q) && !(c == 92)
/-- A small digit to the base 16. -/
def hexD (n : Nat) : UInt8 := if n < 10 then UInt8.ofNat (48 + n) else UInt8.ofNat (87 + n)
/-- The piece that stands for a byte between these quotes. -/
@[irreducible] def pc (q c : UInt8) : List UInt8 :=
  if plainI c.toNat q.toNat then [c] else if c = 10 then [92, 110] else if c = 9 then [92, 116] else if c = 13 then [92, 114] else if c = 92 ∨ c = q then [92, c] else [92, 120, hexD (c.toNat / 16), hexD (c.toNat % 16)]
end Go.Proofs.YtjadckhngalmlaaGreatDoor
/-! Plain: which tokens there are, and how they are laid. -/
namespace Go.Proofs.YtjadckhngalmlaaGreatDoor
set_option linter.unusedVariables false
set_option linter.unusedSimpArgs false

def ltrI (c : Int) : Bool := (decide (97 ≤ c) && decide (c ≤ 122)) || (decide (65 ≤ c) && decide (c ≤ 90)) || c == 95
def digI (c : Int) : Bool := decide (48 ≤ c) && decide (c ≤ 57)
def ltr8 (c : UInt8) : Bool := ltrI c.toNat
def dig8 (c : UInt8) : Bool := digI c.toNat
def wrd8 (c : UInt8) : Bool := ltr8 c || dig8 c
def keyTab : List (List UInt8) := [[118, 111, 105, 100], [99, 104, 97, 114], [115, 104, 111, 114, 116], [105, 110, 116], [117, 110, 115, 105, 103, 110, 101, 100], [115, 116, 114, 117, 99, 116], [118, 111, 108, 97, 116, 105, 108, 101], [105, 102], [101, 108, 115, 101], [119, 104, 105, 108, 101], [100, 111], [102, 111, 114], [115, 119, 105, 116, 99, 104], [99, 97, 115, 101], [100, 101, 102, 97, 117, 108, 116], [98, 114, 101, 97, 107], [99, 111, 110, 116, 105, 110, 117, 101], [114, 101, 116, 117, 114, 110], [115, 105, 122, 101, 111, 102], [106, 109, 112, 95, 98, 117, 102]]
def markTab : List (List UInt8) := [[60, 60, 61], [62, 62, 61], [45, 62], [43, 43], [45, 45], [60, 60], [62, 62], [60, 61], [62, 61], [61, 61], [33, 61], [38, 38], [124, 124], [42, 61], [47, 61], [37, 61], [43, 61], [45, 61], [38, 61], [94, 61], [124, 61], [123], [125], [40], [41], [91], [93], [59], [44], [46], [38], [42], [43], [45], [126], [33], [47], [37], [60], [62], [94], [124], [63], [58], [61]]
@[irreducible] def keyB (l : List UInt8) : Bool := keyTab.contains l
@[irreducible] def markB (l : List UInt8) : Bool := markTab.contains l
/-- A letter first, then letters and digits. -/
@[irreducible] def wordB (l : List UInt8) : Bool := decide (l ≠ []) && ltr8 (l[0]?.getD 0) && l.all wrd8
@[irreducible] def nameB (l : List UInt8) : Bool := decide (l.length ≤ 31) && wordB l && !keyB l
@[irreducible] def numB (n : Int) (l : List UInt8) : Bool := decide (-128 ≤ n) && decide (n ≤ 4294967295) && (if n < 0 then l == [] else if 2147483648 ≤ n then l == [117] else (l == [] || l == [117]))
/-- Is a token such as is read? -/
@[irreducible] def tokB (k n : Int) (l : List UInt8) : Bool :=
  if k = 3 then numB n l else n == 0 && (if k = 1 then nameB l else if k = 2 then keyB l else if k = 4 then decide (l.length ≤ 4096) else if k = 5 then markB l else false)
structure Tk where
  kind : Int
  at' : Int
  int : Int
  text : List UInt8
def Tk.ok (t : Tk) : Bool := tokB t.kind t.int t.text
end Go.Proofs.YtjadckhngalmlaaGreatDoor
/-! Plain: names and numerals. -/
namespace Go.Proofs.YtjadckhngalmlaaGreatDoor
set_option linter.unusedVariables false
set_option linter.unusedSimpArgs false

theorem word_parts {w : List UInt8} (h : wordB w = true) : w ≠ [] ∧ ltr8 (w[0]?.getD 0) = true ∧ w.all wrd8 = true := by
  unfold wordB at h
  simp only [Bool.and_eq_true, decide_eq_true_eq] at h
  exact ⟨h.1.1, h.1.2, h.2⟩
theorem bk_u8 (k : Nat) (h : k < 10) : (UInt8.ofNat (48 + k)).toNat = 48 + k := by
  rw [UInt8.toNat_ofNat']
  omega
theorem bk_small (m : Nat) (h : m < 10) : Lib.decDigits m = [UInt8.ofNat (48 + m)] := by rw [Lib.decDigits, dif_pos h]
theorem bk_great (m : Nat) (h : ¬ m < 10) : Lib.decDigits m = Lib.decDigits (m / 10) ++ [UInt8.ofNat (48 + m % 10)] := by rw [Lib.decDigits, dif_neg h]
theorem bk_digits : ∀ (n u : Nat), u ≤ n → ∀ c ∈ Lib.decDigits u, 48 ≤ c.toNat ∧ c.toNat ≤ 57
  | 0, u, hu, c, hc => by
    rw [bk_small u (by omega), List.mem_singleton] at hc
    rw [hc, bk_u8 _ (by omega)]
    omega
  | n + 1, u, hu, c, hc => by
    by_cases h : u < 10
    · rw [bk_small u h, List.mem_singleton] at hc
      rw [hc, bk_u8 _ h]
      omega
    · rw [bk_great u h] at hc
      rcases List.mem_append.1 hc with h1 | h1
      · exact bk_digits n (u / 10) (by omega) c h1
      · rw [List.mem_singleton] at h1
        rw [h1, bk_u8 _ (by omega)]
        omega
theorem bk_dne (u : Nat) : Lib.decDigits u ≠ [] := by
  rw [Lib.decDigits]
  split <;> simp
theorem parse_app (M : Nat) : ∀ (l m : List UInt8) (acc n : Nat), Lib.parseUintM M acc l = .ok n → Lib.parseUintM M acc (l ++ m) = Lib.parseUintM M n m
  | [], m, acc, n, h => by
    unfold Lib.parseUintM at h
    cases h
    rfl
  | b :: r, m, acc, n, h => by
    rw [List.cons_append]
    unfold Lib.parseUintM at h
    conv => lhs; unfold Lib.parseUintM
    split at h
    · rename_i h1
      rw [if_pos h1]
      split at h
      · cases h
      · rename_i h2
        rw [if_neg h2]
        split at h
        · cases h
        · rename_i h3
          rw [if_neg h3]
          exact parse_app M r m _ n h
    · cases h
theorem parse_one (M acc k : Nat) (hk : k < 10) (h1 : acc < 1844674407370955162) (h2 : acc * 10 + k ≤ M) : Lib.parseUintM M acc [UInt8.ofNat (48 + k)] = .ok (acc * 10 + k) := by
  unfold Lib.parseUintM
  have e := bk_u8 k hk
  rw [e, if_pos (by omega), if_neg (by omega), if_neg (by omega)]
  unfold Lib.parseUintM
  congr 1
  omega
end Go.Proofs.YtjadckhngalmlaaGreatDoor
/-! Plain: types as trees, their codes, and how a code is taken apart. -/
namespace Go.Proofs.YtjadckhngalmlaaGreatDoor
set_option linter.unusedVariables false
set_option linter.unusedSimpArgs false

mutual
inductive Ty where
  | base (c : UInt8)
  | ptr (t : Ty)
  | arr (n : Nat) (t : Ty)
  | str (s : List UInt8)
  | fn (ps : Tys) (r : Ty)
inductive Tys where
  | nil
  | cons (t : Ty) (ts : Tys)
end
def baseC (c : UInt8) : Bool := c == 118 || c == 99 || c == 115 || c == 105 || c == 117 || c == 106
mutual
/-- A type's code. -/
def Ty.code : Ty → List UInt8
  | .base c => [c]
  | .ptr t => 112 :: t.code
  | .arr n t => 97 :: (Lib.decDigits n ++ 58 :: t.code)
  | .str s => 83 :: (s ++ [59])
  | .fn .nil r => 102 :: 40 :: 41 :: r.code
  | .fn (.cons t ts) r => 102 :: 40 :: (t.code ++ (ts.code ++ 41 :: r.code))
/-- Each with a comma ahead. -/
def Tys.code : Tys → List UInt8
  | .nil => []
  | .cons t ts => 44 :: (t.code ++ ts.code)
end
mutual
def Ty.wf : Ty → Prop
  | .base c => baseC c = true
  | .ptr t => t.wf
  | .arr n t => n ≤ 1099511627776 ∧ t.wf
  | .str s => nameB s = true
  | .fn ps r => ps.wf ∧ r.wf
def Tys.wf : Tys → Prop
  | .nil => True
  | .cons t ts => t.wf ∧ ts.wf
end
mutual
def Ty.size : Ty → Nat
  | .base _ => 1
  | .ptr t => t.size + 1
  | .arr _ t => t.size + 1
  | .str _ => 1
  | .fn ps r => ps.size + r.size + 2
def Tys.size : Tys → Nat
  | .nil => 0
  | .cons t ts => t.size + ts.size + 1
end
/-- What stands ahead of a byte, and behind it. -/
def upTo (e : UInt8) : List UInt8 → Option (List UInt8 × List UInt8)
  | [] => none
  | c :: r => if c = e then some ([], r) else (upTo e r).map fun p => (c :: p.1, p.2)
def cntP (r : List UInt8) : Option (Nat × List UInt8) :=
  match upTo 58 r with
  | none => none
  | some (d, r1) => match Lib.parseUintB 64 d with
    | .ok n => if n ≤ 1099511627776 ∧ Lib.decDigits n = d then some (n, r1) else none
    | _ => none
def tagP (r : List UInt8) : Option (List UInt8 × List UInt8) :=
  match upTo 59 r with
  | none => none
  | some (s, r1) => if nameB s then some (s, r1) else none
mutual
def oneN : Nat → List UInt8 → Option (Ty × List UInt8)
  | 0, _ => none
  | _ + 1, [] => none
  | n + 1, c :: r =>
    if baseC c then some (.base c, r) else
    if c = 112 then match oneN n r with
      | none => none
      | some (t, y) => some (.ptr t, y)
    else if c = 97 then match cntP r with
      | none => none
      | some (k, r1) => match oneN n r1 with
        | none => none
        | some (t, y) => some (.arr k t, y)
    else if c = 83 then match tagP r with
      | none => none
      | some (s, y) => some (.str s, y)
    else if c = 102 ∧ r.head? = some 40 then
      if (r.drop 1).head? = some 41 then match oneN n (r.drop 2) with
        | none => none
        | some (t, y) => some (.fn .nil t, y)
      else match lstN n (r.drop 1) with
        | none => none
        | some (ps, r1) => match oneN n r1 with
          | none => none
          | some (t, y) => some (.fn ps t, y)
    else none
def lstN : Nat → List UInt8 → Option (Tys × List UInt8)
  | 0, _ => none
  | n + 1, r => match oneN n r with
    | none => none
    | some (t, r1) =>
      if r1.head? = some 44 then match lstN n (r1.drop 1) with
        | none => none
        | some (ts, y) => some (.cons t ts, y)
      else if r1.head? = some 41 then some (.cons t .nil, r1.drop 1) else none
end
theorem upTo_eq (e : UInt8) : ∀ (r s y : List UInt8), upTo e r = some (s, y) → r = s ++ e :: y
  | [], s, y, h => by cases h
  | c :: r, s, y, h => by
    unfold upTo at h
    split at h
    · rename_i hc
      cases h
      rw [hc]
      rfl
    · obtain ⟨p, hp, hq⟩ := Option.map_eq_some_iff.1 h
      cases hq
      have := upTo_eq e r p.1 p.2 hp
      rw [this]
      rfl
theorem upTo_app (e : UInt8) : ∀ (s y : List UInt8), e ∉ s → upTo e (s ++ e :: y) = some (s, y)
  | [], y, _ => by
    show upTo e (e :: y) = _
    unfold upTo
    rw [if_pos rfl]
  | c :: s, y, h => by
    have hc : c ≠ e := fun e2 => h (by rw [e2]; exact List.mem_cons_self)
    rw [List.cons_append]
    unfold upTo
    rw [if_neg hc, upTo_app e s y (fun h2 => h (List.mem_cons_of_mem _ h2))]
    rfl
theorem head_drop {r : List UInt8} {c : UInt8} (h : r.head? = some c) : r = c :: r.drop 1 := by
  cases r with
  | nil => cases h
  | cons d r => simp at h; rw [h]; rfl
theorem cnt_eq {r y : List UInt8} {k : Nat} (h : cntP r = some (k, y)) : k ≤ 1099511627776 ∧ r = Lib.decDigits k ++ 58 :: y := by
  unfold cntP at h
  split at h
  · cases h
  · rename_i d r1 hu
    split at h
    · split at h
      · rename_i hk
        cases h
        refine ⟨hk.1, ?_⟩
        rw [hk.2]
        exact upTo_eq _ _ _ _ hu
      · cases h
    · cases h
theorem tag_eq {r s y : List UInt8} (h : tagP r = some (s, y)) : nameB s = true ∧ r = s ++ 59 :: y := by
  unfold tagP at h
  split at h
  · cases h
  · rename_i hu
    split at h
    · rename_i hn
      cases h
      exact ⟨hn, upTo_eq _ _ _ _ hu⟩
    · cases h
mutual
/-- What is taken apart is a code, and what is left behind it. -/
theorem one_sound : ∀ (n : Nat) (r y : List UInt8) (t : Ty), oneN n r = some (t, y) → t.wf ∧ r = t.code ++ y
  | 0, _, _, _, h => by unfold oneN at h; cases h
  | _ + 1, [], _, _, h => by unfold oneN at h; cases h
  | n + 1, c :: r, y, t, h => by
    unfold oneN at h
    split at h
    · rename_i hb
      cases h
      exact ⟨hb, rfl⟩
    · split at h
      · rename_i hc
        split at h
        · cases h
        · rename_i t' y' h1
          cases h
          obtain ⟨a, b⟩ := one_sound n _ _ _ h1
          refine ⟨a, ?_⟩
          rw [hc, b]
          rfl
      · split at h
        · rename_i hc
          split at h
          · cases h
          · rename_i k r1 hk
            split at h
            · cases h
            · rename_i t' y' h1
              cases h
              obtain ⟨a, b⟩ := one_sound n _ _ _ h1
              obtain ⟨c1, c2⟩ := cnt_eq hk
              refine ⟨⟨c1, a⟩, ?_⟩
              rw [hc, c2, b]
              show _ = 97 :: (Lib.decDigits k ++ 58 :: t'.code) ++ y
              simp
        · split at h
          · rename_i hc
            split at h
            · cases h
            · rename_i s y' hk
              cases h
              obtain ⟨c1, c2⟩ := tag_eq hk
              refine ⟨c1, ?_⟩
              rw [hc, c2]
              show _ = 83 :: (s ++ [59]) ++ y
              simp
          · split at h
            · rename_i hc
              have hr := head_drop hc.2
              split at h
              · rename_i hh
                have hr2 := head_drop hh
                rw [List.drop_drop] at hr2
                split at h
                · cases h
                · rename_i t' y' h1
                  cases h
                  obtain ⟨a, b⟩ := one_sound n _ _ _ h1
                  refine ⟨⟨trivial, a⟩, ?_⟩
                  rw [hc.1, hr, hr2, b]
                  rfl
              · split at h
                · cases h
                · rename_i ps r1 hk
                  split at h
                  · cases h
                  · rename_i t' y' h1
                    cases h
                    obtain ⟨a, b⟩ := one_sound n _ _ _ h1
                    obtain ⟨p1, t0, ts, p2, p3⟩ := lst_sound n _ _ _ hk
                    refine ⟨⟨p1, a⟩, ?_⟩
                    rw [hc.1, hr, p3, b, p2]
                    show _ = 102 :: 40 :: (t0.code ++ (ts.code ++ 41 :: t'.code)) ++ y
                    simp
            · cases h
theorem lst_sound : ∀ (n : Nat) (r y : List UInt8) (ps : Tys), lstN n r = some (ps, y) → ps.wf ∧ ∃ t ts, ps = .cons t ts ∧ r = t.code ++ (ts.code ++ 41 :: y)
  | 0, _, _, _, h => by unfold lstN at h; cases h
  | n + 1, r, y, ps, h => by
    unfold lstN at h
    split at h
    · cases h
    · rename_i t r1 h1
      obtain ⟨a, b⟩ := one_sound n _ _ _ h1
      split at h
      · rename_i hh
        have hr := head_drop hh
        split at h
        · cases h
        · rename_i ts y' h2
          cases h
          obtain ⟨p1, t0, ts0, p2, p3⟩ := lst_sound n _ _ _ h2
          refine ⟨⟨a, p1⟩, t, ts, rfl, ?_⟩
          rw [b, hr, p3, p2]
          show _ = t.code ++ (44 :: (t0.code ++ ts0.code) ++ 41 :: y)
          simp
      · split at h
        · rename_i hh
          have hr := head_drop hh
          cases h
          refine ⟨⟨a, trivial⟩, t, .nil, rfl, ?_⟩
          rw [b, hr]
          rfl
        · cases h
end
end Go.Proofs.YtjadckhngalmlaaGreatDoor
/-! Plain: every code of a type is taken apart as that type, whatever stands behind it. -/
namespace Go.Proofs.YtjadckhngalmlaaGreatDoor
set_option linter.unusedVariables false
set_option linter.unusedSimpArgs false

theorem parse_digits64 (M : Nat) (hM : M ≤ 18446744073709551615) : ∀ (n u : Nat), u ≤ n → u ≤ M → u ≤ 18446744073709551609 → Lib.parseUintM M 0 (Lib.decDigits u) = .ok u
  | 0, u, hu, hm, _ => by
    rw [bk_small u (by omega), parse_one M 0 u (by omega) (by omega) (by omega)]
    congr 1
    omega
  | n + 1, u, hu, hm, hx => by
    by_cases h : u < 10
    · rw [bk_small u h, parse_one M 0 u h (by omega) (by omega)]
      congr 1
      omega
    · rw [bk_great u h, parse_app M _ _ 0 (u / 10) (parse_digits64 M hM n (u / 10) (by omega) (by omega) (by omega)), parse_one M _ _ (by omega) (by omega) (by omega)]
      congr 1
      omega
theorem cnt_full (k : Nat) (y : List UInt8) (hk : k ≤ 1099511627776) : cntP (Lib.decDigits k ++ 58 :: y) = some (k, y) := by
  have hd := bk_digits k k (Nat.le_refl _)
  unfold cntP
  rw [upTo_app 58 _ _ (fun h => by have h2 := hd _ h; have : (58 : UInt8).toNat = 58 := rfl; omega)]
  simp only
  unfold Lib.parseUintB
  rw [if_neg (bk_dne k), parse_digits64 _ (by decide) k k (Nat.le_refl _) (by have : (2 : Nat) ^ 64 - 1 = 18446744073709551615 := by decide
                                                                              omega) (by omega)]
  simp only
  rw [if_pos ⟨hk, trivial⟩]
theorem name_all {s : List UInt8} (h : nameB s = true) : s ≠ [] ∧ ltr8 (s[0]?.getD 0) = true ∧ s.all wrd8 = true ∧ s.length ≤ 31 := by
  unfold nameB at h
  simp only [Bool.and_eq_true, decide_eq_true_eq, Bool.not_eq_true'] at h
  obtain ⟨a, b, c⟩ := word_parts h.1.2
  exact ⟨a, b, c, h.1.1⟩
theorem tag_full (s y : List UInt8) (h : nameB s = true) : tagP (s ++ 59 :: y) = some (s, y) := by
  obtain ⟨_, _, ha, _⟩ := name_all h
  unfold tagP
  rw [upTo_app 59 _ _ (fun hm => absurd (List.all_eq_true.1 ha _ hm) (by decide))]
  simp only
  rw [if_pos h]
/-- A code begins with one of these letters. -/
theorem code_head (t : Ty) (h : t.wf) : ∃ c r, t.code = c :: r ∧ c ≠ 41 ∧ c ≠ 44 := by
  match t, h with
  | .base c, h =>
    refine ⟨c, [], rfl, ?_, ?_⟩
    · rintro rfl; exact absurd (show baseC 41 = true from h) (by decide)
    · rintro rfl; exact absurd (show baseC 44 = true from h) (by decide)
  | .ptr t, _ => exact ⟨112, _, rfl, by decide, by decide⟩
  | .arr n t, _ => exact ⟨97, _, rfl, by decide, by decide⟩
  | .str s, _ => exact ⟨83, _, rfl, by decide, by decide⟩
  | .fn .nil r, _ => exact ⟨102, _, rfl, by decide, by decide⟩
  | .fn (.cons t ts) r, _ => exact ⟨102, _, rfl, by decide, by decide⟩
theorem not_base (c : UInt8) (h : c = 112 ∨ c = 97 ∨ c = 83 ∨ c = 102) : baseC c = false := by
  rcases h with rfl | rfl | rfl | rfl <;> rfl
mutual
theorem one_full : ∀ (t : Ty) (n : Nat) (y : List UInt8), t.wf → t.size ≤ n → oneN n (t.code ++ y) = some (t, y)
  | .base c, n, y, h, hn => by
    obtain ⟨m, rfl⟩ : ∃ m, n = m + 1 := ⟨n - 1, by unfold Ty.size at hn; omega⟩
    have hb : baseC c = true := h
    show oneN (m + 1) (c :: y) = _
    unfold oneN
    rw [if_pos hb]
  | .ptr t, n, y, h, hn => by
    unfold Ty.size at hn
    obtain ⟨m, rfl⟩ : ∃ m, n = m + 1 := ⟨n - 1, by omega⟩
    have h1 := one_full t m y h (by omega)
    show oneN (m + 1) (112 :: (t.code ++ y)) = _
    unfold oneN
    rw [not_base _ (.inl rfl), if_neg (by simp), if_pos rfl, h1]
  | .arr k t, n, y, h, hn => by
    unfold Ty.size at hn
    obtain ⟨m, rfl⟩ : ∃ m, n = m + 1 := ⟨n - 1, by omega⟩
    have h1 := one_full t m y h.2 (by omega)
    have e : (Ty.arr k t).code ++ y = 97 :: (Lib.decDigits k ++ 58 :: (t.code ++ y)) := by
      show 97 :: (Lib.decDigits k ++ 58 :: t.code) ++ y = _
      simp
    rw [e]
    unfold oneN
    rw [not_base _ (.inr (.inl rfl)), if_neg (by simp), if_neg (by decide), if_pos rfl, cnt_full k _ h.1]
    simp only
    rw [h1]
  | .str s, n, y, h, hn => by
    unfold Ty.size at hn
    obtain ⟨m, rfl⟩ : ∃ m, n = m + 1 := ⟨n - 1, by omega⟩
    have e : (Ty.str s).code ++ y = 83 :: (s ++ 59 :: y) := by
      show 83 :: (s ++ [59]) ++ y = _
      simp
    rw [e]
    unfold oneN
    rw [not_base _ (.inr (.inr (.inl rfl))), if_neg (by simp), if_neg (by decide), if_neg (by decide), if_pos rfl, tag_full s _ h]
  | .fn .nil r, n, y, h, hn => by
    unfold Ty.size at hn
    obtain ⟨m, rfl⟩ : ∃ m, n = m + 1 := ⟨n - 1, by omega⟩
    have h1 := one_full r m y h.2 (by omega)
    have e : (Ty.fn .nil r).code ++ y = 102 :: 40 :: 41 :: (r.code ++ y) := rfl
    rw [e]
    unfold oneN
    rw [not_base _ (.inr (.inr (.inr rfl))), if_neg (by simp), if_neg (by decide), if_neg (by decide), if_neg (by decide), if_pos ⟨rfl, rfl⟩, if_pos (by rfl)]
    simp only [List.drop_succ_cons, List.drop_zero]
    rw [h1]
  | .fn (.cons t ts) r, n, y, h, hn => by
    unfold Ty.size at hn
    obtain ⟨m, rfl⟩ : ∃ m, n = m + 1 := ⟨n - 1, by omega⟩
    have h1 := one_full r m y h.2 (by omega)
    have h2 := lst_full t ts m (r.code ++ y) h.1 (by omega)
    have e : (Ty.fn (.cons t ts) r).code ++ y = 102 :: 40 :: (t.code ++ (ts.code ++ 41 :: (r.code ++ y))) := by
      show 102 :: 40 :: (t.code ++ (ts.code ++ 41 :: r.code)) ++ y = _
      simp
    obtain ⟨c, s, hc, c41, _⟩ := code_head t h.1.1
    have hh : ¬ (List.drop 1 (40 :: (t.code ++ (ts.code ++ 41 :: (r.code ++ y))))).head? = some 41 := by
      rw [hc]
      intro e2
      exact c41 (by simpa using e2)
    rw [e]
    unfold oneN
    rw [not_base _ (.inr (.inr (.inr rfl))), if_neg (by simp), if_neg (by decide), if_neg (by decide), if_neg (by decide), if_pos ⟨rfl, rfl⟩, if_neg hh]
    simp only [List.drop_succ_cons, List.drop_zero]
    rw [h2]
    simp only
    rw [h1]
theorem lst_full : ∀ (t : Ty) (ts : Tys) (n : Nat) (y : List UInt8), (Tys.cons t ts).wf → (Tys.cons t ts).size ≤ n → lstN n (t.code ++ (ts.code ++ 41 :: y)) = some (.cons t ts, y)
  | t, .nil, n, y, h, hn => by
    unfold Tys.size at hn
    obtain ⟨m, rfl⟩ : ∃ m, n = m + 1 := ⟨n - 1, by omega⟩
    have h1 := one_full t m (41 :: y) h.1 (by omega)
    show lstN (m + 1) (t.code ++ 41 :: y) = _
    unfold lstN
    rw [h1]
    simp only
    rw [if_neg (by simp), if_pos (by rfl)]
    rfl
  | t, .cons u us, n, y, h, hn => by
    unfold Tys.size at hn
    obtain ⟨m, rfl⟩ : ∃ m, n = m + 1 := ⟨n - 1, by omega⟩
    have h1 := one_full t m (44 :: (u.code ++ (us.code ++ 41 :: y))) h.1 (by omega)
    have h2 := lst_full u us m y h.2 (by omega)
    have e : t.code ++ ((Tys.cons u us).code ++ 41 :: y) = t.code ++ 44 :: (u.code ++ (us.code ++ 41 :: y)) := by
      show t.code ++ (44 :: (u.code ++ us.code) ++ 41 :: y) = _
      simp
    rw [e]
    unfold lstN
    rw [h1]
    simp only
    rw [if_pos (by rfl)]
    simp only [List.drop_succ_cons, List.drop_zero]
    rw [h2]
end
end Go.Proofs.YtjadckhngalmlaaGreatDoor
/-! Plain: a text as a type; what the laws on types ask of it. -/
namespace Go.Proofs.YtjadckhngalmlaaGreatDoor
set_option linter.unusedVariables false
set_option linter.unusedSimpArgs false

mutual
theorem size_code : ∀ (t : Ty), t.size ≤ t.code.length
  | .base c => by show 1 ≤ [c].length; simp
  | .ptr t => by
    have := size_code t
    show t.size + 1 ≤ (112 :: t.code).length
    rw [List.length_cons]
    omega
  | .arr n t => by
    have := size_code t
    show t.size + 1 ≤ (97 :: (Lib.decDigits n ++ 58 :: t.code)).length
    rw [List.length_cons, List.length_append, List.length_cons]
    omega
  | .str s => by
    show 1 ≤ (83 :: (s ++ [59])).length
    rw [List.length_cons]
    omega
  | .fn .nil r => by
    have := size_code r
    show 0 + r.size + 2 ≤ (102 :: 40 :: 41 :: r.code).length
    simp only [List.length_cons]
    omega
  | .fn (.cons t ts) r => by
    have h1 := size_code r
    have h2 := size_code t
    have h3 := sizes_code ts
    show t.size + ts.size + 1 + r.size + 2 ≤ (102 :: 40 :: (t.code ++ (ts.code ++ 41 :: r.code))).length
    simp only [List.length_cons, List.length_append]
    omega
theorem sizes_code : ∀ (ts : Tys), ts.size ≤ ts.code.length
  | .nil => by show 0 ≤ _; omega
  | .cons t ts => by
    have h2 := size_code t
    have h3 := sizes_code ts
    show t.size + ts.size + 1 ≤ (44 :: (t.code ++ ts.code)).length
    simp only [List.length_cons, List.length_append]
    omega
end
/-- A text as a type. -/
def tyR (l : List UInt8) : Option Ty :=
  match oneN (l.length + 1) l with
  | some (t, []) => some t
  | _ => none
theorem tyR_some {l : List UInt8} {t : Ty} (h : tyR l = some t) : t.wf ∧ l = t.code := by
  unfold tyR at h
  split at h
  · rename_i t' h1
    cases h
    obtain ⟨a, b⟩ := one_sound _ _ _ _ h1
    exact ⟨a, by rw [b, List.append_nil]⟩
  · cases h
/-- More fuel changes nothing. -/
theorem one_more {n m : Nat} {r : List UInt8} {x : Ty × List UInt8} (h : oneN n r = some x) (hm : r.length ≤ m) : oneN m r = some x := by
  obtain ⟨t, y⟩ := x
  obtain ⟨a, b⟩ := one_sound _ _ _ _ h
  have h1 := size_code t
  rw [b, List.length_append] at hm
  rw [b]
  exact one_full t m y a (by omega)
theorem one_none {n m : Nat} {r : List UInt8} (h : oneN n r = none) (hn : r.length ≤ n) : oneN m r = none := by
  cases hm : oneN m r with
  | none => rfl
  | some x =>
    rw [one_more hm hn] at h
    cases h
def Ty.letter : Ty → UInt8
  | .base c => c
  | .ptr _ => 112
  | .arr _ _ => 97
  | .str _ => 83
  | .fn _ _ => 102
def Ty.count : Ty → Nat
  | .arr n _ => n
  | _ => 0
def Ty.tag : Ty → List UInt8
  | .str s => s
  | _ => []
def Tys.list : Tys → List Ty
  | .nil => []
  | .cons t ts => t :: ts.list
/-- What a type is made of: of a function its answer last. -/
def Ty.parts : Ty → List Ty
  | .ptr t => [t]
  | .arr _ t => [t]
  | .fn ps r => ps.list ++ [r]
  | _ => []
def Tys.of : List Ty → Tys
  | [] => .nil
  | t :: ts => .cons t (Tys.of ts)
end Go.Proofs.YtjadckhngalmlaaGreatDoor
/-! Plain: the reader of types without fuel, step by step. -/
namespace Go.Proofs.YtjadckhngalmlaaGreatDoor
set_option linter.unusedVariables false
set_option linter.unusedSimpArgs false

def rd (r : List UInt8) : Option (Ty × List UInt8) := oneN r.length r
def rdL (r : List UInt8) : Option (Tys × List UInt8) := lstN r.length r
theorem rd_fuel {n : Nat} {r : List UInt8} (h : r.length ≤ n) : oneN n r = rd r := by
  unfold rd
  cases hr : oneN r.length r with
  | none => exact one_none hr (Nat.le_refl _)
  | some x => exact one_more hr h
theorem lst_size {n : Nat} {r y : List UInt8} {ps : Tys} (h : lstN n r = some (ps, y)) : ps.size + y.length ≤ r.length := by
  obtain ⟨_, t, ts, rfl, hr⟩ := lst_sound _ _ _ _ h
  have h2 := size_code t
  have h3 := sizes_code ts
  have := congrArg List.length hr
  simp only [List.length_append, List.length_cons] at this
  show t.size + ts.size + 1 + _ ≤ _
  omega
theorem lst_more {n m : Nat} {r : List UInt8} {x : Tys × List UInt8} (h : lstN n r = some x) (hm : r.length ≤ m) : lstN m r = some x := by
  obtain ⟨ps, y⟩ := x
  have hs := lst_size h
  obtain ⟨hw, t, ts, rfl, hr⟩ := lst_sound _ _ _ _ h
  rw [hr]
  exact lst_full t ts m y hw (by omega)
theorem rdL_fuel {n : Nat} {r : List UInt8} (h : r.length ≤ n) : lstN n r = rdL r := by
  unfold rdL
  cases hr : lstN r.length r with
  | some x => exact lst_more hr h
  | none =>
    cases hm : lstN n r with
    | none => rfl
    | some x =>
      rw [lst_more hm (Nat.le_refl _)] at hr
      cases hr
theorem rd_suf {r y : List UInt8} {t : Ty} (h : rd r = some (t, y)) : r = t.code ++ y := (one_sound _ _ _ _ h).2
theorem rd_base (c : UInt8) (r : List UInt8) (h : baseC c = true) : rd (c :: r) = some (.base c, r) := by
  unfold rd
  rw [List.length_cons]
  unfold oneN
  rw [if_pos h]
theorem rd_ptr (r : List UInt8) : rd (112 :: r) = (rd r).map fun p => (.ptr p.1, p.2) := by
  unfold rd
  rw [List.length_cons]
  conv => lhs; unfold oneN
  rw [not_base _ (.inl rfl), if_neg (by simp), if_pos rfl]
  cases oneN r.length r <;> rfl
theorem cnt_len {r y : List UInt8} {k : Nat} (h : cntP r = some (k, y)) : y.length < r.length := by
  have := congrArg List.length (cnt_eq h).2
  simp only [List.length_append, List.length_cons] at this
  omega
theorem rd_arr (r : List UInt8) : rd (97 :: r) = (cntP r).bind fun p => (rd p.2).map fun q => (.arr p.1 q.1, q.2) := by
  unfold rd
  rw [List.length_cons]
  conv => lhs; unfold oneN
  rw [not_base _ (.inr (.inl rfl)), if_neg (by simp), if_neg (by decide), if_pos rfl]
  cases hc : cntP r with
  | none => rfl
  | some p =>
    obtain ⟨k, r1⟩ := p
    have := cnt_len hc
    simp only [Option.bind_some]
    rw [rd_fuel (show r1.length ≤ r.length by omega)]
    show _ = (rd r1).map _
    cases rd r1 <;> rfl
theorem rd_str (r : List UInt8) : rd (83 :: r) = (tagP r).map fun p => (.str p.1, p.2) := by
  unfold rd
  rw [List.length_cons]
  conv => lhs; unfold oneN
  rw [not_base _ (.inr (.inr (.inl rfl))), if_neg (by simp), if_neg (by decide), if_neg (by decide), if_pos rfl]
  cases tagP r <;> rfl
/-- A function's parameters. -/
def parL (r : List UInt8) : Option (Tys × List UInt8) :=
  if r.head? = some 40 then if (r.drop 1).head? = some 41 then some (.nil, r.drop 2) else rdL (r.drop 1) else none
theorem parL_len {r y : List UInt8} {ps : Tys} (h : parL r = some (ps, y)) : y.length < r.length := by
  unfold parL at h
  split at h
  · rename_i h0
    have e := congrArg List.length (head_drop h0)
    rw [List.length_cons] at e
    split at h
    · cases h
      rw [List.length_drop] at e ⊢
      omega
    · have := lst_size h
      omega
  · cases h
theorem rd_fn (r : List UInt8) : rd (102 :: r) = (parL r).bind fun p => (rd p.2).map fun q => (.fn p.1 q.1, q.2) := by
  unfold rd
  rw [List.length_cons]
  conv => lhs; unfold oneN
  rw [not_base _ (.inr (.inr (.inr rfl))), if_neg (by simp), if_neg (by decide), if_neg (by decide), if_neg (by decide)]
  by_cases h0 : r.head? = some 40
  · rw [if_pos ⟨rfl, h0⟩]
    have e : parL r = if (r.drop 1).head? = some 41 then some (.nil, r.drop 2) else rdL (r.drop 1) := by unfold parL; rw [if_pos h0]
    by_cases h1 : (r.drop 1).head? = some 41
    · rw [if_pos h1]
      rw [if_pos h1] at e
      rw [e]
      simp only [Option.bind_some]
      rw [rd_fuel (show (r.drop 2).length ≤ r.length by rw [List.length_drop]; omega)]
      show _ = (rd (r.drop 2)).map _
      cases rd (r.drop 2) <;> rfl
    · rw [if_neg h1]
      rw [if_neg h1] at e
      rw [rdL_fuel (show (r.drop 1).length ≤ r.length by rw [List.length_drop]; omega), ← e]
      cases hp : parL r with
      | none => rfl
      | some p =>
        obtain ⟨ps, y⟩ := p
        have := parL_len hp
        simp only [Option.bind_some]
        rw [rd_fuel (show y.length ≤ r.length by omega)]
        show _ = (rd y).map _
        cases rd y <;> rfl
  · rw [if_neg (fun h => h0 h.2)]
    have e : parL r = none := by unfold parL; rw [if_neg h0]
    rw [e]
    rfl
theorem rd_none (c : UInt8) (r : List UInt8) (h : baseC c = false) (h1 : c ≠ 112) (h2 : c ≠ 97) (h3 : c ≠ 83) (h4 : c ≠ 102) : rd (c :: r) = none := by
  unfold rd
  rw [List.length_cons]
  unfold oneN
  rw [h, if_neg (by simp), if_neg h1, if_neg h2, if_neg h3, if_neg (fun h => h4 h.1)]
theorem rdL_step (r : List UInt8) : rdL r = (rd r).bind fun p => if p.2.head? = some 44 then (rdL (p.2.drop 1)).map fun q => (.cons p.1 q.1, q.2) else if p.2.head? = some 41 then some (.cons p.1 .nil, p.2.drop 1) else none := by
  rw [← rdL_fuel (show r.length ≤ r.length + 1 by omega)]
  unfold lstN
  rw [rd_fuel (Nat.le_refl _)]
  cases h : rd r with
  | none => rfl
  | some p =>
    obtain ⟨t, r1⟩ := p
    have e := congrArg List.length (rd_suf h)
    rw [List.length_append] at e
    simp only [Option.bind_some]
    by_cases h0 : r1.head? = some 44
    · rw [if_pos h0, if_pos h0, rdL_fuel (show (r1.drop 1).length ≤ r.length by rw [List.length_drop]; omega)]
      cases rdL (r1.drop 1) <;> rfl
    · rw [if_neg h0, if_neg h0]
/-- A text as a type, by the reader. -/
theorem tyR_rd (l : List UInt8) : tyR l = match rd l with
    | some (t, []) => some t
    | _ => none := by
  unfold tyR
  rw [rd_fuel (show l.length ≤ l.length + 1 by omega)]
  all_goals (rcases rd l with _ | ⟨t, _ | ⟨c, y⟩⟩ <;> rfl)
end Go.Proofs.YtjadckhngalmlaaGreatDoor
/-! Plain: a text cut at a byte. -/
namespace Go.Proofs.YtjadckhngalmlaaGreatDoor
set_option linter.unusedVariables false
set_option linter.unusedSimpArgs false

theorem idx_one (e : UInt8) : ∀ (r : List UInt8), (upTo e r = none ∧ Lib.index r [e] = -1) ∨ ∃ s y, upTo e r = some (s, y) ∧ Lib.index r [e] = s.length
  | [] => .inl ⟨rfl, rfl⟩
  | c :: r => by
    by_cases hc : c = e
    · right
      refine ⟨[], r, by unfold upTo; rw [if_pos hc], ?_⟩
      unfold Lib.index
      rw [if_pos (by subst hc; simp [List.isPrefixOf])]
      rfl
    · have hp : ([e] : List UInt8).isPrefixOf (c :: r) = false := by
        simp [List.isPrefixOf]
        exact fun h => hc h.symm
      rcases idx_one e r with ⟨h1, h2⟩ | ⟨s, y, h1, h2⟩
      · left
        refine ⟨by unfold upTo; rw [if_neg hc, h1]; rfl, ?_⟩
        unfold Lib.index
        rw [hp, if_neg (by simp), h2]
        rfl
      · right
        refine ⟨c :: s, y, by unfold upTo; rw [if_neg hc, h1]; rfl, ?_⟩
        unfold Lib.index
        rw [hp, if_neg (by simp), h2, if_neg (by simp)]
        simp
theorem cut_none {e : UInt8} {r : List UInt8} (h : upTo e r = none) : Lib.cut r [e] = (r, [], false) := by
  rcases idx_one e r with ⟨_, h2⟩ | ⟨s, y, h1, _⟩
  · unfold Lib.cut
    rw [h2, if_neg (by decide)]
  · rw [h] at h1; cases h1
theorem cut_some {e : UInt8} {r s y : List UInt8} (h : upTo e r = some (s, y)) : Lib.cut r [e] = (s, y, true) := by
  rcases idx_one e r with ⟨h1, _⟩ | ⟨s', y', h1, h2⟩
  · rw [h] at h1; cases h1
  · rw [h] at h1
    cases h1
    have hr := upTo_eq _ _ _ _ h
    unfold Lib.cut
    rw [h2, if_pos (by omega), Int.toNat_natCast]
    rw [hr]
    simp
theorem upTo_len {e : UInt8} {r s y : List UInt8} (h : upTo e r = some (s, y)) : s.length + 1 + y.length = r.length := by
  have := congrArg List.length (upTo_eq _ _ _ _ h)
  simp only [List.length_append, List.length_cons] at this
  omega
end Go.Proofs.YtjadckhngalmlaaGreatDoor
/-! Plain: what stands around a name in a declaration tells what it was put together of. -/
namespace Go.Proofs.YtjadckhngalmlaaGreatDoor
set_option linter.unusedVariables false
set_option linter.unusedSimpArgs false

/-- The bracket that opens what ends here, in a text that is read from behind: what stands ahead of it. -/
def mt : Nat → List UInt8 → List UInt8
  | _, [] => []
  | d, c :: r => if c = 41 then mt (d + 1) r else if c = 40 then (if d = 0 then r else mt (d - 1) r) else mt d r
def Bal (Q : List UInt8) : Prop := ∀ (d : Nat) (r : List UInt8), mt d (Q.reverse ++ r) = mt d r
theorem Bal.nil : Bal [] := fun _ _ => rfl
theorem Bal.app {P Q : List UInt8} (h : Bal P) (h2 : Bal Q) : Bal (P ++ Q) := fun d r => by
  rw [List.reverse_append, List.append_assoc, h2, h]
theorem Bal.one {c : UInt8} (h1 : c ≠ 41) (h2 : c ≠ 40) : Bal [c] := fun d r => by
  show mt d (c :: r) = _
  conv => lhs; unfold mt
  rw [if_neg h1, if_neg h2]
theorem Bal.flat : ∀ (l : List UInt8), (∀ c ∈ l, c ≠ 41 ∧ c ≠ 40) → Bal l
  | [], _ => Bal.nil
  | c :: l, h => (Bal.one (h c List.mem_cons_self).1 (h c List.mem_cons_self).2).app (Bal.flat l (fun x hx => h x (List.mem_cons_of_mem _ hx)))
theorem mt_open (Q r : List UInt8) (h : Bal Q) : mt 0 (Q.reverse ++ 40 :: r) = r := by
  rw [h]
  unfold mt
  rw [if_neg (by decide), if_pos rfl, if_pos rfl]
theorem Bal.br {Q : List UInt8} (h : Bal Q) : Bal (40 :: (Q ++ [41])) := fun d r => by
  have e : (40 :: (Q ++ [41])).reverse ++ r = 41 :: (Q.reverse ++ 40 :: r) := by simp
  rw [e]
  conv => lhs; unfold mt
  rw [if_pos rfl, h]
  conv => lhs; unfold mt
  rw [if_neg (by decide), if_pos rfl, if_neg (by omega)]
  rfl
inductive Op where
  | p
  | b
  | a (n : Nat)
  | f (Q : List UInt8)
def app : Op → List UInt8 → List UInt8
  | .p, x => 42 :: x
  | .b, x => 40 :: (42 :: x ++ [41])
  | .a n, x => x ++ 91 :: (Lib.decDigits n ++ [93])
  | .f Q, x => x ++ 40 :: (Q ++ [41])
/-- The last one first. -/
def E : List Op → List UInt8 → List UInt8
  | [], x => x
  | o :: l, x => app o (E l x)
def VL : List Op → Prop
  | [] => True
  | .p :: l => VL l ∧ l.head? ≠ some .b
  | .b :: l => VL l ∧ l.head? ≠ some .b
  | .a n :: l => VL l ∧ (l = [] ∨ l.head? = some .b ∨ ∃ m, l.head? = some (.a m))
  | .f Q :: l => VL l ∧ Bal Q ∧ Q ≠ [] ∧ Q.head? ≠ some 42 ∧ (l = [] ∨ l.head? = some .b)
theorem wrd_not {c : UInt8} (h : wrd8 c = true) : c ≠ 40 ∧ c ≠ 41 ∧ c ≠ 42 ∧ c ≠ 91 ∧ c ≠ 93 ∧ c ≠ 32 ∧ c ≠ 44 := by
  refine ⟨?_, ?_, ?_, ?_, ?_, ?_, ?_⟩ <;> (rintro rfl; revert h; decide)
theorem dec_not (n : Nat) {c : UInt8} (h : c ∈ Lib.decDigits n) : c ≠ 40 ∧ c ≠ 41 ∧ c ≠ 42 ∧ c ≠ 91 ∧ c ≠ 93 ∧ c ≠ 32 ∧ c ≠ 44 := by
  have hb := bk_digits n n (Nat.le_refl _) c h
  refine ⟨?_, ?_, ?_, ?_, ?_, ?_, ?_⟩ <;> (rintro rfl; revert hb; decide)
theorem bal_E (x : List UInt8) (hx : x.all wrd8 = true) : ∀ (l : List Op), VL l → Bal (E l x)
  | [], _ => Bal.flat x (fun c hc => by have := wrd_not (List.all_eq_true.1 hx c hc); exact ⟨this.2.1, this.1⟩)
  | .p :: l, h => (Bal.one (by decide) (by decide) : Bal [42]).app (bal_E x hx l h.1)
  | .b :: l, h => Bal.br ((Bal.one (by decide) (by decide) : Bal [42]).app (bal_E x hx l h.1))
  | .a n :: l, h => (bal_E x hx l h.1).app (Bal.flat _ (fun c hc => by
      rcases List.mem_cons.1 hc with rfl | hc
      · exact ⟨by decide, by decide⟩
      · rcases List.mem_append.1 hc with hc | hc
        · have := dec_not n hc; exact ⟨this.2.1, this.1⟩
        · rw [List.mem_singleton] at hc; rw [hc]; exact ⟨by decide, by decide⟩))
  | .f Q :: l, h => (bal_E x hx l h.1).app (Bal.br h.2.1)
theorem head_app {P Q : List UInt8} : (P ++ Q).head? = if P = [] then Q.head? else P.head? := by
  cases P with
  | nil => rfl
  | cons c P => simp
theorem x_star {x : List UInt8} (hx : x.all wrd8 = true) : x.head? ≠ some 42 := by
  cases x with
  | nil => simp
  | cons c x =>
    intro h
    have hc : c = 42 := by simpa using h
    rw [List.all_cons, Bool.and_eq_true] at hx
    exact (wrd_not hx.1).2.2.1 hc
/-- Only a pointer begins with a star. -/
theorem no_star (x : List UInt8) (hx : x.all wrd8 = true) : ∀ (l : List Op), VL l → l.head? ≠ some .p → (E l x).head? ≠ some 42
  | [], _, _ => x_star hx
  | .p :: l, _, h => absurd rfl h
  | .b :: l, _, _ => by show some 40 ≠ some 42; decide
  | .a n :: l, h, _ => by
    have ih : (E l x).head? ≠ some 42 := no_star x hx l h.1 (by
      rcases h.2 with rfl | h2 | ⟨m, h2⟩
      · simp
      · rw [h2]; simp
      · rw [h2]; simp)
    show (E l x ++ 91 :: _).head? ≠ _
    rw [head_app]
    split
    · simp
    · exact ih
  | .f Q :: l, h, _ => by
    have ih : (E l x).head? ≠ some 42 := no_star x hx l h.1 (by
      rcases h.2.2.2.2 with rfl | h2
      · simp
      · rw [h2]; simp)
    show (E l x ++ 40 :: _).head? ≠ _
    rw [head_app]
    split
    · simp
    · exact ih
theorem last_split {A B P Q : List UInt8} {c : UInt8} (h : A ++ c :: P = B ++ c :: Q) (hp : c ∉ P) (hq : c ∉ Q) : A = B ∧ P = Q := by
  have hlen := congrArg List.length h
  simp only [List.length_append, List.length_cons] at hlen
  rcases List.append_eq_append_iff.1 h with ⟨a', h1, h2⟩ | ⟨c', h1, h2⟩
  · cases a' with
    | nil => simp at h1 h2; exact ⟨h1.symm, h2⟩
    | cons d a' =>
      simp at h2
      exact absurd (show c ∈ P by rw [h2.2]; simp) hp
  · cases c' with
    | nil => simp at h1 h2; exact ⟨h1, h2.symm⟩
    | cons d c' =>
      simp at h2
      exact absurd (show c ∈ Q by rw [h2.2]; simp) hq
def valF (acc : Nat) : List UInt8 → Nat
  | [] => acc
  | c :: r => valF (acc * 10 + (c.toNat - 48)) r
theorem valF_app : ∀ (l m : List UInt8) (acc : Nat), valF acc (l ++ m) = valF (valF acc l) m
  | [], _, _ => rfl
  | c :: l, m, acc => valF_app l m _
theorem valF_dec : ∀ (n u : Nat), u ≤ n → valF 0 (Lib.decDigits u) = u
  | 0, u, h => by
    rw [bk_small u (by omega)]
    show 0 * 10 + ((UInt8.ofNat (48 + u)).toNat - 48) = u
    rw [bk_u8 u (by omega)]
    omega
  | n + 1, u, h => by
    by_cases h10 : u < 10
    · rw [bk_small u h10]
      show 0 * 10 + ((UInt8.ofNat (48 + u)).toNat - 48) = u
      rw [bk_u8 u h10]
      omega
    · rw [bk_great u h10, valF_app, valF_dec n (u / 10) (by omega)]
      show u / 10 * 10 + ((UInt8.ofNat (48 + u % 10)).toNat - 48) = u
      rw [bk_u8 _ (by omega)]
      omega
theorem dec_inj {n m : Nat} (h : Lib.decDigits n = Lib.decDigits m) : n = m := by
  have h1 := valF_dec n n (Nat.le_refl _)
  rw [h, valF_dec m m (Nat.le_refl _)] at h1
  exact h1.symm
end Go.Proofs.YtjadckhngalmlaaGreatDoor
/-! Plain: what stands around a name is put together in one way alone. -/
namespace Go.Proofs.YtjadckhngalmlaaGreatDoor
set_option linter.unusedVariables false
set_option linter.unusedSimpArgs false

theorem x_no {x : List UInt8} (hx : x.all wrd8 = true) {c : UInt8} (hc : wrd8 c = false) : c ∉ x := fun h => by
  have := List.all_eq_true.1 hx c h
  rw [hc] at this
  cases this
theorem app_last (P : List UInt8) (c : UInt8) : (P ++ [c]).getLast? = some c := by simp
theorem a_last (n : Nat) (y : List UInt8) : (app (.a n) y).getLast? = some 93 := by
  have e : app (.a n) y = (y ++ 91 :: Lib.decDigits n) ++ [93] := by
    show y ++ 91 :: (Lib.decDigits n ++ [93]) = _
    simp
  rw [e, app_last]
theorem b_last (y : List UInt8) : (app .b y).getLast? = some 41 := by
  have e : app .b y = (40 :: 42 :: y) ++ [41] := rfl
  rw [e, app_last]
theorem f_last (Q y : List UInt8) : (app (.f Q) y).getLast? = some 41 := by
  have e : app (.f Q) y = (y ++ 40 :: Q) ++ [41] := by
    show y ++ 40 :: (Q ++ [41]) = _
    simp
  rw [e, app_last]
theorem f_mt (Q y : List UInt8) (h : Bal Q) : mt 0 (((app (.f Q) y).reverse).drop 1) = y.reverse := by
  have e : (app (.f Q) y).reverse = 41 :: (Q.reverse ++ 40 :: y.reverse) := by
    show (y ++ 40 :: (Q ++ [41])).reverse = _
    simp
  rw [e]
  exact mt_open Q y.reverse h
theorem b_mt (y : List UInt8) (h : Bal y) : mt 0 (((app .b y).reverse).drop 1) = [] := by
  have e : (app .b y).reverse = 41 :: ((42 :: y).reverse ++ 40 :: []) := by
    show (40 :: (42 :: y ++ [41])).reverse = _
    simp
  rw [e]
  exact mt_open (42 :: y) [] ((Bal.one (by decide) (by decide) : Bal [42]).app h)
theorem E_ne (x : List UInt8) {o : Op} {l : List Op} : E (o :: l) x ≠ [] := by
  cases o <;> simp [E, app]
/-- A function's text ahead of its brackets: a name, or none, or brackets. -/
theorem f_b (x : List UInt8) (hx : x.all wrd8 = true) {Q : List UInt8} {l l' : List Op} (h : VL (.f Q :: l)) (h' : VL (.b :: l')) : E (.f Q :: l) x ≠ E (.b :: l') x := fun he => by
  have h1 := f_mt Q (E l x) h.2.1
  have h2 := b_mt (E l' x) (bal_E x hx l' h'.1)
  have he' : app (.f Q) (E l x) = app .b (E l' x) := he
  rw [he', h2] at h1
  have hnil : E l x = [] := by
    have := congrArg List.reverse h1
    simpa using this.symm
  have h3 : l = [] := by
    cases l with
    | nil => rfl
    | cons o l => exact absurd hnil (E_ne x)
  rw [hnil] at he'
  have h4 : (40 : UInt8) :: (Q ++ [41]) = 40 :: (42 :: E l' x ++ [41]) := he'
  have h5 := (List.cons.inj h4).2
  have hq := h.2.2.2.1
  cases Q with
  | nil => exact h.2.2.1 rfl
  | cons c Q =>
    have h6 : c = 42 := (List.cons.inj h5).1
    exact hq (by rw [h6]; rfl)
theorem nil_cons (x : List UInt8) (hx : x.all wrd8 = true) {o : Op} {l : List Op} : x ≠ E (o :: l) x := fun he => by
  cases o with
  | p => exact x_no hx (c := 42) (by decide) (by rw [he]; show 42 ∈ 42 :: _; simp)
  | b => exact x_no hx (c := 40) (by decide) (by rw [he]; show 40 ∈ 40 :: _; simp)
  | a n => exact x_no hx (c := 91) (by decide) (by rw [he]; show 91 ∈ _ ++ 91 :: _; simp)
  | f Q => exact x_no hx (c := 40) (by decide) (by rw [he]; show 40 ∈ _ ++ 40 :: _; simp)
/-- One way alone. -/
theorem dec_E (x : List UInt8) (hx : x.all wrd8 = true) : ∀ (l l' : List Op), VL l → VL l' → E l x = E l' x → l = l'
  | [], [], _, _, _ => rfl
  | [], o :: l', _, _, he => absurd he (nil_cons x hx)
  | o :: l, [], _, _, he => absurd he.symm (nil_cons x hx)
  | .p :: l, .p :: l', h, h', he => by
    rw [dec_E x hx l l' h.1 h'.1 (List.cons.inj (show (42 : UInt8) :: E l x = 42 :: E l' x from he)).2]
  | .p :: l, .b :: l', h, h', he => absurd (show (E (.b :: l') x).head? = some 42 by rw [← he]; rfl) (no_star x hx _ h' (by simp))
  | .p :: l, .a n :: l', h, h', he => absurd (show (E (.a n :: l') x).head? = some 42 by rw [← he]; rfl) (no_star x hx _ h' (by simp))
  | .p :: l, .f Q :: l', h, h', he => absurd (show (E (.f Q :: l') x).head? = some 42 by rw [← he]; rfl) (no_star x hx _ h' (by simp))
  | .b :: l, .p :: l', h, h', he => absurd (show (E (.b :: l) x).head? = some 42 by rw [he]; rfl) (no_star x hx _ h (by simp))
  | .a n :: l, .p :: l', h, h', he => absurd (show (E (.a n :: l) x).head? = some 42 by rw [he]; rfl) (no_star x hx _ h (by simp))
  | .f Q :: l, .p :: l', h, h', he => absurd (show (E (.f Q :: l) x).head? = some 42 by rw [he]; rfl) (no_star x hx _ h (by simp))
  | .b :: l, .b :: l', h, h', he => by
    have h1 := (List.cons.inj (show (40 : UInt8) :: (42 :: E l x ++ [41]) = 40 :: (42 :: E l' x ++ [41]) from he)).2
    have h2 := (List.cons.inj (List.append_cancel_right h1)).2
    rw [dec_E x hx l l' h.1 h'.1 h2]
  | .b :: l, .a n :: l', h, h', he => by
    have h1 := b_last (E l x)
    have h2 := a_last n (E l' x)
    have he' : app .b (E l x) = app (.a n) (E l' x) := he
    rw [he', h2] at h1
    exact absurd h1 (by decide)
  | .a n :: l, .b :: l', h, h', he => by
    have h1 := b_last (E l' x)
    have h2 := a_last n (E l x)
    have he' : app (.a n) (E l x) = app .b (E l' x) := he
    rw [← he', h2] at h1
    exact absurd h1 (by decide)
  | .b :: l, .f Q :: l', h, h', he => absurd he.symm (f_b x hx h' h)
  | .f Q :: l, .b :: l', h, h', he => absurd he (f_b x hx h h')
  | .a n :: l, .a m :: l', h, h', he => by
    have he' : E l x ++ 91 :: (Lib.decDigits n ++ [93]) = E l' x ++ 91 :: (Lib.decDigits m ++ [93]) := he
    have hno : ∀ k, (91 : UInt8) ∉ Lib.decDigits k ++ [93] := fun k hk => by
      rcases List.mem_append.1 hk with h1 | h1
      · exact (dec_not k h1).2.2.2.1 rfl
      · rw [List.mem_singleton] at h1; exact absurd h1 (by decide)
    obtain ⟨h1, h2⟩ := last_split he' (hno n) (hno m)
    rw [dec_E x hx l l' h.1 h'.1 h1, dec_inj (List.append_cancel_right h2)]
  | .a n :: l, .f Q :: l', h, h', he => by
    have h1 := f_last Q (E l' x)
    have h2 := a_last n (E l x)
    have he' : app (.a n) (E l x) = app (.f Q) (E l' x) := he
    rw [← he', h2] at h1
    exact absurd h1 (by decide)
  | .f Q :: l, .a n :: l', h, h', he => by
    have h1 := f_last Q (E l x)
    have h2 := a_last n (E l' x)
    have he' : app (.f Q) (E l x) = app (.a n) (E l' x) := he
    rw [he', h2] at h1
    exact absurd h1 (by decide)
  | .f Q :: l, .f R :: l', h, h', he => by
    have he' : app (.f Q) (E l x) = app (.f R) (E l' x) := he
    have h1 := f_mt Q (E l x) h.2.1
    have h2 := f_mt R (E l' x) h'.2.1
    rw [he', h2] at h1
    have h3 : E l x = E l' x := by
      have := congrArg List.reverse h1
      simpa using this.symm
    have h4 : E l x ++ 40 :: (Q ++ [41]) = E l' x ++ 40 :: (R ++ [41]) := he'
    rw [h3] at h4
    have h5 := (List.cons.inj (List.append_cancel_left h4)).2
    rw [dec_E x hx l l' h.1 h'.1 h3, List.append_cancel_right h5]
end Go.Proofs.YtjadckhngalmlaaGreatDoor
/-! Plain: right types that are not the same are not declared the same. -/
namespace Go.Proofs.YtjadckhngalmlaaGreatDoor
set_option linter.unusedVariables false
set_option linter.unusedSimpArgs false

def wordC (c : UInt8) : List UInt8 :=
  if c = 118 then [118, 111, 105, 100] else if c = 99 then [99, 104, 97, 114] else if c = 115 then [115, 104, 111, 114, 116] else if c = 105 then [105, 110, 116]
  else if c = 117 then [117, 110, 115, 105, 103, 110, 101, 100] else [106, 109, 112, 95, 98, 117, 102]
def tailD (x : List UInt8) : List UInt8 := if x = [] then [] else 32 :: x
def Ty.tight : Ty → Bool
  | .arr _ _ => true
  | .fn _ _ => true
  | _ => false
def Ty.scal : Ty → Bool
  | .base c => c == 99 || c == 115 || c == 105 || c == 117
  | .ptr _ => true
  | _ => false
def Ty.isFn : Ty → Bool
  | .fn _ _ => true
  | _ => false
mutual
/-- The declaration of what stands in x as a type. -/
def dcl : Ty → List UInt8 → List UInt8
  | .base c, x => wordC c ++ tailD x
  | .str s, x => [115, 116, 114, 117, 99, 116, 32] ++ (s ++ tailD x)
  | .ptr t, x => dcl t (app (if t.tight then .b else .p) x)
  | .arr n t, x => dcl t (app (.a n) x)
  | .fn .nil r, x => dcl r (app (.f [118, 111, 105, 100]) x)
  | .fn (.cons t ts) r, x => dcl r (app (.f (dcl t [] ++ parsT ts)) x)
def parsT : Tys → List UInt8
  | .nil => []
  | .cons t ts => 44 :: 32 :: (dcl t [] ++ parsT ts)
end
def pars : Tys → List UInt8
  | .nil => [118, 111, 105, 100]
  | .cons t ts => dcl t [] ++ parsT ts
theorem dcl_fn (ps : Tys) (r : Ty) (x : List UInt8) : dcl (.fn ps r) x = dcl r (app (.f (pars ps)) x) := by
  cases ps <;> rfl
mutual
def Ty.rt : Ty → Prop
  | .base c => baseC c = true
  | .str s => nameB s = true
  | .ptr t => t.rt
  | .arr _ t => t.rt ∧ t.isFn = false
  | .fn ps r => ps.rt ∧ r.rt ∧ r.tight = false
def Tys.rt : Tys → Prop
  | .nil => True
  | .cons t ts => (t.rt ∧ t.scal = true) ∧ ts.rt
end
/-- What stands ahead of the first comma that is in no brackets. -/
def sp : Nat → List UInt8 → List UInt8
  | _, [] => []
  | d, c :: r => if c = 44 ∧ d = 0 then [] else c :: sp (if c = 40 then d + 1 else if c = 41 then d - 1 else d) r
def NC (P : List UInt8) : Prop := ∀ (d : Nat) (r : List UInt8), sp d (P ++ r) = P ++ sp d r
def NC1 (P : List UInt8) : Prop := ∀ (d : Nat) (r : List UInt8), sp (d + 1) (P ++ r) = P ++ sp (d + 1) r
theorem NC.nil : NC [] := fun _ _ => rfl
theorem NC.app {P Q : List UInt8} (h : NC P) (h2 : NC Q) : NC (P ++ Q) := fun d r => by rw [List.append_assoc, h, h2, List.append_assoc]
theorem NC1.app {P Q : List UInt8} (h : NC1 P) (h2 : NC1 Q) : NC1 (P ++ Q) := fun d r => by rw [List.append_assoc, h, h2, List.append_assoc]
theorem NC.one {c : UInt8} (h1 : c ≠ 44) (h2 : c ≠ 40) (h3 : c ≠ 41) : NC [c] := fun d r => by
  show sp d (c :: r) = _
  conv => lhs; unfold sp
  rw [if_neg (fun h => h1 h.1), if_neg h2, if_neg h3]
  rfl
theorem NC.flat : ∀ (l : List UInt8), (∀ c ∈ l, c ≠ 44 ∧ c ≠ 40 ∧ c ≠ 41) → NC l
  | [], _ => NC.nil
  | c :: l, h => (NC.one (h c List.mem_cons_self).1 (h c List.mem_cons_self).2.1 (h c List.mem_cons_self).2.2).app (NC.flat l (fun x hx => h x (List.mem_cons_of_mem _ hx)))
theorem NC.to1 {P : List UInt8} (h : NC P) : NC1 P := fun d r => h (d + 1) r
theorem NC1.comma : NC1 [44] := fun d r => by
  show sp (d + 1) (44 :: r) = _
  conv => lhs; unfold sp
  rw [if_neg (by omega), if_neg (by decide), if_neg (by decide)]
  rfl
theorem NC1.br {Q : List UInt8} (h : NC1 Q) : NC (40 :: (Q ++ [41])) := fun d r => by
  have e : (40 :: (Q ++ [41])) ++ r = 40 :: (Q ++ 41 :: r) := by simp
  rw [e]
  conv => lhs; unfold sp
  rw [if_neg (fun h => absurd h.1 (by decide)), if_pos rfl, h]
  conv => lhs; unfold sp
  rw [if_neg (by omega), if_neg (by decide), if_pos rfl]
  simp
theorem op_NC {x : List UInt8} (h : NC x) : ∀ (o : Op), (∀ Q, o = .f Q → NC1 Q) → NC (app o x)
  | .p, _ => (NC.one (by decide) (by decide) (by decide) : NC [42]).app h
  | .b, _ => NC1.br ((NC.one (by decide) (by decide) (by decide) : NC [42]).app h).to1
  | .a n, _ => h.app (NC.flat _ (fun c hc => by
      rcases List.mem_cons.1 hc with rfl | hc
      · exact ⟨by decide, by decide, by decide⟩
      · rcases List.mem_append.1 hc with hc | hc
        · have := dec_not n hc; exact ⟨this.2.2.2.2.2.2, this.1, this.2.1⟩
        · rw [List.mem_singleton] at hc; rw [hc]; exact ⟨by decide, by decide, by decide⟩))
  | .f Q, hq => h.app (NC1.br (hq Q rfl))
theorem op_Bal {x : List UInt8} (h : Bal x) : ∀ (o : Op), (∀ Q, o = .f Q → Bal Q) → Bal (app o x)
  | .p, _ => (Bal.one (by decide) (by decide) : Bal [42]).app h
  | .b, _ => Bal.br ((Bal.one (by decide) (by decide) : Bal [42]).app h)
  | .a n, _ => h.app (Bal.flat _ (fun c hc => by
      rcases List.mem_cons.1 hc with rfl | hc
      · exact ⟨by decide, by decide⟩
      · rcases List.mem_append.1 hc with hc | hc
        · have := dec_not n hc; exact ⟨this.2.1, this.1⟩
        · rw [List.mem_singleton] at hc; rw [hc]; exact ⟨by decide, by decide⟩))
  | .f Q, hq => h.app (Bal.br (hq Q rfl))
theorem word_flat (c : UInt8) : ∀ d ∈ wordC c, d ≠ 44 ∧ d ≠ 40 ∧ d ≠ 41 ∧ d ≠ 32 ∧ d ≠ 42 := by
  unfold wordC
  (repeat' split) <;> decide
theorem name_flat {s : List UInt8} (h : nameB s = true) : ∀ d ∈ s, d ≠ 44 ∧ d ≠ 40 ∧ d ≠ 41 ∧ d ≠ 32 ∧ d ≠ 42 := fun d hd => by
  have := wrd_not (List.all_eq_true.1 (name_all h).2.2.1 d hd)
  exact ⟨this.2.2.2.2.2.2, this.1, this.2.1, this.2.2.2.2.2.1, this.2.2.1⟩
theorem tail_NC {x : List UInt8} (h : NC x) : NC (tailD x) := by
  unfold tailD
  split
  · exact NC.nil
  · exact (NC.one (by decide) (by decide) (by decide) : NC [32]).app h
theorem tail_Bal {x : List UInt8} (h : Bal x) : Bal (tailD x) := by
  unfold tailD
  split
  · exact Bal.nil
  · exact (Bal.one (by decide) (by decide) : Bal [32]).app h
mutual
theorem dcl_ok : ∀ (t : Ty) (x : List UInt8), t.rt → NC x → Bal x → NC (dcl t x) ∧ Bal (dcl t x)
  | .base c, x, h, hn, hb => by
    have hw := word_flat c
    show NC (wordC c ++ tailD x) ∧ Bal (wordC c ++ tailD x)
    exact ⟨(NC.flat _ (fun d hd => ⟨(hw d hd).1, (hw d hd).2.1, (hw d hd).2.2.1⟩)).app (tail_NC hn), (Bal.flat _ (fun d hd => ⟨(hw d hd).2.2.1, (hw d hd).2.1⟩)).app (tail_Bal hb)⟩
  | .str s, x, h, hn, hb => by
    have hw := name_flat (show nameB s = true from h)
    show NC ([115, 116, 114, 117, 99, 116, 32] ++ (s ++ tailD x)) ∧ Bal ([115, 116, 114, 117, 99, 116, 32] ++ (s ++ tailD x))
    exact ⟨(NC.flat _ (by decide)).app ((NC.flat _ (fun d hd => ⟨(hw d hd).1, (hw d hd).2.1, (hw d hd).2.2.1⟩)).app (tail_NC hn)), (Bal.flat _ (by decide)).app ((Bal.flat _ (fun d hd => ⟨(hw d hd).2.2.1, (hw d hd).2.1⟩)).app (tail_Bal hb))⟩
  | .ptr t, x, h, hn, hb => by
    have ho : ∀ Q, (if t.tight then Op.b else Op.p) = .f Q → False := fun Q e => by split at e <;> cases e
    exact dcl_ok t _ h (op_NC hn _ (fun Q e => (ho Q e).elim)) (op_Bal hb _ (fun Q e => (ho Q e).elim))
  | .arr n t, x, h, hn, hb => dcl_ok t _ h.1 (op_NC hn _ (fun Q e => by cases e)) (op_Bal hb _ (fun Q e => by cases e))
  | .fn .nil r, x, h, hn, hb => dcl_ok r _ h.2.1 (op_NC hn (.f [118, 111, 105, 100]) (fun Q e => by cases e; exact (NC.flat _ (by decide)).to1)) (op_Bal hb (.f [118, 111, 105, 100]) (fun Q e => by cases e; exact Bal.flat _ (by decide)))
  | .fn (.cons t ts) r, x, h, hn, hb => by
    obtain ⟨a1, a2⟩ := dcl_ok t [] h.1.1.1 NC.nil Bal.nil
    obtain ⟨b1, b2⟩ := parsT_ok ts h.1.2
    exact dcl_ok r _ h.2.1 (op_NC hn (.f (dcl t [] ++ parsT ts)) (fun Q e => by cases e; exact a1.to1.app b1)) (op_Bal hb (.f (dcl t [] ++ parsT ts)) (fun Q e => by cases e; exact a2.app b2))
theorem parsT_ok : ∀ (ts : Tys), ts.rt → NC1 (parsT ts) ∧ Bal (parsT ts)
  | .nil, _ => ⟨NC.nil.to1, Bal.nil⟩
  | .cons t ts, h => by
    obtain ⟨a1, a2⟩ := dcl_ok t [] h.1.1 NC.nil Bal.nil
    obtain ⟨b1, b2⟩ := parsT_ok ts h.2
    show NC1 ([44] ++ ([32] ++ (dcl t [] ++ parsT ts))) ∧ Bal ([44] ++ ([32] ++ (dcl t [] ++ parsT ts)))
    exact ⟨NC1.comma.app ((NC.one (by decide) (by decide) (by decide)).to1.app (a1.to1.app b1)), (Bal.one (by decide) (by decide)).app ((Bal.one (by decide) (by decide)).app (a2.app b2))⟩
end
end Go.Proofs.YtjadckhngalmlaaGreatDoor
/-! Plain: right types that are not the same are not declared the same: the end. -/
namespace Go.Proofs.YtjadckhngalmlaaGreatDoor
set_option linter.unusedVariables false
set_option linter.unusedSimpArgs false

def Ty.O : Ty → List Op
  | .ptr t => (if t.tight then .b else .p) :: t.O
  | .arr n t => .a n :: t.O
  | .fn ps r => .f (pars ps) :: r.O
  | .base _ => []
  | .str _ => []
def Ty.core : Ty → Ty
  | .ptr t => t.core
  | .arr _ t => t.core
  | .fn _ r => r.core
  | .base c => .base c
  | .str s => .str s
def DD : List Op → List UInt8 → List UInt8
  | [], x => x
  | o :: l, x => DD l (app o x)
def bwT : Ty → List UInt8
  | .base c => wordC c
  | .str s => [115, 116, 114, 117, 99, 116] ++ 32 :: s
  | _ => []
theorem dcl_O : ∀ (t : Ty) (x : List UInt8), dcl t x = bwT t.core ++ tailD (DD t.O x)
  | .base c, x => rfl
  | .str s, x => by
    show [115, 116, 114, 117, 99, 116, 32] ++ (s ++ tailD x) = [115, 116, 114, 117, 99, 116] ++ 32 :: s ++ tailD x
    simp
  | .ptr t, x => dcl_O t _
  | .arr n t, x => dcl_O t _
  | .fn ps r, x => by rw [dcl_fn]; exact dcl_O r _
theorem DD_E (x : List UInt8) : ∀ (os l : List Op), DD os (E l x) = E (os.reverse ++ l) x
  | [], l => rfl
  | o :: os, l => by
    rw [List.reverse_cons, List.append_assoc]
    exact DD_E x os (o :: l)
theorem app_ne (o : Op) (x : List UInt8) : app o x ≠ [] := by cases o <;> simp [app]
theorem DD_ne : ∀ (os : List Op) (x : List UInt8), x ≠ [] → DD os x ≠ []
  | [], x, h => h
  | o :: os, x, _ => DD_ne os _ (app_ne o x)
theorem core_form : ∀ (t : Ty), t.rt → (∃ c, t.core = .base c ∧ baseC c = true) ∨ (∃ s, t.core = .str s ∧ nameB s = true)
  | .base c, h => .inl ⟨c, rfl, h⟩
  | .str s, h => .inr ⟨s, rfl, h⟩
  | .ptr t, h => core_form t h
  | .arr _ t, h => core_form t h.1
  | .fn _ r, h => core_form r h.2.1
theorem word_head (t : Ty) (h : t.rt) : ∃ c r, bwT t.core = c :: r ∧ c ≠ 42 := by
  rcases core_form t h with ⟨c, e, hc⟩ | ⟨s, e, _⟩
  · rw [e]
    have hw := word_flat c
    show ∃ d r, wordC c = d :: r ∧ d ≠ 42
    cases hwc : wordC c with
    | nil => exfalso; revert hwc; unfold wordC; (repeat' split) <;> simp
    | cons d r => exact ⟨d, r, rfl, (hw d (by rw [hwc]; exact List.mem_cons_self)).2.2.2.2⟩
  · rw [e]
    exact ⟨115, _, rfl, by decide⟩
theorem pars_head (ps : Tys) (h : ps.rt) : pars ps ≠ [] ∧ (pars ps).head? ≠ some 42 := by
  cases ps with
  | nil => exact ⟨by decide, by decide⟩
  | cons t ts =>
    obtain ⟨c, r, hw, hc⟩ := word_head t h.1.1
    have e : pars (.cons t ts) = c :: (r ++ tailD (DD t.O []) ++ parsT ts) := by
      show dcl t [] ++ parsT ts = _
      rw [dcl_O, hw]
      rfl
    rw [e]
    exact ⟨by simp, fun e2 => hc (by simpa using e2)⟩
theorem pars_bal (ps : Tys) (h : ps.rt) : Bal (pars ps) := by
  cases ps with
  | nil => exact Bal.flat _ (by decide)
  | cons t ts => exact (dcl_ok t [] h.1.1 NC.nil Bal.nil).2.app (parsT_ok ts h.2).2
def Ty.isArr : Ty → Bool
  | .arr _ _ => true
  | _ => false
def Fit (t : Ty) (acc : List Op) : Prop := (t.isFn = true → acc = [] ∨ acc.head? = some .b) ∧ (t.isArr = true → acc = [] ∨ acc.head? = some .b ∨ ∃ m, acc.head? = some (.a m)) ∧ (t.tight = false → acc.head? ≠ some .b)
theorem vl_O : ∀ (t : Ty) (acc : List Op), t.rt → VL acc → Fit t acc → VL (t.O.reverse ++ acc)
  | .base c, acc, _, hv, _ => hv
  | .str s, acc, _, hv, _ => hv
  | .ptr t, acc, h, hv, hf => by
    show VL ((_ :: t.O).reverse ++ acc)
    rw [List.reverse_cons, List.append_assoc]
    have hb : acc.head? ≠ some .b := hf.2.2 rfl
    refine vl_O t _ h ?_ ?_
    · cases ht : t.tight
      · rw [if_neg (by simp)]; exact ⟨hv, hb⟩
      · rw [if_pos rfl]; exact ⟨hv, hb⟩
    · cases ht : t.tight
      · rw [if_neg (by simp)]
        refine ⟨fun e => ?_, fun e => ?_, fun _ => by simp⟩
        · cases t <;> first | (cases e; done) | (cases ht; done)
        · cases t <;> first | (cases e; done) | (cases ht; done)
      · rw [if_pos rfl]
        exact ⟨fun _ => .inr rfl, fun _ => .inr (.inl rfl), fun e => (by rw [ht] at e; cases e)⟩
  | .arr n t, acc, h, hv, hf => by
    show VL ((_ :: t.O).reverse ++ acc)
    rw [List.reverse_cons, List.append_assoc]
    refine vl_O t _ h.1 ⟨hv, hf.2.1 rfl⟩ ⟨fun e => (by rw [h.2] at e; cases e), fun _ => .inr (.inr ⟨n, rfl⟩), fun _ => by simp⟩
  | .fn ps r, acc, h, hv, hf => by
    show VL ((_ :: r.O).reverse ++ acc)
    rw [List.reverse_cons, List.append_assoc]
    obtain ⟨p1, p2⟩ := pars_head ps h.1
    refine vl_O r _ h.2.1 ⟨hv, pars_bal ps h.1, p1, p2, hf.1 rfl⟩ ⟨fun e => ?_, fun e => ?_, fun _ => by simp⟩
    · have := h.2.2
      cases r <;> first | (cases e; done) | (cases this; done)
    · have := h.2.2
      cases r <;> first | (cases e; done) | (cases this; done)
def Tl (T : List UInt8) : Prop := T = [] ∨ ∃ r, T = 32 :: r
theorem tl_tail (x : List UInt8) : Tl (tailD x) := by
  unfold tailD
  split
  · exact .inl rfl
  · exact .inr ⟨_, rfl⟩
theorem tail_inj {x y : List UInt8} (h : tailD x = tailD y) : x = y := by
  unfold tailD at h
  split at h
  · split at h
    · rename_i a b; rw [a, b]
    · cases h
  · split at h
    · cases h
    · exact (List.cons.inj h).2
theorem first_split {A B P Q : List UInt8} {c : UInt8} (h : A ++ c :: P = B ++ c :: Q) (hp : c ∉ A) (hq : c ∉ B) : A = B ∧ P = Q := by
  rcases List.append_eq_append_iff.1 h with ⟨a', h1, h2⟩ | ⟨c', h1, h2⟩
  · cases a' with
    | nil => simp at h1 h2; exact ⟨h1.symm, h2⟩
    | cons d a' =>
      simp at h2
      exact absurd (show c ∈ B by rw [h1, h2.1]; simp) hq
  · cases c' with
    | nil => simp at h1 h2; exact ⟨h1, h2.symm⟩
    | cons d c' =>
      simp at h2
      exact absurd (show c ∈ A by rw [h1, h2.1]; simp) hp
theorem cut32 {P P' T T' : List UInt8} (h : P ++ T = P' ++ T') (hp : (32 : UInt8) ∉ P) (hp' : (32 : UInt8) ∉ P') (ht : Tl T) (ht' : Tl T') : P = P' ∧ T = T' := by
  rcases ht with rfl | ⟨r, rfl⟩
  · rcases ht' with rfl | ⟨r', rfl⟩
    · simp at h; exact ⟨h, rfl⟩
    · rw [List.append_nil] at h
      exact absurd (show (32 : UInt8) ∈ P by rw [h]; simp) hp
  · rcases ht' with rfl | ⟨r', rfl⟩
    · rw [List.append_nil] at h
      exact absurd (show (32 : UInt8) ∈ P' by rw [← h]; simp) hp'
    · obtain ⟨a, b⟩ := first_split h hp hp'
      exact ⟨a, by rw [b]⟩
theorem base_mem {c : UInt8} (h : baseC c = true) : c ∈ ([118, 99, 115, 105, 117, 106] : List UInt8) := by
  unfold baseC at h
  simp only [Bool.or_eq_true, beq_iff_eq] at h
  simp only [List.mem_cons, List.not_mem_nil, or_false]
  rcases h with ((((h | h) | h) | h) | h) | h <;> simp [h]
theorem word_inj {t u : Ty} (ht : t.rt) (hu : u.rt) {D D' : List UInt8} (h : bwT t.core ++ tailD D = bwT u.core ++ tailD D') : t.core = u.core ∧ D = D' := by
  have w32 : ∀ c, (32 : UInt8) ∉ wordC c := fun c hc => (word_flat c 32 hc).2.2.2.1 rfl
  have hs : (32 : UInt8) ∉ ([115, 116, 114, 117, 99, 116] : List UInt8) := by decide
  rcases core_form t ht with ⟨c, e, hc⟩ | ⟨s, e, hn⟩
  · rcases core_form u hu with ⟨c', e', hc'⟩ | ⟨s', e', hn'⟩
    · rw [e, e'] at h ⊢
      obtain ⟨a, b⟩ := cut32 (show wordC c ++ _ = wordC c' ++ _ from h) (w32 c) (w32 c') (tl_tail _) (tl_tail _)
      have hi : ∀ c ∈ ([118, 99, 115, 105, 117, 106] : List UInt8), ∀ c' ∈ ([118, 99, 115, 105, 117, 106] : List UInt8), wordC c = wordC c' → c = c' := by decide
      rw [hi c (base_mem hc) c' (base_mem hc') a]
      exact ⟨rfl, tail_inj b⟩
    · rw [e, e'] at h
      have h' : wordC c ++ tailD D = [115, 116, 114, 117, 99, 116] ++ 32 :: (s' ++ tailD D') := by
        rw [show wordC c ++ tailD D = bwT (.base c) ++ tailD D from rfl, h]
        show [115, 116, 114, 117, 99, 116] ++ 32 :: s' ++ tailD D' = _
        simp
      obtain ⟨a, _⟩ := cut32 h' (w32 c) hs (tl_tail _) (.inr ⟨_, rfl⟩)
      have hi : ∀ c ∈ ([118, 99, 115, 105, 117, 106] : List UInt8), wordC c ≠ [115, 116, 114, 117, 99, 116] := by decide
      exact absurd a (hi c (base_mem hc))
  · rcases core_form u hu with ⟨c', e', hc'⟩ | ⟨s', e', hn'⟩
    · rw [e, e'] at h
      have h' : [115, 116, 114, 117, 99, 116] ++ 32 :: (s ++ tailD D) = wordC c' ++ tailD D' := by
        rw [show wordC c' ++ tailD D' = bwT (.base c') ++ tailD D' from rfl, ← h]
        show _ = [115, 116, 114, 117, 99, 116] ++ 32 :: s ++ tailD D
        simp
      obtain ⟨a, _⟩ := cut32 h' hs (w32 c') (.inr ⟨_, rfl⟩) (tl_tail _)
      have hi : ∀ c ∈ ([118, 99, 115, 105, 117, 106] : List UInt8), wordC c ≠ [115, 116, 114, 117, 99, 116] := by decide
      exact absurd a.symm (hi c' (base_mem hc'))
    · rw [e, e'] at h ⊢
      have h' : [115, 116, 114, 117, 99, 116] ++ 32 :: (s ++ tailD D) = [115, 116, 114, 117, 99, 116] ++ 32 :: (s' ++ tailD D') := by
        have h2 : [115, 116, 114, 117, 99, 116] ++ 32 :: s ++ tailD D = [115, 116, 114, 117, 99, 116] ++ 32 :: s' ++ tailD D' := h
        simpa using h2
      have h2 := (List.cons.inj (List.append_cancel_left h')).2
      obtain ⟨a, b⟩ := cut32 h2 (fun hm => (name_flat hn 32 hm).2.2.2.1 rfl) (fun hm => (name_flat hn' 32 hm).2.2.2.1 rfl) (tl_tail _) (tl_tail _)
      rw [a]
      exact ⟨rfl, tail_inj b⟩
theorem fit_nil (t : Ty) : Fit t [] := ⟨fun _ => .inl rfl, fun _ => .inl rfl, fun _ => by simp⟩
theorem red {t u : Ty} (ht : t.rt) (hu : u.rt) {x : List UInt8} (hx : x.all wrd8 = true) (h : dcl t x = dcl u x) : t.O = u.O ∧ t.core = u.core := by
  rw [dcl_O t x, dcl_O u x] at h
  obtain ⟨a, b⟩ := word_inj ht hu h
  refine ⟨?_, a⟩
  have h1 := DD_E x t.O []
  have h2 := DD_E x u.O []
  have b' : DD t.O (E [] x) = DD u.O (E [] x) := b
  rw [h1, h2] at b'
  have h3 := dec_E x hx _ _ (vl_O t [] ht trivial (fit_nil t)) (vl_O u [] hu trivial (fit_nil u)) b'
  rw [List.append_nil, List.append_nil] at h3
  exact List.reverse_inj.1 h3
theorem sp_pars (ts : Tys) : sp 0 (parsT ts) = [] := by
  cases ts with
  | nil => rfl
  | cons t ts =>
    show sp 0 (44 :: _) = []
    unfold sp
    rw [if_pos ⟨rfl, rfl⟩]
theorem pars_split {t u : Ty} {ts us : Tys} (ht : t.rt) (hu : u.rt) (h : dcl t [] ++ parsT ts = dcl u [] ++ parsT us) : dcl t [] = dcl u [] ∧ parsT ts = parsT us := by
  have h1 := congrArg (sp 0) h
  rw [(dcl_ok t [] ht NC.nil Bal.nil).1, (dcl_ok u [] hu NC.nil Bal.nil).1, sp_pars, sp_pars, List.append_nil, List.append_nil] at h1
  rw [h1] at h
  exact ⟨h1, List.append_cancel_left h⟩
theorem void_not {u : Ty} {us : Tys} (hu : u.rt) (hs : u.scal = true) (h : [118, 111, 105, 100] = dcl u [] ++ parsT us) : False := by
  have h1 := congrArg (sp 0) h
  rw [(dcl_ok u [] hu NC.nil Bal.nil).1, sp_pars, List.append_nil] at h1
  have h2 : dcl u [] = [118, 111, 105, 100] := by rw [← h1]; rfl
  cases u with
  | base c =>
    have hc : c = 99 ∨ c = 115 ∨ c = 105 ∨ c = 117 := by
      have h3 : (c == 99 || c == 115 || c == 105 || c == 117) = true := hs
      simp only [Bool.or_eq_true, beq_iff_eq] at h3
      rcases h3 with ((h3 | h3) | h3) | h3 <;> simp [h3]
    rcases hc with rfl | rfl | rfl | rfl <;> exact absurd h2 (by decide)
  | ptr t =>
    rw [dcl_O] at h2
    have h3 : DD (Ty.ptr t).O [] ≠ [] := by
      show DD t.O (app _ []) ≠ []
      exact DD_ne _ _ (app_ne _ _)
    have h4 : (32 : UInt8) ∈ ([118, 111, 105, 100] : List UInt8) := by
      rw [← h2]
      unfold tailD
      rw [if_neg h3]
      simp
    exact absurd h4 (by decide)
  | arr n t => cases hs
  | str s => cases hs
  | fn ps r => cases hs
theorem b_p (t : Ty) : (if t.tight then Op.b else Op.p) = .b ∨ (if t.tight then Op.b else Op.p) = .p := by
  cases t.tight <;> simp
mutual
theorem O_inj : ∀ (t u : Ty), t.rt → u.rt → t.O = u.O → t.core = u.core → t = u
  | .base c, u, _, _, hO, hc => by
    cases u with
    | base c' => exact hc
    | str s => exact hc
    | ptr u => cases hO
    | arr n u => cases hO
    | fn ps r => cases hO
  | .str s, u, _, _, hO, hc => by
    cases u with
    | base c' => exact hc
    | str s => exact hc
    | ptr u => cases hO
    | arr n u => cases hO
    | fn ps r => cases hO
  | .ptr t, u, ht, hu, hO, hc => by
    cases u with
    | base c' => cases hO
    | str s => cases hO
    | ptr u => rw [O_inj t u ht hu (List.cons.inj hO).2 hc]
    | arr n u =>
      have h1 := (List.cons.inj hO).1
      rcases b_p t with h2 | h2 <;> (rw [h2] at h1; cases h1)
    | fn ps r =>
      have h1 := (List.cons.inj hO).1
      rcases b_p t with h2 | h2 <;> (rw [h2] at h1; cases h1)
  | .arr n t, u, ht, hu, hO, hc => by
    cases u with
    | base c' => cases hO
    | str s => cases hO
    | ptr u =>
      have h1 := (List.cons.inj hO).1
      rcases b_p u with h2 | h2 <;> (rw [h2] at h1; cases h1)
    | arr m u =>
      have h1 : Op.a n = Op.a m := (List.cons.inj hO).1
      injection h1 with h1
      rw [h1, O_inj t u ht.1 hu.1 (List.cons.inj hO).2 hc]
    | fn ps r =>
      have h1 : Op.a n = Op.f _ := (List.cons.inj hO).1
      cases h1
  | .fn ps r, u, ht, hu, hO, hc => by
    cases u with
    | base c' => cases hO
    | str s => cases hO
    | ptr u =>
      have h1 := (List.cons.inj hO).1
      rcases b_p u with h2 | h2 <;> (rw [h2] at h1; cases h1)
    | arr m u =>
      have h1 : Op.f _ = Op.a m := (List.cons.inj hO).1
      cases h1
    | fn qs r' =>
      have h1 : Op.f (pars ps) = Op.f (pars qs) := (List.cons.inj hO).1
      injection h1 with h1
      rw [pars_inj ps qs ht.1 hu.1 h1, O_inj r r' ht.2.1 hu.2.1 (List.cons.inj hO).2 hc]
theorem pars_inj : ∀ (ps qs : Tys), ps.rt → qs.rt → pars ps = pars qs → ps = qs
  | .nil, qs, _, hq, h => by
    cases qs with
    | nil => rfl
    | cons u us => exact (void_not hq.1.1 hq.1.2 h).elim
  | .cons t ts, qs, hp, hq, h => by
    cases qs with
    | nil => exact (void_not hp.1.1 hp.1.2 h.symm).elim
    | cons u us =>
      obtain ⟨h1, h2⟩ := pars_split hp.1.1 hq.1.1 h
      obtain ⟨a, b⟩ := red hp.1.1 hq.1.1 (x := []) rfl h1
      rw [O_inj t u hp.1.1 hq.1.1 a b, parsT_inj ts us hp.2 hq.2 h2]
theorem parsT_inj : ∀ (ts us : Tys), ts.rt → us.rt → parsT ts = parsT us → ts = us
  | .nil, us, _, hq, h => by
    cases us with
    | nil => rfl
    | cons u us => cases h
  | .cons t ts, us, hp, hq, h => by
    cases us with
    | nil => cases h
    | cons u us =>
      have h0 := (List.cons.inj (List.cons.inj (show (44 : UInt8) :: 32 :: (dcl t [] ++ parsT ts) = 44 :: 32 :: (dcl u [] ++ parsT us) from h)).2).2
      obtain ⟨h1, h2⟩ := pars_split hp.1.1 hq.1.1 h0
      obtain ⟨a, b⟩ := red hp.1.1 hq.1.1 (x := []) rfl h1
      rw [O_inj t u hp.1.1 hq.1.1 a b, parsT_inj ts us hp.2 hq.2 h2]
end
end Go.Proofs.YtjadckhngalmlaaGreatDoor
/-! Plain: a declaration as it is written, piece by piece; how long it is. -/
namespace Go.Proofs.YtjadckhngalmlaaGreatDoor
set_option linter.unusedVariables false
set_option linter.unusedSimpArgs false

theorem parts_le (u : Ty) : u.parts.length ≤ u.size := by
  have hl : ∀ ts : Tys, ts.list.length ≤ ts.size := fun ts => by
    induction ts using Tys.rec (motive_1 := fun _ => True) with
    | nil => exact Nat.le_refl _
    | cons t ts _ ih => show ts.list.length + 1 ≤ t.size + ts.size + 1; omega
    | _ => trivial
  cases u with
  | base c => exact Nat.zero_le _
  | str s => exact Nat.zero_le _
  | ptr t => show 1 ≤ t.size + 1; omega
  | arr n t => show 1 ≤ t.size + 1; omega
  | fn ps r => show (ps.list ++ [r]).length ≤ ps.size + r.size + 2; have := hl ps; simp; omega
theorem word_le (c : UInt8) : (wordC c).length ≤ 8 := by
  unfold wordC
  (repeat' split) <;> decide
theorem tail_le (x : List UInt8) : (tailD x).length ≤ x.length + 1 := by
  unfold tailD
  split <;> simp
mutual
theorem dcl_len : ∀ (t : Ty) (x : List UInt8), (dcl t x).length ≤ 10 * t.code.length + x.length
  | .base c, x => by
    have h1 := word_le c
    have h2 := tail_le x
    show (wordC c ++ tailD x).length ≤ 10 * 1 + x.length
    rw [List.length_append]
    omega
  | .str s, x => by
    have h2 := tail_le x
    show ([115, 116, 114, 117, 99, 116, 32] ++ (s ++ tailD x)).length ≤ 10 * (83 :: (s ++ [59])).length + x.length
    simp only [List.length_append, List.length_cons, List.length_nil]
    omega
  | .ptr t, x => by
    have h1 := dcl_len t (app (if t.tight then .b else .p) x)
    have h2 : (app (if t.tight then .b else .p) x).length ≤ x.length + 3 := by cases t.tight <;> simp [app]
    show (dcl t _).length ≤ 10 * (112 :: t.code).length + x.length
    rw [List.length_cons]
    omega
  | .arr n t, x => by
    have h1 := dcl_len t (app (.a n) x)
    have h2 : (app (.a n) x).length = x.length + (Lib.decDigits n).length + 2 := by simp [app]; omega
    show (dcl t _).length ≤ 10 * (97 :: (Lib.decDigits n ++ 58 :: t.code)).length + x.length
    simp only [List.length_append, List.length_cons]
    omega
  | .fn .nil r, x => by
    have h1 := dcl_len r (app (.f [118, 111, 105, 100]) x)
    have h2 : (app (.f [118, 111, 105, 100]) x).length = x.length + 6 := by simp [app]
    show (dcl r _).length ≤ 10 * (102 :: 40 :: 41 :: r.code).length + x.length
    simp only [List.length_append, List.length_cons]
    omega
  | .fn (.cons t ts) r, x => by
    have h1 := dcl_len r (app (.f (dcl t [] ++ parsT ts)) x)
    have h2 : (app (.f (dcl t [] ++ parsT ts)) x).length = x.length + (dcl t []).length + (parsT ts).length + 2 := by simp [app]; omega
    have h3 := dcl_len t []
    have h4 := parsT_len ts
    show (dcl r _).length ≤ 10 * (102 :: 40 :: (t.code ++ (ts.code ++ 41 :: r.code))).length + x.length
    simp only [List.length_append, List.length_cons, List.length_nil] at h3 ⊢
    omega
theorem parsT_len : ∀ (ts : Tys), (parsT ts).length ≤ 10 * ts.code.length
  | .nil => Nat.zero_le _
  | .cons t ts => by
    have h3 := dcl_len t []
    have h4 := parsT_len ts
    show (44 :: 32 :: (dcl t [] ++ parsT ts)).length ≤ 10 * (44 :: (t.code ++ ts.code)).length
    simp only [List.length_append, List.length_cons, List.length_nil] at h3 ⊢
    omega
end
theorem lst_size_le : ∀ (ts : Tys) (u : Ty), u ∈ ts.list → u.size < ts.size + 1
  | .nil, u, h => by cases h
  | .cons t ts, u, h => by
    rcases List.mem_cons.1 h with rfl | h
    · show u.size < u.size + ts.size + 1 + 1
      omega
    · have := lst_size_le ts u h
      show u.size < t.size + ts.size + 1 + 1
      omega
theorem lst_wf : ∀ (ts : Tys) (u : Ty), ts.wf → u ∈ ts.list → u.wf
  | .nil, u, hw, h => by cases h
  | .cons t ts, u, hw, h => by
    rcases List.mem_cons.1 h with rfl | h
    · exact hw.1
    · exact lst_wf ts u hw.2 h
end Go.Proofs.YtjadckhngalmlaaGreatDoor
