/-
  Plain: types as trees, their codes, their reader.
-/
import Derived.WalkKit
import Derived.Lib.UnsafeStr
import Derived.Lib.Bytealg
import Derived.Lib.LastIndexByte
import Derived.Lib.ItoaNum
import Derived.Lib.ParseIntB
import Derived.Lib.ItoaMem
import Derived.Lib.IndexMore
/-! Plain: how a byte is spelt between quotes; a text in quotes; the place in its line. -/
namespace Go.Proofs.YtacbjhbiaaieoaaGreatDoor
set_option linter.unusedVariables false
set_option linter.unusedSimpArgs false

/-- Does a byte stand for itself between these quotes? -/
def plainI (c q : Int) : Bool := decide (32 ≤ c) && decide (c ≤ 126) && !(c == q) && !(c == 92)
/-- A small digit to the base 16. -/
def hexD (n : Nat) : UInt8 := if n < 10 then UInt8.ofNat (48 + n) else UInt8.ofNat (87 + n)
/-- The piece that stands for a byte between these quotes. -/
@[irreducible] def pc (q c : UInt8) : List UInt8 :=
  if plainI c.toNat q.toNat then [c] else if c = 10 then [92, 110] else if c = 9 then [92, 116] else if c = 13 then [92, 114] else if c = 92 ∨ c = q then [92, c] else [92, 120, hexD (c.toNat / 16), hexD (c.toNat % 16)]
theorem pc_plain (q c : UInt8) (h : plainI c.toNat q.toNat = true) : pc q c = [c] := by unfold pc; rw [if_pos h]
theorem plain_no (q c : UInt8) (h : c = 10 ∨ c = 9 ∨ c = 13 ∨ c = 92 ∨ c = q) : plainI c.toNat q.toNat = false := by
  unfold plainI
  rcases h with rfl | rfl | rfl | rfl | rfl <;> simp
theorem pc_10 (q : UInt8) : pc q 10 = [92, 110] := by unfold pc; rw [if_neg (by rw [plain_no _ _ (.inl rfl)]; simp), if_pos rfl]
theorem pc_9 (q : UInt8) : pc q 9 = [92, 116] := by unfold pc; rw [if_neg (by rw [plain_no _ _ (.inr (.inl rfl))]; simp), if_neg (by decide), if_pos rfl]
theorem pc_13 (q : UInt8) : pc q 13 = [92, 114] := by unfold pc; rw [if_neg (by rw [plain_no _ _ (.inr (.inr (.inl rfl)))]; simp), if_neg (by decide), if_neg (by decide), if_pos rfl]
theorem pc_esc (q c : UInt8) (h0 : c ≠ 10) (h1 : c ≠ 9) (h2 : c ≠ 13) (h : c = 92 ∨ c = q) : pc q c = [92, c] := by unfold pc; rw [if_neg (by rw [plain_no _ _ (.inr (.inr (.inr h)))]; simp), if_neg h0, if_neg h1, if_neg h2, if_pos h]
theorem pc_hex (q c : UInt8) (hp : plainI c.toNat q.toNat = false) (h0 : c ≠ 10) (h1 : c ≠ 9) (h2 : c ≠ 13) (h3 : c ≠ 92) (h4 : c ≠ q) : pc q c = [92, 120, hexD (c.toNat / 16), hexD (c.toNat % 16)] := by
  unfold pc
  rw [if_neg (by rw [hp]; simp), if_neg h0, if_neg h1, if_neg h2, if_neg (by simp [h3, h4])]
theorem pc_len (q c : UInt8) : 1 ≤ (pc q c).length ∧ (pc q c).length ≤ 4 := by
  unfold pc
  (repeat' split) <;> simp
theorem u8_eq {c d : UInt8} {x : Int} (hx : (c.toNat : Int) = x) : c = d ↔ x = (d.toNat : Int) := by
  rw [← UInt8.toNat_inj]
  omega
/-- A text's bytes as pieces; with the quotes. -/
@[irreducible] def pcs (q : UInt8) (l : List UInt8) : List UInt8 := l.flatMap (pc q)
theorem pcs_nil (q : UInt8) : pcs q [] = [] := by unfold pcs; rfl
theorem pcs_snoc (q : UInt8) (l : List UInt8) (c : UInt8) : pcs q (l ++ [c]) = pcs q l ++ pc q c := by unfold pcs; simp
theorem pcs_one (q c : UInt8) : pcs q [c] = pc q c := by unfold pcs; simp
theorem pcs_len (q : UInt8) (l : List UInt8) : (pcs q l).length ≤ 4 * l.length := by
  induction l with
  | nil => rw [pcs_nil]; simp
  | cons c l ih =>
    have := (pc_len q c).2
    unfold pcs at ih ⊢
    rw [List.flatMap_cons, List.length_append, List.length_cons]
    omega
def quoL (q : UInt8) (l : List UInt8) : List UInt8 := [q] ++ pcs q l ++ [q]
theorem quoL_len (q : UInt8) (l : List UInt8) : (quoL q l).length ≤ 4 * l.length + 2 := by
  have := pcs_len q l
  unfold quoL
  simp
  omega
theorem hexD_at (n : Nat) (h : n < 16) : [48, 49, 50, 51, 52, 53, 54, 55, 56, 57, 97, 98, 99, 100, 101, 102][n]?.getD 0 = hexD n := by
  have : ∀ k : Fin 16, ([48, 49, 50, 51, 52, 53, 54, 55, 56, 57, 97, 98, 99, 100, 101, 102] : List UInt8)[k.val]?.getD 0 = hexD k.val := by decide
  exact this ⟨n, h⟩
end Go.Proofs.YtacbjhbiaaieoaaGreatDoor
/-! Plain: which tokens there are, and how they are laid. -/
namespace Go.Proofs.YtacbjhbiaaieoaaGreatDoor
set_option linter.unusedVariables false
set_option linter.unusedSimpArgs false

def ltrI (c : Int) : Bool := (decide (97 ≤ c) && decide (c ≤ 122)) || (decide (65 ≤ c) && decide (c ≤ 90)) || c == 95
def digI (c : Int) : Bool := decide (48 ≤ c) && decide (c ≤ 57)
def ltr8 (c : UInt8) : Bool := ltrI c.toNat
def dig8 (c : UInt8) : Bool := digI c.toNat
def wrd8 (c : UInt8) : Bool := ltr8 c || dig8 c
def keyTab : List (List UInt8) := [[118, 111, 105, 100], [99, 104, 97, 114], [115, 104, 111, 114, 116], [105, 110, 116], [117, 110, 115, 105, 103, 110, 101, 100], [115, 116, 114, 117, 99, 116], [118, 111, 108, 97, 116, 105, 108, 101], [105, 102], [101, 108, 115, 101], [119, 104, 105, 108, 101], [100, 111], [102, 111, 114], [115, 119, 105, 116, 99, 104], [99, 97, 115, 101], [100, 101, 102, 97, 117, 108, 116], [98, 114, 101, 97, 107], [99, 111, 110, 116, 105, 110, 117, 101], [114, 101, 116, 117, 114, 110], [115, 105, 122, 101, 111, 102], [106, 109, 112, 95, 98, 117, 102]]
def markTab : List (List UInt8) := [[60, 60, 61], [62, 62, 61], [45, 62], [43, 43], [45, 45], [60, 60], [62, 62], [60, 61], [62, 61], [61, 61], [33, 61], [38, 38], [124, 124], [42, 61], [47, 61], [37, 61], [43, 61], [45, 61], [38, 61], [94, 61], [124, 61], [123], [125], [40], [41], [91], [93], [59], [44], [46], [38], [42], [43], [45], [126], [33], [47], [37], [60], [62], [94], [124], [63], [58], [61]]
@[irreducible] def keyB (l : List UInt8) : Bool := keyTab.contains l
@[irreducible] def markB (l : List UInt8) : Bool := markTab.contains l
/-- A letter first, then letters and digits. -/
@[irreducible] def wordB (l : List UInt8) : Bool := decide (l ≠ []) && ltr8 (l[0]?.getD 0) && l.all wrd8
@[irreducible] def nameB (l : List UInt8) : Bool := decide (l.length ≤ 31) && wordB l && !keyB l
@[irreducible] def numB (n : Int) (l : List UInt8) : Bool := decide (-128 ≤ n) && decide (n ≤ 4294967295) && (if n < 0 then l == [] else if 2147483648 ≤ n then l == [117] else (l == [] || l == [117]))
/-- Is a token such as is read? -/
@[irreducible] def tokB (k n : Int) (l : List UInt8) : Bool :=
  if k = 3 then numB n l else n == 0 && (if k = 1 then nameB l else if k = 2 then keyB l else if k = 4 then decide (l.length ≤ 4096) else if k = 5 then markB l else false)
/-- A token as it is laid. -/
@[irreducible] def wrdL (k n : Int) (l : List UInt8) : List UInt8 :=
  if k = 3 then (if n < 0 then quoL 39 [UInt8.ofNat (n % 256).toNat] else if l = [117] ∧ n < 2147483648 then Lib.itoa n ++ [117] else Lib.itoa n) else if k = 4 then quoL 34 l else l
structure Tk where
  kind : Int
  at' : Int
  int : Int
  text : List UInt8
def Tk.ok (t : Tk) : Bool := tokB t.kind t.int t.text
def Tk.word (t : Tk) : List UInt8 := wrdL t.kind t.int t.text
/-- Tokens, each with a blank ahead; with a blank between two. -/
def layP (L : List Tk) : List UInt8 := L.flatMap fun t => 32 :: t.word
@[irreducible] def layL (L : List Tk) : List UInt8 := (layP L).drop 1
theorem lay_nil : layL [] = [] := by unfold layL layP; rfl
theorem lay_one (t : Tk) : layL [t] = t.word := by unfold layL layP; simp
theorem lay_snoc (L : List Tk) (t : Tk) (h : 0 < L.length) : layL (L ++ [t]) = layL L ++ [32] ++ t.word := by
  cases L with
  | nil => simp at h
  | cons x L =>
    unfold layL layP
    simp
end Go.Proofs.YtacbjhbiaaieoaaGreatDoor
/-! Plain: names and numerals. -/
namespace Go.Proofs.YtacbjhbiaaieoaaGreatDoor
set_option linter.unusedVariables false
set_option linter.unusedSimpArgs false

theorem word_parts {w : List UInt8} (h : wordB w = true) : w ≠ [] ∧ ltr8 (w[0]?.getD 0) = true ∧ w.all wrd8 = true := by
  unfold wordB at h
  simp only [Bool.and_eq_true, decide_eq_true_eq] at h
  exact ⟨h.1.1, h.1.2, h.2⟩
theorem bk_u8 (k : Nat) (h : k < 10) : (UInt8.ofNat (48 + k)).toNat = 48 + k := by
  rw [UInt8.toNat_ofNat']
  omega
theorem bk_small (m : Nat) (h : m < 10) : Lib.decDigits m = [UInt8.ofNat (48 + m)] := by rw [Lib.decDigits, dif_pos h]
theorem bk_great (m : Nat) (h : ¬ m < 10) : Lib.decDigits m = Lib.decDigits (m / 10) ++ [UInt8.ofNat (48 + m % 10)] := by rw [Lib.decDigits, dif_neg h]
theorem bk_digits : ∀ (n u : Nat), u ≤ n → ∀ c ∈ Lib.decDigits u, 48 ≤ c.toNat ∧ c.toNat ≤ 57
  | 0, u, hu, c, hc => by
    rw [bk_small u (by omega), List.mem_singleton] at hc
    rw [hc, bk_u8 _ (by omega)]
    omega
  | n + 1, u, hu, c, hc => by
    by_cases h : u < 10
    · rw [bk_small u h, List.mem_singleton] at hc
      rw [hc, bk_u8 _ h]
      omega
    · rw [bk_great u h] at hc
      rcases List.mem_append.1 hc with h1 | h1
      · exact bk_digits n (u / 10) (by omega) c h1
      · rw [List.mem_singleton] at h1
        rw [h1, bk_u8 _ (by omega)]
        omega
theorem bk_dne (u : Nat) : Lib.decDigits u ≠ [] := by
  rw [Lib.decDigits]
  split <;> simp
theorem parse_app (M : Nat) : ∀ (l m : List UInt8) (acc n : Nat), Lib.parseUintM M acc l = .ok n → Lib.parseUintM M acc (l ++ m) = Lib.parseUintM M n m
  | [], m, acc, n, h => by
    unfold Lib.parseUintM at h
    cases h
    rfl
  | b :: r, m, acc, n, h => by
    rw [List.cons_append]
    unfold Lib.parseUintM at h
    conv => lhs; unfold Lib.parseUintM
    split at h
    · rename_i h1
      rw [if_pos h1]
      split at h
      · cases h
      · rename_i h2
        rw [if_neg h2]
        split at h
        · cases h
        · rename_i h3
          rw [if_neg h3]
          exact parse_app M r m _ n h
    · cases h
theorem parse_one (M acc k : Nat) (hk : k < 10) (h1 : acc < 1844674407370955162) (h2 : acc * 10 + k ≤ M) : Lib.parseUintM M acc [UInt8.ofNat (48 + k)] = .ok (acc * 10 + k) := by
  unfold Lib.parseUintM
  have e := bk_u8 k hk
  rw [e, if_pos (by omega), if_neg (by omega), if_neg (by omega)]
  unfold Lib.parseUintM
  congr 1
  omega
end Go.Proofs.YtacbjhbiaaieoaaGreatDoor
/-! Plain: types as trees, their codes, and how a code is taken apart. -/
namespace Go.Proofs.YtacbjhbiaaieoaaGreatDoor
set_option linter.unusedVariables false
set_option linter.unusedSimpArgs false

mutual
inductive Ty where
  | base (c : UInt8)
  | ptr (t : Ty)
  | arr (n : Nat) (t : Ty)
  | str (s : List UInt8)
  | fn (ps : Tys) (r : Ty)
inductive Tys where
  | nil
  | cons (t : Ty) (ts : Tys)
end
def baseC (c : UInt8) : Bool := c == 118 || c == 99 || c == 115 || c == 105 || c == 117 || c == 106
mutual
/-- A type's code. -/
def Ty.code : Ty → List UInt8
  | .base c => [c]
  | .ptr t => 112 :: t.code
  | .arr n t => 97 :: (Lib.decDigits n ++ 58 :: t.code)
  | .str s => 83 :: (s ++ [59])
  | .fn .nil r => 102 :: 40 :: 41 :: r.code
  | .fn (.cons t ts) r => 102 :: 40 :: (t.code ++ (ts.code ++ 41 :: r.code))
/-- Each with a comma ahead. -/
def Tys.code : Tys → List UInt8
  | .nil => []
  | .cons t ts => 44 :: (t.code ++ ts.code)
end
mutual
def Ty.wf : Ty → Prop
  | .base c => baseC c = true
  | .ptr t => t.wf
  | .arr n t => n ≤ 1099511627776 ∧ t.wf
  | .str s => nameB s = true
  | .fn ps r => ps.wf ∧ r.wf
def Tys.wf : Tys → Prop
  | .nil => True
  | .cons t ts => t.wf ∧ ts.wf
end
mutual
def Ty.size : Ty → Nat
  | .base _ => 1
  | .ptr t => t.size + 1
  | .arr _ t => t.size + 1
  | .str _ => 1
  | .fn ps r => ps.size + r.size + 2
def Tys.size : Tys → Nat
  | .nil => 0
  | .cons t ts => t.size + ts.size + 1
end
/-- What stands ahead of a byte, and behind it. -/
def upTo (e : UInt8) : List UInt8 → Option (List UInt8 × List UInt8)
  | [] => none
  | c :: r => if c = e then some ([], r) else (upTo e r).map fun p => (c :: p.1, p.2)
def cntP (r : List UInt8) : Option (Nat × List UInt8) :=
  match upTo 58 r with
  | none => none
  | some (d, r1) => match Lib.parseUintB 64 d with
    | .ok n => if n ≤ 1099511627776 ∧ Lib.decDigits n = d then some (n, r1) else none
    | _ => none
def tagP (r : List UInt8) : Option (List UInt8 × List UInt8) :=
  match upTo 59 r with
  | none => none
  | some (s, r1) => if nameB s then some (s, r1) else none
mutual
def oneN : Nat → List UInt8 → Option (Ty × List UInt8)
  | 0, _ => none
  | _ + 1, [] => none
  | n + 1, c :: r =>
    if baseC c then some (.base c, r) else
    if c = 112 then match oneN n r with
      | none => none
      | some (t, y) => some (.ptr t, y)
    else if c = 97 then match cntP r with
      | none => none
      | some (k, r1) => match oneN n r1 with
        | none => none
        | some (t, y) => some (.arr k t, y)
    else if c = 83 then match tagP r with
      | none => none
      | some (s, y) => some (.str s, y)
    else if c = 102 ∧ r.head? = some 40 then
      if (r.drop 1).head? = some 41 then match oneN n (r.drop 2) with
        | none => none
        | some (t, y) => some (.fn .nil t, y)
      else match lstN n (r.drop 1) with
        | none => none
        | some (ps, r1) => match oneN n r1 with
          | none => none
          | some (t, y) => some (.fn ps t, y)
    else none
def lstN : Nat → List UInt8 → Option (Tys × List UInt8)
  | 0, _ => none
  | n + 1, r => match oneN n r with
    | none => none
    | some (t, r1) =>
      if r1.head? = some 44 then match lstN n (r1.drop 1) with
        | none => none
        | some (ts, y) => some (.cons t ts, y)
      else if r1.head? = some 41 then some (.cons t .nil, r1.drop 1) else none
end
theorem upTo_eq (e : UInt8) : ∀ (r s y : List UInt8), upTo e r = some (s, y) → r = s ++ e :: y
  | [], s, y, h => by cases h
  | c :: r, s, y, h => by
    unfold upTo at h
    split at h
    · rename_i hc
      cases h
      rw [hc]
      rfl
    · obtain ⟨p, hp, hq⟩ := Option.map_eq_some_iff.1 h
      cases hq
      have := upTo_eq e r p.1 p.2 hp
      rw [this]
      rfl
theorem upTo_app (e : UInt8) : ∀ (s y : List UInt8), e ∉ s → upTo e (s ++ e :: y) = some (s, y)
  | [], y, _ => by
    show upTo e (e :: y) = _
    unfold upTo
    rw [if_pos rfl]
  | c :: s, y, h => by
    have hc : c ≠ e := fun e2 => h (by rw [e2]; exact List.mem_cons_self)
    rw [List.cons_append]
    unfold upTo
    rw [if_neg hc, upTo_app e s y (fun h2 => h (List.mem_cons_of_mem _ h2))]
    rfl
theorem head_drop {r : List UInt8} {c : UInt8} (h : r.head? = some c) : r = c :: r.drop 1 := by
  cases r with
  | nil => cases h
  | cons d r => simp at h; rw [h]; rfl
theorem cnt_eq {r y : List UInt8} {k : Nat} (h : cntP r = some (k, y)) : k ≤ 1099511627776 ∧ r = Lib.decDigits k ++ 58 :: y := by
  unfold cntP at h
  split at h
  · cases h
  · rename_i d r1 hu
    split at h
    · split at h
      · rename_i hk
        cases h
        refine ⟨hk.1, ?_⟩
        rw [hk.2]
        exact upTo_eq _ _ _ _ hu
      · cases h
    · cases h
theorem tag_eq {r s y : List UInt8} (h : tagP r = some (s, y)) : nameB s = true ∧ r = s ++ 59 :: y := by
  unfold tagP at h
  split at h
  · cases h
  · rename_i hu
    split at h
    · rename_i hn
      cases h
      exact ⟨hn, upTo_eq _ _ _ _ hu⟩
    · cases h
mutual
/-- What is taken apart is a code, and what is left behind it. -/
theorem one_sound : ∀ (n : Nat) (r y : List UInt8) (t : Ty), oneN n r = some (t, y) → t.wf ∧ r = t.code ++ y
  | 0, _, _, _, h => by unfold oneN at h; cases h
  | _ + 1, [], _, _, h => by unfold oneN at h; cases h
  | n + 1, c :: r, y, t, h => by
    unfold oneN at h
    split at h
    · rename_i hb
      cases h
      exact ⟨hb, rfl⟩
    · split at h
      · rename_i hc
        split at h
        · cases h
        · rename_i t' y' h1
          cases h
          obtain ⟨a, b⟩ := one_sound n _ _ _ h1
          refine ⟨a, ?_⟩
          rw [hc, b]
          rfl
      · split at h
        · rename_i hc
          split at h
          · cases h
          · rename_i k r1 hk
            split at h
            · cases h
            · rename_i t' y' h1
              cases h
              obtain ⟨a, b⟩ := one_sound n _ _ _ h1
              obtain ⟨c1, c2⟩ := cnt_eq hk
              refine ⟨⟨c1, a⟩, ?_⟩
              rw [hc, c2, b]
              show _ = 97 :: (Lib.decDigits k ++ 58 :: t'.code) ++ y
              simp
        · split at h
          · rename_i hc
            split at h
            · cases h
            · rename_i s y' hk
              cases h
              obtain ⟨c1, c2⟩ := tag_eq hk
              refine ⟨c1, ?_⟩
              rw [hc, c2]
              show _ = 83 :: (s ++ [59]) ++ y
              simp
          · split at h
            · rename_i hc
              have hr := head_drop hc.2
              split at h
              · rename_i hh
                have hr2 := head_drop hh
                rw [List.drop_drop] at hr2
                split at h
                · cases h
                · rename_i t' y' h1
                  cases h
                  obtain ⟨a, b⟩ := one_sound n _ _ _ h1
                  refine ⟨⟨trivial, a⟩, ?_⟩
                  rw [hc.1, hr, hr2, b]
                  rfl
              · split at h
                · cases h
                · rename_i ps r1 hk
                  split at h
                  · cases h
                  · rename_i t' y' h1
                    cases h
                    obtain ⟨a, b⟩ := one_sound n _ _ _ h1
                    obtain ⟨p1, t0, ts, p2, p3⟩ := lst_sound n _ _ _ hk
                    refine ⟨⟨p1, a⟩, ?_⟩
                    rw [hc.1, hr, p3, b, p2]
                    show _ = 102 :: 40 :: (t0.code ++ (ts.code ++ 41 :: t'.code)) ++ y
                    simp
            · cases h
theorem lst_sound : ∀ (n : Nat) (r y : List UInt8) (ps : Tys), lstN n r = some (ps, y) → ps.wf ∧ ∃ t ts, ps = .cons t ts ∧ r = t.code ++ (ts.code ++ 41 :: y)
  | 0, _, _, _, h => by unfold lstN at h; cases h
  | n + 1, r, y, ps, h => by
    unfold lstN at h
    split at h
    · cases h
    · rename_i t r1 h1
      obtain ⟨a, b⟩ := one_sound n _ _ _ h1
      split at h
      · rename_i hh
        have hr := head_drop hh
        split at h
        · cases h
        · rename_i ts y' h2
          cases h
          obtain ⟨p1, t0, ts0, p2, p3⟩ := lst_sound n _ _ _ h2
          refine ⟨⟨a, p1⟩, t, ts, rfl, ?_⟩
          rw [b, hr, p3, p2]
          show _ = t.code ++ (44 :: (t0.code ++ ts0.code) ++ 41 :: y)
          simp
      · split at h
        · rename_i hh
          have hr := head_drop hh
          cases h
          refine ⟨⟨a, trivial⟩, t, .nil, rfl, ?_⟩
          rw [b, hr]
          rfl
        · cases h
end
end Go.Proofs.YtacbjhbiaaieoaaGreatDoor
/-! Plain: every code of a type is taken apart as that type, whatever stands behind it. -/
namespace Go.Proofs.YtacbjhbiaaieoaaGreatDoor
set_option linter.unusedVariables false
set_option linter.unusedSimpArgs false

theorem parse_digits64 (M : Nat) (hM : M ≤ 18446744073709551615) : ∀ (n u : Nat), u ≤ n → u ≤ M → u ≤ 18446744073709551609 → Lib.parseUintM M 0 (Lib.decDigits u) = .ok u
  | 0, u, hu, hm, _ => by
    rw [bk_small u (by omega), parse_one M 0 u (by omega) (by omega) (by omega)]
    congr 1
    omega
  | n + 1, u, hu, hm, hx => by
    by_cases h : u < 10
    · rw [bk_small u h, parse_one M 0 u h (by omega) (by omega)]
      congr 1
      omega
    · rw [bk_great u h, parse_app M _ _ 0 (u / 10) (parse_digits64 M hM n (u / 10) (by omega) (by omega) (by omega)), parse_one M _ _ (by omega) (by omega) (by omega)]
      congr 1
      omega
theorem cnt_full (k : Nat) (y : List UInt8) (hk : k ≤ 1099511627776) : cntP (Lib.decDigits k ++ 58 :: y) = some (k, y) := by
  have hd := bk_digits k k (Nat.le_refl _)
  unfold cntP
  rw [upTo_app 58 _ _ (fun h => by have h2 := hd _ h; have : (58 : UInt8).toNat = 58 := rfl; omega)]
  simp only
  unfold Lib.parseUintB
  rw [if_neg (bk_dne k), parse_digits64 _ (by decide) k k (Nat.le_refl _) (by have : (2 : Nat) ^ 64 - 1 = 18446744073709551615 := by decide
                                                                              omega) (by omega)]
  simp only
  rw [if_pos ⟨hk, trivial⟩]
theorem name_all {s : List UInt8} (h : nameB s = true) : s ≠ [] ∧ ltr8 (s[0]?.getD 0) = true ∧ s.all wrd8 = true ∧ s.length ≤ 31 := by
  unfold nameB at h
  simp only [Bool.and_eq_true, decide_eq_true_eq, Bool.not_eq_true'] at h
  obtain ⟨a, b, c⟩ := word_parts h.1.2
  exact ⟨a, b, c, h.1.1⟩
theorem tag_full (s y : List UInt8) (h : nameB s = true) : tagP (s ++ 59 :: y) = some (s, y) := by
  obtain ⟨_, _, ha, _⟩ := name_all h
  unfold tagP
  rw [upTo_app 59 _ _ (fun hm => absurd (List.all_eq_true.1 ha _ hm) (by decide))]
  simp only
  rw [if_pos h]
/-- A code begins with one of these letters. -/
theorem code_head (t : Ty) (h : t.wf) : ∃ c r, t.code = c :: r ∧ c ≠ 41 ∧ c ≠ 44 := by
  match t, h with
  | .base c, h =>
    refine ⟨c, [], rfl, ?_, ?_⟩
    · rintro rfl; exact absurd (show baseC 41 = true from h) (by decide)
    · rintro rfl; exact absurd (show baseC 44 = true from h) (by decide)
  | .ptr t, _ => exact ⟨112, _, rfl, by decide, by decide⟩
  | .arr n t, _ => exact ⟨97, _, rfl, by decide, by decide⟩
  | .str s, _ => exact ⟨83, _, rfl, by decide, by decide⟩
  | .fn .nil r, _ => exact ⟨102, _, rfl, by decide, by decide⟩
  | .fn (.cons t ts) r, _ => exact ⟨102, _, rfl, by decide, by decide⟩
theorem not_base (c : UInt8) (h : c = 112 ∨ c = 97 ∨ c = 83 ∨ c = 102) : baseC c = false := by
  rcases h with rfl | rfl | rfl | rfl <;> rfl
mutual
theorem one_full : ∀ (t : Ty) (n : Nat) (y : List UInt8), t.wf → t.size ≤ n → oneN n (t.code ++ y) = some (t, y)
  | .base c, n, y, h, hn => by
    obtain ⟨m, rfl⟩ : ∃ m, n = m + 1 := ⟨n - 1, by unfold Ty.size at hn; omega⟩
    have hb : baseC c = true := h
    show oneN (m + 1) (c :: y) = _
    unfold oneN
    rw [if_pos hb]
  | .ptr t, n, y, h, hn => by
    unfold Ty.size at hn
    obtain ⟨m, rfl⟩ : ∃ m, n = m + 1 := ⟨n - 1, by omega⟩
    have h1 := one_full t m y h (by omega)
    show oneN (m + 1) (112 :: (t.code ++ y)) = _
    unfold oneN
    rw [not_base _ (.inl rfl), if_neg (by simp), if_pos rfl, h1]
  | .arr k t, n, y, h, hn => by
    unfold Ty.size at hn
    obtain ⟨m, rfl⟩ : ∃ m, n = m + 1 := ⟨n - 1, by omega⟩
    have h1 := one_full t m y h.2 (by omega)
    have e : (Ty.arr k t).code ++ y = 97 :: (Lib.decDigits k ++ 58 :: (t.code ++ y)) := by
      show 97 :: (Lib.decDigits k ++ 58 :: t.code) ++ y = _
      simp
    rw [e]
    unfold oneN
    rw [not_base _ (.inr (.inl rfl)), if_neg (by simp), if_neg (by decide), if_pos rfl, cnt_full k _ h.1]
    simp only
    rw [h1]
  | .str s, n, y, h, hn => by
    unfold Ty.size at hn
    obtain ⟨m, rfl⟩ : ∃ m, n = m + 1 := ⟨n - 1, by omega⟩
    have e : (Ty.str s).code ++ y = 83 :: (s ++ 59 :: y) := by
      show 83 :: (s ++ [59]) ++ y = _
      simp
    rw [e]
    unfold oneN
    rw [not_base _ (.inr (.inr (.inl rfl))), if_neg (by simp), if_neg (by decide), if_neg (by decide), if_pos rfl, tag_full s _ h]
  | .fn .nil r, n, y, h, hn => by
    unfold Ty.size at hn
    obtain ⟨m, rfl⟩ : ∃ m, n = m + 1 := ⟨n - 1, by omega⟩
    have h1 := one_full r m y h.2 (by omega)
    have e : (Ty.fn .nil r).code ++ y = 102 :: 40 :: 41 :: (r.code ++ y) := rfl
    rw [e]
    unfold oneN
    rw [not_base _ (.inr (.inr (.inr rfl))), if_neg (by simp), if_neg (by decide), if_neg (by decide), if_neg (by decide), if_pos ⟨rfl, rfl⟩, if_pos (by rfl)]
    simp only [List.drop_succ_cons, List.drop_zero]
    rw [h1]
  | .fn (.cons t ts) r, n, y, h, hn => by
    unfold Ty.size at hn
    obtain ⟨m, rfl⟩ : ∃ m, n = m + 1 := ⟨n - 1, by omega⟩
    have h1 := one_full r m y h.2 (by omega)
    have h2 := lst_full t ts m (r.code ++ y) h.1 (by omega)
    have e : (Ty.fn (.cons t ts) r).code ++ y = 102 :: 40 :: (t.code ++ (ts.code ++ 41 :: (r.code ++ y))) := by
      show 102 :: 40 :: (t.code ++ (ts.code ++ 41 :: r.code)) ++ y = _
      simp
    obtain ⟨c, s, hc, c41, _⟩ := code_head t h.1.1
    have hh : ¬ (List.drop 1 (40 :: (t.code ++ (ts.code ++ 41 :: (r.code ++ y))))).head? = some 41 := by
      rw [hc]
      intro e2
      exact c41 (by simpa using e2)
    rw [e]
    unfold oneN
    rw [not_base _ (.inr (.inr (.inr rfl))), if_neg (by simp), if_neg (by decide), if_neg (by decide), if_neg (by decide), if_pos ⟨rfl, rfl⟩, if_neg hh]
    simp only [List.drop_succ_cons, List.drop_zero]
    rw [h2]
    simp only
    rw [h1]
theorem lst_full : ∀ (t : Ty) (ts : Tys) (n : Nat) (y : List UInt8), (Tys.cons t ts).wf → (Tys.cons t ts).size ≤ n → lstN n (t.code ++ (ts.code ++ 41 :: y)) = some (.cons t ts, y)
  | t, .nil, n, y, h, hn => by
    unfold Tys.size at hn
    obtain ⟨m, rfl⟩ : ∃ m, n = m + 1 := ⟨n - 1, by omega⟩
    have h1 := one_full t m (41 :: y) h.1 (by omega)
    show lstN (m + 1) (t.code ++ 41 :: y) = _
    unfold lstN
    rw [h1]
    simp only
    rw [if_neg (by simp), if_pos (by rfl)]
    rfl
  | t, .cons u us, n, y, h, hn => by
    unfold Tys.size at hn
    obtain ⟨m, rfl⟩ : ∃ m, n = m + 1 := ⟨n - 1, by omega⟩
    have h1 := one_full t m (44 :: (u.code ++ (us.code ++ 41 :: y))) h.1 (by omega)
    have h2 := lst_full u us m y h.2 (by omega)
    have e : t.code ++ ((Tys.cons u us).code ++ 41 :: y) = t.code ++ 44 :: (u.code ++ (us.code ++ 41 :: y)) := by
      show t.code ++ (44 :: (u.code ++ us.code) ++ 41 :: y) = _
      simp
    rw [e]
    unfold lstN
    rw [h1]
    simp only
    rw [if_pos (by rfl)]
    simp only [List.drop_succ_cons, List.drop_zero]
    rw [h2]
end
end Go.Proofs.YtacbjhbiaaieoaaGreatDoor
/-! Plain: a text as a type; what the laws on types ask of it. -/
namespace Go.Proofs.YtacbjhbiaaieoaaGreatDoor
set_option linter.unusedVariables false
set_option linter.unusedSimpArgs false

mutual
theorem size_code : ∀ (t : Ty), t.size ≤ t.code.length
  | .base c => by show 1 ≤ [c].length; simp
  | .ptr t => by
    have := size_code t
    show t.size + 1 ≤ (112 :: t.code).length
    rw [List.length_cons]
    omega
  | .arr n t => by
    have := size_code t
    show t.size + 1 ≤ (97 :: (Lib.decDigits n ++ 58 :: t.code)).length
    rw [List.length_cons, List.length_append, List.length_cons]
    omega
  | .str s => by
    show 1 ≤ (83 :: (s ++ [59])).length
    rw [List.length_cons]
    omega
  | .fn .nil r => by
    have := size_code r
    show 0 + r.size + 2 ≤ (102 :: 40 :: 41 :: r.code).length
    simp only [List.length_cons]
    omega
  | .fn (.cons t ts) r => by
    have h1 := size_code r
    have h2 := size_code t
    have h3 := sizes_code ts
    show t.size + ts.size + 1 + r.size + 2 ≤ (102 :: 40 :: (t.code ++ (ts.code ++ 41 :: r.code))).length
    simp only [List.length_cons, List.length_append]
    omega
theorem sizes_code : ∀ (ts : Tys), ts.size ≤ ts.code.length
  | .nil => by show 0 ≤ _; omega
  | .cons t ts => by
    have h2 := size_code t
    have h3 := sizes_code ts
    show t.size + ts.size + 1 ≤ (44 :: (t.code ++ ts.code)).length
    simp only [List.length_cons, List.length_append]
    omega
end
/-- A text as a type. -/
def tyR (l : List UInt8) : Option Ty :=
  match oneN (l.length + 1) l with
  | some (t, []) => some t
  | _ => none
theorem tyR_some {l : List UInt8} {t : Ty} (h : tyR l = some t) : t.wf ∧ l = t.code := by
  unfold tyR at h
  split at h
  · rename_i t' h1
    cases h
    obtain ⟨a, b⟩ := one_sound _ _ _ _ h1
    exact ⟨a, by rw [b, List.append_nil]⟩
  · cases h
theorem tyR_code {t : Ty} (h : t.wf) : tyR t.code = some t := by
  have := size_code t
  have h1 := one_full t (t.code.length + 1) [] h (by omega)
  rw [List.append_nil] at h1
  unfold tyR
  rw [h1]
theorem code_inj {t u : Ty} (h : t.wf) (h2 : u.wf) (he : t.code = u.code) : t = u := by
  have a := tyR_code h
  have b := tyR_code h2
  rw [he, b] at a
  exact (Option.some.inj a).symm
/-- What stands ahead decides, and behind it may stand what will. -/
theorem one_any {n m : Nat} {r y : List UInt8} {t : Ty} (h : oneN n r = some (t, y)) (hm : t.size ≤ m) (z : List UInt8) : oneN m (t.code ++ z) = some (t, z) :=
  one_full t m z (one_sound _ _ _ _ h).1 hm
/-- More fuel changes nothing. -/
theorem one_more {n m : Nat} {r : List UInt8} {x : Ty × List UInt8} (h : oneN n r = some x) (hm : r.length ≤ m) : oneN m r = some x := by
  obtain ⟨t, y⟩ := x
  obtain ⟨a, b⟩ := one_sound _ _ _ _ h
  have h1 := size_code t
  rw [b, List.length_append] at hm
  rw [b]
  exact one_full t m y a (by omega)
theorem one_none {n m : Nat} {r : List UInt8} (h : oneN n r = none) (hn : r.length ≤ n) : oneN m r = none := by
  cases hm : oneN m r with
  | none => rfl
  | some x =>
    rw [one_more hm hn] at h
    cases h
def isIntC (c : UInt8) : Bool := c == 99 || c == 115 || c == 105 || c == 117
def Ty.letter : Ty → UInt8
  | .base c => c
  | .ptr _ => 112
  | .arr _ _ => 97
  | .str _ => 83
  | .fn _ _ => 102
def Ty.count : Ty → Nat
  | .arr n _ => n
  | _ => 0
def Ty.tag : Ty → List UInt8
  | .str s => s
  | _ => []
def Tys.list : Tys → List Ty
  | .nil => []
  | .cons t ts => t :: ts.list
/-- What a type is made of: of a function its answer last. -/
def Ty.parts : Ty → List Ty
  | .ptr t => [t]
  | .arr _ t => [t]
  | .fn ps r => ps.list ++ [r]
  | _ => []
def Tys.of : List Ty → Tys
  | [] => .nil
  | t :: ts => .cons t (Tys.of ts)
theorem of_list (l : List Ty) : (Tys.of l).list = l := by
  induction l with
  | nil => rfl
  | cons t l ih => show t :: (Tys.of l).list = _; rw [ih]
theorem of_wf (l : List Ty) (h : ∀ t ∈ l, t.wf) : (Tys.of l).wf := by
  induction l with
  | nil => trivial
  | cons t l ih => exact ⟨h t List.mem_cons_self, ih (fun u hu => h u (List.mem_cons_of_mem _ hu))⟩
/-- The code that is put together of a function's parts. -/
def fnCode (l : List (List UInt8)) (r : List UInt8) : List UInt8 := [102, 40] ++ (List.intercalate [44] l) ++ 41 :: r
theorem of_code : ∀ (t : Ty) (l : List Ty), List.intercalate [44] ((t :: l).map Ty.code) = t.code ++ (Tys.of l).code
  | t, [] => by
    show List.intercalate [44] [t.code] = t.code ++ []
    simp [List.intercalate]
  | t, u :: l => by
    have ih := of_code u l
    show List.intercalate [44] (t.code :: (u :: l).map Ty.code) = t.code ++ (44 :: (u.code ++ (Tys.of l).code))
    rw [← ih]
    simp [List.intercalate, List.intersperse]
theorem fn_code (l : List Ty) (r : Ty) : fnCode (l.map Ty.code) r.code = (Ty.fn (Tys.of l) r).code := by
  cases l with
  | nil => rfl
  | cons t l =>
    unfold fnCode
    rw [of_code t l]
    show _ = 102 :: 40 :: (t.code ++ ((Tys.of l).code ++ 41 :: r.code))
    simp
end Go.Proofs.YtacbjhbiaaieoaaGreatDoor
/-! Plain: the reader of types without fuel, step by step. -/
namespace Go.Proofs.YtacbjhbiaaieoaaGreatDoor
set_option linter.unusedVariables false
set_option linter.unusedSimpArgs false

def rd (r : List UInt8) : Option (Ty × List UInt8) := oneN r.length r
def rdL (r : List UInt8) : Option (Tys × List UInt8) := lstN r.length r
theorem rd_fuel {n : Nat} {r : List UInt8} (h : r.length ≤ n) : oneN n r = rd r := by
  unfold rd
  cases hr : oneN r.length r with
  | none => exact one_none hr (Nat.le_refl _)
  | some x => exact one_more hr h
theorem lst_size {n : Nat} {r y : List UInt8} {ps : Tys} (h : lstN n r = some (ps, y)) : ps.size + y.length ≤ r.length := by
  obtain ⟨_, t, ts, rfl, hr⟩ := lst_sound _ _ _ _ h
  have h2 := size_code t
  have h3 := sizes_code ts
  have := congrArg List.length hr
  simp only [List.length_append, List.length_cons] at this
  show t.size + ts.size + 1 + _ ≤ _
  omega
theorem lst_more {n m : Nat} {r : List UInt8} {x : Tys × List UInt8} (h : lstN n r = some x) (hm : r.length ≤ m) : lstN m r = some x := by
  obtain ⟨ps, y⟩ := x
  have hs := lst_size h
  obtain ⟨hw, t, ts, rfl, hr⟩ := lst_sound _ _ _ _ h
  rw [hr]
  exact lst_full t ts m y hw (by omega)
theorem rdL_fuel {n : Nat} {r : List UInt8} (h : r.length ≤ n) : lstN n r = rdL r := by
  unfold rdL
  cases hr : lstN r.length r with
  | some x => exact lst_more hr h
  | none =>
    cases hm : lstN n r with
    | none => rfl
    | some x =>
      rw [lst_more hm (Nat.le_refl _)] at hr
      cases hr
theorem rd_suf {r y : List UInt8} {t : Ty} (h : rd r = some (t, y)) : r = t.code ++ y := (one_sound _ _ _ _ h).2
theorem rd_wf {r y : List UInt8} {t : Ty} (h : rd r = some (t, y)) : t.wf := (one_sound _ _ _ _ h).1
theorem rd_nil : rd [] = none := rfl
theorem rd_base (c : UInt8) (r : List UInt8) (h : baseC c = true) : rd (c :: r) = some (.base c, r) := by
  unfold rd
  rw [List.length_cons]
  unfold oneN
  rw [if_pos h]
theorem rd_ptr (r : List UInt8) : rd (112 :: r) = (rd r).map fun p => (.ptr p.1, p.2) := by
  unfold rd
  rw [List.length_cons]
  conv => lhs; unfold oneN
  rw [not_base _ (.inl rfl), if_neg (by simp), if_pos rfl]
  cases oneN r.length r <;> rfl
theorem cnt_len {r y : List UInt8} {k : Nat} (h : cntP r = some (k, y)) : y.length < r.length := by
  have := congrArg List.length (cnt_eq h).2
  simp only [List.length_append, List.length_cons] at this
  omega
theorem rd_arr (r : List UInt8) : rd (97 :: r) = (cntP r).bind fun p => (rd p.2).map fun q => (.arr p.1 q.1, q.2) := by
  unfold rd
  rw [List.length_cons]
  conv => lhs; unfold oneN
  rw [not_base _ (.inr (.inl rfl)), if_neg (by simp), if_neg (by decide), if_pos rfl]
  cases hc : cntP r with
  | none => rfl
  | some p =>
    obtain ⟨k, r1⟩ := p
    have := cnt_len hc
    simp only [Option.bind_some]
    rw [rd_fuel (show r1.length ≤ r.length by omega)]
    show _ = (rd r1).map _
    cases rd r1 <;> rfl
theorem rd_str (r : List UInt8) : rd (83 :: r) = (tagP r).map fun p => (.str p.1, p.2) := by
  unfold rd
  rw [List.length_cons]
  conv => lhs; unfold oneN
  rw [not_base _ (.inr (.inr (.inl rfl))), if_neg (by simp), if_neg (by decide), if_neg (by decide), if_pos rfl]
  cases tagP r <;> rfl
/-- A function's parameters. -/
def parL (r : List UInt8) : Option (Tys × List UInt8) :=
  if r.head? = some 40 then if (r.drop 1).head? = some 41 then some (.nil, r.drop 2) else rdL (r.drop 1) else none
theorem parL_len {r y : List UInt8} {ps : Tys} (h : parL r = some (ps, y)) : y.length < r.length := by
  unfold parL at h
  split at h
  · rename_i h0
    have e := congrArg List.length (head_drop h0)
    rw [List.length_cons] at e
    split at h
    · cases h
      rw [List.length_drop] at e ⊢
      omega
    · have := lst_size h
      omega
  · cases h
theorem rd_fn (r : List UInt8) : rd (102 :: r) = (parL r).bind fun p => (rd p.2).map fun q => (.fn p.1 q.1, q.2) := by
  unfold rd
  rw [List.length_cons]
  conv => lhs; unfold oneN
  rw [not_base _ (.inr (.inr (.inr rfl))), if_neg (by simp), if_neg (by decide), if_neg (by decide), if_neg (by decide)]
  by_cases h0 : r.head? = some 40
  · rw [if_pos ⟨rfl, h0⟩]
    have e : parL r = if (r.drop 1).head? = some 41 then some (.nil, r.drop 2) else rdL (r.drop 1) := by unfold parL; rw [if_pos h0]
    by_cases h1 : (r.drop 1).head? = some 41
    · rw [if_pos h1]
      rw [if_pos h1] at e
      rw [e]
      simp only [Option.bind_some]
      rw [rd_fuel (show (r.drop 2).length ≤ r.length by rw [List.length_drop]; omega)]
      show _ = (rd (r.drop 2)).map _
      cases rd (r.drop 2) <;> rfl
    · rw [if_neg h1]
      rw [if_neg h1] at e
      rw [rdL_fuel (show (r.drop 1).length ≤ r.length by rw [List.length_drop]; omega), ← e]
      cases hp : parL r with
      | none => rfl
      | some p =>
        obtain ⟨ps, y⟩ := p
        have := parL_len hp
        simp only [Option.bind_some]
        rw [rd_fuel (show y.length ≤ r.length by omega)]
        show _ = (rd y).map _
        cases rd y <;> rfl
  · rw [if_neg (fun h => h0 h.2)]
    have e : parL r = none := by unfold parL; rw [if_neg h0]
    rw [e]
    rfl
theorem rd_none (c : UInt8) (r : List UInt8) (h : baseC c = false) (h1 : c ≠ 112) (h2 : c ≠ 97) (h3 : c ≠ 83) (h4 : c ≠ 102) : rd (c :: r) = none := by
  unfold rd
  rw [List.length_cons]
  unfold oneN
  rw [h, if_neg (by simp), if_neg h1, if_neg h2, if_neg h3, if_neg (fun h => h4 h.1)]
theorem rdL_step (r : List UInt8) : rdL r = (rd r).bind fun p => if p.2.head? = some 44 then (rdL (p.2.drop 1)).map fun q => (.cons p.1 q.1, q.2) else if p.2.head? = some 41 then some (.cons p.1 .nil, p.2.drop 1) else none := by
  rw [← rdL_fuel (show r.length ≤ r.length + 1 by omega)]
  unfold lstN
  rw [rd_fuel (Nat.le_refl _)]
  cases h : rd r with
  | none => rfl
  | some p =>
    obtain ⟨t, r1⟩ := p
    have e := congrArg List.length (rd_suf h)
    rw [List.length_append] at e
    simp only [Option.bind_some]
    by_cases h0 : r1.head? = some 44
    · rw [if_pos h0, if_pos h0, rdL_fuel (show (r1.drop 1).length ≤ r.length by rw [List.length_drop]; omega)]
      cases rdL (r1.drop 1) <;> rfl
    · rw [if_neg h0, if_neg h0]
/-- A text as a type, by the reader. -/
theorem tyR_rd (l : List UInt8) : tyR l = match rd l with
    | some (t, []) => some t
    | _ => none := by
  unfold tyR
  rw [rd_fuel (show l.length ≤ l.length + 1 by omega)]
  all_goals (rcases rd l with _ | ⟨t, _ | ⟨c, y⟩⟩ <;> rfl)
end Go.Proofs.YtacbjhbiaaieoaaGreatDoor
/-! Plain: a text cut at a byte. -/
namespace Go.Proofs.YtacbjhbiaaieoaaGreatDoor
set_option linter.unusedVariables false
set_option linter.unusedSimpArgs false

theorem idx_one (e : UInt8) : ∀ (r : List UInt8), (upTo e r = none ∧ Lib.index r [e] = -1) ∨ ∃ s y, upTo e r = some (s, y) ∧ Lib.index r [e] = s.length
  | [] => .inl ⟨rfl, rfl⟩
  | c :: r => by
    by_cases hc : c = e
    · right
      refine ⟨[], r, by unfold upTo; rw [if_pos hc], ?_⟩
      unfold Lib.index
      rw [if_pos (by subst hc; simp [List.isPrefixOf])]
      rfl
    · have hp : ([e] : List UInt8).isPrefixOf (c :: r) = false := by
        simp [List.isPrefixOf]
        exact fun h => hc h.symm
      rcases idx_one e r with ⟨h1, h2⟩ | ⟨s, y, h1, h2⟩
      · left
        refine ⟨by unfold upTo; rw [if_neg hc, h1]; rfl, ?_⟩
        unfold Lib.index
        rw [hp, if_neg (by simp), h2]
        rfl
      · right
        refine ⟨c :: s, y, by unfold upTo; rw [if_neg hc, h1]; rfl, ?_⟩
        unfold Lib.index
        rw [hp, if_neg (by simp), h2, if_neg (by simp)]
        simp
theorem cut_none {e : UInt8} {r : List UInt8} (h : upTo e r = none) : Lib.cut r [e] = (r, [], false) := by
  rcases idx_one e r with ⟨_, h2⟩ | ⟨s, y, h1, _⟩
  · unfold Lib.cut
    rw [h2, if_neg (by decide)]
  · rw [h] at h1; cases h1
theorem cut_some {e : UInt8} {r s y : List UInt8} (h : upTo e r = some (s, y)) : Lib.cut r [e] = (s, y, true) := by
  rcases idx_one e r with ⟨h1, _⟩ | ⟨s', y', h1, h2⟩
  · rw [h] at h1; cases h1
  · rw [h] at h1
    cases h1
    have hr := upTo_eq _ _ _ _ h
    unfold Lib.cut
    rw [h2, if_pos (by omega), Int.toNat_natCast]
    rw [hr]
    simp
theorem upTo_len {e : UInt8} {r s y : List UInt8} (h : upTo e r = some (s, y)) : s.length + 1 + y.length = r.length := by
  have := congrArg List.length (upTo_eq _ _ _ _ h)
  simp only [List.length_append, List.length_cons] at this
  omega
end Go.Proofs.YtacbjhbiaaieoaaGreatDoor
