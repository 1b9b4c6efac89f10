/-
  Plain: the tokens of a text, told by what is left of it.
-/
import Derived.Test.YtbccabpcljkamaaDoorLexTok
import Derived.Lib.IndexMore
import Derived.Lib.SlTrimSet
import Derived.Lib.ParseIntB
namespace Go.Proofs.YtbccabpcljkamaaDoor
set_option linter.unusedVariables false
set_option linter.unusedSimpArgs false

def blkI (c : Int) : Bool := (decide (9 ≤ c) && decide (c ≤ 13)) || c == 32
def blk8 (c : UInt8) : Bool := blkI c.toNat
/-- Blank: what is left behind it, and does each comment in it end? Modes: 0 between, 1 in a line, 2 in a comment, 3 at a comment's second byte, 4 at its last. -/
def blM : Nat → List UInt8 → List UInt8 → List UInt8 × Bool
  | m, st, [] => if m = 2 then (st, false) else ([], true)
  | 0, st, c :: t => if blk8 c then blM 0 st t else if c = 47 ∧ t.head? = some 47 then blM 1 st t else if c = 47 ∧ t.head? = some 42 then blM 3 (c :: t) t else (c :: t, true)
  | 1, st, c :: t => if c = 10 then blM 0 st t else blM 1 st t
  | 2, st, c :: t => if c = 42 ∧ t.head? = some 47 then blM 4 st t else blM 2 st t
  | 3, st, c :: t => blM 2 st t
  | _ + 4, st, c :: t => blM 0 st t
def blR (r : List UInt8) : List UInt8 × Bool := blM 0 [] r
def hexV (c : UInt8) : Option Nat := if 48 ≤ c.toNat ∧ c.toNat ≤ 57 then some (c.toNat - 48) else if 97 ≤ c.toNat ∧ c.toNat ≤ 102 then some (c.toNat - 87) else if 65 ≤ c.toNat ∧ c.toNat ≤ 70 then some (c.toNat - 55) else none
/-- A number to the base 16, of at most so much. -/
def parse16 (M acc : Nat) : List UInt8 → Lib.NumEnd Nat
  | [] => .ok acc
  | c :: r => match hexV c with
    | none => Lib.NumEnd.syntax
    | some d => if M < acc * 16 + d then .range else parse16 M (acc * 16 + d) r
def parse16B (B : Nat) (l : List UInt8) : Lib.NumEnd Nat := if l = [] then Lib.NumEnd.syntax else parse16 (2 ^ B - 1) 0 l
def numOk : Lib.NumEnd Nat → Option Nat
  | .ok u => some u
  | _ => none
def sizeP (d : List UInt8) : Option Nat :=
  if ([48, 120] : List UInt8).isPrefixOf d || ([48, 88] : List UInt8).isPrefixOf d then numOk (parse16B 32 (d.drop 2))
  else if 1 < d.length ∧ d[0]?.getD 0 = 48 then none else numOk (Lib.parseUintB 32 d)
def trimU (x : List UInt8) : List UInt8 := Lib.trimRightS x [117, 85]
/-- What comes of a token: a fault at what is left there, or a kind, a number, a text, and what is left behind it. -/
inductive Tr where
  | bad (e : Int) (r : List UInt8)
  | ok (k n : Int) (x : List UInt8) (r : List UInt8)
def numT (r : List UInt8) : Tr :=
  match sizeP (trimU (r.takeWhile wrd8)) with
  | none => .bad 73 r
  | some n => if 1 < (r.takeWhile wrd8).length - (trimU (r.takeWhile wrd8)).length then .bad 73 r
    else .ok 3 n (if 2147483648 ≤ n ∨ trimU (r.takeWhile wrd8) ≠ r.takeWhile wrd8 then [117] else []) (r.drop (r.takeWhile wrd8).length)
def wordT (r : List UInt8) : Tr :=
  if keyB (r.takeWhile wrd8) then .ok 2 0 (r.takeWhile wrd8) (r.drop (r.takeWhile wrd8).length) else if 31 < (r.takeWhile wrd8).length then .bad 3 r else .ok 1 0 (r.takeWhile wrd8) (r.drop (r.takeWhile wrd8).length)
def pairP : List UInt8 → Option (UInt8 × List UInt8)
  | a :: b :: t => match hexV a, hexV b with
    | some x, some y => some (UInt8.ofNat (x * 16 + y), t)
    | _, _ => none
  | _ => none
def escP : List UInt8 → Option (UInt8 × List UInt8)
  | [] => none
  | c :: t => if c = 110 then some (10, t) else if c = 116 then some (9, t) else if c = 114 then some (13, t) else if c = 48 then (if t ≠ [] ∧ dig8 (t[0]?.getD 0) then none else some (0, t))
    else if c = 92 ∨ c = 39 ∨ c = 34 then some (c, t) else if c = 120 then pairP t else none
def pieceP (q : UInt8) : List UInt8 → Option (UInt8 × List UInt8)
  | [] => none
  | c :: t => if c = 92 then escP t else if plainI c.toNat q.toNat then some (c, t) else none
inductive Pr where
  | bad (e : Int)
  | ok (l r : List UInt8)
def pcsN (q : UInt8) (most : Nat) : Nat → List UInt8 → List UInt8 → Pr
  | 0, _, _ => .bad 71
  | _ + 1, _, [] => .bad 71
  | n + 1, acc, c :: t => if c = 10 then .bad 71 else if c = q then .ok acc t else
    match pieceP q (c :: t) with
    | none => .bad 72
    | some (b, t') => if acc.length = most then .bad 3 else pcsN q most n (acc ++ [b]) t'
/-- Pieces, from behind a quote up to behind the other one. -/
def pcsR (q : UInt8) (most : Nat) (acc r : List UInt8) : Pr := pcsN q most (r.length + 1) acc r
def i8 (b : UInt8) : Int := if b.toNat < 128 then b.toNat else (b.toNat : Int) - 256
def charT (r : List UInt8) : Tr :=
  match pcsR 39 65536 [] (r.drop 1) with
  | .bad e => .bad e r
  | .ok l t => if l.length = 1 then .ok 3 (i8 (l[0]?.getD 0)) [] t else .bad 72 r
def textsN (first : List UInt8) : Nat → List UInt8 → List UInt8 → Tr
  | 0, _, r => .bad 71 r
  | n + 1, j, r => if r.head? = some 34 then
      match pcsR 34 (4096 - j.length) [] (r.drop 1) with
      | .bad e => .bad e (if e = 3 then first else r)
      | .ok l t => if (blR t).2 then textsN first n (j ++ l) (blR t).1 else .bad 71 (blR t).1
    else .ok 4 0 j r
def textsR (first j r : List UInt8) : Tr := textsN first (r.length + 1) j r
def markT (r : List UInt8) : Tr :=
  match markTab.find? (fun m => m.isPrefixOf r) with
  | none => .bad 70 r
  | some m => .ok 5 0 m (r.drop m.length)
def tokR (r : List UInt8) : Tr :=
  if ltr8 (r[0]?.getD 0) then wordT r else if dig8 (r[0]?.getD 0) then numT r else if r[0]?.getD 0 = 39 then charT r else if r[0]?.getD 0 = 34 then textsR r [] r else markT r
/-- A token: its kind, how much is left where it begins, its number, its text. -/
structure Pt where
  kind : Int
  rest : Nat
  int : Int
  text : List UInt8
inductive Rs where
  | bad (e : Int) (r : List UInt8)
  | ok (L : List Pt)
def tksN : Nat → List Pt → List UInt8 → Rs
  | 0, _, r => .bad 71 r
  | n + 1, L, r => if (blR r).2 then
      if (blR r).1 = [] then .ok L else if L.length = 16384 then .bad 3 (blR r).1 else
      match tokR (blR r).1 with
      | .bad e y => .bad e y
      | .ok k i s y => tksN n (L ++ [⟨k, (blR r).1.length, i, s⟩]) y
    else .bad 71 (blR r).1
/-- All tokens of what is left, behind those that are read. -/
def tksR (L : List Pt) (r : List UInt8) : Rs := tksN (r.length + 1) L r

/- How much is left. -/
theorem blM_suf (r : List UInt8) : ∀ (m : Nat) (st : List UInt8), (blM m st r).1 <:+ r ∨ ((m = 2 ∨ m = 3) ∧ (blM m st r).1 = st) := by
  induction r with
  | nil =>
    intro m st
    unfold blM
    by_cases h : m = 2
    · rw [if_pos h]; exact .inr ⟨.inl h, rfl⟩
    · rw [if_neg h]; exact .inl (List.suffix_refl _)
  | cons c t ih =>
    intro m st
    have hs : t <:+ c :: t := List.suffix_cons _ _
    have h0 : ∀ st, (blM 0 st t).1 <:+ c :: t := fun st => by
      rcases ih 0 st with h | h
      · exact h.trans hs
      · omega
    have h1 : ∀ st, (blM 1 st t).1 <:+ c :: t := fun st => by
      rcases ih 1 st with h | h
      · exact h.trans hs
      · omega
    have h4 : ∀ st, (blM 4 st t).1 <:+ c :: t := fun st => by
      rcases ih 4 st with h | h
      · exact h.trans hs
      · omega
    have h2 : ∀ st, (blM 2 st t).1 <:+ c :: t ∨ (blM 2 st t).1 = st := fun st => by
      rcases ih 2 st with h | h
      · exact .inl (h.trans hs)
      · exact .inr h.2
    have h3 : (blM 3 (c :: t) t).1 <:+ c :: t := by
      rcases ih 3 (c :: t) with h | h
      · exact h.trans hs
      · rw [h.2]; exact List.suffix_refl _
    match m with
    | 0 =>
      unfold blM
      split
      · exact .inl (h0 st)
      · split
        · exact .inl (h1 st)
        · split
          · exact .inl h3
          · exact .inl (List.suffix_refl _)
    | 1 =>
      unfold blM
      split
      · exact .inl (h0 st)
      · exact .inl (h1 st)
    | 2 =>
      unfold blM
      split
      · exact .inl (h4 st)
      · rcases h2 st with h | h
        · exact .inl h
        · exact .inr ⟨.inl rfl, h⟩
    | 3 =>
      unfold blM
      rcases h2 st with h | h
      · exact .inl h
      · exact .inr ⟨.inr rfl, h⟩
    | n + 4 =>
      unfold blM
      exact .inl (h0 st)
theorem blR_suf (r : List UInt8) : (blR r).1 <:+ r := by
  rcases blM_suf r 0 [] with h | h
  · exact h
  · omega
theorem blM_st : ∀ (r : List UInt8) (m : Nat) (st st' : List UInt8), m = 0 ∨ m = 1 ∨ 4 ≤ m → blM m st r = blM m st' r
  | [], m, st, st', h => by unfold blM; rw [if_neg (by omega), if_neg (by omega)]
  | c :: t, m, st, st', h => by
    match m, h with
    | 0, _ =>
      unfold blM
      rw [blM_st t 0 st st' (.inl rfl), blM_st t 1 st st' (.inr (.inl rfl))]
    | 1, _ =>
      unfold blM
      rw [blM_st t 0 st st' (.inl rfl), blM_st t 1 st st' (.inr (.inl rfl))]
    | n + 4, _ =>
      unfold blM
      rw [blM_st t 0 st st' (.inl rfl)]
    | 2, h => omega
    | 3, h => omega
theorem blR_nil : blR [] = ([], true) := rfl
theorem blR_blank (c : UInt8) (t : List UInt8) (h : blk8 c = true) : blR (c :: t) = blR t := by
  unfold blR
  conv => lhs; unfold blM
  rw [if_pos h]
theorem blM_line : ∀ (t : List UInt8), blM 1 [] t = blR (t.drop (Lib.cut t [10]).1.length)
  | [] => rfl
  | c :: t => by
    have ih := blM_line t
    have hge := Lib.index_ge t [10]
    by_cases hc : c = 10
    · subst hc
      have e : (Lib.cut (10 :: t) [10]).1 = [] := by
        unfold Lib.cut Lib.index
        simp [List.isPrefixOf]
      rw [e]
      show blM 1 [] (10 :: t) = blR (10 :: t)
      rw [blR_blank 10 t (by decide)]
      unfold blM
      rw [if_pos rfl]
      rfl
    · have e : (Lib.cut (c :: t) [10]).1 = c :: (Lib.cut t [10]).1 := by
        unfold Lib.cut
        conv => lhs; unfold Lib.index
        have hp : ([10] : List UInt8).isPrefixOf (c :: t) = false := by simp [List.isPrefixOf]; exact fun h => hc h.symm
        rw [hp]
        by_cases hi : Lib.index t [10] = -1
        · simp [hi]
        · have h0 : 0 ≤ Lib.index t [10] := by omega
          have h1 : (Lib.index t [10] + 1).toNat = (Lib.index t [10]).toNat + 1 := by omega
          have hb : (Lib.index t [10] == -1) = false := by simp [hi]
          rw [hb, if_pos h0]
          simp only [Bool.false_eq_true, if_false]
          rw [if_pos (by omega), h1]
          rfl
      rw [e]
      show _ = blR (t.drop (Lib.cut t [10]).1.length)
      rw [← ih]
      conv => lhs; unfold blM
      rw [if_neg hc]
theorem blM_long : ∀ (t st : List UInt8), blM 2 st t = if 0 ≤ Lib.index t [42, 47] then blR (t.drop ((Lib.index t [42, 47]).toNat + 2)) else (st, false)
  | [], st => rfl
  | c :: t, st => by
    have ih := blM_long t st
    have hge := Lib.index_ge t [42, 47]
    by_cases hc : c = 42 ∧ t.head? = some 47
    · obtain ⟨rfl, h2⟩ := hc
      cases t with
      | nil => cases h2
      | cons d t =>
        simp at h2
        subst h2
        have e : Lib.index (42 :: 47 :: t) [42, 47] = 0 := by unfold Lib.index; simp [List.isPrefixOf]
        rw [e]
        rw [if_pos (Int.le_refl _)]
        show _ = blR t
        unfold blM
        rw [if_pos ⟨rfl, rfl⟩]
        show blM 0 st t = _
        exact blM_st t 0 st [] (.inl rfl)
    · have hp : ([42, 47] : List UInt8).isPrefixOf (c :: t) = false := by
        rw [Bool.eq_false_iff]
        intro h
        apply hc
        cases t with
        | nil => simp [List.isPrefixOf] at h
        | cons d t => simp [List.isPrefixOf] at h; exact ⟨h.1.symm, by simp [h.2.symm]⟩
      conv => lhs; unfold blM
      rw [if_neg hc, ih]
      have e : Lib.index (c :: t) [42, 47] = if Lib.index t [42, 47] == -1 then -1 else Lib.index t [42, 47] + 1 := by
        conv => lhs; unfold Lib.index
        rw [hp]
        rfl
      rw [e]
      by_cases hi : Lib.index t [42, 47] = -1
      · rw [hi]; rfl
      · have hb : (Lib.index t [42, 47] == -1) = false := by simp [hi]
        rw [hb]
        have h1 : (Lib.index t [42, 47] + 1).toNat = (Lib.index t [42, 47]).toNat + 1 := by omega
        rw [if_pos (by omega)]
        simp only [Bool.false_eq_true, if_false]
        rw [if_pos (by omega), h1]
        rfl
theorem blR_line (t : List UInt8) : blR (47 :: 47 :: t) = blR ((47 :: 47 :: t).drop (Lib.cut (47 :: 47 :: t) [10]).1.length) := by
  have e1 : blR (47 :: 47 :: t) = blM 1 [] (47 :: t) := by
    unfold blR
    conv => lhs; unfold blM
    rw [if_neg (by decide), if_pos ⟨rfl, rfl⟩]
  have e2 : blM 1 [] (47 :: 47 :: t) = blM 1 [] (47 :: t) := by
    conv => lhs; unfold blM
    rw [if_neg (by decide)]
  rw [e1, ← e2, blM_line]
theorem blR_long (t : List UInt8) : blR (47 :: 42 :: t) = if 0 ≤ Lib.index t [42, 47] then blR (t.drop ((Lib.index t [42, 47]).toNat + 2)) else (47 :: 42 :: t, false) := by
  have e1 : blR (47 :: 42 :: t) = blM 2 (47 :: 42 :: t) t := by
    unfold blR
    conv => lhs; unfold blM
    rw [if_neg (by decide), if_neg (by simp), if_pos ⟨rfl, rfl⟩]
    rfl
  rw [e1, blM_long]
theorem blR_stop (c : UInt8) (t : List UInt8) (h : blk8 c = false) (h1 : ¬ (c = 47 ∧ t.head? = some 47)) (h2 : ¬ (c = 47 ∧ t.head? = some 42)) : blR (c :: t) = (c :: t, true) := by
  unfold blR blM
  rw [if_neg (by simp [h]), if_neg h1, if_neg h2]
/-- Behind blank stands nothing, or what is no blank. -/
theorem pair_suf {t t' : List UInt8} {b : UInt8} (h : pairP t = some (b, t')) : t' <:+ t ∧ t'.length < t.length := by
  unfold pairP at h
  split at h
  · split at h
    · injection h with h
      injection h with _ h
      rw [← h]
      exact ⟨⟨[_, _], rfl⟩, by simp only [List.length_cons]; omega⟩
    · cases h
  · cases h
theorem esc_suf {t t' : List UInt8} {b : UInt8} (h : escP t = some (b, t')) : t' <:+ t ∧ t'.length < t.length := by
  unfold escP at h
  split at h
  · cases h
  · rename_i c t
    have hs : ∀ x, some (x, t) = some (b, t') → t' <:+ c :: t ∧ t'.length < (c :: t).length := by
      intro x hx
      simp at hx
      rw [← hx.2]
      exact ⟨List.suffix_cons _ _, by simp⟩
    (repeat' split at h) <;> first | exact hs _ h | (cases h; done) | skip
    obtain ⟨h1, h2⟩ := pair_suf h
    exact ⟨h1.trans (List.suffix_cons _ _), by simp; omega⟩
theorem piece_suf {q : UInt8} {t t' : List UInt8} {b : UInt8} (h : pieceP q t = some (b, t')) : t' <:+ t ∧ t'.length < t.length := by
  unfold pieceP at h
  split at h
  · cases h
  · rename_i c t
    split at h
    · obtain ⟨h1, h2⟩ := esc_suf h
      exact ⟨h1.trans (List.suffix_cons _ _), by simp; omega⟩
    · split at h
      · simp at h
        rw [← h.2]
        exact ⟨List.suffix_cons _ _, by simp⟩
      · cases h
theorem pcsN_fuel (q : UInt8) (most : Nat) : ∀ (n m : Nat) (acc r : List UInt8), r.length < n → r.length < m → pcsN q most n acc r = pcsN q most m acc r
  | 0, _, _, r, h, _ => by omega
  | _, 0, _, r, _, h => by omega
  | n + 1, m + 1, acc, [], _, _ => by unfold pcsN; rfl
  | n + 1, m + 1, acc, c :: t, hn, hm => by
    unfold pcsN
    split
    · rfl
    · split
      · rfl
      · split
        · rfl
        · rename_i b t' hp
          split
          · rfl
          · have := (piece_suf hp).2
            exact pcsN_fuel q most n m _ _ (by omega) (by omega)
theorem pcsR_nil (q : UInt8) (most : Nat) (acc : List UInt8) : pcsR q most acc [] = .bad 71 := rfl
theorem pcsR_cons (q : UInt8) (most : Nat) (acc : List UInt8) (c : UInt8) (t : List UInt8) : pcsR q most acc (c :: t) = if c = 10 then .bad 71 else if c = q then .ok acc t else
    match pieceP q (c :: t) with
    | none => .bad 72
    | some (b, t') => if acc.length = most then .bad 3 else pcsR q most (acc ++ [b]) t' := by
  unfold pcsR
  conv => lhs; unfold pcsN
  split
  · rfl
  · split
    · rfl
    · split
      · first | rfl | (rename_i hp; rw [hp])
      · rename_i b t' hp
        try rw [hp]
        try simp only
        split
        · rfl
        · have := (piece_suf hp).2
          exact pcsN_fuel q most _ _ _ _ (by omega) (by omega)
theorem pcsN_suf (q : UInt8) (most : Nat) : ∀ (n : Nat) (acc r l t : List UInt8), pcsN q most n acc r = .ok l t → t <:+ r ∧ t.length < r.length
  | 0, _, _, _, _, h => by cases h
  | n + 1, acc, [], l, t, h => by cases h
  | n + 1, acc, c :: s, l, t, h => by
    unfold pcsN at h
    split at h
    · cases h
    · split at h
      · cases h; exact ⟨List.suffix_cons _ _, by simp⟩
      · split at h
        · cases h
        · rename_i b t' hp
          split at h
          · cases h
          · obtain ⟨h1, h2⟩ := pcsN_suf q most n _ _ _ _ h
            obtain ⟨h3, h4⟩ := piece_suf hp
            exact ⟨h1.trans h3, by omega⟩
theorem pcsR_suf {q : UInt8} {most : Nat} {acc r l t : List UInt8} (h : pcsR q most acc r = .ok l t) : t <:+ r ∧ t.length < r.length := pcsN_suf _ _ _ _ _ _ _ h
theorem pcsN_len (q : UInt8) (most : Nat) : ∀ (n : Nat) (acc r l t : List UInt8), acc.length ≤ most → pcsN q most n acc r = .ok l t → l.length ≤ most
  | 0, _, _, _, _, _, h => by cases h
  | n + 1, acc, [], l, t, _, h => by cases h
  | n + 1, acc, c :: s, l, t, ha, h => by
    unfold pcsN at h
    split at h
    · cases h
    · split at h
      · cases h; exact ha
      · split at h
        · cases h
        · split at h
          · cases h
          · exact pcsN_len q most n _ _ _ _ (by simp; omega) h
theorem pcsR_len {q : UInt8} {most : Nat} {acc r l t : List UInt8} (ha : acc.length ≤ most) (h : pcsR q most acc r = .ok l t) : l.length ≤ most := pcsN_len _ _ _ _ _ _ _ ha h
theorem textsN_fuel (first : List UInt8) : ∀ (n m : Nat) (j r : List UInt8), r.length < n → r.length < m → textsN first n j r = textsN first m j r
  | 0, _, _, r, h, _ => by omega
  | _, 0, _, r, _, h => by omega
  | n + 1, m + 1, j, r, hn, hm => by
    unfold textsN
    split
    · rename_i hr
      split
      · rfl
      · rename_i l t hp
        split
        · have h1 := (pcsR_suf hp).2
          have h2 := (blR_suf t).length_le
          have h3 : (r.drop 1).length ≤ r.length := by simp
          exact textsN_fuel first n m _ _ (by omega) (by omega)
        · rfl
    · rfl
theorem textsR_step (first j r : List UInt8) : textsR first j r = if r.head? = some 34 then
      match pcsR 34 (4096 - j.length) [] (r.drop 1) with
      | .bad e => .bad e (if e = 3 then first else r)
      | .ok l t => if (blR t).2 then textsR first (j ++ l) (blR t).1 else .bad 71 (blR t).1
    else .ok 4 0 j r := by
  unfold textsR
  conv => lhs; unfold textsN
  split
  · split
    · first | rfl | (rename_i hp; rw [hp])
    · rename_i l t hp
      try rw [hp]
      try simp only
      split
      · have h1 := (pcsR_suf hp).2
        have h2 := (blR_suf t).length_le
        have h3 : (r.drop 1).length ≤ r.length := by simp
        exact textsN_fuel first _ _ _ _ (by omega) (by omega)
      · rfl
  · rfl
theorem textsN_suf (first : List UInt8) : ∀ (n : Nat) (j r : List UInt8) (k i : Int) (x y : List UInt8), textsN first n j r = .ok k i x y → y <:+ r ∧ (r.head? = some 34 → y.length < r.length) ∧ k = 4 ∧ i = 0
  | 0, _, _, _, _, _, _, h => by cases h
  | n + 1, j, r, k, i, x, y, h => by
    unfold textsN at h
    split at h
    · rename_i hr
      split at h
      · cases h
      · rename_i l t hp
        split at h
        · obtain ⟨h1, h2⟩ := pcsR_suf hp
          have h3 := blR_suf t
          obtain ⟨h4, h5, h6⟩ := textsN_suf first n _ _ _ _ _ _ h
          have h7 : r.drop 1 <:+ r := List.drop_suffix _ _
          have := h4.length_le
          have := h3.length_le
          have := h7.length_le
          exact ⟨((h4.trans h3).trans h1).trans h7, fun _ => by omega, h6⟩
        · cases h
    · rename_i hr
      cases h
      exact ⟨List.suffix_refl _, fun h => absurd h hr, rfl, rfl⟩
theorem run_pos (r : List UInt8) (h : wrd8 (r[0]?.getD 0) = true) (hr : r ≠ []) : 0 < (r.takeWhile wrd8).length := by
  cases r with
  | nil => exact absurd rfl hr
  | cons c t =>
    simp at h
    rw [List.takeWhile_cons, if_pos h]
    simp
theorem tok_suf {r y x : List UInt8} {k i : Int} (hr : r ≠ []) (h : tokR r = .ok k i x y) : y <:+ r ∧ y.length < r.length := by
  have hl : 0 < r.length := List.length_pos_iff.2 hr
  have hd : ∀ n, 0 < n → r.drop n <:+ r ∧ (r.drop n).length < r.length := fun n hn => ⟨List.drop_suffix _ _, by rw [List.length_drop]; omega⟩
  unfold tokR at h
  split at h
  · rename_i h1
    have hp := run_pos r (by unfold wrd8; rw [h1]; rfl) hr
    unfold wordT at h
    split at h
    · cases h; exact hd _ hp
    · split at h
      · cases h
      · cases h; exact hd _ hp
  · split at h
    · rename_i h1
      have hp := run_pos r (by unfold wrd8; rw [h1]; simp) hr
      unfold numT at h
      split at h
      · cases h
      · split at h
        · cases h
        · cases h; exact hd _ hp
    · split at h
      · unfold charT at h
        split at h
        · cases h
        · rename_i l t hp
          split at h
          · cases h
            obtain ⟨h1, h2⟩ := pcsR_suf hp
            obtain ⟨h3, h4⟩ := hd 1 (by omega)
            exact ⟨h1.trans h3, by omega⟩
          · cases h
      · split at h
        · rename_i h1
          have hh : r.head? = some 34 := by
            cases r with
            | nil => exact absurd rfl hr
            | cons c t => simpa using h1
          obtain ⟨h2, h3, _⟩ := textsN_suf _ _ _ _ _ _ _ _ h
          exact ⟨h2, h3 hh⟩
        · unfold markT at h
          split at h
          · cases h
          · rename_i m hm
            cases h
            have h1 := List.mem_of_find?_eq_some hm
            have h2 : ∀ s ∈ markTab, 0 < s.length := by decide
            exact hd _ (h2 _ h1)
theorem tksN_fuel : ∀ (n m : Nat) (L : List Pt) (r : List UInt8), r.length < n → r.length < m → tksN n L r = tksN m L r
  | 0, _, _, r, h, _ => by omega
  | _, 0, _, r, _, h => by omega
  | n + 1, m + 1, L, r, hn, hm => by
    unfold tksN
    split
    · split
      · rfl
      · rename_i hne
        split
        · rfl
        · split
          · rfl
          · rename_i k i s y ht
            have h1 := (tok_suf hne ht).2
            have h2 := (blR_suf r).length_le
            exact tksN_fuel n m _ _ (by omega) (by omega)
    · rfl
theorem tksR_step (L : List Pt) (r : List UInt8) : tksR L r = if (blR r).2 then
      if (blR r).1 = [] then .ok L else if L.length = 16384 then .bad 3 (blR r).1 else
      match tokR (blR r).1 with
      | .bad e y => .bad e y
      | .ok k i s y => tksR (L ++ [⟨k, (blR r).1.length, i, s⟩]) y
    else .bad 71 (blR r).1 := by
  unfold tksR
  conv => lhs; unfold tksN
  split
  · split
    · rfl
    · rename_i hne
      split
      · rfl
      · split
        · first | rfl | (rename_i ht; rw [ht])
        · rename_i k i s y ht
          try rw [ht]
          try simp only
          have h1 := (tok_suf hne ht).2
          have h2 := (blR_suf r).length_le
          exact tksN_fuel _ _ _ _ (by omega) (by omega)
  · rfl
end Go.Proofs.YtbccabpcljkamaaDoor
