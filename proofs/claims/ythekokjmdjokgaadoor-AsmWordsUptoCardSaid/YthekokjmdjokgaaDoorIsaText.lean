
/-
  Texts of instructions, as plain lists of bytes: what is read of a text, and that what is printed is read as it was. No walk.
-/
import Derived.Test.YthekokjmdjokgaaDoorIsaPrint2
import Derived.Lib.Index
import Derived.Lib.IndexMore
import Derived.Lib.Atoi
import Derived.Lib.AtoiAll
import Derived.Lib.AtoiTie
import Derived.Lib.Strings
namespace Go.Proofs.YthekokjmdjokgaaDoor
set_option linter.unusedVariables false
set_option linter.unusedSimpArgs false

/-- The number that a text's first part ends with, and the text behind it. -/
@[irreducible] def numV (s : List UInt8) : Int := match Lib.atoiAll (Lib.trimPrefix (Lib.cut s [32]).1 [114]) with
  | .ok v => v
  | _ => 0
def numR (s : List UInt8) : List UInt8 := (Lib.cut s [32]).2.1
@[irreducible] def opL (l : List UInt8) : Int := ((((List.range 43).drop 1).find? fun (k : Nat) => nm (k : Int) == l).map fun (k : Nat) => (k : Int)).getD 0
/-- A head, and parts behind it, each behind a blank. -/
def joinSp (h : List UInt8) (ts : List (List UInt8)) : List UInt8 := h ++ (ts.map fun t => 32 :: t).flatten
theorem index_sp : ∀ (a r : List UInt8), (∀ c ∈ a, c ≠ 32) → Lib.index (a ++ 32 :: r) [32] = a.length
  | [], r, _ => by
    rw [List.nil_append, Lib.index, if_pos (by simp [List.isPrefixOf])]
    rfl
  | b :: l, r, h => by
    have hb : b ≠ 32 := h b (by simp)
    have ih := index_sp l r (fun c hc => h c (by simp [hc]))
    have hp : ([32] : List UInt8).isPrefixOf (b :: (l ++ 32 :: r)) = false := by simp [List.isPrefixOf, hb.symm]
    rw [List.cons_append, Lib.index, hp]
    simp only [Bool.false_eq_true, if_false]
    rw [ih, if_neg (by simp)]
    simp
theorem index_no : ∀ (a : List UInt8), (∀ c ∈ a, c ≠ 32) → Lib.index a [32] = -1
  | [], _ => by simp [Lib.index]
  | b :: l, h => by
    have hb : b ≠ 32 := h b (by simp)
    have ih := index_no l (fun c hc => h c (by simp [hc]))
    have hp : ([32] : List UInt8).isPrefixOf (b :: l) = false := by simp [List.isPrefixOf, hb.symm]
    rw [Lib.index, hp]
    simp only [Bool.false_eq_true, if_false]
    rw [ih]
    rfl
theorem cut_sp (a r : List UInt8) (h : ∀ c ∈ a, c ≠ 32) : Lib.cut (a ++ 32 :: r) [32] = (a, r, true) := by
  unfold Lib.cut
  rw [index_sp a r h, if_pos (by omega)]
  simp
theorem cut_no (a : List UInt8) (h : ∀ c ∈ a, c ≠ 32) : Lib.cut a [32] = (a, [], false) := by
  unfold Lib.cut
  rw [index_no a h, if_neg (by decide)]
theorem join_cons (h t : List UInt8) (ts : List (List UInt8)) : joinSp h (t :: ts) = h ++ 32 :: joinSp t ts := by simp [joinSp]
theorem join_nil (h : List UInt8) : joinSp h [] = h := by simp [joinSp]
theorem cut_join (h t : List UInt8) (ts : List (List UInt8)) (hh : ∀ c ∈ h, c ≠ 32) : Lib.cut (joinSp h (t :: ts)) [32] = (h, joinSp t ts, true) := by rw [join_cons, cut_sp _ _ hh]
theorem cut_end (h : List UInt8) (hh : ∀ c ∈ h, c ≠ 32) : Lib.cut (joinSp h []) [32] = (h, [], false) := by rw [join_nil, cut_no _ hh]

/-! ### Digits -/
theorem u8_of (k : Nat) (h : k < 10) : (UInt8.ofNat (48 + k)).toNat = 48 + k := by
  rw [UInt8.toNat_ofNat']
  omega
theorem digits_bd : ∀ (n u : Nat), u ≤ n → ∀ c ∈ Lib.decDigits u, 48 ≤ c.toNat ∧ c.toNat ≤ 57
  | 0, u, hu, c, hc => by
    rw [Lib.decDigits, dif_pos (by omega)] at hc
    simp only [List.mem_singleton] at hc
    rw [hc, u8_of _ (by omega)]
    omega
  | n + 1, u, hu, c, hc => by
    rw [Lib.decDigits] at hc
    split at hc
    · simp only [List.mem_singleton] at hc
      rw [hc, u8_of _ (by omega)]
      omega
    · rcases List.mem_append.1 hc with h | h
      · exact digits_bd n (u / 10) (by omega) c h
      · simp only [List.mem_singleton] at h
        rw [h, u8_of _ (by omega)]
        omega
theorem digits_ne : ∀ u, Lib.decDigits u ≠ [] := by
  intro u
  rw [Lib.decDigits]
  split <;> simp
theorem decFrom_append : ∀ (l m : List UInt8) (acc n : Nat), Lib.decFrom acc l = some n → Lib.decFrom acc (l ++ m) = Lib.decFrom n m
  | [], m, acc, n, h => by
    simp only [Lib.decFrom, Option.some.injEq] at h
    rw [h, List.nil_append]
  | b :: r, m, acc, n, h => by
    rw [List.cons_append, Lib.decFrom]
    rw [Lib.decFrom] at h
    cases hd : Lib.digitVal b with
    | none => rw [hd] at h; cases h
    | some d =>
      rw [hd] at h
      exact decFrom_append r m _ n h
theorem dec_one (acc k : Nat) (h : k < 10) : Lib.decFrom acc [UInt8.ofNat (48 + k)] = some (acc * 10 + k) := by
  unfold Lib.decFrom Lib.digitVal
  rw [u8_of k h, if_pos (by omega)]
  simp [Lib.decFrom]
theorem decFrom_digits : ∀ (n u : Nat), u ≤ n → Lib.decFrom 0 (Lib.decDigits u) = some u
  | 0, u, hu => by
    rw [Lib.decDigits, dif_pos (by omega), dec_one 0 u (by omega)]
    simp
  | n + 1, u, hu => by
    rw [Lib.decDigits]
    split
    · rw [dec_one 0 u (by omega)]
      simp
    · rw [decFrom_append _ _ 0 (u / 10) (decFrom_digits n (u / 10) (by omega)), dec_one _ _ (by omega)]
      congr 1
      omega
theorem decNat_digits (u : Nat) : Lib.decNat (Lib.decDigits u) = some u := by
  unfold Lib.decNat
  rw [if_neg (by simpa using digits_ne u)]
  exact decFrom_digits u u (Nat.le_refl _)
theorem atoi_itoa (n : Int) : Lib.atoi (Lib.itoa n) = some n := by
  unfold Lib.itoa
  split
  · simp only [Lib.atoi, decNat_digits]
    simp
    omega
  · have hne := digits_ne n.toNat
    have hb := digits_bd n.toNat n.toNat (Nat.le_refl _)
    have hd := decNat_digits n.toNat
    cases hl : Lib.decDigits n.toNat with
    | nil => exact absurd hl hne
    | cons c r =>
      rw [hl] at hb hd
      have hc := hb c (by simp)
      have h1 : (c == 45) = false := by
        rw [beq_eq_false_iff_ne]
        intro e
        rw [e] at hc
        exact absurd hc.1 (by decide)
      have h2 : (c == 43) = false := by
        rw [beq_eq_false_iff_ne]
        intro e
        rw [e] at hc
        exact absurd hc.1 (by decide)
      simp only [Lib.atoi, h1, h2, Bool.false_eq_true, if_false, hd]
      simp
      omega
theorem itoa_chars (n : Int) : ∀ c ∈ Lib.itoa n, c = 45 ∨ (48 ≤ c.toNat ∧ c.toNat ≤ 57) := by
  unfold Lib.itoa
  intro c hc
  split at hc
  · rcases List.mem_cons.1 hc with h | h
    · exact .inl h
    · exact .inr (digits_bd _ _ (Nat.le_refl _) c h)
  · exact .inr (digits_bd _ _ (Nat.le_refl _) c hc)
theorem itoa_no (n : Int) (k : UInt8) (hk : k = 32 ∨ k = 114) : ∀ c ∈ Lib.itoa n, c ≠ k := by
  intro c hc e
  rcases itoa_chars n c hc with h | h
  · rw [e] at h
    rcases hk with rfl | rfl <;> cases h
  · rw [e] at h
    rcases hk with rfl | rfl
    · exact absurd h.1 (by decide)
    · exact absurd h.2 (by decide)
theorem atoiAll_itoa (n : Int) (h0 : -10000000 < n) (h1 : n < 10000000) : Lib.atoiAll (Lib.itoa n) = .ok n := by
  rw [Lib.atoiAll_short _ (by have := itoa_len n h0 h1; omega), atoi_itoa]
  rfl
theorem trim_reg (n : Int) : Lib.trimPrefix (114 :: Lib.itoa n) [114] = Lib.itoa n := by
  unfold Lib.trimPrefix Lib.hasPrefix
  simp
theorem trim_imm (n : Int) : Lib.trimPrefix (Lib.itoa n) [114] = Lib.itoa n := by
  unfold Lib.trimPrefix Lib.hasPrefix
  cases hl : Lib.itoa n with
  | nil => simp
  | cons c r =>
    have hc : c ≠ 114 := itoa_no n 114 (.inr rfl) c (by rw [hl]; simp)
    simp [hc.symm]
theorem reg_no (n : Int) : ∀ c ∈ (114 :: Lib.itoa n : List UInt8), c ≠ 32 := by
  intro c hc
  rcases List.mem_cons.1 hc with h | h
  · rw [h]; decide
  · exact itoa_no n 32 (.inl rfl) c h
theorem num_reg (n : Int) (ts : List (List UInt8)) (h0 : -10000000 < n) (h1 : n < 10000000) : numV (joinSp (114 :: Lib.itoa n) ts) = n := by
  unfold numV
  cases ts with
  | nil => rw [cut_end _ (reg_no n)]; simp only []; rw [trim_reg, atoiAll_itoa n h0 h1]
  | cons t ts => rw [cut_join _ _ _ (reg_no n)]; simp only []; rw [trim_reg, atoiAll_itoa n h0 h1]
theorem num_imm (n : Int) (ts : List (List UInt8)) (h0 : -10000000 < n) (h1 : n < 10000000) : numV (joinSp (Lib.itoa n) ts) = n := by
  unfold numV
  cases ts with
  | nil => rw [cut_end _ (itoa_no n 32 (.inl rfl))]; simp only []; rw [trim_imm, atoiAll_itoa n h0 h1]
  | cons t ts => rw [cut_join _ _ _ (itoa_no n 32 (.inl rfl))]; simp only []; rw [trim_imm, atoiAll_itoa n h0 h1]
theorem numR_reg (n : Int) (t : List UInt8) (ts : List (List UInt8)) : numR (joinSp (114 :: Lib.itoa n) (t :: ts)) = joinSp t ts := by unfold numR; rw [cut_join _ _ _ (reg_no n)]

/-! ### What is read of a text -/
def tOp (s : List UInt8) : Int := opL (Lib.cut s [32]).1
def r1L (s : List UInt8) : List UInt8 := if lD (formI (tOp s)) then numR (numR s) else numR s
def r2L (s : List UInt8) : List UInt8 := if lA (formI (tOp s)) then numR (r1L s) else r1L s
def r3L (s : List UInt8) : List UInt8 := if lB (formI (tOp s)) then numR (r2L s) else r2L s
def tD (s : List UInt8) : Int := if lD (formI (tOp s)) then numV (numR s) else 0
def tA (s : List UInt8) : Int := if lA (formI (tOp s)) then numV (r1L s) else 0
def tB (s : List UInt8) : Int := if lB (formI (tOp s)) then numV (r2L s) else 0
def tI (s : List UInt8) : Int := if lBits (formI (tOp s)) > 0 then numV (r3L s) else 0
@[irreducible] def toks (f d a b i : Int) : List (List UInt8) := (if lD f then [114 :: Lib.itoa d] else []) ++ (if lA f then [114 :: Lib.itoa a] else []) ++ (if lB f then [114 :: Lib.itoa b] else []) ++ (if lBits f > 0 then [Lib.itoa i] else [])
theorem pr_join (op d a b i : Int) : prL op d a b i = joinSp (nm op) (toks (formI op) d a b i) := by
  rw [pr_eq]
  unfold joinSp toks
  cases lD (formI op) <;> cases lA (formI op) <;> cases lB (formI op) <;> by_cases h : lBits (formI op) > 0 <;> simp [h]
theorem nm_no (op : Int) : ∀ c ∈ nm op, c ≠ 32 := by
  unfold nm
  by_cases h : op.toNat < 43
  · have : ∀ k : Fin 43, ∀ c ∈ (nmTab[k.val]?).getD [], c ≠ 32 := by decide +kernel
    exact this ⟨op.toNat, h⟩
  · rw [List.getElem?_eq_none (by show nmTab.length ≤ _; show 43 ≤ _; omega)]
    simp
theorem op_nm0 : ∀ k : Fin 43, 1 ≤ k.val → opL (nm (k.val : Int)) = k.val := by
  unfold opL nm
  decide +kernel
theorem op_nm (op : Int) (h0 : 1 ≤ op) (h1 : op ≤ 42) : opL (nm op) = op := by
  have h := op_nm0 ⟨op.toNat, by omega⟩ (by show 1 ≤ op.toNat; omega)
  have e : ((op.toNat : Nat) : Int) = op := by omega
  simpa [e] using h
theorem cut_head (h : List UInt8) (ts : List (List UInt8)) (hh : ∀ c ∈ h, c ≠ 32) : (Lib.cut (joinSp h ts) [32]).1 = h := by
  cases ts with
  | nil => rw [cut_end _ hh]
  | cons t ts => rw [cut_join _ _ _ hh]
theorem numR_nm (op : Int) (t : List UInt8) (ts : List (List UInt8)) : numR (joinSp (nm op) (t :: ts)) = joinSp t ts := by unfold numR; rw [cut_join _ _ _ (nm_no op)]
theorem txt_back (op d a b i : Int) (h : chkB op d a b i = true) : tOp (prL op d a b i) = op ∧ tD (prL op d a b i) = d ∧ tA (prL op d a b i) = a ∧ tB (prL op d a b i) = b ∧ tI (prL op d a b i) = i := by
  obtain ⟨hf, hd, ha, hb, hi⟩ := chk_parts op d a b i h
  obtain ⟨k1, k2, k3, k4, k5⟩ := chk_bd op d a b i h
  have ⟨f0, f1⟩ := formI_bd op
  have hop := formI_op op hf
  rw [pr_join]
  have e0 : tOp (joinSp (nm op) (toks (formI op) d a b i)) = op := by
    unfold tOp
    rw [cut_head _ _ (nm_no op), op_nm op hop.1 hop.2]
  refine ⟨e0, ?_⟩
  unfold tD tA tB tI r3L r2L r1L
  rw [e0]
  generalize formI op = f at *
  have d1 := fun ts => num_reg d ts (by omega) (by omega)
  have a1 := fun ts => num_reg a ts (by omega) (by omega)
  have b1 := fun ts => num_reg b ts (by omega) (by omega)
  have i1 := fun ts => num_imm i ts (by omega) (by omega)
  rcases form_cases f f0 f1 with rfl | rfl | rfl | rfl | rfl | rfl | rfl | rfl | rfl | rfl | rfl | rfl | rfl
  all_goals
    unfold lD at hd ⊢
    unfold lA at ha ⊢
    unfold lB at hb ⊢
    unfold lBits
    unfold fitB lLeast lMost at hi
    unfold toks lD lA lB lBits
    simp only [Int.reduceEq, Int.reduceBEq, reduceIte, or_true, true_or, or_self, Bool.or_true, Bool.true_or, Bool.or_self, Bool.false_eq_true, gt_iff_lt, Int.reduceLT, List.nil_append, List.append_nil, List.cons_append, numR_nm, numR_reg, d1, a1, b1, i1, true_and, and_true, and_self] at hd ha hb hi ⊢
    first
      | (exfalso; exact hf rfl)
      | (refine ⟨?_, ?_, ?_, ?_⟩ <;> first | rfl | exact (reg_off _ hd).symm | exact (reg_off _ ha).symm | exact (reg_off _ hb).symm | (simp at hi; omega))
      | (refine ⟨?_, ?_, ?_⟩ <;> first | rfl | exact (reg_off _ hd).symm | exact (reg_off _ ha).symm | exact (reg_off _ hb).symm | (simp at hi; omega))
      | (refine ⟨?_, ?_⟩ <;> first | rfl | exact (reg_off _ hd).symm | exact (reg_off _ ha).symm | exact (reg_off _ hb).symm | (simp at hi; omega))
      | exact (reg_off _ hd).symm | exact (reg_off _ ha).symm | exact (reg_off _ hb).symm | (simp at hi; omega)
theorem enc_back (op d a b i : Int) (h : chkB op d a b i = true) : sOp (encV op d a b i) = op ∧ sD (encV op d a b i) = d ∧ sA (encV op d a b i) = a ∧ sB (encV op d a b i) = b ∧ sI (encV op d a b i) = i := by
  obtain ⟨hf, hd, ha, hb, hi⟩ := chk_parts op d a b i h
  obtain ⟨k1, k2, k3, k4, k5⟩ := chk_bd op d a b i h
  have ⟨f0, f1⟩ := formI_bd op
  have e0 : sOp (encV op d a b i) = op := by
    unfold sOp encV
    generalize formI op = f at *
    rcases form_cases f f0 f1 with rfl | rfl | rfl | rfl | rfl | rfl | rfl | rfl | rfl | rfl | rfl | rfl | rfl
    all_goals
      unfold lD at hd
      unfold lA at ha
      unfold lB at hb
      unfold lMod
      simp only [Int.reduceEq, Int.reduceBEq, reduceIte, or_true, true_or, or_self, Bool.or_true, Bool.true_or, Bool.or_self] at hd ha hb ⊢
      first
        | (exfalso; exact hf rfl)
        | omega
        | (have q1 := reg_off _ hd; have q2 := reg_off _ ha; have q3 := reg_off _ hb; omega)
        | (have q3 := reg_off _ hb; omega)
  refine ⟨e0, ?_⟩
  unfold sD sA sB sI
  rw [e0]
  unfold encV
  generalize formI op = f at *
  rcases form_cases f f0 f1 with rfl | rfl | rfl | rfl | rfl | rfl | rfl | rfl | rfl | rfl | rfl | rfl | rfl
  all_goals
    unfold lD at hd ⊢
    unfold lA at ha ⊢
    unfold lB at hb ⊢
    unfold fitB lLeast lMost at hi
    unfold lMod lBits immV sx
    simp only [Int.reduceEq, Int.reduceBEq, reduceIte, or_true, true_or, or_self, Bool.or_true, Bool.true_or, Bool.or_self, Bool.false_eq_true, gt_iff_lt, Int.reduceLT] at hd ha hb hi ⊢
    simp at hi
    first
      | (exfalso; exact hf rfl)
      | omega
      | (have q1 := reg_off _ hd; have q2 := reg_off _ ha; have q3 := reg_off _ hb; subst q1 q2 q3; omega)
      | (have q2 := reg_off _ ha; have q3 := reg_off _ hb; subst q2 q3; omega)
      | (have q1 := reg_off _ hd; have q3 := reg_off _ hb; subst q1 q3; omega)
      | (have q3 := reg_off _ hb; subst q3; omega)
end Go.Proofs.YthekokjmdjokgaaDoor
