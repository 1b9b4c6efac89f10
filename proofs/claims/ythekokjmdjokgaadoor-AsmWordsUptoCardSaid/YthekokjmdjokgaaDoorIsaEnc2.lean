
/-
  The contracts of Encode, in the code and in the document's answers: one answer, at every instruction.
-/
import Derived.Test.YthekokjmdjokgaaDoorIsaEnc
import Derived.Test.YthekokjmdjokgaaDoorIsaRef2
namespace Go.Proofs.YthekokjmdjokgaaDoor
set_option linter.unusedVariables false
open Go.ChangeShapes Go.WideShapes Go.ChangeAt Go.RowKit

theorem reg_bd (h : Bool) (n : Int) (hr : regB h n = true) : 0 ≤ n ∧ n ≤ 15 := by
  cases h
  · have := reg_off _ hr
    omega
  · by_cases hn : 0 ≤ n ∧ n < 16
    · omega
    · rw [regB_no n hn] at hr
      cases hr
theorem formI_op (op : Int) (h : formI op ≠ 0) : 1 ≤ op ∧ op ≤ 42 := by
  by_cases hn : 1 ≤ op ∧ op ≤ 42
  · exact hn
  · exfalso
    apply h
    unfold formI
    repeat rw [if_neg (by omega)]
theorem fit_bd (f i : Int) (f0 : 0 ≤ f) (f1 : f ≤ 12) (h : fitB f i = true) : -8388608 ≤ i ∧ i ≤ 8388607 := by
  rcases form_cases f f0 f1 with rfl | rfl | rfl | rfl | rfl | rfl | rfl | rfl | rfl | rfl | rfl | rfl | rfl
  all_goals
    unfold fitB lLeast lMost at h
    simp at h
    omega
theorem chk_bd (op d a b i : Int) (h : chkB op d a b i = true) : (0 ≤ op ∧ op ≤ 42) ∧ (0 ≤ d ∧ d ≤ 15) ∧ (0 ≤ a ∧ a ≤ 15) ∧ (0 ≤ b ∧ b ≤ 15) ∧ (-8388608 ≤ i ∧ i ≤ 8388607) := by
  obtain ⟨hf, hd, ha, hb, hi⟩ := chk_parts op d a b i h
  have ⟨f0, f1⟩ := formI_bd op
  have := formI_op op hf
  exact ⟨by omega, reg_bd _ _ hd, reg_bd _ _ ha, reg_bd _ _ hb, fit_bd _ _ f0 f1 hi⟩
theorem lBits_bd (f : Int) (f0 : 0 ≤ f) (f1 : f ≤ 12) : 0 ≤ lBits f ∧ lBits f ≤ 24 := by
  rcases form_cases f f0 f1 with rfl | rfl | rfl | rfl | rfl | rfl | rfl | rfl | rfl | rfl | rfl | rfl | rfl <;> unfold lBits <;> decide
theorem encR_yes (op d a b i : Int) (h : chkB op d a b i = true) : encR op d a b i = encV op d a b i := by unfold encR; rw [h]; rfl
theorem encR_no (op d a b i : Int) (h : chkB op d a b i = false) : encR op d a b i = 0 := by unfold encR; rw [h]; rfl
theorem errI_yes : errI true = 0 := by unfold errI; rfl
theorem errI_no : errI false = 20 := by unfold errI; rfl
theorem encR_bd (op d a b i : Int) : 0 ≤ encR op d a b i ∧ encR op d a b i ≤ 4294967295 := by
  cases h : chkB op d a b i
  · rw [encR_no _ _ _ _ _ h]; omega
  · obtain ⟨h1, h2, h3, h4, h5⟩ := chk_bd op d a b i h
    have ⟨f0, f1⟩ := formI_bd op
    have := mod_bd i (formI op) f0 f1
    rw [encR_yes _ _ _ _ _ h]
    unfold encV
    omega
theorem ltr_J (f : Int) (h2 : 0 ≤ f) (h3 : f ≤ 12) : (ltr f == 74) = decide (f = 10) := by
  rcases form_cases f h2 h3 with rfl | rfl | rfl | rfl | rfl | rfl | rfl | rfl | rfl | rfl | rfl | rfl | rfl <;> unfold ltr <;> decide
theorem lMod_J (f : Int) (h : f = 10) : lMod f = 16777216 := by subst h; unfold lMod; rfl
/-- Below nought a form's number goes round by 65536, but for J. -/
theorem fit_neg (f i : Int) (f0 : 0 ≤ f) (f1 : f ≤ 12) (h : fitB f i = true) (hi : i < 0) : f ≠ 10 → (lMod f = 65536 ∧ -32768 ≤ i) := by
  rcases form_cases f f0 f1 with rfl | rfl | rfl | rfl | rfl | rfl | rfl | rfl | rfl | rfl | rfl | rfl | rfl
  all_goals
    intro hn
    unfold fitB lLeast lMost at h
    unfold lMod
    simp at h
    first | (exfalso; omega) | (refine ⟨by decide, by omega⟩)
theorem fit_pos (f i : Int) (f0 : 0 ≤ f) (f1 : f ≤ 12) (h : fitB f i = true) (hi : 0 ≤ i) : i % lMod f = i := by
  rcases form_cases f f0 f1 with rfl | rfl | rfl | rfl | rfl | rfl | rfl | rfl | rfl | rfl | rfl | rfl | rfl
  all_goals
    unfold fitB lLeast lMost at h
    unfold lMod
    simp at h
    simp only [Int.reduceEq, reduceIte, or_true, true_or, or_self]
    omega
end Go.Proofs.YthekokjmdjokgaaDoor
