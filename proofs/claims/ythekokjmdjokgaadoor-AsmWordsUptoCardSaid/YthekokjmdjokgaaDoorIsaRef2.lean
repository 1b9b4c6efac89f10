
/-
  Contracts of the calls that hold an instruction against its form, in the document's answers.
-/
import Derived.Test.YthekokjmdjokgaaDoorIsaRef1
import Derived.Deep.Light
namespace Go.Proofs.YthekokjmdjokgaaDoor
set_option linter.unusedVariables false
open Go.ChangeShapes Go.WideShapes Go.ChangeAt Go.RowKit

@[irreducible] def inB (f c : Int) : Bool := (hasI f).any (fun x => (x.toNat : Int) == c)
theorem in_d (f : Int) (h2 : 0 ≤ f) (h3 : f ≤ 12) : inB f 100 = lD f := by
  rcases form_cases f h2 h3 with rfl | rfl | rfl | rfl | rfl | rfl | rfl | rfl | rfl | rfl | rfl | rfl | rfl <;> unfold inB hasI lD <;> decide
theorem in_a (f : Int) (h2 : 0 ≤ f) (h3 : f ≤ 12) : inB f 97 = lA f := by
  rcases form_cases f h2 h3 with rfl | rfl | rfl | rfl | rfl | rfl | rfl | rfl | rfl | rfl | rfl | rfl | rfl <;> unfold inB hasI lA <;> decide
theorem in_b (f : Int) (h2 : 0 ≤ f) (h3 : f ≤ 12) : inB f 98 = lB f := by
  rcases form_cases f h2 h3 with rfl | rfl | rfl | rfl | rfl | rfl | rfl | rfl | rfl | rfl | rfl | rfl | rfl <;> unfold inB hasI lB <;> decide
theorem in_i (f : Int) (h2 : 0 ≤ f) (h3 : f ≤ 12) : inB f 105 = decide (lBits f > 0) := by
  rcases form_cases f h2 h3 with rfl | rfl | rfl | rfl | rfl | rfl | rfl | rfl | rfl | rfl | rfl | rfl | rfl <;> unfold inB hasI lBits <;> decide
theorem regB_pos (n : Int) (h : 0 ≤ n) : regB true n = decide (n ≤ 15) := by
  unfold regB
  rw [Bool.eq_iff_iff]
  simp
  omega
theorem fit_of (f i : Int) (x : Bool) (h : x = fitB f i) : Ending.returned (.bool x) = .returned (.bool (fitB f i)) := by rw [h]
theorem ltr_none (f : Int) (h2 : 0 ≤ f) (h3 : f ≤ 12) : (ltr f == 32) = decide (f = 0) := by
  rcases form_cases f h2 h3 with rfl | rfl | rfl | rfl | rfl | rfl | rfl | rfl | rfl | rfl | rfl | rfl | rfl <;> unfold ltr <;> decide
end Go.Proofs.YthekokjmdjokgaaDoor
