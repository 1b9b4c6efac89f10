/-
  Contracts of the calls that know forms and layouts, in the document's answers.
-/
import Derived.Test.YtcemghcfapblgaaDoorIsaForms
namespace Go.Proofs.YtcemghcfapblgaaDoor
set_option linter.unusedVariables false
open Go.ChangeShapes Go.WideShapes Go.ChangeAt Go.RowKit

/-- The letter of a form, as the document's answers have it. -/
@[irreducible] def ltr (f : Int) : Int :=
  if f = 1 then 82 else if f = 2 then 83 else if f = 3 then 85 else if f = 4 then 67 else if f = 5 then 76 else if f = 6 then 72 else if f = 7 then 69 else if f = 8 then 66 else if f = 9 then 84
  else if f = 10 then 74 else if f = 11 then 71 else if f = 12 then 87 else 32
theorem ret_u8 {a b : Int} (h : a = b) : Ending.returned (.int .u8 a) = .returned (.int .u8 b) := by rw [h]
def formS : ByteArray := ⟨#[82, 82, 82, 82, 82, 82, 82, 82, 82, 82, 82, 82, 82, 82, 82, 82, 82, 83, 85, 85, 85, 67, 67, 67, 76, 72, 69, 83, 83, 83, 83, 83, 83, 66, 66, 84, 74, 74, 71, 71, 87, 87]⟩
theorem form_letters0 : ∀ k : Fin 42, ((formS[k.val]'(k.isLt)).toNat : Int) = ltr (formI (k.val + 1)) := by
  unfold ltr formI
  decide +kernel
theorem form_letters (k : Nat) (h : k < formS.size) : ((formS[k]'h).toNat : Int) = ltr (formI (k + 1)) := form_letters0 ⟨k, h⟩
theorem c_form (op : Int) (w : World) (h2 : -9223372036854775808 ≤ op) (h3 : op ≤ 9223372036854775807) :
    Calls Tryd.prog 27 #[.int .i64 op] w fun e w' => e = .returned (.int .u8 (ltr (formI op))) ∧ w = w' := by
  by_cases h : 1 ≤ op ∧ op ≤ 42
  · obtain ⟨g1, g2⟩ := h
    go_enter Tryd.func27, Tryd.ntmps27
    have HF := Lib.hid (form_letters (op.toNat - 1) (show op.toNat - 1 < 42 by omega))
    go_wp2
    go_returns
    exact ⟨ret_u8 (HF.out.trans (by rw [show ((op.toNat - 1 : Nat) : Int) + 1 = op from by omega])), rfl⟩
  · have HL : Hid (ltr (formI op) = 32) := by
      have e : formI op = 0 := by
        unfold formI
        repeat rw [if_neg (by omega)]
      show ltr (formI op) = 32
      rw [e]
      unfold ltr
      decide
    have g : op < 1 ∨ 42 < op := by omega
    clear h
    go_enter Tryd.func27, Tryd.ntmps27
    go_wp2
    all_goals first
      | (exfalso; omega)
      | (go_returns; exact ⟨ret_u8 HL.out.symm, rfl⟩)

/-- What a form has, as bytes: d 100, a 97, b 98, i 105. -/
@[irreducible] def hasI (f : Int) : List UInt8 :=
  if f = 1 then [100, 97, 98] else if f = 2 ∨ f = 3 ∨ f = 4 ∨ f = 7 ∨ f = 9 then [100, 97, 105] else if f = 5 ∨ f = 6 then [100, 105]
  else if f = 8 then [97, 105] else if f = 10 ∨ f = 12 then [105] else if f = 11 then [97] else []
theorem ret_s {a b : ByteArray} (h : a = b) : Ending.returned (.string a) = .returned (.string b) := by rw [h]
set_option maxHeartbeats 1000000 in
theorem c_has (f : Int) (w : World) (h2 : 0 ≤ f) (h3 : f ≤ 12) :
    Calls Tryd.prog 26 #[.int .u8 (ltr f)] w fun e w' => e = .returned (.string ⟨(hasI f).toArray⟩) ∧ w = w' := by
  have H : ∀ g : Int, f = g → (ltr f = ltr g ∧ hasI f = hasI g) := fun g h => by subst h; exact ⟨rfl, rfl⟩
  rcases form_cases f h2 h3 with rfl | rfl | rfl | rfl | rfl | rfl | rfl | rfl | rfl | rfl | rfl | rfl | rfl
  all_goals
    unfold ltr hasI
    simp only [Int.reduceEq, reduceIte, or_true, true_or, or_self]
    go_enter Tryd.func26, Tryd.ntmps26
    go_wp2
    go_returns
    exact ⟨rfl, rfl⟩
end Go.Proofs.YtcemghcfapblgaaDoor
