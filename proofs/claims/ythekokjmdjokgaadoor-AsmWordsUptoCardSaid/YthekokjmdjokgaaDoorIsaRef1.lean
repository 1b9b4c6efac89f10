
/-
  Contracts of the calls that know forms and layouts, in the document's answers.
-/
import Derived.Test.YthekokjmdjokgaaDoorIsaForms
namespace Go.Proofs.YthekokjmdjokgaaDoor
set_option linter.unusedVariables false
open Go.ChangeShapes Go.WideShapes Go.ChangeAt Go.RowKit

/-- The letter of a form, as the document's answers have it. -/
@[irreducible] def ltr (f : Int) : Int :=
  if f = 1 then 82 else if f = 2 then 83 else if f = 3 then 85 else if f = 4 then 67 else if f = 5 then 76 else if f = 6 then 72 else if f = 7 then 69 else if f = 8 then 66 else if f = 9 then 84
  else if f = 10 then 74 else if f = 11 then 71 else if f = 12 then 87 else 32
theorem ret_u8 {a b : Int} (h : a = b) : Ending.returned (.int .u8 a) = .returned (.int .u8 b) := by rw [h]
def formS : ByteArray := ⟨#[82, 82, 82, 82, 82, 82, 82, 82, 82, 82, 82, 82, 82, 82, 82, 82, 82, 83, 85, 85, 85, 67, 67, 67, 76, 72, 69, 83, 83, 83, 83, 83, 83, 66, 66, 84, 74, 74, 71, 71, 87, 87]⟩
theorem form_letters0 : ∀ k : Fin 42, ((formS[k.val]'(k.isLt)).toNat : Int) = ltr (formI (k.val + 1)) := by
  unfold ltr formI
  decide +kernel
theorem form_letters (k : Nat) (h : k < formS.size) : ((formS[k]'h).toNat : Int) = ltr (formI (k + 1)) := form_letters0 ⟨k, h⟩
/-- What a form has, as bytes: d 100, a 97, b 98, i 105. -/
@[irreducible] def hasI (f : Int) : List UInt8 :=
  if f = 1 then [100, 97, 98] else if f = 2 ∨ f = 3 ∨ f = 4 ∨ f = 7 ∨ f = 9 then [100, 97, 105] else if f = 5 ∨ f = 6 then [100, 105]
  else if f = 8 then [97, 105] else if f = 10 ∨ f = 12 then [105] else if f = 11 then [97] else []
theorem ret_s {a b : ByteArray} (h : a = b) : Ending.returned (.string a) = .returned (.string b) := by rw [h]
end Go.Proofs.YthekokjmdjokgaaDoor
