
/-
  The contract of split, and of the calls of words that it makes, in the code.
-/
import Derived.Test.YthekokjmdjokgaaDoorIsaEnc
namespace Go.Proofs.YthekokjmdjokgaaDoor
set_option linter.unusedVariables false
open Go.ChangeShapes Go.WideShapes Go.ChangeAt Go.RowKit

@[irreducible] def regAt (x n : Int) : Int := if n = 20 then x / 1048576 % 16 else if n = 16 then x / 65536 % 16 else x / 4096 % 16
theorem regAt_bd (x n : Int) : 0 ≤ regAt x n ∧ regAt x n ≤ 15 := by
  unfold regAt
  (repeat' split) <;> omega
theorem sOp_bd (x : Int) (h0 : 0 ≤ x) (h1 : x ≤ 4294967295) : 0 ≤ sOp x ∧ sOp x ≤ 255 := by unfold sOp; omega
theorem if_yes {c : Bool} {x y : Int} (h : c = true) : (if c then x else y) = x := by rw [h]; rfl
theorem if_no {c : Bool} {x y : Int} (h : c = false) : (if c then x else y) = y := by rw [h]; rfl
theorem ret_instr {a b c d e a' b' c' d' e' : Int} (h1 : a = a') (h2 : b = b') (h3 : c = c') (h4 : d = d') (h5 : e = e') :
    Ending.returned (.agg #[.int .i64 a, .int .i64 b, .int .i64 c, .int .i64 d, .int .i64 e]) = .returned (.agg #[.int .i64 a', .int .i64 b', .int .i64 c', .int .i64 d', .int .i64 e']) := by rw [h1, h2, h3, h4, h5]
end Go.Proofs.YthekokjmdjokgaaDoor
