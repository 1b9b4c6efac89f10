/-
  The contract of Decode, in the document's answers, at every word.
-/
import Derived.Test.YtmojkphddaebkaaDoorIsaDec3
import Derived.Test.YtmojkphddaebkaaDoorIsaDec4
namespace Go.Proofs.YtmojkphddaebkaaDoor
set_option linter.unusedVariables false
open Go.ChangeShapes Go.WideShapes Go.ChangeAt Go.RowKit

theorem c_rDecode (x : Int) (w : World) (h0 : 0 ≤ x) (h1 : x ≤ 4294967295) :
    Calls Tryd.prog 12 #[.int .u32 x] w fun e w' => e = .returned (.tuple #[.agg #[.int .i64 (rOp x), .int .i64 (rD x), .int .i64 (rA x), .int .i64 (rB x), .int .i64 (rI x)], .int .i64 (errI (decB x))]) ∧ Below w.heap.size w w' := by
  have ⟨f0, f1⟩ := formI_bd (sOp x)
  rcases form_cases _ f0 f1 with h | h | h | h | h | h | h | h | h | h | h | h | h
  · exact c_rDecode_0 x w h0 h1 h
  · exact c_rDecode_1 x w h0 h1 h
  · exact c_rDecode_2 x w h0 h1 h
  · exact c_rDecode_3 x w h0 h1 h
  · exact c_rDecode_4 x w h0 h1 h
  · exact c_rDecode_5 x w h0 h1 h
  · exact c_rDecode_6 x w h0 h1 h
  · exact c_rDecode_7 x w h0 h1 h
  · exact c_rDecode_8 x w h0 h1 h
  · exact c_rDecode_9 x w h0 h1 h
  · exact c_rDecode_10 x w h0 h1 h
  · exact c_rDecode_11 x w h0 h1 h
  · exact c_rDecode_12 x w h0 h1 h
end Go.Proofs.YtmojkphddaebkaaDoor
