/-
  What the chapter says of its first examples: the contract of 'works'.
-/
import Derived.Test.YtcemghcfapblgaaDoorIsaPrint2
import Derived.Laws.StructEq
namespace Go.Proofs.YtcemghcfapblgaaDoor
set_option linter.unusedVariables false
open Go.ChangeShapes Go.WideShapes Go.ChangeAt Go.RowKit

/-- '==' of two instructions: field by field. -/
theorem eq_instr (a b c d e a' b' c' d' e' : Int) (w : World) : (binOp .eql 23 (.agg #[.int .i64 a, .int .i64 b, .int .i64 c, .int .i64 d, .int .i64 e]) (.agg #[.int .i64 a', .int .i64 b', .int .i64 c', .int .i64 d', .int .i64 e'])).run Tryd.prog w = .ok (.bool (a == a' && (b == b' && (c == c' && (d == d' && e == e'))))) w := by
  have u3 := Tryd.underlying3
  have a3 := Tryd.isAgg3
  have z3 := Tryd.sizeOf3
  have hS : Tryd.prog.underlying 23 = some (.struct (Tryd.prog.fieldsOf 23)) := by kernel_rfl
  have hp : Tryd.prog.stoodInHeld 23 = false := by kernel_rfl
  rw [run_eql_struct, show (10000 : Nat) = 9999 + 1 from rfl, run_equalIn_agg w 9999 23 _ _ hS hp]
  simp only [Program.fieldsOf, Tryd.underlying23]
  go_simp
  by_cases h1 : a = a' <;> by_cases h2 : b = b' <;> by_cases h3 : c = c' <;> by_cases h4 : d = d' <;> by_cases h5 : e = e' <;> simp [h1, h2, h3, h4, h5]
theorem w_chk : chkB 1 1 2 3 0 = true := by
  unfold chkB fitB regB lD lA lB lLeast lMost formI
  decide
theorem w_enc : encR 1 1 2 3 0 = 17969152 := by
  unfold encR
  rw [w_chk]
  unfold encV lMod formI
  decide
theorem w_op : sOp 316538872 = 18 := by unfold sOp; decide
theorem w_form : formI 18 = 2 := by unfold formI; decide
theorem w_D : sD 316538872 = 13 := by
  unfold sD
  rw [w_op, w_form]
  unfold lD
  decide
theorem w_A : sA 316538872 = 13 := by
  unfold sA
  rw [w_op, w_form]
  unfold lA
  decide
theorem w_B : sB 316538872 = 0 := by
  unfold sB
  rw [w_op, w_form]
  unfold lB
  decide
theorem w_I : sI 316538872 = -8 := by
  unfold sI
  rw [w_op, w_form]
  unfold lBits immV sx
  decide
theorem w_dec : decB 316538872 = true := by
  unfold decB
  rw [w_op, w_D, w_A, w_B, w_I]
  unfold chkB fitB regB encV
  rw [w_form]
  unfold lD lA lB lLeast lMost lMod
  decide
theorem w_dig (k : Nat) (h : k < 10) : Lib.itoa (k : Int) = [UInt8.ofNat (48 + k)] := by
  unfold Lib.itoa
  rw [if_neg (by omega), Int.toNat_natCast, Lib.decDigits, dif_pos h]
theorem w_text : prR 1 1 2 3 0 = [97, 100, 100, 32, 114, 49, 32, 114, 50, 32, 114, 51] := by
  rw [prR_yes _ _ _ _ _ w_chk, pr_eq]
  have e1 : Lib.itoa 1 = [49] := w_dig 1 (by decide)
  have e2 : Lib.itoa 2 = [50] := w_dig 2 (by decide)
  have e3 : Lib.itoa 3 = [51] := w_dig 3 (by decide)
  rw [e1, e2, e3]
  unfold nm lD lA lB lBits formI
  decide
theorem c_add (w : World) : Calls Tryd.prog 33 #[] w fun e w' => e = .returned (.agg #[.int .i64 1, .int .i64 1, .int .i64 2, .int .i64 3, .int .i64 0]) ∧ Below w.heap.size w w' := by
  go_enter Tryd.func33, Tryd.ntmps33
  go_wp2
  go_returns
  exact ⟨rfl, by go_grown⟩
theorem c_works (w : World) (hn : NmH w) (hp : PwH w) : Calls Tryd.prog 10 #[] w fun e w' => e = .returned (.bool true) ∧ Below w.heap.size w w' := by
  have HN := Lib.hid hn
  have HP := Lib.hid hp
  clear hn hp
  have HE := Lib.hid (show errI true = 0 from errI_yes)
  have heq := eq_instr
  go_enter Tryd.func10, Tryd.ntmps10
  go_wp2_with fail
  refine (c_add _).mono ?_
  rintro e w1 ⟨rfl, hb1⟩
  go_wp2_with fail
  refine (c_Encode 1 1 2 3 0 _ (by decide) (by decide) (by decide) (by decide) (by decide)).mono ?_
  rw [w_enc, w_chk, errI_yes]
  rintro e w2 ⟨rfl, hb2⟩
  have hB2 := Lib.hid (below_on hb1 hb2 hb1.size)
  clear hb1 hb2
  go_wp2_with fail
  refine (c_Decode 316538872 _ (by decide) (by decide)).mono ?_
  unfold rOp rD rA rB rI
  rw [w_dec, w_op, w_D, w_A, w_B, w_I, errI_yes]
  rintro e w3 ⟨rfl, hb3⟩
  have hB3 := Lib.hid (below_on hB2.out hb3 hB2.out.size)
  clear hb3
  go_wp2_with fail
  refine (c_add _).mono ?_
  rintro e w4 ⟨rfl, hb4⟩
  have ⟨y0, y1, y2, y3, y4, yf⟩ := (Box.new w3 18 13 13 0 (-8) _).next hb4 rfl
  have hB4 := Lib.hid (below_on (below_on hB3.out (below_new w3 _) hB3.out.size) hb4 (by have := hB3.out.size; simp; omega))
  clear hb4
  go_wp2_with fail
  refine (c_Print 1 1 2 3 0 _ (by decide) (by decide) (by decide) (by decide) (by decide) (HN.out.next hB4.out rfl) (HP.out.next hB4.out rfl)).mono ?_
  rw [w_text, w_chk, errI_yes]
  rintro e w5 ⟨rfl, hb5⟩
  have ⟨x0, x1, x2, x3, x4, xf⟩ := (show Box w4 w3.heap.size 18 13 13 0 (-8) from ⟨y0, y1, y2, y3, y4, yf⟩).next hb5 rfl
  have hB5 := Lib.hid (below_on hB4.out hb5 hB4.out.size)
  clear hb5 y0 y1 y2 y3 y4 yf
  go_wp2_with fail
  go_ret
  exact ⟨rfl, hB5.out⟩
end Go.Proofs.YtcemghcfapblgaaDoor
