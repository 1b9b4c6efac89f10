
/-
  The contract of Check, in the code.
-/
import Derived.Test.YthekokjmdjokgaaDoorIsaForms
import Derived.Outline
namespace Go.Proofs.YthekokjmdjokgaaDoor
set_option linter.unusedVariables false
open Go.ChangeShapes Go.WideShapes Go.ChangeAt Go.RowKit

theorem bcell {W w1 : World} (hb : Below W.heap.size W w1) : (∀ b o, b < W.heap.size → w1.cell? ⟨b, o, none⟩ = W.cell? ⟨b, o, none⟩) ∧ (∀ b o, b < W.heap.size → w1.frozen? ⟨b, o, none⟩ = W.frozen? ⟨b, o, none⟩) :=
  ⟨fun b o h => hb.cell (p := ⟨b, o, none⟩) h, fun b o h => hb.frozen (p := ⟨b, o, none⟩) h⟩
theorem c_Check (op d a b i : Int) (w : World) (p1 : -9223372036854775808 ≤ op ∧ op ≤ 9223372036854775807) (p2 : -9223372036854775808 ≤ d ∧ d ≤ 9223372036854775807) (p3 : -9223372036854775808 ≤ a ∧ a ≤ 9223372036854775807)
    (p4 : -9223372036854775808 ≤ b ∧ b ≤ 9223372036854775807) (p5 : -9223372036854775808 ≤ i ∧ i ≤ 9223372036854775807) :
    Calls Tryd.prog 12 #[.agg #[.int .i64 op, .int .i64 d, .int .i64 a, .int .i64 b, .int .i64 i]] w fun e w' => e = .returned (.int .i64 (errI (chkB op d a b i))) ∧ Below w.heap.size w w' := by
  obtain ⟨p1, q1⟩ := p1
  obtain ⟨p2, q2⟩ := p2
  obtain ⟨p3, q3⟩ := p3
  obtain ⟨p4, q4⟩ := p4
  obtain ⟨p5, q5⟩ := p5
  have ⟨f0, f1⟩ := formI_bd op
  go_enter Tryd.func12, Tryd.ntmps12
  go_wp2_with fail
  refine (c_formOf op _ p1 q1).mono ?_
  rintro e w1 ⟨rfl, rfl⟩
  go_wp2_with fail
  refine (c_layoutOf (formI op) _ f0 f1).mono ?_
  rintro e w2 ⟨rfl, hb2⟩
  obtain ⟨hc2, hf2⟩ := bcell hb2
  have hz2 : w.heap.size < w2.heap.size := by have := hb2.size; simp at this; omega
  have HB2 := Lib.hid hb2
  clear hb2
  go_wp2_with (go_at_call 24; refine (c_isRegister _ _ _ (by omega) (by omega)).mono ?_; rintro e w' ⟨rfl, rfl⟩)
  all_goals
    go_returns
    refine ⟨ret_i ?_, ?_⟩
    · clear hc2 hf2 HB2
      unfold errI chkB fitB
      first | (simp [*]; done) | (simp_all; done) | (simp [*]; intros; omega)
    · refine Below.alloc ?_ (by omega) _
      exact ((Below.refl _ _).alloc (Nat.le_refl _) _).trans (HB2.out.mono (by simp))
end Go.Proofs.YthekokjmdjokgaaDoor
