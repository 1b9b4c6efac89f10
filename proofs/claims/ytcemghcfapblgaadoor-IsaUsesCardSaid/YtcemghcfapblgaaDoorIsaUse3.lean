/-
  Contracts of Writes and Goes, in the document's answers.
-/
import Derived.Test.YtcemghcfapblgaaDoorIsaUse1
import Derived.Test.YtcemghcfapblgaaDoorIsaRef2
namespace Go.Proofs.YtcemghcfapblgaaDoor
set_option linter.unusedVariables false
set_option linter.unusedSimpArgs false
open Go.ChangeShapes Go.WideShapes Go.ChangeAt Go.RowKit

theorem c_form' (op : Int) (w : World) (h2 : -9223372036854775808 ≤ op) (h3 : op ≤ 9223372036854775807) :
    Calls Tryd.prog 27 #[.int .i64 op] w fun e w' => e = .returned (.int .u8 (ltr (formI op))) ∧ w' = w :=
  (c_form op w h2 h3).mono fun _ _ h => ⟨h.1, h.2.symm⟩
/-- A form's letter, told apart. -/
theorem ltr_is (f : Int) (h2 : 0 ≤ f) (h3 : f ≤ 12) : (ltr f == 82) = decide (f = 1) ∧ (ltr f == 83) = decide (f = 2) ∧ (ltr f == 85) = decide (f = 3) ∧ (ltr f == 67) = decide (f = 4) ∧ (ltr f == 76) = decide (f = 5) ∧ (ltr f == 72) = decide (f = 6) ∧ (ltr f == 69) = decide (f = 7) ∧ (ltr f == 66) = decide (f = 8) ∧ (ltr f == 84) = decide (f = 9) ∧ (ltr f == 74) = decide (f = 10) ∧ (ltr f == 71) = decide (f = 11) ∧ (ltr f == 87) = decide (f = 12) := by
  rcases form_cases f h2 h3 with rfl | rfl | rfl | rfl | rfl | rfl | rfl | rfl | rfl | rfl | rfl | rfl | rfl <;> unfold ltr <;> decide
/-- The operations of a form that stores. -/
theorem form2 (op : Int) : formI op = 2 ∧ (op = 18 ∨ 28 ≤ op ∧ op ≤ 33) ∨ ¬ formI op = 2 ∧ ¬ (op = 18 ∨ 28 ≤ op ∧ op ≤ 33) := by
  by_cases h : op = 18 ∨ 28 ≤ op ∧ op ≤ 33
  · left
    refine ⟨?_, h⟩
    unfold formI
    rw [if_neg (by omega), if_pos (by omega)]
  · right
    refine ⟨?_, h⟩
    unfold formI
    by_cases g : 1 ≤ op ∧ op ≤ 17
    · rw [if_pos g]; decide
    · rw [if_neg g, if_neg (by omega)]
      (repeat' split) <;> decide
set_option maxHeartbeats 4000000 in
theorem c_rWrites (op d a b i : Int) (w : World) (p1 : -9223372036854775808 ≤ op ∧ op ≤ 9223372036854775807) (p2 : -9223372036854775808 ≤ d ∧ d ≤ 9223372036854775807) (p3 : -9223372036854775808 ≤ a ∧ a ≤ 9223372036854775807)
    (p4 : -9223372036854775808 ≤ b ∧ b ≤ 9223372036854775807) (p5 : -9223372036854775808 ≤ i ∧ i ≤ 9223372036854775807) :
    Calls Tryd.prog 14 #[.agg #[.int .i64 op, .int .i64 d, .int .i64 a, .int .i64 b, .int .i64 i]] w fun e w' => ∃ v, e = .returned (.tuple #[v, .int .i64 (errI (chkB op d a b i))]) ∧ IL w' v (wrL (chkB op d a b i) op d i) ∧ Below w.heap.size w w' := by
  have C1 := Lib.hid (c_rCheck op d a b i)
  have HS := Lib.hid (store_form op)
  have HC := Lib.hid (call_form op)
  have HY := Lib.hid (sys_form op)
  have H2 := Lib.hid (form2 op)
  have ⟨f0, f1⟩ := formI_bd op
  have ⟨l1, l2, l3, l4, l5, l6, l7, l8, l9, l10, l11, l12⟩ := ltr_is (formI op) f0 f1
  cases hk : chkB op d a b i
  · rw [hk, errI_no] at C1
    rw [errI_no]
    go_enter Tryd.func14, Tryd.ntmps14
    go_wp2_with fail
    refine (C1.out _ p1 p2 p3 p4 p5).mono ?_
    rintro e w2 ⟨rfl, hb2⟩
    have hB2 := Lib.hid (below_on (below_new w _) hb2 (by simp))
    clear hb2
    go_wp2_with fail
    go_returns
    refine ⟨_, rfl, ?_, hB2.out⟩
    unfold wrL
    exact ⟨_, _, rfl⟩
  · rw [hk, errI_yes] at C1
    rw [errI_yes]
    go_enter Tryd.func14, Tryd.ntmps14
    go_wp2_with fail
    refine (C1.out _ p1 p2 p3 p4 p5).mono ?_
    rintro e w2 ⟨rfl, hb2⟩
    obtain ⟨q0, q1, q2, q3, q4, hB⟩ := box5 hb2
    have hz2 : w.heap.size < w2.heap.size := by have := hb2.size; simp at this; omega
    have hB2 := Lib.hid hB
    clear hb2 hB
    go_wp2_with (first
      | (go_at_call 27; refine (c_form' op _ p1.1 p1.2).mono ?_; rintro e w' ⟨rfl, rfl⟩))
    all_goals
      ((try unfold storeB at *); (try unfold callB at *); (try unfold askB at *); (try simp only [beq_iff_eq, beq_eq_false_iff_ne, ne_eq, decide_eq_true_eq, decide_eq_false_iff_not, Bool.not_eq_true] at *))
      have hs_ := HS.out
      have hc_ := HC.out
      have hy_ := HY.out
      have h2_ := H2.out
      first
      | (exfalso; omega)
      | (
        go_returns
        refine ⟨_, rfl, ?_, ?_⟩
        · unfold wrL
          rw [if_neg (by decide)]
          repeat (first | rw [if_pos (by omega)] | rw [if_neg (by omega)])
          first | exact Hid.out (by assumption) | exact ⟨_, _, rfl, by simp [go_sem]⟩ | exact ⟨_, _, rfl⟩
        · have HZ := hB2.out.size
          repeat (first | exact Hid.out (by assumption) | refine Below.alloc ?_ (by first | omega | (simp; omega)) _))
set_option maxHeartbeats 4000000 in
theorem c_rGoes (op d a b i : Int) (w : World) (p1 : -9223372036854775808 ≤ op ∧ op ≤ 9223372036854775807) (p2 : -9223372036854775808 ≤ d ∧ d ≤ 9223372036854775807) (p3 : -9223372036854775808 ≤ a ∧ a ≤ 9223372036854775807)
    (p4 : -9223372036854775808 ≤ b ∧ b ≤ 9223372036854775807) (p5 : -9223372036854775808 ≤ i ∧ i ≤ 9223372036854775807) :
    Calls Tryd.prog 16 #[.agg #[.int .i64 op, .int .i64 d, .int .i64 a, .int .i64 b, .int .i64 i]] w fun e w' => e = .returned (.tuple #[.bool (nxB (chkB op d a b i) op i), .bool (jpB (chkB op d a b i) op), .int .i64 (errI (chkB op d a b i))]) ∧ Below w.heap.size w w' := by
  have C1 := Lib.hid (c_rCheck op d a b i)
  have HS := Lib.hid (store_form op)
  have HC := Lib.hid (call_form op)
  have HY := Lib.hid (sys_form op)
  have H2 := Lib.hid (form2 op)
  have ⟨f0, f1⟩ := formI_bd op
  have ⟨l1, l2, l3, l4, l5, l6, l7, l8, l9, l10, l11, l12⟩ := ltr_is (formI op) f0 f1
  cases hk : chkB op d a b i
  · rw [hk, errI_no] at C1
    rw [errI_no]
    go_enter Tryd.func16, Tryd.ntmps16
    go_wp2_with fail
    refine (C1.out _ p1 p2 p3 p4 p5).mono ?_
    rintro e w2 ⟨rfl, hb2⟩
    have hB2 := Lib.hid (below_on (below_new w _) hb2 (by simp))
    clear hb2
    go_wp2_with fail
    go_returns
    refine ⟨ret_bbe ?_ ?_, hB2.out⟩
    · unfold nxB; rfl
    · unfold jpB; rfl
  · rw [hk, errI_yes] at C1
    rw [errI_yes]
    go_enter Tryd.func16, Tryd.ntmps16
    go_wp2_with fail
    refine (C1.out _ p1 p2 p3 p4 p5).mono ?_
    rintro e w2 ⟨rfl, hb2⟩
    obtain ⟨q0, q1, q2, q3, q4, hB⟩ := box5 hb2
    have hz2 : w.heap.size < w2.heap.size := by have := hb2.size; simp at this; omega
    have hB2 := Lib.hid hB
    clear hb2 hB
    go_wp2_with (first
      | (go_at_call 27; refine (c_form' op _ p1.1 p1.2).mono ?_; rintro e w' ⟨rfl, rfl⟩))
    all_goals
      ((try unfold storeB at *); (try unfold callB at *); (try unfold askB at *); (try simp only [beq_iff_eq, beq_eq_false_iff_ne, ne_eq, decide_eq_true_eq, decide_eq_false_iff_not, Bool.not_eq_true] at *))
      go_returns
      refine ⟨ret_bbe ?_ ?_, ?_⟩
      · unfold nxB
        first | (rw [Bool.eq_iff_iff]; simp; done) | (rw [Bool.eq_iff_iff]; simp; omega)
      · unfold jpB
        first | (rw [Bool.eq_iff_iff]; simp; done) | (rw [Bool.eq_iff_iff]; simp; omega)
      · have HZ := hB2.out.size
        repeat (first | exact Hid.out (by assumption) | refine Below.alloc ?_ (by first | omega | (simp; omega)) _)
end Go.Proofs.YtcemghcfapblgaaDoor
