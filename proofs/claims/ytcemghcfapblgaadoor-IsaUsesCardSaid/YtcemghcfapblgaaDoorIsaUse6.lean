/-
  The contract of Reads, in the document's answers.
-/
import Derived.Test.YtcemghcfapblgaaDoorIsaUse5
namespace Go.Proofs.YtcemghcfapblgaaDoor
set_option linter.unusedVariables false
set_option linter.unusedSimpArgs false
open Go.ChangeShapes Go.WideShapes Go.ChangeAt Go.RowKit

set_option maxHeartbeats 8000000 in
theorem c_rReads (op d a b i : Int) (w : World) (p1 : -9223372036854775808 ≤ op ∧ op ≤ 9223372036854775807) (p2 : -9223372036854775808 ≤ d ∧ d ≤ 9223372036854775807) (p3 : -9223372036854775808 ≤ a ∧ a ≤ 9223372036854775807)
    (p4 : -9223372036854775808 ≤ b ∧ b ≤ 9223372036854775807) (p5 : -9223372036854775808 ≤ i ∧ i ≤ 9223372036854775807) :
    Calls Tryd.prog 12 #[.agg #[.int .i64 op, .int .i64 d, .int .i64 a, .int .i64 b, .int .i64 i]] w fun e w' => ∃ v, e = .returned (.tuple #[v, .int .i64 (errI (chkB op d a b i))]) ∧ IL w' v (rdL (chkB op d a b i) op d a b i) ∧ Below w.heap.size w w' := by
  have C1 := Lib.hid (c_rCheck op d a b i)
  have HS := Lib.hid (store_form op)
  have HC := Lib.hid (call_form op)
  have HY := Lib.hid (sys_form op)
  have H2 := Lib.hid (form2 op)
  have ⟨f0, f1⟩ := formI_bd op
  have ⟨l1, l2, l3, l4, l5, l6, l7, l8, l9, l10, l11, l12⟩ := ltr_is (formI op) f0 f1
  cases hk : chkB op d a b i
  · rw [hk, errI_no] at C1
    rw [errI_no]
    go_enter Tryd.func12, Tryd.ntmps12
    go_wp2_with fail
    refine (C1.out _ p1 p2 p3 p4 p5).mono ?_
    rintro e w2 ⟨rfl, hb2⟩
    have hB2 := Lib.hid (below_on (below_new w _) hb2 (by simp))
    clear hb2
    go_wp2_with fail
    go_returns
    refine ⟨_, rfl, ?_, hB2.out⟩
    unfold rdL
    exact ⟨_, _, rfl⟩
  · rw [hk, errI_yes] at C1
    rw [errI_yes]
    go_enter Tryd.func12, Tryd.ntmps12
    go_wp2_with fail
    refine (C1.out _ p1 p2 p3 p4 p5).mono ?_
    rintro e w2 ⟨rfl, hb2⟩
    obtain ⟨q0, q1, q2, q3, q4, hB⟩ := box5 hb2
    have hz2 : w.heap.size < w2.heap.size := by have := hb2.size; simp at this; omega
    have hB2 := Lib.hid hB
    have e1 : w.heap.size < w2.heap.size + 1 := by omega
    have e2 : w.heap.size < w2.heap.size + 1 + 1 := by omega
    clear hb2 hB
    go_wp2_with (first
      | (go_at_call 27; refine (c_form' op _ p1.1 p1.2).mono ?_; rintro e w' ⟨rfl, rfl⟩)
      | (go_at_call 38
         refine (c_Rising [a, b] _ _ ?_ ?_).mono ?_
         · (refine ⟨_, _, rfl, ?_, ?_⟩ <;> (simp [go_sem]; done))
         · (intro x hx; simp at hx; rcases hx with rfl | rfl <;> omega)
         rintro e w' ⟨v, rfl, hv, hb⟩
         have hB3 := Lib.hid (below_on (B := w.heap.size) (w := w) ((by repeat (first | exact hB2.out | refine Below.alloc ?_ (by first | omega | (simp; omega) | (simp; done)) _))) hb (by first | omega | (simp; omega)))
         have hv3 := Lib.hid (show IL w' v (sortL a b) from hv)
         clear hv hb)
      | (go_at_call 38
         refine (c_Rising [a, d] _ _ ?_ ?_).mono ?_
         · (refine ⟨_, _, rfl, ?_, ?_⟩ <;> (simp [go_sem]; done))
         · (intro x hx; simp at hx; rcases hx with rfl | rfl <;> omega)
         rintro e w' ⟨v, rfl, hv, hb⟩
         have hB3 := Lib.hid (below_on (B := w.heap.size) (w := w) ((by repeat (first | exact hB2.out | refine Below.alloc ?_ (by first | omega | (simp; omega) | (simp; done)) _))) hb (by first | omega | (simp; omega)))
         have hv3 := Lib.hid (show IL w' v (sortL d a) from (by rw [sortL_comm]; exact hv))
         clear hv hb)
      | (go_at_call 38
         refine (c_Rising [0] _ _ ?_ ?_).mono ?_
         · (refine ⟨_, _, rfl, ?_⟩ <;> (simp [go_sem]; done))
         · (intro x hx; simp at hx; subst hx; decide)
         rintro e w' ⟨v, rfl, hv, hb⟩
         have hB3 := Lib.hid (below_on (B := w.heap.size) (w := w) ((by repeat (first | exact hB2.out | refine Below.alloc ?_ (by first | omega | (simp; omega) | (simp; done)) _))) hb (by first | omega | (simp; omega)))
         have hv3 := Lib.hid (show IL w' v [0] from hv)
         clear hv hb)
      | (go_at_call 38
         refine (c_Rising [a] _ _ ?_ ?_).mono ?_
         · (refine ⟨_, _, rfl, ?_⟩ <;> (simp [go_sem]; done))
         · (intro x hx; simp at hx; subst hx; omega)
         rintro e w' ⟨v, rfl, hv, hb⟩
         have hB3 := Lib.hid (below_on (B := w.heap.size) (w := w) ((by repeat (first | exact hB2.out | refine Below.alloc ?_ (by first | omega | (simp; omega) | (simp; done)) _))) hb (by first | omega | (simp; omega)))
         have hv3 := Lib.hid (show IL w' v [a] from hv)
         clear hv hb)
      | (go_at_call 38
         refine (c_Rising [] _ _ ?_ ?_).mono ?_
         · (exact ⟨_, _, rfl⟩)
         · (intro x hx; cases hx)
         rintro e w' ⟨v, rfl, hv, hb⟩
         have hB3 := Lib.hid (below_on (B := w.heap.size) (w := w) ((by repeat (first | exact hB2.out | refine Below.alloc ?_ (by first | omega | (simp; omega) | (simp; done)) _))) hb (by first | omega | (simp; omega)))
         have hv3 := Lib.hid (show IL w' v [] from hv)
         clear hv hb))
    all_goals
      ((try unfold storeB at *); (try unfold callB at *); (try unfold askB at *); (try simp only [beq_iff_eq, beq_eq_false_iff_ne, ne_eq, decide_eq_true_eq, decide_eq_false_iff_not, Bool.not_eq_true] at *))
      have hs_ := HS.out
      have hc_ := HC.out
      have hy_ := HY.out
      have h2_ := H2.out
      first
      | (exfalso; omega)
      | (
        go_returns
        refine ⟨_, rfl, ?_, ?_⟩
        · unfold rdL
          rw [if_neg (by decide)]
          repeat (first | rw [if_pos (by omega)] | rw [if_neg (by omega)])
          first | exact Hid.out (by assumption) | exact ⟨_, _, rfl, by simp [go_sem]⟩ | exact ⟨_, _, rfl⟩
        · have HZ := hB2.out.size
          repeat (first | exact Hid.out (by assumption) | refine Below.alloc ?_ (by first | omega | (simp; omega)) _))
end Go.Proofs.YtcemghcfapblgaaDoor
