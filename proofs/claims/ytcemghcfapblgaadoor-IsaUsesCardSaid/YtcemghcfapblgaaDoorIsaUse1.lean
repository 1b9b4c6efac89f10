/-
  Contracts of Reads, Writes and Goes, in the code.
-/
import Derived.Test.YtcemghcfapblgaaDoorIsaUse0
import Derived.Test.YtcemghcfapblgaaDoorIsaPrint2
namespace Go.Proofs.YtcemghcfapblgaaDoor
set_option linter.unusedVariables false
set_option linter.unusedSimpArgs false
open Go.ChangeShapes Go.WideShapes Go.ChangeAt Go.RowKit

@[irreducible] def rdL (c : Bool) (op d a b i : Int) : List Int :=
  if c = false then [] else if formI op = 1 then sortL a b else if formI op = 9 ∨ (31 ≤ op ∧ op ≤ 33) then sortL d a
  else if formI op = 2 ∨ formI op = 3 ∨ formI op = 4 ∨ formI op = 7 ∨ formI op = 8 ∨ formI op = 11 then [a]
  else if op = 41 ∧ (i = 0 ∨ i = 2) then [0] else []
theorem store_form (op : Int) : ¬ (31 ≤ op ∧ op ≤ 33) ∨ formI op = 2 := by
  by_cases h : 31 ≤ op ∧ op ≤ 33
  · right
    unfold formI
    rw [if_neg (by omega), if_pos (by omega)]
  · exact Or.inl h
theorem call_form (op : Int) : (op = 38 ∨ op = 40) ∧ (formI op = 10 ∨ formI op = 11) ∨ ¬ (op = 38 ∨ op = 40) := by
  by_cases h : op = 38 ∨ op = 40
  · left
    refine ⟨h, ?_⟩
    unfold formI
    rcases h with rfl | rfl <;> decide
  · exact Or.inr h
theorem sys_form (op : Int) : op = 41 ∧ formI op = 12 ∨ ¬ op = 41 := by
  by_cases h : op = 41
  · subst h
    left
    refine ⟨rfl, ?_⟩
    unfold formI
    decide
  · exact Or.inr h
set_option maxHeartbeats 4000000 in
theorem c_Reads (op d a b i : Int) (w : World) (p1 : -9223372036854775808 ≤ op ∧ op ≤ 9223372036854775807) (p2 : -9223372036854775808 ≤ d ∧ d ≤ 9223372036854775807) (p3 : -9223372036854775808 ≤ a ∧ a ≤ 9223372036854775807)
    (p4 : -9223372036854775808 ≤ b ∧ b ≤ 9223372036854775807) (p5 : -9223372036854775808 ≤ i ∧ i ≤ 9223372036854775807) :
    Calls Tryd.prog 11 #[.agg #[.int .i64 op, .int .i64 d, .int .i64 a, .int .i64 b, .int .i64 i]] w fun e w' => ∃ v, e = .returned (.tuple #[v, .int .i64 (errI (chkB op d a b i))]) ∧ IL w' v (rdL (chkB op d a b i) op d a b i) ∧ Below w.heap.size w w' := by
  have C1 := Lib.hid (c_Check op d a b i)
  have HS := Lib.hid (store_form op)
  have HC := Lib.hid (call_form op)
  have HY := Lib.hid (sys_form op)
  cases hk : chkB op d a b i
  · rw [hk, errI_no] at C1
    rw [errI_no]
    go_enter Tryd.func11, Tryd.ntmps11
    go_wp2_with fail
    refine (C1.out _ p1 p2 p3 p4 p5).mono ?_
    rintro e w2 ⟨rfl, hb2⟩
    have hB2 := Lib.hid (below_on (below_new w _) hb2 (by simp))
    clear hb2
    go_wp2_with fail
    go_returns
    refine ⟨_, rfl, ?_, hB2.out⟩
    unfold rdL
    exact ⟨_, _, rfl⟩
  · rw [hk, errI_yes] at C1
    rw [errI_yes]
    go_enter Tryd.func11, Tryd.ntmps11
    go_wp2_with fail
    refine (C1.out _ p1 p2 p3 p4 p5).mono ?_
    rintro e w2 ⟨rfl, hb2⟩
    obtain ⟨q0, q1, q2, q3, q4, hB⟩ := box5 hb2
    have hz2 : w.heap.size < w2.heap.size := by have := hb2.size; simp at this; omega
    have hB2 := Lib.hid hB
    clear hb2 hB
    go_wp2_with fail
    refine (c_formOf' op _ p1.1 p1.2).mono ?_
    rintro e w3 ⟨rfl, rfl⟩
    go_wp2_with (first
      | (go_at_call 35; refine (c_rising _ _ _ (by omega) (by omega) (by omega) (by omega)).mono ?_; rintro e w' ⟨v, rfl, hv, hb⟩; have hB3 := Lib.hid (below_on hB2.out hb hB2.out.size); have hv3 := Lib.hid hv; clear hv hb)
      | (go_at_call 36; refine (c_isStore _ _).mono ?_; rintro e w' ⟨rfl, rfl⟩)
      | (go_at_call 37; refine (c_asks _ _ _ _ _ _ _).mono ?_; rintro e w' ⟨rfl, rfl⟩))
    all_goals
      ((try unfold storeB at *); (try unfold callB at *); (try unfold askB at *); (try simp only [beq_iff_eq, beq_eq_false_iff_ne, ne_eq, decide_eq_true_eq, decide_eq_false_iff_not, Bool.not_eq_true] at *))
      have hs_ := HS.out
      have hc_ := HC.out
      have hy_ := HY.out
      first
      | (exfalso; omega)
      | (
        go_returns
        refine ⟨_, rfl, ?_, ?_⟩
        · unfold rdL
          rw [if_neg (by decide)]
          repeat (first | rw [if_pos (by omega)] | rw [if_neg (by omega)])
          first | exact Hid.out (by assumption) | exact ⟨_, _, rfl, by simp [go_sem]⟩ | exact ⟨_, _, rfl⟩
        · have HZ := hB2.out.size
          repeat (first | exact Hid.out (by assumption) | refine Below.alloc ?_ (by first | omega | (simp; omega)) _))
@[irreducible] def wrL (c : Bool) (op d i : Int) : List Int :=
  if c = false then [] else if (formI op = 1 ∨ formI op = 2 ∨ formI op = 3 ∨ formI op = 4 ∨ formI op = 7 ∨ formI op = 5 ∨ formI op = 6) ∧ ¬ (31 ≤ op ∧ op ≤ 33) then [d]
  else if op = 38 ∨ op = 40 then [14] else if op = 41 ∧ i = 1 then [0] else []
set_option maxHeartbeats 4000000 in
theorem c_Writes (op d a b i : Int) (w : World) (p1 : -9223372036854775808 ≤ op ∧ op ≤ 9223372036854775807) (p2 : -9223372036854775808 ≤ d ∧ d ≤ 9223372036854775807) (p3 : -9223372036854775808 ≤ a ∧ a ≤ 9223372036854775807)
    (p4 : -9223372036854775808 ≤ b ∧ b ≤ 9223372036854775807) (p5 : -9223372036854775808 ≤ i ∧ i ≤ 9223372036854775807) :
    Calls Tryd.prog 13 #[.agg #[.int .i64 op, .int .i64 d, .int .i64 a, .int .i64 b, .int .i64 i]] w fun e w' => ∃ v, e = .returned (.tuple #[v, .int .i64 (errI (chkB op d a b i))]) ∧ IL w' v (wrL (chkB op d a b i) op d i) ∧ Below w.heap.size w w' := by
  have C1 := Lib.hid (c_Check op d a b i)
  have HS := Lib.hid (store_form op)
  have HC := Lib.hid (call_form op)
  have HY := Lib.hid (sys_form op)
  cases hk : chkB op d a b i
  · rw [hk, errI_no] at C1
    rw [errI_no]
    go_enter Tryd.func13, Tryd.ntmps13
    go_wp2_with fail
    refine (C1.out _ p1 p2 p3 p4 p5).mono ?_
    rintro e w2 ⟨rfl, hb2⟩
    have hB2 := Lib.hid (below_on (below_new w _) hb2 (by simp))
    clear hb2
    go_wp2_with fail
    go_returns
    refine ⟨_, rfl, ?_, hB2.out⟩
    unfold wrL
    exact ⟨_, _, rfl⟩
  · rw [hk, errI_yes] at C1
    rw [errI_yes]
    go_enter Tryd.func13, Tryd.ntmps13
    go_wp2_with fail
    refine (C1.out _ p1 p2 p3 p4 p5).mono ?_
    rintro e w2 ⟨rfl, hb2⟩
    obtain ⟨q0, q1, q2, q3, q4, hB⟩ := box5 hb2
    have hz2 : w.heap.size < w2.heap.size := by have := hb2.size; simp at this; omega
    have hB2 := Lib.hid hB
    clear hb2 hB
    go_wp2_with fail
    refine (c_formOf' op _ p1.1 p1.2).mono ?_
    rintro e w3 ⟨rfl, rfl⟩
    go_wp2_with (first
      | (go_at_call 39; refine (c_isCall _ _).mono ?_; rintro e w' ⟨rfl, rfl⟩)
      | (go_at_call 36; refine (c_isStore _ _).mono ?_; rintro e w' ⟨rfl, rfl⟩)
      | (go_at_call 37; refine (c_asks _ _ _ _ _ _ _).mono ?_; rintro e w' ⟨rfl, rfl⟩))
    all_goals
      ((try unfold storeB at *); (try unfold callB at *); (try unfold askB at *); (try simp only [beq_iff_eq, beq_eq_false_iff_ne, ne_eq, decide_eq_true_eq, decide_eq_false_iff_not, Bool.not_eq_true] at *))
      have hs_ := HS.out
      have hc_ := HC.out
      have hy_ := HY.out
      first
      | (exfalso; omega)
      | (
        go_returns
        refine ⟨_, rfl, ?_, ?_⟩
        · unfold wrL
          rw [if_neg (by decide)]
          repeat (first | rw [if_pos (by omega)] | rw [if_neg (by omega)])
          first | exact Hid.out (by assumption) | exact ⟨_, _, rfl, by simp [go_sem]⟩ | exact ⟨_, _, rfl⟩
        · have HZ := hB2.out.size
          repeat (first | exact Hid.out (by assumption) | refine Below.alloc ?_ (by first | omega | (simp; omega)) _))
@[irreducible] def nxB (c : Bool) (op i : Int) : Bool := c && !decide (37 ≤ op ∧ op ≤ 40) && !decide (op = 42) && !(decide (op = 41) && decide (i = 0))
@[irreducible] def jpB (c : Bool) (op : Int) : Bool := c && decide (34 ≤ op ∧ op ≤ 40)
theorem ret_bbe {a b c d : Bool} {x : Int} (h : a = b) (g : c = d) : Ending.returned (.tuple #[.bool a, .bool c, .int .i64 x]) = .returned (.tuple #[.bool b, .bool d, .int .i64 x]) := by rw [h, g]
set_option maxHeartbeats 4000000 in
theorem c_Goes (op d a b i : Int) (w : World) (p1 : -9223372036854775808 ≤ op ∧ op ≤ 9223372036854775807) (p2 : -9223372036854775808 ≤ d ∧ d ≤ 9223372036854775807) (p3 : -9223372036854775808 ≤ a ∧ a ≤ 9223372036854775807)
    (p4 : -9223372036854775808 ≤ b ∧ b ≤ 9223372036854775807) (p5 : -9223372036854775808 ≤ i ∧ i ≤ 9223372036854775807) :
    Calls Tryd.prog 15 #[.agg #[.int .i64 op, .int .i64 d, .int .i64 a, .int .i64 b, .int .i64 i]] w fun e w' => e = .returned (.tuple #[.bool (nxB (chkB op d a b i) op i), .bool (jpB (chkB op d a b i) op), .int .i64 (errI (chkB op d a b i))]) ∧ Below w.heap.size w w' := by
  have C1 := Lib.hid (c_Check op d a b i)
  cases hk : chkB op d a b i
  · rw [hk, errI_no] at C1
    rw [errI_no]
    go_enter Tryd.func15, Tryd.ntmps15
    go_wp2_with fail
    refine (C1.out _ p1 p2 p3 p4 p5).mono ?_
    rintro e w2 ⟨rfl, hb2⟩
    have hB2 := Lib.hid (below_on (below_new w _) hb2 (by simp))
    clear hb2
    go_wp2_with fail
    go_returns
    refine ⟨ret_bbe ?_ ?_, hB2.out⟩
    · unfold nxB; rfl
    · unfold jpB; rfl
  · rw [hk, errI_yes] at C1
    rw [errI_yes]
    go_enter Tryd.func15, Tryd.ntmps15
    go_wp2_with fail
    refine (C1.out _ p1 p2 p3 p4 p5).mono ?_
    rintro e w2 ⟨rfl, hb2⟩
    obtain ⟨q0, q1, q2, q3, q4, hB⟩ := box5 hb2
    have hz2 : w.heap.size < w2.heap.size := by have := hb2.size; simp at this; omega
    have hB2 := Lib.hid hB
    clear hb2 hB
    go_wp2_with (go_at_call 37; refine (c_asks _ _ _ _ _ _ _).mono ?_; rintro e w' ⟨rfl, rfl⟩)
    all_goals
      ((try unfold storeB at *); (try unfold callB at *); (try unfold askB at *); (try simp only [beq_iff_eq, beq_eq_false_iff_ne, ne_eq, decide_eq_true_eq, decide_eq_false_iff_not, Bool.not_eq_true] at *))
      go_returns
      refine ⟨ret_bbe ?_ ?_, ?_⟩
      · unfold nxB
        first | (rw [Bool.eq_iff_iff]; simp; done) | (rw [Bool.eq_iff_iff]; simp; omega)
      · unfold jpB
        first | (rw [Bool.eq_iff_iff]; simp; done) | (rw [Bool.eq_iff_iff]; simp; omega)
      · have HZ := hB2.out.size
        repeat (first | exact Hid.out (by assumption) | refine Below.alloc ?_ (by first | omega | (simp; omega)) _)
end Go.Proofs.YtcemghcfapblgaaDoor
