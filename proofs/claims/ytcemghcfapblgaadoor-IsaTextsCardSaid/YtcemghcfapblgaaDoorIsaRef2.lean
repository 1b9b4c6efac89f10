/-
  Contracts of the calls that hold an instruction against its form, in the document's answers.
-/
import Derived.Test.YtcemghcfapblgaaDoorIsaRef1
import Derived.Deep.Light
namespace Go.Proofs.YtcemghcfapblgaaDoor
set_option linter.unusedVariables false
open Go.ChangeShapes Go.WideShapes Go.ChangeAt Go.RowKit

@[irreducible] def inB (f c : Int) : Bool := (hasI f).any (fun x => (x.toNat : Int) == c)
theorem in_d (f : Int) (h2 : 0 ≤ f) (h3 : f ≤ 12) : inB f 100 = lD f := by
  rcases form_cases f h2 h3 with rfl | rfl | rfl | rfl | rfl | rfl | rfl | rfl | rfl | rfl | rfl | rfl | rfl <;> unfold inB hasI lD <;> decide
theorem in_a (f : Int) (h2 : 0 ≤ f) (h3 : f ≤ 12) : inB f 97 = lA f := by
  rcases form_cases f h2 h3 with rfl | rfl | rfl | rfl | rfl | rfl | rfl | rfl | rfl | rfl | rfl | rfl | rfl <;> unfold inB hasI lA <;> decide
theorem in_b (f : Int) (h2 : 0 ≤ f) (h3 : f ≤ 12) : inB f 98 = lB f := by
  rcases form_cases f h2 h3 with rfl | rfl | rfl | rfl | rfl | rfl | rfl | rfl | rfl | rfl | rfl | rfl | rfl <;> unfold inB hasI lB <;> decide
theorem in_i (f : Int) (h2 : 0 ≤ f) (h3 : f ≤ 12) : inB f 105 = decide (lBits f > 0) := by
  rcases form_cases f h2 h3 with rfl | rfl | rfl | rfl | rfl | rfl | rfl | rfl | rfl | rfl | rfl | rfl | rfl <;> unfold inB hasI lBits <;> decide
set_option maxHeartbeats 4000000 in
theorem c_in (f c : Int) (w : World) (h2 : 0 ≤ f) (h3 : f ≤ 12) (h4 : 0 ≤ c) (h5 : c ≤ 255) :
    Calls Tryd.prog 53 #[.int .u8 (ltr f), .int .u8 c] w fun e w' => e = .returned (.bool (inB f c)) ∧ w = w' := by
  have HH := Lib.hid (c_has f)
  have HI : Hid (inB f c = (hasI f).any (fun x => (x.toNat : Int) == c)) := by
    unfold inB
    exact Lib.hid rfl
  rcases form_cases f h2 h3 with rfl | rfl | rfl | rfl | rfl | rfl | rfl | rfl | rfl | rfl | rfl | rfl | rfl
  all_goals
    unfold hasI at HI HH
    simp only [Int.reduceEq, reduceIte, or_true, true_or, or_self] at HI HH
    go_enter Tryd.func53, Tryd.ntmps53
    go_wp2_with fail
    refine (HH.out _ (by decide) (by decide)).mono ?_
    rintro e w1 ⟨rfl, rfl⟩
    go_wp2
    go_rounds 4
    all_goals
      go_returns
      refine ⟨ret_b ?_, rfl⟩
      rw [HI.out]
      go_light
      clear HI
      simp_all [ByteArray.getElem_eq_getElem_data]
theorem regB_pos (n : Int) (h : 0 ≤ n) : regB true n = decide (n ≤ 15) := by
  unfold regB
  rw [Bool.eq_iff_iff]
  simp
  omega
theorem c_reg (f c n : Int) (w : World) (h2 : 0 ≤ f) (h3 : f ≤ 12) (h4 : 0 ≤ c) (h5 : c ≤ 255) (h6 : -9223372036854775808 ≤ n) (h7 : n ≤ 9223372036854775807) :
    Calls Tryd.prog 44 #[.int .u8 (ltr f), .int .u8 c, .int .i64 n] w fun e w' => e = .returned (.bool (regB (inB f c) n)) ∧ w = w' := by
  have HC := Lib.hid (c_in f c)
  cases hx : inB f c
  · have HX := Lib.hid hx
    clear hx
    go_enter Tryd.func44, Tryd.ntmps44
    go_wp2_with (go_at_call 53; refine (HC.out _ h2 h3 h4 h5).mono ?_; rw [HX.out]; rintro e w' ⟨rfl, rfl⟩)
    go_returns
    exact ⟨ret_b (by rw [regB_off]; rfl), rfl⟩
  · have HX := Lib.hid hx
    clear hx
    go_enter Tryd.func44, Tryd.ntmps44
    go_wp2_with (go_at_call 53; refine (HC.out _ h2 h3 h4 h5).mono ?_; rw [HX.out]; rintro e w' ⟨rfl, rfl⟩)
    all_goals
      go_returns
      refine ⟨ret_b ?_, rfl⟩
      first
        | (rw [regB_no _ (by omega)]; try (symm; simp; omega))
        | (rw [regB_yes _ (by omega)]; try (symm; simp; omega))
        | (rw [regB_pos _ (by omega)])
theorem fit_of (f i : Int) (x : Bool) (h : x = fitB f i) : Ending.returned (.bool x) = .returned (.bool (fitB f i)) := by rw [h]
set_option maxHeartbeats 4000000 in
theorem c_fits (f i : Int) (w : World) (h2 : 1 ≤ f) (h3 : f ≤ 12) (h6 : -9223372036854775808 ≤ i) (h7 : i ≤ 9223372036854775807) :
    Calls Tryd.prog 45 #[.int .u8 (ltr f), .int .i64 i] w fun e w' => e = .returned (.bool (fitB f i)) ∧ w = w' := by
  have HL : Hid (ltr f = ltr f) := Lib.hid rfl
  have HI := Lib.hid (fit_of f i)
  rcases form_cases f (by omega) h3 with rfl | rfl | rfl | rfl | rfl | rfl | rfl | rfl | rfl | rfl | rfl | rfl | rfl
  · omega
  all_goals
    unfold fitB lLeast lMost at HI
    unfold fitB lLeast lMost ltr
    simp only [Int.reduceEq, reduceIte, or_true, true_or, or_self] at HI ⊢
    go_enter Tryd.func45, Tryd.ntmps45
    go_wp2
    all_goals
      go_returns
      refine ⟨ret_b ?_, rfl⟩
      first | rfl | (rw [Bool.eq_iff_iff]; simp; done) | (rw [Bool.eq_iff_iff]; simp; omega)
theorem ltr_none (f : Int) (h2 : 0 ≤ f) (h3 : f ≤ 12) : (ltr f == 32) = decide (f = 0) := by
  rcases form_cases f h2 h3 with rfl | rfl | rfl | rfl | rfl | rfl | rfl | rfl | rfl | rfl | rfl | rfl | rfl <;> unfold ltr <;> decide
theorem c_rCheck (op d a b i : Int) (w : World) (p1 : -9223372036854775808 ≤ op ∧ op ≤ 9223372036854775807) (p2 : -9223372036854775808 ≤ d ∧ d ≤ 9223372036854775807) (p3 : -9223372036854775808 ≤ a ∧ a ≤ 9223372036854775807)
    (p4 : -9223372036854775808 ≤ b ∧ b ≤ 9223372036854775807) (p5 : -9223372036854775808 ≤ i ∧ i ≤ 9223372036854775807) :
    Calls Tryd.prog 24 #[.agg #[.int .i64 op, .int .i64 d, .int .i64 a, .int .i64 b, .int .i64 i]] w fun e w' => e = .returned (.int .i64 (errI (chkB op d a b i))) ∧ Below w.heap.size w w' := by
  obtain ⟨p1, q1⟩ := p1
  obtain ⟨p2, q2⟩ := p2
  obtain ⟨p3, q3⟩ := p3
  obtain ⟨p4, q4⟩ := p4
  obtain ⟨p5, q5⟩ := p5
  have ⟨f0, f1⟩ := formI_bd op
  have HN := Lib.hid (ltr_none (formI op) f0 f1)
  have H1 := Lib.hid (in_d (formI op) f0 f1)
  have H2 := Lib.hid (in_a (formI op) f0 f1)
  have H3 := Lib.hid (in_b (formI op) f0 f1)
  by_cases hf : formI op = 0
  · have h32 : (ltr (formI op) == 32) = true := by rw [HN.out]; simp [hf]
    have HF := Lib.hid hf
    clear hf
    go_enter Tryd.func24, Tryd.ntmps24
    go_wp2_with (go_at_call 27; refine (c_form op _ p1 q1).mono ?_; rintro e w' ⟨rfl, rfl⟩)
    go_returns
    refine ⟨ret_i ?_, by go_grown⟩
    unfold errI chkB
    simp [HF.out]
  · have h32 : (ltr (formI op) == 32) = false := by rw [HN.out]; simp [hf]
    have HF := Lib.hid hf
    have f2 : 1 ≤ formI op := by omega
    clear hf
    go_enter Tryd.func24, Tryd.ntmps24
    go_wp2_with (first | (go_at_call 27; refine (c_form op _ p1 q1).mono ?_; rintro e w' ⟨rfl, rfl⟩) | (go_at_call 44; refine (c_reg (formI op) _ _ _ f0 f1 (by omega) (by omega) (by omega) (by omega)).mono ?_; (first | rw [H1.out] | rw [H2.out] | rw [H3.out]); rintro e w' ⟨rfl, rfl⟩) | (go_at_call 45; refine (c_fits (formI op) i _ f2 f1 p5 q5).mono ?_; rintro e w' ⟨rfl, rfl⟩))
    all_goals
      go_returns
      refine ⟨ret_i ?_, by go_grown⟩
      unfold errI chkB
      simp_all [HF.out]
end Go.Proofs.YtcemghcfapblgaaDoor
