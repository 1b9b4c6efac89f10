/-
  The contracts of Encode, in the code and in the document's answers: one answer, at every instruction.
-/
import Derived.Test.YtcemghcfapblgaaDoorIsaEnc
import Derived.Test.YtcemghcfapblgaaDoorIsaRef2
namespace Go.Proofs.YtcemghcfapblgaaDoor
set_option linter.unusedVariables false
open Go.ChangeShapes Go.WideShapes Go.ChangeAt Go.RowKit

theorem reg_bd (h : Bool) (n : Int) (hr : regB h n = true) : 0 ≤ n ∧ n ≤ 15 := by
  cases h
  · have := reg_off _ hr
    omega
  · by_cases hn : 0 ≤ n ∧ n < 16
    · omega
    · rw [regB_no n hn] at hr
      cases hr
theorem formI_op (op : Int) (h : formI op ≠ 0) : 1 ≤ op ∧ op ≤ 42 := by
  by_cases hn : 1 ≤ op ∧ op ≤ 42
  · exact hn
  · exfalso
    apply h
    unfold formI
    repeat rw [if_neg (by omega)]
theorem fit_bd (f i : Int) (f0 : 0 ≤ f) (f1 : f ≤ 12) (h : fitB f i = true) : -8388608 ≤ i ∧ i ≤ 8388607 := by
  rcases form_cases f f0 f1 with rfl | rfl | rfl | rfl | rfl | rfl | rfl | rfl | rfl | rfl | rfl | rfl | rfl
  all_goals
    unfold fitB lLeast lMost at h
    simp at h
    omega
theorem chk_bd (op d a b i : Int) (h : chkB op d a b i = true) : (0 ≤ op ∧ op ≤ 42) ∧ (0 ≤ d ∧ d ≤ 15) ∧ (0 ≤ a ∧ a ≤ 15) ∧ (0 ≤ b ∧ b ≤ 15) ∧ (-8388608 ≤ i ∧ i ≤ 8388607) := by
  obtain ⟨hf, hd, ha, hb, hi⟩ := chk_parts op d a b i h
  have ⟨f0, f1⟩ := formI_bd op
  have := formI_op op hf
  exact ⟨by omega, reg_bd _ _ hd, reg_bd _ _ ha, reg_bd _ _ hb, fit_bd _ _ f0 f1 hi⟩
theorem lBits_bd (f : Int) (f0 : 0 ≤ f) (f1 : f ≤ 12) : 0 ≤ lBits f ∧ lBits f ≤ 24 := by
  rcases form_cases f f0 f1 with rfl | rfl | rfl | rfl | rfl | rfl | rfl | rfl | rfl | rfl | rfl | rfl | rfl <;> unfold lBits <;> decide
theorem encR_yes (op d a b i : Int) (h : chkB op d a b i = true) : encR op d a b i = encV op d a b i := by unfold encR; rw [h]; rfl
theorem encR_no (op d a b i : Int) (h : chkB op d a b i = false) : encR op d a b i = 0 := by unfold encR; rw [h]; rfl
theorem errI_yes : errI true = 0 := by unfold errI; rfl
theorem errI_no : errI false = 20 := by unfold errI; rfl
theorem encR_bd (op d a b i : Int) : 0 ≤ encR op d a b i ∧ encR op d a b i ≤ 4294967295 := by
  cases h : chkB op d a b i
  · rw [encR_no _ _ _ _ _ h]; omega
  · obtain ⟨h1, h2, h3, h4, h5⟩ := chk_bd op d a b i h
    have ⟨f0, f1⟩ := formI_bd op
    have := mod_bd i (formI op) f0 f1
    rw [encR_yes _ _ _ _ _ h]
    unfold encV
    omega
theorem c_Encode (op d a b i : Int) (w : World) (p1 : -9223372036854775808 ≤ op ∧ op ≤ 9223372036854775807) (p2 : -9223372036854775808 ≤ d ∧ d ≤ 9223372036854775807) (p3 : -9223372036854775808 ≤ a ∧ a ≤ 9223372036854775807)
    (p4 : -9223372036854775808 ≤ b ∧ b ≤ 9223372036854775807) (p5 : -9223372036854775808 ≤ i ∧ i ≤ 9223372036854775807) :
    Calls Tryd.prog 32 #[.agg #[.int .i64 op, .int .i64 d, .int .i64 a, .int .i64 b, .int .i64 i]] w fun e w' => e = .returned (.tuple #[.int .u32 (encR op d a b i), .int .i64 (errI (chkB op d a b i))]) ∧ Below w.heap.size w w' := by
  cases h : chkB op d a b i
  · rw [encR_no _ _ _ _ _ h, errI_no]
    exact c_Encode_no op d a b i w p1 p2 p3 p4 p5 h
  · rw [encR_yes _ _ _ _ _ h, errI_yes]
    obtain ⟨h1, h2, h3, h4, h5⟩ := chk_bd op d a b i h
    have ⟨f0, f1⟩ := formI_bd op
    have hl := lBits_bd _ f0 f1
    exact c_Encode_yes op d a b i w h1 h2 h3 h4 h5 h hl.1 hl.2
theorem ltr_J (f : Int) (h2 : 0 ≤ f) (h3 : f ≤ 12) : (ltr f == 74) = decide (f = 10) := by
  rcases form_cases f h2 h3 with rfl | rfl | rfl | rfl | rfl | rfl | rfl | rfl | rfl | rfl | rfl | rfl | rfl <;> unfold ltr <;> decide
theorem lMod_J (f : Int) (h : f = 10) : lMod f = 16777216 := by subst h; unfold lMod; rfl
/-- Below nought a form's number goes round by 65536, but for J. -/
theorem fit_neg (f i : Int) (f0 : 0 ≤ f) (f1 : f ≤ 12) (h : fitB f i = true) (hi : i < 0) : f ≠ 10 → (lMod f = 65536 ∧ -32768 ≤ i) := by
  rcases form_cases f f0 f1 with rfl | rfl | rfl | rfl | rfl | rfl | rfl | rfl | rfl | rfl | rfl | rfl | rfl
  all_goals
    intro hn
    unfold fitB lLeast lMost at h
    unfold lMod
    simp at h
    first | (exfalso; omega) | (refine ⟨by decide, by omega⟩)
theorem fit_pos (f i : Int) (f0 : 0 ≤ f) (f1 : f ≤ 12) (h : fitB f i = true) (hi : 0 ≤ i) : i % lMod f = i := by
  rcases form_cases f f0 f1 with rfl | rfl | rfl | rfl | rfl | rfl | rfl | rfl | rfl | rfl | rfl | rfl | rfl
  all_goals
    unfold fitB lLeast lMost at h
    unfold lMod
    simp at h
    simp only [Int.reduceEq, reduceIte, or_true, true_or, or_self]
    omega
theorem c_rEncode_no (op d a b i : Int) (w : World) (p1 : -9223372036854775808 ≤ op ∧ op ≤ 9223372036854775807) (p2 : -9223372036854775808 ≤ d ∧ d ≤ 9223372036854775807) (p3 : -9223372036854775808 ≤ a ∧ a ≤ 9223372036854775807)
    (p4 : -9223372036854775808 ≤ b ∧ b ≤ 9223372036854775807) (p5 : -9223372036854775808 ≤ i ∧ i ≤ 9223372036854775807) (hc : chkB op d a b i = false) :
    Calls Tryd.prog 41 #[.agg #[.int .i64 op, .int .i64 d, .int .i64 a, .int .i64 b, .int .i64 i]] w fun e w' => e = .returned (.tuple #[.int .u32 0, .int .i64 20]) ∧ Below w.heap.size w w' := by
  have HC := Lib.hid (c_rCheck op d a b i)
  have HE := Lib.hid (show errI (chkB op d a b i) = 20 by rw [hc]; exact errI_no)
  clear hc
  go_enter Tryd.func41, Tryd.ntmps41
  go_wp2_with (go_at_call 24; refine (HC.out _ p1 p2 p3 p4 p5).mono ?_; rw [HE.out]; rintro e w2 ⟨rfl, hb2⟩)
  go_returns
  exact ⟨rfl, ((Below.refl _ _).alloc (Nat.le_refl _) _).trans (hb2.mono (by simp))⟩
theorem c_rEncode_yes (op d a b i : Int) (w : World) (p1 : 0 ≤ op ∧ op ≤ 42) (p2 : 0 ≤ d ∧ d ≤ 15) (p3 : 0 ≤ a ∧ a ≤ 15)
    (p4 : 0 ≤ b ∧ b ≤ 15) (p5 : -8388608 ≤ i ∧ i ≤ 8388607) (hc : chkB op d a b i = true) :
    Calls Tryd.prog 41 #[.agg #[.int .i64 op, .int .i64 d, .int .i64 a, .int .i64 b, .int .i64 i]] w fun e w' => e = .returned (.tuple #[.int .u32 (encV op d a b i), .int .i64 0]) ∧ Below w.heap.size w w' := by
  obtain ⟨-, -, -, -, hfit⟩ := chk_parts op d a b i hc
  have HC := Lib.hid (c_rCheck op d a b i)
  have HE := Lib.hid (show errI (chkB op d a b i) = 0 by rw [hc]; exact errI_yes)
  have ⟨f0, f1⟩ := formI_bd op
  have HN := Lib.hid (fit_neg _ i f0 f1 hfit)
  have HP := Lib.hid (fit_pos _ i f0 f1 hfit)
  have HJ := Lib.hid (ltr_J _ f0 f1)
  clear hc hfit
  have g1 := p1.1
  have g2 := p1.2
  have g3 := p2.1
  have g4 := p2.2
  have g5 := p3.1
  have g6 := p3.2
  have g7 := p4.1
  have g8 := p4.2
  have g9 := p5.1
  have g10 := p5.2
  clear p1 p2 p3 p4 p5
  go_enter Tryd.func41, Tryd.ntmps41
  go_wp2_with fail
  refine (HC.out _ ⟨by omega, by omega⟩ ⟨by omega, by omega⟩ ⟨by omega, by omega⟩ ⟨by omega, by omega⟩ ⟨by omega, by omega⟩).mono ?_
  rw [HE.out]
  rintro e w2 ⟨rfl, hb2⟩
  obtain ⟨hx0, hx1, hx2, hx3, hx4, hB⟩ := box5 hb2
  clear hb2
  by_cases hi : i < 0
  · by_cases hJ : formI op = 10
    · have hj : (ltr (formI op) == 74) = true := by rw [HJ.out]; simp [hJ]
      have HF := Lib.hid hJ
      clear hJ
      go_wp2_with (go_at_call 27; refine (c_form op _ (by omega) (by omega)).mono ?_; rintro e w' ⟨rfl, rfl⟩)
      go_ret2
      refine ⟨ret_ue ?_ rfl, hB⟩
      unfold encV
      rw [lMod_J _ HF.out]
      omega
    · have hj : (ltr (formI op) == 74) = false := by rw [HJ.out]; simp [hJ]
      have hN := HN.out hi hJ
      have HM := Lib.hid hN.1
      have h32 := hN.2
      clear hJ hN
      go_wp2_with (go_at_call 27; refine (c_form op _ (by omega) (by omega)).mono ?_; rintro e w' ⟨rfl, rfl⟩)
      go_ret2
      refine ⟨ret_ue ?_ rfl, hB⟩
      unfold encV
      rw [HM.out]
      omega
  · have hi2 : 0 ≤ i := by omega
    have HM := Lib.hid (HP.out hi2)
    go_wp2_with fail
    go_ret2
    refine ⟨ret_ue ?_ rfl, hB⟩
    unfold encV
    rw [HM.out]
theorem c_rEncode (op d a b i : Int) (w : World) (p1 : -9223372036854775808 ≤ op ∧ op ≤ 9223372036854775807) (p2 : -9223372036854775808 ≤ d ∧ d ≤ 9223372036854775807) (p3 : -9223372036854775808 ≤ a ∧ a ≤ 9223372036854775807)
    (p4 : -9223372036854775808 ≤ b ∧ b ≤ 9223372036854775807) (p5 : -9223372036854775808 ≤ i ∧ i ≤ 9223372036854775807) :
    Calls Tryd.prog 41 #[.agg #[.int .i64 op, .int .i64 d, .int .i64 a, .int .i64 b, .int .i64 i]] w fun e w' => e = .returned (.tuple #[.int .u32 (encR op d a b i), .int .i64 (errI (chkB op d a b i))]) ∧ Below w.heap.size w w' := by
  cases h : chkB op d a b i
  · rw [encR_no _ _ _ _ _ h, errI_no]
    exact c_rEncode_no op d a b i w p1 p2 p3 p4 p5 h
  · rw [encR_yes _ _ _ _ _ h, errI_yes]
    obtain ⟨h1, h2, h3, h4, h5⟩ := chk_bd op d a b i h
    exact c_rEncode_yes op d a b i w h1 h2 h3 h4 h5 h
end Go.Proofs.YtcemghcfapblgaaDoor
