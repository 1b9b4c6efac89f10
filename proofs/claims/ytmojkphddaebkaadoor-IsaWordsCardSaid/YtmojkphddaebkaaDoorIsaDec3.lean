/-
  The contract of Decode, in the document's answers, form by form.
-/
import Derived.Test.YtmojkphddaebkaaDoorIsaDec2
namespace Go.Proofs.YtmojkphddaebkaaDoor
set_option linter.unusedVariables false
open Go.ChangeShapes Go.WideShapes Go.ChangeAt Go.RowKit

set_option maxHeartbeats 2000000 in
theorem c_rDecode_0 (x : Int) (w : World) (h0 : 0 ≤ x) (h1 : x ≤ 4294967295) (hf : formI (sOp x) = 0) :
    Calls Tryd.prog 12 #[.int .u32 x] w fun e w' => e = .returned (.tuple #[.agg #[.int .i64 (rOp x), .int .i64 (rD x), .int .i64 (rA x), .int .i64 (rB x), .int .i64 (rI x)], .int .i64 (errI (decB x))]) ∧ Below w.heap.size w w' := by
  have ⟨f0, f1⟩ := formI_bd (sOp x)
  have q1 : sD x = 0 := by unfold sD; rw [hf]; unfold lD; rfl
  have q2 : sA x = 0 := by unfold sA; rw [hf]; unfold lA; rfl
  have q3 : sB x = 0 := by unfold sB; rw [hf]; unfold lB; rfl
  have q4 : sI x = 0 := by unfold sI; rw [hf]; unfold lBits immV; rfl
  have HW := Lib.hid (dec_ways' x 0 0 0 0 q1 q2 q3 q4)
  have HRR := Lib.hid (dec_res x 0 0 0 0 q1 q2 q3 q4)
  have I1 := Lib.hid (show inB (formI (sOp x)) 100 = false by rw [hf, in_d _ (by decide) (by decide)]; unfold lD; rfl)
  have I2 := Lib.hid (show inB (formI (sOp x)) 97 = false by rw [hf, in_a _ (by decide) (by decide)]; unfold lA; rfl)
  have I3 := Lib.hid (show inB (formI (sOp x)) 98 = false by rw [hf, in_b _ (by decide) (by decide)]; unfold lB; rfl)
  have I4 := Lib.hid (show inB (formI (sOp x)) 105 = false by rw [hf, in_i _ (by decide) (by decide)]; unfold lBits; rfl)
  have ⟨t1, t2, t3, t4, t5⟩ := ltr_facts (formI (sOp x)) f0 f1
  rw [hf] at t1 t2 t3 t4 t5
  have k1 : (ltr (formI (sOp x)) == 74) = false := by rw [hf, t1]; rfl
  have k2 : (ltr (formI (sOp x)) == 83) = false := by rw [hf, t2]; rfl
  have k3 : (ltr (formI (sOp x)) == 76) = false := by rw [hf, t3]; rfl
  have k4 : (ltr (formI (sOp x)) == 66) = false := by rw [hf, t4]; rfl
  have k5 : (ltr (formI (sOp x)) == 84) = false := by rw [hf, t5]; rfl
  have hs : x / 16777216 = sOp x := by unfold sOp; rfl
  have m4 := i64_and15
  have m16 := i64_and65535
  have m24 := i64_and16777215
  have ⟨s0, s1⟩ := sOp_bd x h0 h1
  have HS := Lib.hid hs
  have HF := Lib.hid hf
  clear hs hf q1 q2 q3 q4 t1 t2 t3 t4 t5
  go_enter Tryd.func12, Tryd.ntmps12
  go_wp2_with fail
  rw [HS.out]
  go_wp2_with (first
    | (go_at_call 32; refine (c_form (sOp x) _ (by omega) (by omega)).mono ?_; rintro e w' ⟨rfl, rfl⟩)
    | (go_at_call 34; refine (c_in (formI (sOp x)) _ _ f0 f1 (by omega) (by omega)).mono ?_; (first | rw [I1.out] | rw [I2.out] | rw [I3.out] | rw [I4.out]); rintro e w' ⟨rfl, rfl⟩))
  refine (c_rEncode (sOp x) 0 0 0 0 _ ⟨by omega, by omega⟩ ⟨by omega, by omega⟩ ⟨by omega, by omega⟩ ⟨by omega, by omega⟩ ⟨by omega, by omega⟩).mono ?_
  rintro e w3 ⟨rfl, hb3⟩
  clear k1 k2 k3 k4 k5 m4 m16 m24
  have ⟨z0, z1, z2, z3, z4, zf⟩ := ((Box.new w 0 0 0 0 0 _).next (below_new _ _) rfl).next hb3 rfl
  have ⟨y0, y1, y2, y3, y4, yf⟩ := (Box.new (w.alloc _) (sOp x) 0 0 0 0 _).next hb3 rfl
  have hB3 : Below w.heap.size w w3 := below_on (below_on (below_new w _) (below_new _ _) (by simp)) hb3 (by simp; omega)
  have ⟨e0, e1⟩ := encR_bd (sOp x) 0 0 0 0
  simp at y0 y1 y2 y3 y4 yf
  clear hb3
  rcases HW.out with ⟨k1, k2, k3⟩ | ⟨k1, k2⟩ | ⟨k1, k2, k3⟩
  · obtain ⟨r1, r2, r3, r4, r5⟩ := HRR.out _ k1
    have H1 := Lib.hid r1
    have H2 := Lib.hid r2
    have H3 := Lib.hid r3
    have H4 := Lib.hid r4
    have H5 := Lib.hid r5
    have HE := Lib.hid (show errI (decB x) = 0 by rw [k1]; exact errI_yes)
    rw [k2, k3, errI_yes]
    clear k1 k2 k3 HW HRR r1 r2 r3 r4 r5
    go_wp2_with fail
    refine bodyPost_ret (v := .tuple #[.agg #[.int .i64 (sOp x), .int .i64 0, .int .i64 0, .int .i64 0, .int .i64 0], .int .i64 0]) (by simp [results, Tryd.results12, go_sem, z0, z1, z2, z3, z4]) rfl ?_
    refine ⟨ret_ie (H1.out.trans (if_pos trivial)).symm (H2.out.trans (if_pos trivial)).symm (H3.out.trans (if_pos trivial)).symm (H4.out.trans (if_pos trivial)).symm (H5.out.trans (if_pos trivial)).symm HE.out.symm, ?_⟩
    go_grown
  · obtain ⟨r1, r2, r3, r4, r5⟩ := HRR.out _ k1
    have H1 := Lib.hid r1
    have H2 := Lib.hid r2
    have H3 := Lib.hid r3
    have H4 := Lib.hid r4
    have H5 := Lib.hid r5
    have HE := Lib.hid (show errI (decB x) = 20 by rw [k1]; exact errI_no)
    rw [k2, errI_no]
    clear k1 k2 HW HRR r1 r2 r3 r4 r5
    go_wp2_with fail
    refine bodyPost_ret (v := .tuple #[.agg #[.int .i64 0, .int .i64 0, .int .i64 0, .int .i64 0, .int .i64 0], .int .i64 20]) (by simp [results, Tryd.results12, go_sem, z0, z1, z2, z3, z4]) rfl ?_
    refine ⟨ret_ie (H1.out.trans (if_neg (by decide))).symm (H2.out.trans (if_neg (by decide))).symm (H3.out.trans (if_neg (by decide))).symm (H4.out.trans (if_neg (by decide))).symm (H5.out.trans (if_neg (by decide))).symm HE.out.symm, ?_⟩
    go_grown
  · obtain ⟨r1, r2, r3, r4, r5⟩ := HRR.out _ k1
    have H1 := Lib.hid r1
    have H2 := Lib.hid r2
    have H3 := Lib.hid r3
    have H4 := Lib.hid r4
    have H5 := Lib.hid r5
    have HE := Lib.hid (show errI (decB x) = 20 by rw [k1]; exact errI_no)
    rw [k2, errI_yes]
    have n1 : (encR (sOp x) 0 0 0 0 == x) = false := beq_no k3
    have n2 : (encR (sOp x) 0 0 0 0 != x) = true := by simp [k3]
    clear k1 k2 k3 HW HRR r1 r2 r3 r4 r5
    go_wp2_with fail
    refine bodyPost_ret (v := .tuple #[.agg #[.int .i64 0, .int .i64 0, .int .i64 0, .int .i64 0, .int .i64 0], .int .i64 20]) (by simp [results, Tryd.results12, go_sem, z0, z1, z2, z3, z4]) rfl ?_
    refine ⟨ret_ie (H1.out.trans (if_neg (by decide))).symm (H2.out.trans (if_neg (by decide))).symm (H3.out.trans (if_neg (by decide))).symm (H4.out.trans (if_neg (by decide))).symm (H5.out.trans (if_neg (by decide))).symm HE.out.symm, ?_⟩
    go_grown
set_option maxHeartbeats 2000000 in
theorem c_rDecode_1 (x : Int) (w : World) (h0 : 0 ≤ x) (h1 : x ≤ 4294967295) (hf : formI (sOp x) = 1) :
    Calls Tryd.prog 12 #[.int .u32 x] w fun e w' => e = .returned (.tuple #[.agg #[.int .i64 (rOp x), .int .i64 (rD x), .int .i64 (rA x), .int .i64 (rB x), .int .i64 (rI x)], .int .i64 (errI (decB x))]) ∧ Below w.heap.size w w' := by
  have ⟨f0, f1⟩ := formI_bd (sOp x)
  have q1 : sD x = x / 1048576 % 16 := by unfold sD; rw [hf]; unfold lD; rfl
  have q2 : sA x = x / 65536 % 16 := by unfold sA; rw [hf]; unfold lA; rfl
  have q3 : sB x = x / 4096 % 16 := by unfold sB; rw [hf]; unfold lB; rfl
  have q4 : sI x = 0 := by unfold sI; rw [hf]; unfold lBits immV; rfl
  have HW := Lib.hid (dec_ways' x (x / 1048576 % 16) (x / 65536 % 16) (x / 4096 % 16) 0 q1 q2 q3 q4)
  have HRR := Lib.hid (dec_res x (x / 1048576 % 16) (x / 65536 % 16) (x / 4096 % 16) 0 q1 q2 q3 q4)
  have I1 := Lib.hid (show inB (formI (sOp x)) 100 = true by rw [hf, in_d _ (by decide) (by decide)]; unfold lD; rfl)
  have I2 := Lib.hid (show inB (formI (sOp x)) 97 = true by rw [hf, in_a _ (by decide) (by decide)]; unfold lA; rfl)
  have I3 := Lib.hid (show inB (formI (sOp x)) 98 = true by rw [hf, in_b _ (by decide) (by decide)]; unfold lB; rfl)
  have I4 := Lib.hid (show inB (formI (sOp x)) 105 = false by rw [hf, in_i _ (by decide) (by decide)]; unfold lBits; rfl)
  have ⟨t1, t2, t3, t4, t5⟩ := ltr_facts (formI (sOp x)) f0 f1
  rw [hf] at t1 t2 t3 t4 t5
  have k1 : (ltr (formI (sOp x)) == 74) = false := by rw [hf, t1]; rfl
  have k2 : (ltr (formI (sOp x)) == 83) = false := by rw [hf, t2]; rfl
  have k3 : (ltr (formI (sOp x)) == 76) = false := by rw [hf, t3]; rfl
  have k4 : (ltr (formI (sOp x)) == 66) = false := by rw [hf, t4]; rfl
  have k5 : (ltr (formI (sOp x)) == 84) = false := by rw [hf, t5]; rfl
  have hs : x / 16777216 = sOp x := by unfold sOp; rfl
  have m4 := i64_and15
  have m16 := i64_and65535
  have m24 := i64_and16777215
  have ⟨s0, s1⟩ := sOp_bd x h0 h1
  have HS := Lib.hid hs
  have HF := Lib.hid hf
  clear hs hf q1 q2 q3 q4 t1 t2 t3 t4 t5
  go_enter Tryd.func12, Tryd.ntmps12
  go_wp2_with fail
  rw [HS.out]
  go_wp2_with (first
    | (go_at_call 32; refine (c_form (sOp x) _ (by omega) (by omega)).mono ?_; rintro e w' ⟨rfl, rfl⟩)
    | (go_at_call 34; refine (c_in (formI (sOp x)) _ _ f0 f1 (by omega) (by omega)).mono ?_; (first | rw [I1.out] | rw [I2.out] | rw [I3.out] | rw [I4.out]); rintro e w' ⟨rfl, rfl⟩))
  refine (c_rEncode (sOp x) (x / 1048576 % 16) (x / 65536 % 16) (x / 4096 % 16) 0 _ ⟨by omega, by omega⟩ ⟨by omega, by omega⟩ ⟨by omega, by omega⟩ ⟨by omega, by omega⟩ ⟨by omega, by omega⟩).mono ?_
  rintro e w3 ⟨rfl, hb3⟩
  clear k1 k2 k3 k4 k5 m4 m16 m24
  have ⟨z0, z1, z2, z3, z4, zf⟩ := ((Box.new w 0 0 0 0 0 _).next (below_new _ _) rfl).next hb3 rfl
  have ⟨y0, y1, y2, y3, y4, yf⟩ := (Box.new (w.alloc _) (sOp x) (x / 1048576 % 16) (x / 65536 % 16) (x / 4096 % 16) 0 _).next hb3 rfl
  have hB3 : Below w.heap.size w w3 := below_on (below_on (below_new w _) (below_new _ _) (by simp)) hb3 (by simp; omega)
  have ⟨e0, e1⟩ := encR_bd (sOp x) (x / 1048576 % 16) (x / 65536 % 16) (x / 4096 % 16) 0
  simp at y0 y1 y2 y3 y4 yf
  clear hb3
  rcases HW.out with ⟨k1, k2, k3⟩ | ⟨k1, k2⟩ | ⟨k1, k2, k3⟩
  · obtain ⟨r1, r2, r3, r4, r5⟩ := HRR.out _ k1
    have H1 := Lib.hid r1
    have H2 := Lib.hid r2
    have H3 := Lib.hid r3
    have H4 := Lib.hid r4
    have H5 := Lib.hid r5
    have HE := Lib.hid (show errI (decB x) = 0 by rw [k1]; exact errI_yes)
    rw [k2, k3, errI_yes]
    clear k1 k2 k3 HW HRR r1 r2 r3 r4 r5
    go_wp2_with fail
    refine bodyPost_ret (v := .tuple #[.agg #[.int .i64 (sOp x), .int .i64 (x / 1048576 % 16), .int .i64 (x / 65536 % 16), .int .i64 (x / 4096 % 16), .int .i64 0], .int .i64 0]) (by simp [results, Tryd.results12, go_sem, z0, z1, z2, z3, z4]) rfl ?_
    refine ⟨ret_ie (H1.out.trans (if_pos trivial)).symm (H2.out.trans (if_pos trivial)).symm (H3.out.trans (if_pos trivial)).symm (H4.out.trans (if_pos trivial)).symm (H5.out.trans (if_pos trivial)).symm HE.out.symm, ?_⟩
    go_grown
  · obtain ⟨r1, r2, r3, r4, r5⟩ := HRR.out _ k1
    have H1 := Lib.hid r1
    have H2 := Lib.hid r2
    have H3 := Lib.hid r3
    have H4 := Lib.hid r4
    have H5 := Lib.hid r5
    have HE := Lib.hid (show errI (decB x) = 20 by rw [k1]; exact errI_no)
    rw [k2, errI_no]
    clear k1 k2 HW HRR r1 r2 r3 r4 r5
    go_wp2_with fail
    refine bodyPost_ret (v := .tuple #[.agg #[.int .i64 0, .int .i64 0, .int .i64 0, .int .i64 0, .int .i64 0], .int .i64 20]) (by simp [results, Tryd.results12, go_sem, z0, z1, z2, z3, z4]) rfl ?_
    refine ⟨ret_ie (H1.out.trans (if_neg (by decide))).symm (H2.out.trans (if_neg (by decide))).symm (H3.out.trans (if_neg (by decide))).symm (H4.out.trans (if_neg (by decide))).symm (H5.out.trans (if_neg (by decide))).symm HE.out.symm, ?_⟩
    go_grown
  · obtain ⟨r1, r2, r3, r4, r5⟩ := HRR.out _ k1
    have H1 := Lib.hid r1
    have H2 := Lib.hid r2
    have H3 := Lib.hid r3
    have H4 := Lib.hid r4
    have H5 := Lib.hid r5
    have HE := Lib.hid (show errI (decB x) = 20 by rw [k1]; exact errI_no)
    rw [k2, errI_yes]
    have n1 : (encR (sOp x) (x / 1048576 % 16) (x / 65536 % 16) (x / 4096 % 16) 0 == x) = false := beq_no k3
    have n2 : (encR (sOp x) (x / 1048576 % 16) (x / 65536 % 16) (x / 4096 % 16) 0 != x) = true := by simp [k3]
    clear k1 k2 k3 HW HRR r1 r2 r3 r4 r5
    go_wp2_with fail
    refine bodyPost_ret (v := .tuple #[.agg #[.int .i64 0, .int .i64 0, .int .i64 0, .int .i64 0, .int .i64 0], .int .i64 20]) (by simp [results, Tryd.results12, go_sem, z0, z1, z2, z3, z4]) rfl ?_
    refine ⟨ret_ie (H1.out.trans (if_neg (by decide))).symm (H2.out.trans (if_neg (by decide))).symm (H3.out.trans (if_neg (by decide))).symm (H4.out.trans (if_neg (by decide))).symm (H5.out.trans (if_neg (by decide))).symm HE.out.symm, ?_⟩
    go_grown
set_option maxHeartbeats 2000000 in
theorem c_rDecode_2 (x : Int) (w : World) (h0 : 0 ≤ x) (h1 : x ≤ 4294967295) (hf : formI (sOp x) = 2) :
    Calls Tryd.prog 12 #[.int .u32 x] w fun e w' => e = .returned (.tuple #[.agg #[.int .i64 (rOp x), .int .i64 (rD x), .int .i64 (rA x), .int .i64 (rB x), .int .i64 (rI x)], .int .i64 (errI (decB x))]) ∧ Below w.heap.size w w' := by
  have ⟨f0, f1⟩ := formI_bd (sOp x)
  have q1 : sD x = x / 1048576 % 16 := by unfold sD; rw [hf]; unfold lD; rfl
  have q2 : sA x = x / 65536 % 16 := by unfold sA; rw [hf]; unfold lA; rfl
  have q3 : sB x = 0 := by unfold sB; rw [hf]; unfold lB; rfl
  have q4 : sI x = sx 65536 x := by unfold sI; rw [hf]; unfold lBits immV; rfl
  have HW := Lib.hid (dec_ways' x (x / 1048576 % 16) (x / 65536 % 16) 0 (sx 65536 x) q1 q2 q3 q4)
  have HRR := Lib.hid (dec_res x (x / 1048576 % 16) (x / 65536 % 16) 0 (sx 65536 x) q1 q2 q3 q4)
  have I1 := Lib.hid (show inB (formI (sOp x)) 100 = true by rw [hf, in_d _ (by decide) (by decide)]; unfold lD; rfl)
  have I2 := Lib.hid (show inB (formI (sOp x)) 97 = true by rw [hf, in_a _ (by decide) (by decide)]; unfold lA; rfl)
  have I3 := Lib.hid (show inB (formI (sOp x)) 98 = false by rw [hf, in_b _ (by decide) (by decide)]; unfold lB; rfl)
  have I4 := Lib.hid (show inB (formI (sOp x)) 105 = true by rw [hf, in_i _ (by decide) (by decide)]; unfold lBits; rfl)
  have ⟨t1, t2, t3, t4, t5⟩ := ltr_facts (formI (sOp x)) f0 f1
  rw [hf] at t1 t2 t3 t4 t5
  have k1 : (ltr (formI (sOp x)) == 74) = false := by rw [hf, t1]; rfl
  have k2 : (ltr (formI (sOp x)) == 83) = true := by rw [hf, t2]; rfl
  have k3 : (ltr (formI (sOp x)) == 76) = false := by rw [hf, t3]; rfl
  have k4 : (ltr (formI (sOp x)) == 66) = false := by rw [hf, t4]; rfl
  have k5 : (ltr (formI (sOp x)) == 84) = false := by rw [hf, t5]; rfl
  have hs : x / 16777216 = sOp x := by unfold sOp; rfl
  have m4 := i64_and15
  have m16 := i64_and65535
  have m24 := i64_and16777215
  have ⟨s0, s1⟩ := sOp_bd x h0 h1
  have ⟨i0, i1⟩ := sx_bd16 x
  have HS := Lib.hid hs
  have HF := Lib.hid hf
  clear hs hf q1 q2 q3 q4 t1 t2 t3 t4 t5
  go_enter Tryd.func12, Tryd.ntmps12
  go_wp2_with fail
  rw [HS.out]
  go_wp2_with (first
    | (go_at_call 32; refine (c_form (sOp x) _ (by omega) (by omega)).mono ?_; rintro e w' ⟨rfl, rfl⟩)
    | (go_at_call 34; refine (c_in (formI (sOp x)) _ _ f0 f1 (by omega) (by omega)).mono ?_; (first | rw [I1.out] | rw [I2.out] | rw [I3.out] | rw [I4.out]); rintro e w' ⟨rfl, rfl⟩)
    | (go_at_call 35; refine (c_signed16 x _).mono ?_; rintro e w' ⟨rfl, rfl⟩))
  refine (c_rEncode (sOp x) (x / 1048576 % 16) (x / 65536 % 16) 0 (sx 65536 x) _ ⟨by omega, by omega⟩ ⟨by omega, by omega⟩ ⟨by omega, by omega⟩ ⟨by omega, by omega⟩ ⟨by omega, by omega⟩).mono ?_
  rintro e w3 ⟨rfl, hb3⟩
  clear k1 k2 k3 k4 k5 m4 m16 m24
  have ⟨z0, z1, z2, z3, z4, zf⟩ := ((Box.new w 0 0 0 0 0 _).next (below_new _ _) rfl).next hb3 rfl
  have ⟨y0, y1, y2, y3, y4, yf⟩ := (Box.new (w.alloc _) (sOp x) (x / 1048576 % 16) (x / 65536 % 16) 0 (sx 65536 x) _).next hb3 rfl
  have hB3 : Below w.heap.size w w3 := below_on (below_on (below_new w _) (below_new _ _) (by simp)) hb3 (by simp; omega)
  have ⟨e0, e1⟩ := encR_bd (sOp x) (x / 1048576 % 16) (x / 65536 % 16) 0 (sx 65536 x)
  simp at y0 y1 y2 y3 y4 yf
  clear hb3
  rcases HW.out with ⟨k1, k2, k3⟩ | ⟨k1, k2⟩ | ⟨k1, k2, k3⟩
  · obtain ⟨r1, r2, r3, r4, r5⟩ := HRR.out _ k1
    have H1 := Lib.hid r1
    have H2 := Lib.hid r2
    have H3 := Lib.hid r3
    have H4 := Lib.hid r4
    have H5 := Lib.hid r5
    have HE := Lib.hid (show errI (decB x) = 0 by rw [k1]; exact errI_yes)
    rw [k2, k3, errI_yes]
    clear k1 k2 k3 HW HRR r1 r2 r3 r4 r5
    go_wp2_with fail
    refine bodyPost_ret (v := .tuple #[.agg #[.int .i64 (sOp x), .int .i64 (x / 1048576 % 16), .int .i64 (x / 65536 % 16), .int .i64 0, .int .i64 (sx 65536 x)], .int .i64 0]) (by simp [results, Tryd.results12, go_sem, z0, z1, z2, z3, z4]) rfl ?_
    refine ⟨ret_ie (H1.out.trans (if_pos trivial)).symm (H2.out.trans (if_pos trivial)).symm (H3.out.trans (if_pos trivial)).symm (H4.out.trans (if_pos trivial)).symm (H5.out.trans (if_pos trivial)).symm HE.out.symm, ?_⟩
    go_grown
  · obtain ⟨r1, r2, r3, r4, r5⟩ := HRR.out _ k1
    have H1 := Lib.hid r1
    have H2 := Lib.hid r2
    have H3 := Lib.hid r3
    have H4 := Lib.hid r4
    have H5 := Lib.hid r5
    have HE := Lib.hid (show errI (decB x) = 20 by rw [k1]; exact errI_no)
    rw [k2, errI_no]
    clear k1 k2 HW HRR r1 r2 r3 r4 r5
    go_wp2_with fail
    refine bodyPost_ret (v := .tuple #[.agg #[.int .i64 0, .int .i64 0, .int .i64 0, .int .i64 0, .int .i64 0], .int .i64 20]) (by simp [results, Tryd.results12, go_sem, z0, z1, z2, z3, z4]) rfl ?_
    refine ⟨ret_ie (H1.out.trans (if_neg (by decide))).symm (H2.out.trans (if_neg (by decide))).symm (H3.out.trans (if_neg (by decide))).symm (H4.out.trans (if_neg (by decide))).symm (H5.out.trans (if_neg (by decide))).symm HE.out.symm, ?_⟩
    go_grown
  · obtain ⟨r1, r2, r3, r4, r5⟩ := HRR.out _ k1
    have H1 := Lib.hid r1
    have H2 := Lib.hid r2
    have H3 := Lib.hid r3
    have H4 := Lib.hid r4
    have H5 := Lib.hid r5
    have HE := Lib.hid (show errI (decB x) = 20 by rw [k1]; exact errI_no)
    rw [k2, errI_yes]
    have n1 : (encR (sOp x) (x / 1048576 % 16) (x / 65536 % 16) 0 (sx 65536 x) == x) = false := beq_no k3
    have n2 : (encR (sOp x) (x / 1048576 % 16) (x / 65536 % 16) 0 (sx 65536 x) != x) = true := by simp [k3]
    clear k1 k2 k3 HW HRR r1 r2 r3 r4 r5
    go_wp2_with fail
    refine bodyPost_ret (v := .tuple #[.agg #[.int .i64 0, .int .i64 0, .int .i64 0, .int .i64 0, .int .i64 0], .int .i64 20]) (by simp [results, Tryd.results12, go_sem, z0, z1, z2, z3, z4]) rfl ?_
    refine ⟨ret_ie (H1.out.trans (if_neg (by decide))).symm (H2.out.trans (if_neg (by decide))).symm (H3.out.trans (if_neg (by decide))).symm (H4.out.trans (if_neg (by decide))).symm (H5.out.trans (if_neg (by decide))).symm HE.out.symm, ?_⟩
    go_grown
set_option maxHeartbeats 2000000 in
theorem c_rDecode_3 (x : Int) (w : World) (h0 : 0 ≤ x) (h1 : x ≤ 4294967295) (hf : formI (sOp x) = 3) :
    Calls Tryd.prog 12 #[.int .u32 x] w fun e w' => e = .returned (.tuple #[.agg #[.int .i64 (rOp x), .int .i64 (rD x), .int .i64 (rA x), .int .i64 (rB x), .int .i64 (rI x)], .int .i64 (errI (decB x))]) ∧ Below w.heap.size w w' := by
  have ⟨f0, f1⟩ := formI_bd (sOp x)
  have q1 : sD x = x / 1048576 % 16 := by unfold sD; rw [hf]; unfold lD; rfl
  have q2 : sA x = x / 65536 % 16 := by unfold sA; rw [hf]; unfold lA; rfl
  have q3 : sB x = 0 := by unfold sB; rw [hf]; unfold lB; rfl
  have q4 : sI x = x % 65536 := by unfold sI; rw [hf]; unfold lBits immV; rfl
  have HW := Lib.hid (dec_ways' x (x / 1048576 % 16) (x / 65536 % 16) 0 (x % 65536) q1 q2 q3 q4)
  have HRR := Lib.hid (dec_res x (x / 1048576 % 16) (x / 65536 % 16) 0 (x % 65536) q1 q2 q3 q4)
  have I1 := Lib.hid (show inB (formI (sOp x)) 100 = true by rw [hf, in_d _ (by decide) (by decide)]; unfold lD; rfl)
  have I2 := Lib.hid (show inB (formI (sOp x)) 97 = true by rw [hf, in_a _ (by decide) (by decide)]; unfold lA; rfl)
  have I3 := Lib.hid (show inB (formI (sOp x)) 98 = false by rw [hf, in_b _ (by decide) (by decide)]; unfold lB; rfl)
  have I4 := Lib.hid (show inB (formI (sOp x)) 105 = true by rw [hf, in_i _ (by decide) (by decide)]; unfold lBits; rfl)
  have ⟨t1, t2, t3, t4, t5⟩ := ltr_facts (formI (sOp x)) f0 f1
  rw [hf] at t1 t2 t3 t4 t5
  have k1 : (ltr (formI (sOp x)) == 74) = false := by rw [hf, t1]; rfl
  have k2 : (ltr (formI (sOp x)) == 83) = false := by rw [hf, t2]; rfl
  have k3 : (ltr (formI (sOp x)) == 76) = false := by rw [hf, t3]; rfl
  have k4 : (ltr (formI (sOp x)) == 66) = false := by rw [hf, t4]; rfl
  have k5 : (ltr (formI (sOp x)) == 84) = false := by rw [hf, t5]; rfl
  have hs : x / 16777216 = sOp x := by unfold sOp; rfl
  have m4 := i64_and15
  have m16 := i64_and65535
  have m24 := i64_and16777215
  have ⟨s0, s1⟩ := sOp_bd x h0 h1
  have HS := Lib.hid hs
  have HF := Lib.hid hf
  clear hs hf q1 q2 q3 q4 t1 t2 t3 t4 t5
  go_enter Tryd.func12, Tryd.ntmps12
  go_wp2_with fail
  rw [HS.out]
  go_wp2_with (first
    | (go_at_call 32; refine (c_form (sOp x) _ (by omega) (by omega)).mono ?_; rintro e w' ⟨rfl, rfl⟩)
    | (go_at_call 34; refine (c_in (formI (sOp x)) _ _ f0 f1 (by omega) (by omega)).mono ?_; (first | rw [I1.out] | rw [I2.out] | rw [I3.out] | rw [I4.out]); rintro e w' ⟨rfl, rfl⟩))
  refine (c_rEncode (sOp x) (x / 1048576 % 16) (x / 65536 % 16) 0 (x % 65536) _ ⟨by omega, by omega⟩ ⟨by omega, by omega⟩ ⟨by omega, by omega⟩ ⟨by omega, by omega⟩ ⟨by omega, by omega⟩).mono ?_
  rintro e w3 ⟨rfl, hb3⟩
  clear k1 k2 k3 k4 k5 m4 m16 m24
  have ⟨z0, z1, z2, z3, z4, zf⟩ := ((Box.new w 0 0 0 0 0 _).next (below_new _ _) rfl).next hb3 rfl
  have ⟨y0, y1, y2, y3, y4, yf⟩ := (Box.new (w.alloc _) (sOp x) (x / 1048576 % 16) (x / 65536 % 16) 0 (x % 65536) _).next hb3 rfl
  have hB3 : Below w.heap.size w w3 := below_on (below_on (below_new w _) (below_new _ _) (by simp)) hb3 (by simp; omega)
  have ⟨e0, e1⟩ := encR_bd (sOp x) (x / 1048576 % 16) (x / 65536 % 16) 0 (x % 65536)
  simp at y0 y1 y2 y3 y4 yf
  clear hb3
  rcases HW.out with ⟨k1, k2, k3⟩ | ⟨k1, k2⟩ | ⟨k1, k2, k3⟩
  · obtain ⟨r1, r2, r3, r4, r5⟩ := HRR.out _ k1
    have H1 := Lib.hid r1
    have H2 := Lib.hid r2
    have H3 := Lib.hid r3
    have H4 := Lib.hid r4
    have H5 := Lib.hid r5
    have HE := Lib.hid (show errI (decB x) = 0 by rw [k1]; exact errI_yes)
    rw [k2, k3, errI_yes]
    clear k1 k2 k3 HW HRR r1 r2 r3 r4 r5
    go_wp2_with fail
    refine bodyPost_ret (v := .tuple #[.agg #[.int .i64 (sOp x), .int .i64 (x / 1048576 % 16), .int .i64 (x / 65536 % 16), .int .i64 0, .int .i64 (x % 65536)], .int .i64 0]) (by simp [results, Tryd.results12, go_sem, z0, z1, z2, z3, z4]) rfl ?_
    refine ⟨ret_ie (H1.out.trans (if_pos trivial)).symm (H2.out.trans (if_pos trivial)).symm (H3.out.trans (if_pos trivial)).symm (H4.out.trans (if_pos trivial)).symm (H5.out.trans (if_pos trivial)).symm HE.out.symm, ?_⟩
    go_grown
  · obtain ⟨r1, r2, r3, r4, r5⟩ := HRR.out _ k1
    have H1 := Lib.hid r1
    have H2 := Lib.hid r2
    have H3 := Lib.hid r3
    have H4 := Lib.hid r4
    have H5 := Lib.hid r5
    have HE := Lib.hid (show errI (decB x) = 20 by rw [k1]; exact errI_no)
    rw [k2, errI_no]
    clear k1 k2 HW HRR r1 r2 r3 r4 r5
    go_wp2_with fail
    refine bodyPost_ret (v := .tuple #[.agg #[.int .i64 0, .int .i64 0, .int .i64 0, .int .i64 0, .int .i64 0], .int .i64 20]) (by simp [results, Tryd.results12, go_sem, z0, z1, z2, z3, z4]) rfl ?_
    refine ⟨ret_ie (H1.out.trans (if_neg (by decide))).symm (H2.out.trans (if_neg (by decide))).symm (H3.out.trans (if_neg (by decide))).symm (H4.out.trans (if_neg (by decide))).symm (H5.out.trans (if_neg (by decide))).symm HE.out.symm, ?_⟩
    go_grown
  · obtain ⟨r1, r2, r3, r4, r5⟩ := HRR.out _ k1
    have H1 := Lib.hid r1
    have H2 := Lib.hid r2
    have H3 := Lib.hid r3
    have H4 := Lib.hid r4
    have H5 := Lib.hid r5
    have HE := Lib.hid (show errI (decB x) = 20 by rw [k1]; exact errI_no)
    rw [k2, errI_yes]
    have n1 : (encR (sOp x) (x / 1048576 % 16) (x / 65536 % 16) 0 (x % 65536) == x) = false := beq_no k3
    have n2 : (encR (sOp x) (x / 1048576 % 16) (x / 65536 % 16) 0 (x % 65536) != x) = true := by simp [k3]
    clear k1 k2 k3 HW HRR r1 r2 r3 r4 r5
    go_wp2_with fail
    refine bodyPost_ret (v := .tuple #[.agg #[.int .i64 0, .int .i64 0, .int .i64 0, .int .i64 0, .int .i64 0], .int .i64 20]) (by simp [results, Tryd.results12, go_sem, z0, z1, z2, z3, z4]) rfl ?_
    refine ⟨ret_ie (H1.out.trans (if_neg (by decide))).symm (H2.out.trans (if_neg (by decide))).symm (H3.out.trans (if_neg (by decide))).symm (H4.out.trans (if_neg (by decide))).symm (H5.out.trans (if_neg (by decide))).symm HE.out.symm, ?_⟩
    go_grown
set_option maxHeartbeats 2000000 in
theorem c_rDecode_4 (x : Int) (w : World) (h0 : 0 ≤ x) (h1 : x ≤ 4294967295) (hf : formI (sOp x) = 4) :
    Calls Tryd.prog 12 #[.int .u32 x] w fun e w' => e = .returned (.tuple #[.agg #[.int .i64 (rOp x), .int .i64 (rD x), .int .i64 (rA x), .int .i64 (rB x), .int .i64 (rI x)], .int .i64 (errI (decB x))]) ∧ Below w.heap.size w w' := by
  have ⟨f0, f1⟩ := formI_bd (sOp x)
  have q1 : sD x = x / 1048576 % 16 := by unfold sD; rw [hf]; unfold lD; rfl
  have q2 : sA x = x / 65536 % 16 := by unfold sA; rw [hf]; unfold lA; rfl
  have q3 : sB x = 0 := by unfold sB; rw [hf]; unfold lB; rfl
  have q4 : sI x = x % 65536 := by unfold sI; rw [hf]; unfold lBits immV; rfl
  have HW := Lib.hid (dec_ways' x (x / 1048576 % 16) (x / 65536 % 16) 0 (x % 65536) q1 q2 q3 q4)
  have HRR := Lib.hid (dec_res x (x / 1048576 % 16) (x / 65536 % 16) 0 (x % 65536) q1 q2 q3 q4)
  have I1 := Lib.hid (show inB (formI (sOp x)) 100 = true by rw [hf, in_d _ (by decide) (by decide)]; unfold lD; rfl)
  have I2 := Lib.hid (show inB (formI (sOp x)) 97 = true by rw [hf, in_a _ (by decide) (by decide)]; unfold lA; rfl)
  have I3 := Lib.hid (show inB (formI (sOp x)) 98 = false by rw [hf, in_b _ (by decide) (by decide)]; unfold lB; rfl)
  have I4 := Lib.hid (show inB (formI (sOp x)) 105 = true by rw [hf, in_i _ (by decide) (by decide)]; unfold lBits; rfl)
  have ⟨t1, t2, t3, t4, t5⟩ := ltr_facts (formI (sOp x)) f0 f1
  rw [hf] at t1 t2 t3 t4 t5
  have k1 : (ltr (formI (sOp x)) == 74) = false := by rw [hf, t1]; rfl
  have k2 : (ltr (formI (sOp x)) == 83) = false := by rw [hf, t2]; rfl
  have k3 : (ltr (formI (sOp x)) == 76) = false := by rw [hf, t3]; rfl
  have k4 : (ltr (formI (sOp x)) == 66) = false := by rw [hf, t4]; rfl
  have k5 : (ltr (formI (sOp x)) == 84) = false := by rw [hf, t5]; rfl
  have hs : x / 16777216 = sOp x := by unfold sOp; rfl
  have m4 := i64_and15
  have m16 := i64_and65535
  have m24 := i64_and16777215
  have ⟨s0, s1⟩ := sOp_bd x h0 h1
  have HS := Lib.hid hs
  have HF := Lib.hid hf
  clear hs hf q1 q2 q3 q4 t1 t2 t3 t4 t5
  go_enter Tryd.func12, Tryd.ntmps12
  go_wp2_with fail
  rw [HS.out]
  go_wp2_with (first
    | (go_at_call 32; refine (c_form (sOp x) _ (by omega) (by omega)).mono ?_; rintro e w' ⟨rfl, rfl⟩)
    | (go_at_call 34; refine (c_in (formI (sOp x)) _ _ f0 f1 (by omega) (by omega)).mono ?_; (first | rw [I1.out] | rw [I2.out] | rw [I3.out] | rw [I4.out]); rintro e w' ⟨rfl, rfl⟩))
  refine (c_rEncode (sOp x) (x / 1048576 % 16) (x / 65536 % 16) 0 (x % 65536) _ ⟨by omega, by omega⟩ ⟨by omega, by omega⟩ ⟨by omega, by omega⟩ ⟨by omega, by omega⟩ ⟨by omega, by omega⟩).mono ?_
  rintro e w3 ⟨rfl, hb3⟩
  clear k1 k2 k3 k4 k5 m4 m16 m24
  have ⟨z0, z1, z2, z3, z4, zf⟩ := ((Box.new w 0 0 0 0 0 _).next (below_new _ _) rfl).next hb3 rfl
  have ⟨y0, y1, y2, y3, y4, yf⟩ := (Box.new (w.alloc _) (sOp x) (x / 1048576 % 16) (x / 65536 % 16) 0 (x % 65536) _).next hb3 rfl
  have hB3 : Below w.heap.size w w3 := below_on (below_on (below_new w _) (below_new _ _) (by simp)) hb3 (by simp; omega)
  have ⟨e0, e1⟩ := encR_bd (sOp x) (x / 1048576 % 16) (x / 65536 % 16) 0 (x % 65536)
  simp at y0 y1 y2 y3 y4 yf
  clear hb3
  rcases HW.out with ⟨k1, k2, k3⟩ | ⟨k1, k2⟩ | ⟨k1, k2, k3⟩
  · obtain ⟨r1, r2, r3, r4, r5⟩ := HRR.out _ k1
    have H1 := Lib.hid r1
    have H2 := Lib.hid r2
    have H3 := Lib.hid r3
    have H4 := Lib.hid r4
    have H5 := Lib.hid r5
    have HE := Lib.hid (show errI (decB x) = 0 by rw [k1]; exact errI_yes)
    rw [k2, k3, errI_yes]
    clear k1 k2 k3 HW HRR r1 r2 r3 r4 r5
    go_wp2_with fail
    refine bodyPost_ret (v := .tuple #[.agg #[.int .i64 (sOp x), .int .i64 (x / 1048576 % 16), .int .i64 (x / 65536 % 16), .int .i64 0, .int .i64 (x % 65536)], .int .i64 0]) (by simp [results, Tryd.results12, go_sem, z0, z1, z2, z3, z4]) rfl ?_
    refine ⟨ret_ie (H1.out.trans (if_pos trivial)).symm (H2.out.trans (if_pos trivial)).symm (H3.out.trans (if_pos trivial)).symm (H4.out.trans (if_pos trivial)).symm (H5.out.trans (if_pos trivial)).symm HE.out.symm, ?_⟩
    go_grown
  · obtain ⟨r1, r2, r3, r4, r5⟩ := HRR.out _ k1
    have H1 := Lib.hid r1
    have H2 := Lib.hid r2
    have H3 := Lib.hid r3
    have H4 := Lib.hid r4
    have H5 := Lib.hid r5
    have HE := Lib.hid (show errI (decB x) = 20 by rw [k1]; exact errI_no)
    rw [k2, errI_no]
    clear k1 k2 HW HRR r1 r2 r3 r4 r5
    go_wp2_with fail
    refine bodyPost_ret (v := .tuple #[.agg #[.int .i64 0, .int .i64 0, .int .i64 0, .int .i64 0, .int .i64 0], .int .i64 20]) (by simp [results, Tryd.results12, go_sem, z0, z1, z2, z3, z4]) rfl ?_
    refine ⟨ret_ie (H1.out.trans (if_neg (by decide))).symm (H2.out.trans (if_neg (by decide))).symm (H3.out.trans (if_neg (by decide))).symm (H4.out.trans (if_neg (by decide))).symm (H5.out.trans (if_neg (by decide))).symm HE.out.symm, ?_⟩
    go_grown
  · obtain ⟨r1, r2, r3, r4, r5⟩ := HRR.out _ k1
    have H1 := Lib.hid r1
    have H2 := Lib.hid r2
    have H3 := Lib.hid r3
    have H4 := Lib.hid r4
    have H5 := Lib.hid r5
    have HE := Lib.hid (show errI (decB x) = 20 by rw [k1]; exact errI_no)
    rw [k2, errI_yes]
    have n1 : (encR (sOp x) (x / 1048576 % 16) (x / 65536 % 16) 0 (x % 65536) == x) = false := beq_no k3
    have n2 : (encR (sOp x) (x / 1048576 % 16) (x / 65536 % 16) 0 (x % 65536) != x) = true := by simp [k3]
    clear k1 k2 k3 HW HRR r1 r2 r3 r4 r5
    go_wp2_with fail
    refine bodyPost_ret (v := .tuple #[.agg #[.int .i64 0, .int .i64 0, .int .i64 0, .int .i64 0, .int .i64 0], .int .i64 20]) (by simp [results, Tryd.results12, go_sem, z0, z1, z2, z3, z4]) rfl ?_
    refine ⟨ret_ie (H1.out.trans (if_neg (by decide))).symm (H2.out.trans (if_neg (by decide))).symm (H3.out.trans (if_neg (by decide))).symm (H4.out.trans (if_neg (by decide))).symm (H5.out.trans (if_neg (by decide))).symm HE.out.symm, ?_⟩
    go_grown
set_option maxHeartbeats 2000000 in
theorem c_rDecode_5 (x : Int) (w : World) (h0 : 0 ≤ x) (h1 : x ≤ 4294967295) (hf : formI (sOp x) = 5) :
    Calls Tryd.prog 12 #[.int .u32 x] w fun e w' => e = .returned (.tuple #[.agg #[.int .i64 (rOp x), .int .i64 (rD x), .int .i64 (rA x), .int .i64 (rB x), .int .i64 (rI x)], .int .i64 (errI (decB x))]) ∧ Below w.heap.size w w' := by
  have ⟨f0, f1⟩ := formI_bd (sOp x)
  have q1 : sD x = x / 1048576 % 16 := by unfold sD; rw [hf]; unfold lD; rfl
  have q2 : sA x = 0 := by unfold sA; rw [hf]; unfold lA; rfl
  have q3 : sB x = 0 := by unfold sB; rw [hf]; unfold lB; rfl
  have q4 : sI x = sx 65536 x := by unfold sI; rw [hf]; unfold lBits immV; rfl
  have HW := Lib.hid (dec_ways' x (x / 1048576 % 16) 0 0 (sx 65536 x) q1 q2 q3 q4)
  have HRR := Lib.hid (dec_res x (x / 1048576 % 16) 0 0 (sx 65536 x) q1 q2 q3 q4)
  have I1 := Lib.hid (show inB (formI (sOp x)) 100 = true by rw [hf, in_d _ (by decide) (by decide)]; unfold lD; rfl)
  have I2 := Lib.hid (show inB (formI (sOp x)) 97 = false by rw [hf, in_a _ (by decide) (by decide)]; unfold lA; rfl)
  have I3 := Lib.hid (show inB (formI (sOp x)) 98 = false by rw [hf, in_b _ (by decide) (by decide)]; unfold lB; rfl)
  have I4 := Lib.hid (show inB (formI (sOp x)) 105 = true by rw [hf, in_i _ (by decide) (by decide)]; unfold lBits; rfl)
  have ⟨t1, t2, t3, t4, t5⟩ := ltr_facts (formI (sOp x)) f0 f1
  rw [hf] at t1 t2 t3 t4 t5
  have k1 : (ltr (formI (sOp x)) == 74) = false := by rw [hf, t1]; rfl
  have k2 : (ltr (formI (sOp x)) == 83) = false := by rw [hf, t2]; rfl
  have k3 : (ltr (formI (sOp x)) == 76) = true := by rw [hf, t3]; rfl
  have k4 : (ltr (formI (sOp x)) == 66) = false := by rw [hf, t4]; rfl
  have k5 : (ltr (formI (sOp x)) == 84) = false := by rw [hf, t5]; rfl
  have hs : x / 16777216 = sOp x := by unfold sOp; rfl
  have m4 := i64_and15
  have m16 := i64_and65535
  have m24 := i64_and16777215
  have ⟨s0, s1⟩ := sOp_bd x h0 h1
  have ⟨i0, i1⟩ := sx_bd16 x
  have HS := Lib.hid hs
  have HF := Lib.hid hf
  clear hs hf q1 q2 q3 q4 t1 t2 t3 t4 t5
  go_enter Tryd.func12, Tryd.ntmps12
  go_wp2_with fail
  rw [HS.out]
  go_wp2_with (first
    | (go_at_call 32; refine (c_form (sOp x) _ (by omega) (by omega)).mono ?_; rintro e w' ⟨rfl, rfl⟩)
    | (go_at_call 34; refine (c_in (formI (sOp x)) _ _ f0 f1 (by omega) (by omega)).mono ?_; (first | rw [I1.out] | rw [I2.out] | rw [I3.out] | rw [I4.out]); rintro e w' ⟨rfl, rfl⟩)
    | (go_at_call 35; refine (c_signed16 x _).mono ?_; rintro e w' ⟨rfl, rfl⟩))
  refine (c_rEncode (sOp x) (x / 1048576 % 16) 0 0 (sx 65536 x) _ ⟨by omega, by omega⟩ ⟨by omega, by omega⟩ ⟨by omega, by omega⟩ ⟨by omega, by omega⟩ ⟨by omega, by omega⟩).mono ?_
  rintro e w3 ⟨rfl, hb3⟩
  clear k1 k2 k3 k4 k5 m4 m16 m24
  have ⟨z0, z1, z2, z3, z4, zf⟩ := ((Box.new w 0 0 0 0 0 _).next (below_new _ _) rfl).next hb3 rfl
  have ⟨y0, y1, y2, y3, y4, yf⟩ := (Box.new (w.alloc _) (sOp x) (x / 1048576 % 16) 0 0 (sx 65536 x) _).next hb3 rfl
  have hB3 : Below w.heap.size w w3 := below_on (below_on (below_new w _) (below_new _ _) (by simp)) hb3 (by simp; omega)
  have ⟨e0, e1⟩ := encR_bd (sOp x) (x / 1048576 % 16) 0 0 (sx 65536 x)
  simp at y0 y1 y2 y3 y4 yf
  clear hb3
  rcases HW.out with ⟨k1, k2, k3⟩ | ⟨k1, k2⟩ | ⟨k1, k2, k3⟩
  · obtain ⟨r1, r2, r3, r4, r5⟩ := HRR.out _ k1
    have H1 := Lib.hid r1
    have H2 := Lib.hid r2
    have H3 := Lib.hid r3
    have H4 := Lib.hid r4
    have H5 := Lib.hid r5
    have HE := Lib.hid (show errI (decB x) = 0 by rw [k1]; exact errI_yes)
    rw [k2, k3, errI_yes]
    clear k1 k2 k3 HW HRR r1 r2 r3 r4 r5
    go_wp2_with fail
    refine bodyPost_ret (v := .tuple #[.agg #[.int .i64 (sOp x), .int .i64 (x / 1048576 % 16), .int .i64 0, .int .i64 0, .int .i64 (sx 65536 x)], .int .i64 0]) (by simp [results, Tryd.results12, go_sem, z0, z1, z2, z3, z4]) rfl ?_
    refine ⟨ret_ie (H1.out.trans (if_pos trivial)).symm (H2.out.trans (if_pos trivial)).symm (H3.out.trans (if_pos trivial)).symm (H4.out.trans (if_pos trivial)).symm (H5.out.trans (if_pos trivial)).symm HE.out.symm, ?_⟩
    go_grown
  · obtain ⟨r1, r2, r3, r4, r5⟩ := HRR.out _ k1
    have H1 := Lib.hid r1
    have H2 := Lib.hid r2
    have H3 := Lib.hid r3
    have H4 := Lib.hid r4
    have H5 := Lib.hid r5
    have HE := Lib.hid (show errI (decB x) = 20 by rw [k1]; exact errI_no)
    rw [k2, errI_no]
    clear k1 k2 HW HRR r1 r2 r3 r4 r5
    go_wp2_with fail
    refine bodyPost_ret (v := .tuple #[.agg #[.int .i64 0, .int .i64 0, .int .i64 0, .int .i64 0, .int .i64 0], .int .i64 20]) (by simp [results, Tryd.results12, go_sem, z0, z1, z2, z3, z4]) rfl ?_
    refine ⟨ret_ie (H1.out.trans (if_neg (by decide))).symm (H2.out.trans (if_neg (by decide))).symm (H3.out.trans (if_neg (by decide))).symm (H4.out.trans (if_neg (by decide))).symm (H5.out.trans (if_neg (by decide))).symm HE.out.symm, ?_⟩
    go_grown
  · obtain ⟨r1, r2, r3, r4, r5⟩ := HRR.out _ k1
    have H1 := Lib.hid r1
    have H2 := Lib.hid r2
    have H3 := Lib.hid r3
    have H4 := Lib.hid r4
    have H5 := Lib.hid r5
    have HE := Lib.hid (show errI (decB x) = 20 by rw [k1]; exact errI_no)
    rw [k2, errI_yes]
    have n1 : (encR (sOp x) (x / 1048576 % 16) 0 0 (sx 65536 x) == x) = false := beq_no k3
    have n2 : (encR (sOp x) (x / 1048576 % 16) 0 0 (sx 65536 x) != x) = true := by simp [k3]
    clear k1 k2 k3 HW HRR r1 r2 r3 r4 r5
    go_wp2_with fail
    refine bodyPost_ret (v := .tuple #[.agg #[.int .i64 0, .int .i64 0, .int .i64 0, .int .i64 0, .int .i64 0], .int .i64 20]) (by simp [results, Tryd.results12, go_sem, z0, z1, z2, z3, z4]) rfl ?_
    refine ⟨ret_ie (H1.out.trans (if_neg (by decide))).symm (H2.out.trans (if_neg (by decide))).symm (H3.out.trans (if_neg (by decide))).symm (H4.out.trans (if_neg (by decide))).symm (H5.out.trans (if_neg (by decide))).symm HE.out.symm, ?_⟩
    go_grown
set_option maxHeartbeats 2000000 in
theorem c_rDecode_6 (x : Int) (w : World) (h0 : 0 ≤ x) (h1 : x ≤ 4294967295) (hf : formI (sOp x) = 6) :
    Calls Tryd.prog 12 #[.int .u32 x] w fun e w' => e = .returned (.tuple #[.agg #[.int .i64 (rOp x), .int .i64 (rD x), .int .i64 (rA x), .int .i64 (rB x), .int .i64 (rI x)], .int .i64 (errI (decB x))]) ∧ Below w.heap.size w w' := by
  have ⟨f0, f1⟩ := formI_bd (sOp x)
  have q1 : sD x = x / 1048576 % 16 := by unfold sD; rw [hf]; unfold lD; rfl
  have q2 : sA x = 0 := by unfold sA; rw [hf]; unfold lA; rfl
  have q3 : sB x = 0 := by unfold sB; rw [hf]; unfold lB; rfl
  have q4 : sI x = x % 65536 := by unfold sI; rw [hf]; unfold lBits immV; rfl
  have HW := Lib.hid (dec_ways' x (x / 1048576 % 16) 0 0 (x % 65536) q1 q2 q3 q4)
  have HRR := Lib.hid (dec_res x (x / 1048576 % 16) 0 0 (x % 65536) q1 q2 q3 q4)
  have I1 := Lib.hid (show inB (formI (sOp x)) 100 = true by rw [hf, in_d _ (by decide) (by decide)]; unfold lD; rfl)
  have I2 := Lib.hid (show inB (formI (sOp x)) 97 = false by rw [hf, in_a _ (by decide) (by decide)]; unfold lA; rfl)
  have I3 := Lib.hid (show inB (formI (sOp x)) 98 = false by rw [hf, in_b _ (by decide) (by decide)]; unfold lB; rfl)
  have I4 := Lib.hid (show inB (formI (sOp x)) 105 = true by rw [hf, in_i _ (by decide) (by decide)]; unfold lBits; rfl)
  have ⟨t1, t2, t3, t4, t5⟩ := ltr_facts (formI (sOp x)) f0 f1
  rw [hf] at t1 t2 t3 t4 t5
  have k1 : (ltr (formI (sOp x)) == 74) = false := by rw [hf, t1]; rfl
  have k2 : (ltr (formI (sOp x)) == 83) = false := by rw [hf, t2]; rfl
  have k3 : (ltr (formI (sOp x)) == 76) = false := by rw [hf, t3]; rfl
  have k4 : (ltr (formI (sOp x)) == 66) = false := by rw [hf, t4]; rfl
  have k5 : (ltr (formI (sOp x)) == 84) = false := by rw [hf, t5]; rfl
  have hs : x / 16777216 = sOp x := by unfold sOp; rfl
  have m4 := i64_and15
  have m16 := i64_and65535
  have m24 := i64_and16777215
  have ⟨s0, s1⟩ := sOp_bd x h0 h1
  have HS := Lib.hid hs
  have HF := Lib.hid hf
  clear hs hf q1 q2 q3 q4 t1 t2 t3 t4 t5
  go_enter Tryd.func12, Tryd.ntmps12
  go_wp2_with fail
  rw [HS.out]
  go_wp2_with (first
    | (go_at_call 32; refine (c_form (sOp x) _ (by omega) (by omega)).mono ?_; rintro e w' ⟨rfl, rfl⟩)
    | (go_at_call 34; refine (c_in (formI (sOp x)) _ _ f0 f1 (by omega) (by omega)).mono ?_; (first | rw [I1.out] | rw [I2.out] | rw [I3.out] | rw [I4.out]); rintro e w' ⟨rfl, rfl⟩))
  refine (c_rEncode (sOp x) (x / 1048576 % 16) 0 0 (x % 65536) _ ⟨by omega, by omega⟩ ⟨by omega, by omega⟩ ⟨by omega, by omega⟩ ⟨by omega, by omega⟩ ⟨by omega, by omega⟩).mono ?_
  rintro e w3 ⟨rfl, hb3⟩
  clear k1 k2 k3 k4 k5 m4 m16 m24
  have ⟨z0, z1, z2, z3, z4, zf⟩ := ((Box.new w 0 0 0 0 0 _).next (below_new _ _) rfl).next hb3 rfl
  have ⟨y0, y1, y2, y3, y4, yf⟩ := (Box.new (w.alloc _) (sOp x) (x / 1048576 % 16) 0 0 (x % 65536) _).next hb3 rfl
  have hB3 : Below w.heap.size w w3 := below_on (below_on (below_new w _) (below_new _ _) (by simp)) hb3 (by simp; omega)
  have ⟨e0, e1⟩ := encR_bd (sOp x) (x / 1048576 % 16) 0 0 (x % 65536)
  simp at y0 y1 y2 y3 y4 yf
  clear hb3
  rcases HW.out with ⟨k1, k2, k3⟩ | ⟨k1, k2⟩ | ⟨k1, k2, k3⟩
  · obtain ⟨r1, r2, r3, r4, r5⟩ := HRR.out _ k1
    have H1 := Lib.hid r1
    have H2 := Lib.hid r2
    have H3 := Lib.hid r3
    have H4 := Lib.hid r4
    have H5 := Lib.hid r5
    have HE := Lib.hid (show errI (decB x) = 0 by rw [k1]; exact errI_yes)
    rw [k2, k3, errI_yes]
    clear k1 k2 k3 HW HRR r1 r2 r3 r4 r5
    go_wp2_with fail
    refine bodyPost_ret (v := .tuple #[.agg #[.int .i64 (sOp x), .int .i64 (x / 1048576 % 16), .int .i64 0, .int .i64 0, .int .i64 (x % 65536)], .int .i64 0]) (by simp [results, Tryd.results12, go_sem, z0, z1, z2, z3, z4]) rfl ?_
    refine ⟨ret_ie (H1.out.trans (if_pos trivial)).symm (H2.out.trans (if_pos trivial)).symm (H3.out.trans (if_pos trivial)).symm (H4.out.trans (if_pos trivial)).symm (H5.out.trans (if_pos trivial)).symm HE.out.symm, ?_⟩
    go_grown
  · obtain ⟨r1, r2, r3, r4, r5⟩ := HRR.out _ k1
    have H1 := Lib.hid r1
    have H2 := Lib.hid r2
    have H3 := Lib.hid r3
    have H4 := Lib.hid r4
    have H5 := Lib.hid r5
    have HE := Lib.hid (show errI (decB x) = 20 by rw [k1]; exact errI_no)
    rw [k2, errI_no]
    clear k1 k2 HW HRR r1 r2 r3 r4 r5
    go_wp2_with fail
    refine bodyPost_ret (v := .tuple #[.agg #[.int .i64 0, .int .i64 0, .int .i64 0, .int .i64 0, .int .i64 0], .int .i64 20]) (by simp [results, Tryd.results12, go_sem, z0, z1, z2, z3, z4]) rfl ?_
    refine ⟨ret_ie (H1.out.trans (if_neg (by decide))).symm (H2.out.trans (if_neg (by decide))).symm (H3.out.trans (if_neg (by decide))).symm (H4.out.trans (if_neg (by decide))).symm (H5.out.trans (if_neg (by decide))).symm HE.out.symm, ?_⟩
    go_grown
  · obtain ⟨r1, r2, r3, r4, r5⟩ := HRR.out _ k1
    have H1 := Lib.hid r1
    have H2 := Lib.hid r2
    have H3 := Lib.hid r3
    have H4 := Lib.hid r4
    have H5 := Lib.hid r5
    have HE := Lib.hid (show errI (decB x) = 20 by rw [k1]; exact errI_no)
    rw [k2, errI_yes]
    have n1 : (encR (sOp x) (x / 1048576 % 16) 0 0 (x % 65536) == x) = false := beq_no k3
    have n2 : (encR (sOp x) (x / 1048576 % 16) 0 0 (x % 65536) != x) = true := by simp [k3]
    clear k1 k2 k3 HW HRR r1 r2 r3 r4 r5
    go_wp2_with fail
    refine bodyPost_ret (v := .tuple #[.agg #[.int .i64 0, .int .i64 0, .int .i64 0, .int .i64 0, .int .i64 0], .int .i64 20]) (by simp [results, Tryd.results12, go_sem, z0, z1, z2, z3, z4]) rfl ?_
    refine ⟨ret_ie (H1.out.trans (if_neg (by decide))).symm (H2.out.trans (if_neg (by decide))).symm (H3.out.trans (if_neg (by decide))).symm (H4.out.trans (if_neg (by decide))).symm (H5.out.trans (if_neg (by decide))).symm HE.out.symm, ?_⟩
    go_grown
end Go.Proofs.YtmojkphddaebkaaDoor
