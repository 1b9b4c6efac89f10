/-
  The contract of Decode, in the code.
-/
import Derived.Test.YtcemghcfapblgaaDoorIsaEnc2
import Derived.Test.YtcemghcfapblgaaDoorIsaSplit
namespace Go.Proofs.YtcemghcfapblgaaDoor
set_option linter.unusedVariables false
open Go.ChangeShapes Go.WideShapes Go.ChangeAt Go.RowKit

/-- What a word is decoded to: the fields, where it is an instruction's word; else noughts. -/
@[irreducible] def rOp (x : Int) : Int := if decB x then sOp x else 0
@[irreducible] def rD (x : Int) : Int := if decB x then sD x else 0
@[irreducible] def rA (x : Int) : Int := if decB x then sA x else 0
@[irreducible] def rB (x : Int) : Int := if decB x then sB x else 0
@[irreducible] def rI (x : Int) : Int := if decB x then sI x else 0
theorem sD_bd (x : Int) : 0 ≤ sD x ∧ sD x ≤ 15 := by
  unfold sD
  split <;> omega
theorem sA_bd (x : Int) : 0 ≤ sA x ∧ sA x ≤ 15 := by
  unfold sA
  split <;> omega
theorem sB_bd (x : Int) : 0 ≤ sB x ∧ sB x ≤ 15 := by
  unfold sB
  split <;> omega
theorem sI_bd (x : Int) : -8388608 ≤ sI x ∧ sI x ≤ 8388607 := by
  have := immV_bd (formI (sOp x)) x
  unfold sI
  split <;> omega
theorem ret_ie {a b c d e a' b' c' d' e' k k' : Int} (h1 : a = a') (h2 : b = b') (h3 : c = c') (h4 : d = d') (h5 : e = e') (h6 : k = k') :
    Ending.returned (.tuple #[.agg #[.int .i64 a, .int .i64 b, .int .i64 c, .int .i64 d, .int .i64 e], .int .i64 k]) = .returned (.tuple #[.agg #[.int .i64 a', .int .i64 b', .int .i64 c', .int .i64 d', .int .i64 e'], .int .i64 k']) := by rw [h1, h2, h3, h4, h5, h6]
theorem dec_split (x : Int) : decB x = (chkB (sOp x) (sD x) (sA x) (sB x) (sI x) && decide (encR (sOp x) (sD x) (sA x) (sB x) (sI x) = x)) := by
  unfold decB encR
  cases h : chkB (sOp x) (sD x) (sA x) (sB x) (sI x) <;> rfl
/-- The three ways of Decode, in Bools as a walk meets them: the error, and the word that comes back. -/
theorem dec_ways (x : Int) : (decB x = true ∧ chkB (sOp x) (sD x) (sA x) (sB x) (sI x) = true ∧ encR (sOp x) (sD x) (sA x) (sB x) (sI x) = x) ∨
    (decB x = false ∧ chkB (sOp x) (sD x) (sA x) (sB x) (sI x) = false) ∨
    (decB x = false ∧ chkB (sOp x) (sD x) (sA x) (sB x) (sI x) = true ∧ ¬ encR (sOp x) (sD x) (sA x) (sB x) (sI x) = x) := by
  rw [dec_split]
  cases h : chkB (sOp x) (sD x) (sA x) (sB x) (sI x)
  · exact .inr (.inl ⟨rfl, rfl⟩)
  · by_cases he : encR (sOp x) (sD x) (sA x) (sB x) (sI x) = x
    · exact .inl ⟨by rw [he]; simp, rfl, he⟩
    · exact .inr (.inr ⟨by simp [he], rfl, he⟩)
/-- A struct of five numbers lies in a block of its own, and may be written. -/
def Box (w : World) (g : Nat) (x0 x1 x2 x3 x4 : Int) : Prop :=
  w.cell? ⟨g, 0, none⟩ = some (.int .i64 x0) ∧ w.cell? ⟨g, 1, none⟩ = some (.int .i64 x1) ∧ w.cell? ⟨g, 2, none⟩ = some (.int .i64 x2) ∧ w.cell? ⟨g, 3, none⟩ = some (.int .i64 x3) ∧ w.cell? ⟨g, 4, none⟩ = some (.int .i64 x4) ∧ ∀ o, w.frozen? ⟨g, o, none⟩ = false
theorem Box.next {N : Nat} {w w2 : World} {g : Nat} {x0 x1 x2 x3 x4 : Int} (h : Box w g x0 x1 x2 x3 x4) (hb0 : Below N w w2) (hN : N = w.heap.size) : Box w2 g x0 x1 x2 x3 x4 := by
  subst hN
  have hlt : g < w.heap.size := cell_lt h.1
  obtain ⟨hc, hf⟩ := bcell hb0
  obtain ⟨h0, h1, h2, h3, h4, h5⟩ := h
  exact ⟨(hc _ _ hlt).trans h0, (hc _ _ hlt).trans h1, (hc _ _ hlt).trans h2, (hc _ _ hlt).trans h3, (hc _ _ hlt).trans h4, fun o => (hf _ _ hlt).trans (h5 o)⟩
theorem Box.new (w : World) (x0 x1 x2 x3 x4 : Int) (T : TypeId) : Box (w.alloc (.cells #[.int .i64 x0, .int .i64 x1, .int .i64 x2, .int .i64 x3, .int .i64 x4] T)) w.heap.size x0 x1 x2 x3 x4 := by
  refine ⟨?_, ?_, ?_, ?_, ?_, fun o => ?_⟩ <;> simp [go_sem]
theorem below_new (w : World) (o : Obj) : Below w.heap.size w (w.alloc o) := (Below.refl _ _).alloc (Nat.le_refl _) _
set_option maxHeartbeats 1000000 in
theorem c_Decode (x : Int) (w : World) (h0 : 0 ≤ x) (h1 : x ≤ 4294967295) :
    Calls Tryd.prog 34 #[.int .u32 x] w fun e w' => e = .returned (.tuple #[.agg #[.int .i64 (rOp x), .int .i64 (rD x), .int .i64 (rA x), .int .i64 (rB x), .int .i64 (rI x)], .int .i64 (errI (decB x))]) ∧ Below w.heap.size w w' := by
  have HR : ∀ b, decB x = b → (rOp x = (if b then sOp x else 0) ∧ rD x = (if b then sD x else 0) ∧ rA x = (if b then sA x else 0) ∧ rB x = (if b then sB x else 0) ∧ rI x = (if b then sI x else 0)) := by
    intro b hb
    unfold rOp rD rA rB rI
    rw [hb]
    exact ⟨rfl, rfl, rfl, rfl, rfl⟩
  have HRR := Lib.hid HR
  clear HR
  have HW := Lib.hid (dec_ways x)
  have HC := Lib.hid (c_split x)
  have ⟨o0, o1⟩ := sOp_bd x h0 h1
  have ⟨d0, d1⟩ := sD_bd x
  have ⟨a0, a1⟩ := sA_bd x
  have ⟨b0, b1⟩ := sB_bd x
  have ⟨i0, i1⟩ := sI_bd x
  have ⟨e0, e1⟩ := encR_bd (sOp x) (sD x) (sA x) (sB x) (sI x)
  generalize ho : sOp x = o at *
  generalize hd : sD x = d at *
  generalize ha : sA x = a at *
  generalize hb : sB x = b at *
  generalize hi : sI x = i at *
  clear ho hd ha hb hi
  go_enter Tryd.func34, Tryd.ntmps34
  go_wp2_with fail
  refine (HC.out _ h0 h1).mono ?_
  rintro e w2 ⟨rfl, hb2⟩
  have hB2 : Below w.heap.size w w2 := below_on (below_new w _) hb2 (by simp)
  have hZ2 : Box w2 w.heap.size 0 0 0 0 0 := (Box.new w 0 0 0 0 0 _).next hb2 rfl
  have hZ2s : w.heap.size < w2.heap.size := cell_lt hZ2.1
  clear hb2
  go_wp2_with fail
  refine (c_Encode o d a b i _ ⟨by omega, by omega⟩ ⟨by omega, by omega⟩ ⟨by omega, by omega⟩ ⟨by omega, by omega⟩ ⟨by omega, by omega⟩).mono ?_
  rintro e w3 ⟨rfl, hb3⟩
  have hB3 : Below w.heap.size w w3 := below_on (below_on hB2 (below_new w2 _) hB2.size) hb3 (by have := hB2.size; simp; omega)
  have ⟨z0, z1, z2, z3, z4, zf⟩ := (hZ2.next (below_new w2 _) rfl).next hb3 rfl
  have ⟨y0, y1, y2, y3, y4, yf⟩ := (Box.new w2 o d a b i _).next hb3 rfl
  clear hb3 hZ2
  rcases HW.out with ⟨k1, k2, k3⟩ | ⟨k1, k2⟩ | ⟨k1, k2, k3⟩
  · obtain ⟨r1, r2, r3, r4, r5⟩ := HRR.out _ k1
    have H1 := Lib.hid r1
    have H2 := Lib.hid r2
    have H3 := Lib.hid r3
    have H4 := Lib.hid r4
    have H5 := Lib.hid r5
    have HE := Lib.hid (show errI (decB x) = 0 by rw [k1]; exact errI_yes)
    rw [k2, k3, errI_yes]
    clear k1 k2 k3 HW HRR r1 r2 r3 r4 r5
    go_wp2_with fail
    refine bodyPost_ret (v := .tuple #[.agg #[.int .i64 o, .int .i64 d, .int .i64 a, .int .i64 b, .int .i64 i], .int .i64 0]) (by simp [results, Tryd.results34, go_sem, z0, z1, z2, z3, z4]) rfl ?_
    refine ⟨ret_ie (H1.out.trans (if_pos trivial)).symm (H2.out.trans (if_pos trivial)).symm (H3.out.trans (if_pos trivial)).symm (H4.out.trans (if_pos trivial)).symm (H5.out.trans (if_pos trivial)).symm HE.out.symm, ?_⟩
    go_grown
  · obtain ⟨r1, r2, r3, r4, r5⟩ := HRR.out _ k1
    have H1 := Lib.hid r1
    have H2 := Lib.hid r2
    have H3 := Lib.hid r3
    have H4 := Lib.hid r4
    have H5 := Lib.hid r5
    have HE := Lib.hid (show errI (decB x) = 20 by rw [k1]; exact errI_no)
    rw [k2, errI_no]
    clear k1 k2 HW HRR r1 r2 r3 r4 r5
    go_wp2_with fail
    refine bodyPost_ret (v := .tuple #[.agg #[.int .i64 0, .int .i64 0, .int .i64 0, .int .i64 0, .int .i64 0], .int .i64 20]) (by simp [results, Tryd.results34, go_sem, z0, z1, z2, z3, z4]) rfl ?_
    refine ⟨ret_ie (H1.out.trans (if_neg (by decide))).symm (H2.out.trans (if_neg (by decide))).symm (H3.out.trans (if_neg (by decide))).symm (H4.out.trans (if_neg (by decide))).symm (H5.out.trans (if_neg (by decide))).symm HE.out.symm, ?_⟩
    go_grown
  · obtain ⟨r1, r2, r3, r4, r5⟩ := HRR.out _ k1
    have H1 := Lib.hid r1
    have H2 := Lib.hid r2
    have H3 := Lib.hid r3
    have H4 := Lib.hid r4
    have H5 := Lib.hid r5
    have HE := Lib.hid (show errI (decB x) = 20 by rw [k1]; exact errI_no)
    rw [k2, errI_yes]
    have n1 : (encR o d a b i == x) = false := beq_no k3
    have n2 : (encR o d a b i != x) = true := by simp [k3]
    clear k1 k2 k3 HW HRR r1 r2 r3 r4 r5
    go_wp2_with fail
    refine bodyPost_ret (v := .tuple #[.agg #[.int .i64 0, .int .i64 0, .int .i64 0, .int .i64 0, .int .i64 0], .int .i64 20]) (by simp [results, Tryd.results34, go_sem, z0, z1, z2, z3, z4]) rfl ?_
    refine ⟨ret_ie (H1.out.trans (if_neg (by decide))).symm (H2.out.trans (if_neg (by decide))).symm (H3.out.trans (if_neg (by decide))).symm (H4.out.trans (if_neg (by decide))).symm (H5.out.trans (if_neg (by decide))).symm HE.out.symm, ?_⟩
    go_grown
end Go.Proofs.YtcemghcfapblgaaDoor
