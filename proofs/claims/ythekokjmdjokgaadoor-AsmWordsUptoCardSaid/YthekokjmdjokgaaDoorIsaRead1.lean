
/-
  The contract of read, in the code, form by form.
-/
import Derived.Test.YthekokjmdjokgaaDoorIsaRead0
namespace Go.Proofs.YthekokjmdjokgaaDoor
set_option linter.unusedVariables false
set_option linter.unusedSimpArgs false
open Go.ChangeShapes Go.WideShapes Go.ChangeAt Go.RowKit

set_option maxHeartbeats 2000000 in
theorem c_read_0 (l : List UInt8) (w : World) (hl : l.length ≤ 65536) (hg : GW w) (hf : formI (tOp l) = 0) :
    Calls Tryd.prog 41 #[.string ⟨l.toArray⟩] w fun e w' => e = .returned (.agg #[.int .i64 (tOp l), .int .i64 (tD l), .int .i64 (tA l), .int .i64 (tB l), .int .i64 (tI l)]) ∧ Below w.heap.size w w' := by
  have ob := opL_bd (Lib.cut l [32]).1
  have o0 := ob.1
  have o1 := ob.2
  have hr0 := cut_le2 l [32]
  have qtD : tD l = 0 := by unfold tD; (try unfold r3L); (try unfold r2L); (try unfold r1L); rw [hf]; (try unfold lD); (try unfold lA); (try unfold lB); (try unfold lBits); rfl
  have qtA : tA l = 0 := by unfold tA; (try unfold r3L); (try unfold r2L); (try unfold r1L); rw [hf]; (try unfold lD); (try unfold lA); (try unfold lB); (try unfold lBits); rfl
  have qtB : tB l = 0 := by unfold tB; (try unfold r3L); (try unfold r2L); (try unfold r1L); rw [hf]; (try unfold lD); (try unfold lA); (try unfold lB); (try unfold lBits); rfl
  have qtI : tI l = 0 := by unfold tI; (try unfold r3L); (try unfold r2L); (try unfold r1L); rw [hf]; (try unfold lD); (try unfold lA); (try unfold lB); (try unfold lBits); rfl
  have HQ := Lib.hid (show tD l = 0 ∧ tA l = 0 ∧ tB l = 0 ∧ tI l = 0 from ⟨qtD, qtA, qtB, qtI⟩)
  have HL := c_layoutX (formI (tOp l))
  rw [hf, show lD 0 = false by unfold lD; rfl, show lA 0 = false by unfold lA; rfl, show lB 0 = false by unfold lB; rfl, show lBits 0 = 0 by unfold lBits; rfl] at HL
  have HF := c_formOf (tOp l)
  rw [hf] at HF
  have HC := c_cut l
  clear qtD qtA qtB qtI hf
  have HCC := Lib.hid HC
  have HFF := Lib.hid HF
  have HLL := Lib.hid HL
  have HG := Lib.hid hg
  clear HC HF HL hg
  unfold tOp at *
  generalize (Lib.cut l [32]).1 = name at *
  generalize hrest : (Lib.cut l [32]).2.1 = r0 at *
  clear hrest
  go_enter Tryd.func41, Tryd.ntmps41
  go_wp2_with fail
  refine (HCC.out _ hl (HG.out.next (below_new w _) rfl)).mono ?_
  rintro e w1 ⟨rfl, hb1⟩
  have Z1 := (Box.new w 0 0 0 0 0 _).next hb1 rfl
  have hB1 := Lib.hid (below_on (below_new w _) hb1 (by simp))
  have hz1 : w.heap.size < w1.heap.size := cell_lt Z1.1
  clear hb1
  go_wp2_with fail
  refine (c_opOf name _ (HG.out.next hB1.out rfl).1).mono ?_
  rintro e w2 ⟨rfl, rfl⟩
  go_wp2_with fail
  refine (HFF.out _ (by omega) (by omega)).mono ?_
  rintro e w3 ⟨rfl, rfl⟩
  go_wp2_with fail
  refine (HLL.out _ (by decide) (by decide)).mono ?_
  rintro e w4 ⟨rfl, rfl⟩
  clear HCC HFF HLL
  have L0 := LBox.new ((w1.alloc (.cells #[.int .i64 (opL name), .int .i64 0, .int .i64 0, .int .i64 0, .int .i64 0] 29)).alloc (.cells #[.bool false, .bool false, .bool false, .int .i64 0, .int .i64 (lLeast 0), .int .i64 (lMost 0)] 45)) false false false 0 (lLeast 0) (lMost 0) 45
  rw [show ((w1.alloc (.cells #[.int .i64 (opL name), .int .i64 0, .int .i64 0, .int .i64 0, .int .i64 0] 29)).alloc (.cells #[.bool false, .bool false, .bool false, .int .i64 0, .int .i64 (lLeast 0), .int .i64 (lMost 0)] 45)).heap.size = w1.heap.size + 1 + 1 by simp] at L0
  have R0 : RS w (((w1.alloc (.cells #[.int .i64 (opL name), .int .i64 0, .int .i64 0, .int .i64 0, .int .i64 0] 29)).alloc (.cells #[.bool false, .bool false, .bool false, .int .i64 0, .int .i64 (lLeast 0), .int .i64 (lMost 0)] 45)).alloc (.cells #[.bool false, .bool false, .bool false, .int .i64 0, .int .i64 (lLeast 0), .int .i64 (lMost 0)] 45)) w1.heap.size (w1.heap.size + 1 + 1) false false false 0 (lLeast 0) (lMost 0) (opL name) 0 0 0 0 :=
    ⟨((Box.new w1 (opL name) 0 0 0 0 29).next (below_new _ (.cells #[.bool false, .bool false, .bool false, .int .i64 0, .int .i64 (lLeast 0), .int .i64 (lMost 0)] 45)) rfl).next (below_new _ (.cells #[.bool false, .bool false, .bool false, .int .i64 0, .int .i64 (lLeast 0), .int .i64 (lMost 0)] 45)) rfl, L0, ((Z1.next (below_new _ (.cells #[.int .i64 (opL name), .int .i64 0, .int .i64 0, .int .i64 0, .int .i64 0] 29)) rfl).next (below_new _ (.cells #[.bool false, .bool false, .bool false, .int .i64 0, .int .i64 (lLeast 0), .int .i64 (lMost 0)] 45)) rfl).next (below_new _ (.cells #[.bool false, .bool false, .bool false, .int .i64 0, .int .i64 (lLeast 0), .int .i64 (lMost 0)] 45)) rfl,
      below_on (below_on (below_on hB1.out (below_new _ _) (by omega)) (below_new _ _) (by simp; omega)) (below_new _ _) (by simp; omega), hz1, by omega⟩
  clear L0 Z1
  have ⟨⟨x0, x1, x2, x3, x4, xf⟩, ⟨l0, l1, l2, l3, l4, l5⟩, ⟨z0, z1, z2, z3, z4, zf⟩, hB, ho1, ho2⟩ := R0
  clear R0
  go_wp2_with fail
  refine bodyPost_ret (v := .agg #[.int .i64 (opL name), .int .i64 0, .int .i64 0, .int .i64 0, .int .i64 0]) (by simp [results, Tryd.results41, go_sem, z0, z1, z2, z3, z4]) rfl ?_
  exact ⟨ret_instr rfl HQ.out.1.symm HQ.out.2.1.symm HQ.out.2.2.1.symm HQ.out.2.2.2.symm, by go_grown⟩
set_option maxHeartbeats 2000000 in
theorem c_read_1 (l : List UInt8) (w : World) (hl : l.length ≤ 65536) (hg : GW w) (hf : formI (tOp l) = 1) :
    Calls Tryd.prog 41 #[.string ⟨l.toArray⟩] w fun e w' => e = .returned (.agg #[.int .i64 (tOp l), .int .i64 (tD l), .int .i64 (tA l), .int .i64 (tB l), .int .i64 (tI l)]) ∧ Below w.heap.size w w' := by
  have ob := opL_bd (Lib.cut l [32]).1
  have o0 := ob.1
  have o1 := ob.2
  have hr0 := cut_le2 l [32]
  have qtD : tD l = numV ((Lib.cut l [32]).2.1) := by unfold tD; (try unfold r3L); (try unfold r2L); (try unfold r1L); rw [hf]; (try unfold lD); (try unfold lA); (try unfold lB); (try unfold lBits); rfl
  have qtA : tA l = numV (numR ((Lib.cut l [32]).2.1)) := by unfold tA; (try unfold r3L); (try unfold r2L); (try unfold r1L); rw [hf]; (try unfold lD); (try unfold lA); (try unfold lB); (try unfold lBits); rfl
  have qtB : tB l = numV (numR (numR ((Lib.cut l [32]).2.1))) := by unfold tB; (try unfold r3L); (try unfold r2L); (try unfold r1L); rw [hf]; (try unfold lD); (try unfold lA); (try unfold lB); (try unfold lBits); rfl
  have qtI : tI l = 0 := by unfold tI; (try unfold r3L); (try unfold r2L); (try unfold r1L); rw [hf]; (try unfold lD); (try unfold lA); (try unfold lB); (try unfold lBits); rfl
  have HQ := Lib.hid (show tD l = numV ((Lib.cut l [32]).2.1) ∧ tA l = numV (numR ((Lib.cut l [32]).2.1)) ∧ tB l = numV (numR (numR ((Lib.cut l [32]).2.1))) ∧ tI l = 0 from ⟨qtD, qtA, qtB, qtI⟩)
  have HL := c_layoutX (formI (tOp l))
  rw [hf, show lD 1 = true by unfold lD; rfl, show lA 1 = true by unfold lA; rfl, show lB 1 = true by unfold lB; rfl, show lBits 1 = 0 by unfold lBits; rfl] at HL
  have HF := c_formOf (tOp l)
  rw [hf] at HF
  have HC := c_cut l
  clear qtD qtA qtB qtI hf
  have HCC := Lib.hid HC
  have HFF := Lib.hid HF
  have HLL := Lib.hid HL
  have HG := Lib.hid hg
  clear HC HF HL hg
  unfold tOp at *
  generalize (Lib.cut l [32]).1 = name at *
  generalize hrest : (Lib.cut l [32]).2.1 = r0 at *
  clear hrest
  go_enter Tryd.func41, Tryd.ntmps41
  go_wp2_with fail
  refine (HCC.out _ hl (HG.out.next (below_new w _) rfl)).mono ?_
  rintro e w1 ⟨rfl, hb1⟩
  have Z1 := (Box.new w 0 0 0 0 0 _).next hb1 rfl
  have hB1 := Lib.hid (below_on (below_new w _) hb1 (by simp))
  have hz1 : w.heap.size < w1.heap.size := cell_lt Z1.1
  clear hb1
  go_wp2_with fail
  refine (c_opOf name _ (HG.out.next hB1.out rfl).1).mono ?_
  rintro e w2 ⟨rfl, rfl⟩
  go_wp2_with fail
  refine (HFF.out _ (by omega) (by omega)).mono ?_
  rintro e w3 ⟨rfl, rfl⟩
  go_wp2_with fail
  refine (HLL.out _ (by decide) (by decide)).mono ?_
  rintro e w4 ⟨rfl, rfl⟩
  clear HCC HFF HLL
  have L0 := LBox.new ((w1.alloc (.cells #[.int .i64 (opL name), .int .i64 0, .int .i64 0, .int .i64 0, .int .i64 0] 29)).alloc (.cells #[.bool true, .bool true, .bool true, .int .i64 0, .int .i64 (lLeast 1), .int .i64 (lMost 1)] 45)) true true true 0 (lLeast 1) (lMost 1) 45
  rw [show ((w1.alloc (.cells #[.int .i64 (opL name), .int .i64 0, .int .i64 0, .int .i64 0, .int .i64 0] 29)).alloc (.cells #[.bool true, .bool true, .bool true, .int .i64 0, .int .i64 (lLeast 1), .int .i64 (lMost 1)] 45)).heap.size = w1.heap.size + 1 + 1 by simp] at L0
  have R0 : RS w (((w1.alloc (.cells #[.int .i64 (opL name), .int .i64 0, .int .i64 0, .int .i64 0, .int .i64 0] 29)).alloc (.cells #[.bool true, .bool true, .bool true, .int .i64 0, .int .i64 (lLeast 1), .int .i64 (lMost 1)] 45)).alloc (.cells #[.bool true, .bool true, .bool true, .int .i64 0, .int .i64 (lLeast 1), .int .i64 (lMost 1)] 45)) w1.heap.size (w1.heap.size + 1 + 1) true true true 0 (lLeast 1) (lMost 1) (opL name) 0 0 0 0 :=
    ⟨((Box.new w1 (opL name) 0 0 0 0 29).next (below_new _ (.cells #[.bool true, .bool true, .bool true, .int .i64 0, .int .i64 (lLeast 1), .int .i64 (lMost 1)] 45)) rfl).next (below_new _ (.cells #[.bool true, .bool true, .bool true, .int .i64 0, .int .i64 (lLeast 1), .int .i64 (lMost 1)] 45)) rfl, L0, ((Z1.next (below_new _ (.cells #[.int .i64 (opL name), .int .i64 0, .int .i64 0, .int .i64 0, .int .i64 0] 29)) rfl).next (below_new _ (.cells #[.bool true, .bool true, .bool true, .int .i64 0, .int .i64 (lLeast 1), .int .i64 (lMost 1)] 45)) rfl).next (below_new _ (.cells #[.bool true, .bool true, .bool true, .int .i64 0, .int .i64 (lLeast 1), .int .i64 (lMost 1)] 45)) rfl,
      below_on (below_on (below_on hB1.out (below_new _ _) (by omega)) (below_new _ _) (by simp; omega)) (below_new _ _) (by simp; omega), hz1, by omega⟩
  clear L0 Z1
  go_wp2_with fail
  generalize ((w1.alloc (.cells #[.int .i64 (opL name), .int .i64 0, .int .i64 0, .int .i64 0, .int .i64 0] 29)).alloc (.cells #[.bool true, .bool true, .bool true, .int .i64 0, .int .i64 (lLeast 1), .int .i64 (lMost 1)] 45)).alloc (.cells #[.bool true, .bool true, .bool true, .int .i64 0, .int .i64 (lLeast 1), .int .i64 (lMost 1)] 45) = W0 at R0 ⊢
  refine (c_number r0 _ (by omega) (R0.gw HG.out)).mono ?_
  rintro e v0 ⟨rfl, hb0⟩
  have S0 := R0.next hb0 rfl
  clear hb0 R0
  have ⟨⟨x0, x1, x2, x3, x4, xf⟩, ⟨l0, l1, l2, l3, l4, l5⟩, ⟨z0, z1, z2, z3, z4, zf⟩, hB, ho1, ho2⟩ := S0
  have hr1 := numR_le r0
  go_wp2_with fail
  have R1 := S0.set1 (numV r0)
  clear S0 x0 x1 x2 x3 x4 xf l0 l1 l2 l3 l4 l5 z0 z1 z2 z3 z4 zf hB ho1 ho2
  generalize v0.setCell ⟨w1.heap.size, 1, none⟩ (.int .i64 (numV r0)) = W1 at R1 ⊢
  refine (c_number (numR r0) _ (by omega) (R1.gw HG.out)).mono ?_
  rintro e v1 ⟨rfl, hb1⟩
  have S1 := R1.next hb1 rfl
  clear hb1 R1
  have ⟨⟨x0, x1, x2, x3, x4, xf⟩, ⟨l0, l1, l2, l3, l4, l5⟩, ⟨z0, z1, z2, z3, z4, zf⟩, hB, ho1, ho2⟩ := S1
  have hr2 := numR_le (numR r0)
  go_wp2_with fail
  have R2 := S1.set2 (numV (numR r0))
  clear S1 x0 x1 x2 x3 x4 xf l0 l1 l2 l3 l4 l5 z0 z1 z2 z3 z4 zf hB ho1 ho2
  generalize v1.setCell ⟨w1.heap.size, 2, none⟩ (.int .i64 (numV (numR r0))) = W2 at R2 ⊢
  refine (c_number (numR (numR r0)) _ (by omega) (R2.gw HG.out)).mono ?_
  rintro e v2 ⟨rfl, hb2⟩
  have S2 := R2.next hb2 rfl
  clear hb2 R2
  have ⟨⟨x0, x1, x2, x3, x4, xf⟩, ⟨l0, l1, l2, l3, l4, l5⟩, ⟨z0, z1, z2, z3, z4, zf⟩, hB, ho1, ho2⟩ := S2
  have hr3 := numR_le (numR (numR r0))
  clear S2
  go_wp2_with fail
  refine bodyPost_ret (v := .agg #[.int .i64 (opL name), .int .i64 (numV r0), .int .i64 (numV (numR r0)), .int .i64 (numV (numR (numR r0))), .int .i64 0]) (by simp [results, Tryd.results41, go_sem, z0, z1, z2, z3, z4]) rfl ?_
  exact ⟨ret_instr rfl HQ.out.1.symm HQ.out.2.1.symm HQ.out.2.2.1.symm HQ.out.2.2.2.symm, by go_grown⟩
set_option maxHeartbeats 2000000 in
theorem c_read_2 (l : List UInt8) (w : World) (hl : l.length ≤ 65536) (hg : GW w) (hf : formI (tOp l) = 2) :
    Calls Tryd.prog 41 #[.string ⟨l.toArray⟩] w fun e w' => e = .returned (.agg #[.int .i64 (tOp l), .int .i64 (tD l), .int .i64 (tA l), .int .i64 (tB l), .int .i64 (tI l)]) ∧ Below w.heap.size w w' := by
  have ob := opL_bd (Lib.cut l [32]).1
  have o0 := ob.1
  have o1 := ob.2
  have hr0 := cut_le2 l [32]
  have qtD : tD l = numV ((Lib.cut l [32]).2.1) := by unfold tD; (try unfold r3L); (try unfold r2L); (try unfold r1L); rw [hf]; (try unfold lD); (try unfold lA); (try unfold lB); (try unfold lBits); rfl
  have qtA : tA l = numV (numR ((Lib.cut l [32]).2.1)) := by unfold tA; (try unfold r3L); (try unfold r2L); (try unfold r1L); rw [hf]; (try unfold lD); (try unfold lA); (try unfold lB); (try unfold lBits); rfl
  have qtB : tB l = 0 := by unfold tB; (try unfold r3L); (try unfold r2L); (try unfold r1L); rw [hf]; (try unfold lD); (try unfold lA); (try unfold lB); (try unfold lBits); rfl
  have qtI : tI l = numV (numR (numR ((Lib.cut l [32]).2.1))) := by unfold tI; (try unfold r3L); (try unfold r2L); (try unfold r1L); rw [hf]; (try unfold lD); (try unfold lA); (try unfold lB); (try unfold lBits); rfl
  have HQ := Lib.hid (show tD l = numV ((Lib.cut l [32]).2.1) ∧ tA l = numV (numR ((Lib.cut l [32]).2.1)) ∧ tB l = 0 ∧ tI l = numV (numR (numR ((Lib.cut l [32]).2.1))) from ⟨qtD, qtA, qtB, qtI⟩)
  have HL := c_layoutX (formI (tOp l))
  rw [hf, show lD 2 = true by unfold lD; rfl, show lA 2 = true by unfold lA; rfl, show lB 2 = false by unfold lB; rfl, show lBits 2 = 16 by unfold lBits; rfl] at HL
  have HF := c_formOf (tOp l)
  rw [hf] at HF
  have HC := c_cut l
  clear qtD qtA qtB qtI hf
  have HCC := Lib.hid HC
  have HFF := Lib.hid HF
  have HLL := Lib.hid HL
  have HG := Lib.hid hg
  clear HC HF HL hg
  unfold tOp at *
  generalize (Lib.cut l [32]).1 = name at *
  generalize hrest : (Lib.cut l [32]).2.1 = r0 at *
  clear hrest
  go_enter Tryd.func41, Tryd.ntmps41
  go_wp2_with fail
  refine (HCC.out _ hl (HG.out.next (below_new w _) rfl)).mono ?_
  rintro e w1 ⟨rfl, hb1⟩
  have Z1 := (Box.new w 0 0 0 0 0 _).next hb1 rfl
  have hB1 := Lib.hid (below_on (below_new w _) hb1 (by simp))
  have hz1 : w.heap.size < w1.heap.size := cell_lt Z1.1
  clear hb1
  go_wp2_with fail
  refine (c_opOf name _ (HG.out.next hB1.out rfl).1).mono ?_
  rintro e w2 ⟨rfl, rfl⟩
  go_wp2_with fail
  refine (HFF.out _ (by omega) (by omega)).mono ?_
  rintro e w3 ⟨rfl, rfl⟩
  go_wp2_with fail
  refine (HLL.out _ (by decide) (by decide)).mono ?_
  rintro e w4 ⟨rfl, rfl⟩
  clear HCC HFF HLL
  have L0 := LBox.new ((w1.alloc (.cells #[.int .i64 (opL name), .int .i64 0, .int .i64 0, .int .i64 0, .int .i64 0] 29)).alloc (.cells #[.bool true, .bool true, .bool false, .int .i64 16, .int .i64 (lLeast 2), .int .i64 (lMost 2)] 45)) true true false 16 (lLeast 2) (lMost 2) 45
  rw [show ((w1.alloc (.cells #[.int .i64 (opL name), .int .i64 0, .int .i64 0, .int .i64 0, .int .i64 0] 29)).alloc (.cells #[.bool true, .bool true, .bool false, .int .i64 16, .int .i64 (lLeast 2), .int .i64 (lMost 2)] 45)).heap.size = w1.heap.size + 1 + 1 by simp] at L0
  have R0 : RS w (((w1.alloc (.cells #[.int .i64 (opL name), .int .i64 0, .int .i64 0, .int .i64 0, .int .i64 0] 29)).alloc (.cells #[.bool true, .bool true, .bool false, .int .i64 16, .int .i64 (lLeast 2), .int .i64 (lMost 2)] 45)).alloc (.cells #[.bool true, .bool true, .bool false, .int .i64 16, .int .i64 (lLeast 2), .int .i64 (lMost 2)] 45)) w1.heap.size (w1.heap.size + 1 + 1) true true false 16 (lLeast 2) (lMost 2) (opL name) 0 0 0 0 :=
    ⟨((Box.new w1 (opL name) 0 0 0 0 29).next (below_new _ (.cells #[.bool true, .bool true, .bool false, .int .i64 16, .int .i64 (lLeast 2), .int .i64 (lMost 2)] 45)) rfl).next (below_new _ (.cells #[.bool true, .bool true, .bool false, .int .i64 16, .int .i64 (lLeast 2), .int .i64 (lMost 2)] 45)) rfl, L0, ((Z1.next (below_new _ (.cells #[.int .i64 (opL name), .int .i64 0, .int .i64 0, .int .i64 0, .int .i64 0] 29)) rfl).next (below_new _ (.cells #[.bool true, .bool true, .bool false, .int .i64 16, .int .i64 (lLeast 2), .int .i64 (lMost 2)] 45)) rfl).next (below_new _ (.cells #[.bool true, .bool true, .bool false, .int .i64 16, .int .i64 (lLeast 2), .int .i64 (lMost 2)] 45)) rfl,
      below_on (below_on (below_on hB1.out (below_new _ _) (by omega)) (below_new _ _) (by simp; omega)) (below_new _ _) (by simp; omega), hz1, by omega⟩
  clear L0 Z1
  go_wp2_with fail
  generalize ((w1.alloc (.cells #[.int .i64 (opL name), .int .i64 0, .int .i64 0, .int .i64 0, .int .i64 0] 29)).alloc (.cells #[.bool true, .bool true, .bool false, .int .i64 16, .int .i64 (lLeast 2), .int .i64 (lMost 2)] 45)).alloc (.cells #[.bool true, .bool true, .bool false, .int .i64 16, .int .i64 (lLeast 2), .int .i64 (lMost 2)] 45) = W0 at R0 ⊢
  refine (c_number r0 _ (by omega) (R0.gw HG.out)).mono ?_
  rintro e v0 ⟨rfl, hb0⟩
  have S0 := R0.next hb0 rfl
  clear hb0 R0
  have ⟨⟨x0, x1, x2, x3, x4, xf⟩, ⟨l0, l1, l2, l3, l4, l5⟩, ⟨z0, z1, z2, z3, z4, zf⟩, hB, ho1, ho2⟩ := S0
  have hr1 := numR_le r0
  go_wp2_with fail
  have R1 := S0.set1 (numV r0)
  clear S0 x0 x1 x2 x3 x4 xf l0 l1 l2 l3 l4 l5 z0 z1 z2 z3 z4 zf hB ho1 ho2
  generalize v0.setCell ⟨w1.heap.size, 1, none⟩ (.int .i64 (numV r0)) = W1 at R1 ⊢
  refine (c_number (numR r0) _ (by omega) (R1.gw HG.out)).mono ?_
  rintro e v1 ⟨rfl, hb1⟩
  have S1 := R1.next hb1 rfl
  clear hb1 R1
  have ⟨⟨x0, x1, x2, x3, x4, xf⟩, ⟨l0, l1, l2, l3, l4, l5⟩, ⟨z0, z1, z2, z3, z4, zf⟩, hB, ho1, ho2⟩ := S1
  have hr2 := numR_le (numR r0)
  go_wp2_with fail
  have R2 := S1.set2 (numV (numR r0))
  clear S1 x0 x1 x2 x3 x4 xf l0 l1 l2 l3 l4 l5 z0 z1 z2 z3 z4 zf hB ho1 ho2
  generalize v1.setCell ⟨w1.heap.size, 2, none⟩ (.int .i64 (numV (numR r0))) = W2 at R2 ⊢
  refine (c_number (numR (numR r0)) _ (by omega) (R2.gw HG.out)).mono ?_
  rintro e v2 ⟨rfl, hb2⟩
  have S2 := R2.next hb2 rfl
  clear hb2 R2
  have ⟨⟨x0, x1, x2, x3, x4, xf⟩, ⟨l0, l1, l2, l3, l4, l5⟩, ⟨z0, z1, z2, z3, z4, zf⟩, hB, ho1, ho2⟩ := S2
  have hr3 := numR_le (numR (numR r0))
  clear S2
  go_wp2_with fail
  refine bodyPost_ret (v := .agg #[.int .i64 (opL name), .int .i64 (numV r0), .int .i64 (numV (numR r0)), .int .i64 0, .int .i64 (numV (numR (numR r0)))]) (by simp [results, Tryd.results41, go_sem, z0, z1, z2, z3, z4]) rfl ?_
  exact ⟨ret_instr rfl HQ.out.1.symm HQ.out.2.1.symm HQ.out.2.2.1.symm HQ.out.2.2.2.symm, by go_grown⟩
set_option maxHeartbeats 2000000 in
theorem c_read_3 (l : List UInt8) (w : World) (hl : l.length ≤ 65536) (hg : GW w) (hf : formI (tOp l) = 3) :
    Calls Tryd.prog 41 #[.string ⟨l.toArray⟩] w fun e w' => e = .returned (.agg #[.int .i64 (tOp l), .int .i64 (tD l), .int .i64 (tA l), .int .i64 (tB l), .int .i64 (tI l)]) ∧ Below w.heap.size w w' := by
  have ob := opL_bd (Lib.cut l [32]).1
  have o0 := ob.1
  have o1 := ob.2
  have hr0 := cut_le2 l [32]
  have qtD : tD l = numV ((Lib.cut l [32]).2.1) := by unfold tD; (try unfold r3L); (try unfold r2L); (try unfold r1L); rw [hf]; (try unfold lD); (try unfold lA); (try unfold lB); (try unfold lBits); rfl
  have qtA : tA l = numV (numR ((Lib.cut l [32]).2.1)) := by unfold tA; (try unfold r3L); (try unfold r2L); (try unfold r1L); rw [hf]; (try unfold lD); (try unfold lA); (try unfold lB); (try unfold lBits); rfl
  have qtB : tB l = 0 := by unfold tB; (try unfold r3L); (try unfold r2L); (try unfold r1L); rw [hf]; (try unfold lD); (try unfold lA); (try unfold lB); (try unfold lBits); rfl
  have qtI : tI l = numV (numR (numR ((Lib.cut l [32]).2.1))) := by unfold tI; (try unfold r3L); (try unfold r2L); (try unfold r1L); rw [hf]; (try unfold lD); (try unfold lA); (try unfold lB); (try unfold lBits); rfl
  have HQ := Lib.hid (show tD l = numV ((Lib.cut l [32]).2.1) ∧ tA l = numV (numR ((Lib.cut l [32]).2.1)) ∧ tB l = 0 ∧ tI l = numV (numR (numR ((Lib.cut l [32]).2.1))) from ⟨qtD, qtA, qtB, qtI⟩)
  have HL := c_layoutX (formI (tOp l))
  rw [hf, show lD 3 = true by unfold lD; rfl, show lA 3 = true by unfold lA; rfl, show lB 3 = false by unfold lB; rfl, show lBits 3 = 16 by unfold lBits; rfl] at HL
  have HF := c_formOf (tOp l)
  rw [hf] at HF
  have HC := c_cut l
  clear qtD qtA qtB qtI hf
  have HCC := Lib.hid HC
  have HFF := Lib.hid HF
  have HLL := Lib.hid HL
  have HG := Lib.hid hg
  clear HC HF HL hg
  unfold tOp at *
  generalize (Lib.cut l [32]).1 = name at *
  generalize hrest : (Lib.cut l [32]).2.1 = r0 at *
  clear hrest
  go_enter Tryd.func41, Tryd.ntmps41
  go_wp2_with fail
  refine (HCC.out _ hl (HG.out.next (below_new w _) rfl)).mono ?_
  rintro e w1 ⟨rfl, hb1⟩
  have Z1 := (Box.new w 0 0 0 0 0 _).next hb1 rfl
  have hB1 := Lib.hid (below_on (below_new w _) hb1 (by simp))
  have hz1 : w.heap.size < w1.heap.size := cell_lt Z1.1
  clear hb1
  go_wp2_with fail
  refine (c_opOf name _ (HG.out.next hB1.out rfl).1).mono ?_
  rintro e w2 ⟨rfl, rfl⟩
  go_wp2_with fail
  refine (HFF.out _ (by omega) (by omega)).mono ?_
  rintro e w3 ⟨rfl, rfl⟩
  go_wp2_with fail
  refine (HLL.out _ (by decide) (by decide)).mono ?_
  rintro e w4 ⟨rfl, rfl⟩
  clear HCC HFF HLL
  have L0 := LBox.new ((w1.alloc (.cells #[.int .i64 (opL name), .int .i64 0, .int .i64 0, .int .i64 0, .int .i64 0] 29)).alloc (.cells #[.bool true, .bool true, .bool false, .int .i64 16, .int .i64 (lLeast 3), .int .i64 (lMost 3)] 45)) true true false 16 (lLeast 3) (lMost 3) 45
  rw [show ((w1.alloc (.cells #[.int .i64 (opL name), .int .i64 0, .int .i64 0, .int .i64 0, .int .i64 0] 29)).alloc (.cells #[.bool true, .bool true, .bool false, .int .i64 16, .int .i64 (lLeast 3), .int .i64 (lMost 3)] 45)).heap.size = w1.heap.size + 1 + 1 by simp] at L0
  have R0 : RS w (((w1.alloc (.cells #[.int .i64 (opL name), .int .i64 0, .int .i64 0, .int .i64 0, .int .i64 0] 29)).alloc (.cells #[.bool true, .bool true, .bool false, .int .i64 16, .int .i64 (lLeast 3), .int .i64 (lMost 3)] 45)).alloc (.cells #[.bool true, .bool true, .bool false, .int .i64 16, .int .i64 (lLeast 3), .int .i64 (lMost 3)] 45)) w1.heap.size (w1.heap.size + 1 + 1) true true false 16 (lLeast 3) (lMost 3) (opL name) 0 0 0 0 :=
    ⟨((Box.new w1 (opL name) 0 0 0 0 29).next (below_new _ (.cells #[.bool true, .bool true, .bool false, .int .i64 16, .int .i64 (lLeast 3), .int .i64 (lMost 3)] 45)) rfl).next (below_new _ (.cells #[.bool true, .bool true, .bool false, .int .i64 16, .int .i64 (lLeast 3), .int .i64 (lMost 3)] 45)) rfl, L0, ((Z1.next (below_new _ (.cells #[.int .i64 (opL name), .int .i64 0, .int .i64 0, .int .i64 0, .int .i64 0] 29)) rfl).next (below_new _ (.cells #[.bool true, .bool true, .bool false, .int .i64 16, .int .i64 (lLeast 3), .int .i64 (lMost 3)] 45)) rfl).next (below_new _ (.cells #[.bool true, .bool true, .bool false, .int .i64 16, .int .i64 (lLeast 3), .int .i64 (lMost 3)] 45)) rfl,
      below_on (below_on (below_on hB1.out (below_new _ _) (by omega)) (below_new _ _) (by simp; omega)) (below_new _ _) (by simp; omega), hz1, by omega⟩
  clear L0 Z1
  go_wp2_with fail
  generalize ((w1.alloc (.cells #[.int .i64 (opL name), .int .i64 0, .int .i64 0, .int .i64 0, .int .i64 0] 29)).alloc (.cells #[.bool true, .bool true, .bool false, .int .i64 16, .int .i64 (lLeast 3), .int .i64 (lMost 3)] 45)).alloc (.cells #[.bool true, .bool true, .bool false, .int .i64 16, .int .i64 (lLeast 3), .int .i64 (lMost 3)] 45) = W0 at R0 ⊢
  refine (c_number r0 _ (by omega) (R0.gw HG.out)).mono ?_
  rintro e v0 ⟨rfl, hb0⟩
  have S0 := R0.next hb0 rfl
  clear hb0 R0
  have ⟨⟨x0, x1, x2, x3, x4, xf⟩, ⟨l0, l1, l2, l3, l4, l5⟩, ⟨z0, z1, z2, z3, z4, zf⟩, hB, ho1, ho2⟩ := S0
  have hr1 := numR_le r0
  go_wp2_with fail
  have R1 := S0.set1 (numV r0)
  clear S0 x0 x1 x2 x3 x4 xf l0 l1 l2 l3 l4 l5 z0 z1 z2 z3 z4 zf hB ho1 ho2
  generalize v0.setCell ⟨w1.heap.size, 1, none⟩ (.int .i64 (numV r0)) = W1 at R1 ⊢
  refine (c_number (numR r0) _ (by omega) (R1.gw HG.out)).mono ?_
  rintro e v1 ⟨rfl, hb1⟩
  have S1 := R1.next hb1 rfl
  clear hb1 R1
  have ⟨⟨x0, x1, x2, x3, x4, xf⟩, ⟨l0, l1, l2, l3, l4, l5⟩, ⟨z0, z1, z2, z3, z4, zf⟩, hB, ho1, ho2⟩ := S1
  have hr2 := numR_le (numR r0)
  go_wp2_with fail
  have R2 := S1.set2 (numV (numR r0))
  clear S1 x0 x1 x2 x3 x4 xf l0 l1 l2 l3 l4 l5 z0 z1 z2 z3 z4 zf hB ho1 ho2
  generalize v1.setCell ⟨w1.heap.size, 2, none⟩ (.int .i64 (numV (numR r0))) = W2 at R2 ⊢
  refine (c_number (numR (numR r0)) _ (by omega) (R2.gw HG.out)).mono ?_
  rintro e v2 ⟨rfl, hb2⟩
  have S2 := R2.next hb2 rfl
  clear hb2 R2
  have ⟨⟨x0, x1, x2, x3, x4, xf⟩, ⟨l0, l1, l2, l3, l4, l5⟩, ⟨z0, z1, z2, z3, z4, zf⟩, hB, ho1, ho2⟩ := S2
  have hr3 := numR_le (numR (numR r0))
  clear S2
  go_wp2_with fail
  refine bodyPost_ret (v := .agg #[.int .i64 (opL name), .int .i64 (numV r0), .int .i64 (numV (numR r0)), .int .i64 0, .int .i64 (numV (numR (numR r0)))]) (by simp [results, Tryd.results41, go_sem, z0, z1, z2, z3, z4]) rfl ?_
  exact ⟨ret_instr rfl HQ.out.1.symm HQ.out.2.1.symm HQ.out.2.2.1.symm HQ.out.2.2.2.symm, by go_grown⟩
set_option maxHeartbeats 2000000 in
theorem c_read_4 (l : List UInt8) (w : World) (hl : l.length ≤ 65536) (hg : GW w) (hf : formI (tOp l) = 4) :
    Calls Tryd.prog 41 #[.string ⟨l.toArray⟩] w fun e w' => e = .returned (.agg #[.int .i64 (tOp l), .int .i64 (tD l), .int .i64 (tA l), .int .i64 (tB l), .int .i64 (tI l)]) ∧ Below w.heap.size w w' := by
  have ob := opL_bd (Lib.cut l [32]).1
  have o0 := ob.1
  have o1 := ob.2
  have hr0 := cut_le2 l [32]
  have qtD : tD l = numV ((Lib.cut l [32]).2.1) := by unfold tD; (try unfold r3L); (try unfold r2L); (try unfold r1L); rw [hf]; (try unfold lD); (try unfold lA); (try unfold lB); (try unfold lBits); rfl
  have qtA : tA l = numV (numR ((Lib.cut l [32]).2.1)) := by unfold tA; (try unfold r3L); (try unfold r2L); (try unfold r1L); rw [hf]; (try unfold lD); (try unfold lA); (try unfold lB); (try unfold lBits); rfl
  have qtB : tB l = 0 := by unfold tB; (try unfold r3L); (try unfold r2L); (try unfold r1L); rw [hf]; (try unfold lD); (try unfold lA); (try unfold lB); (try unfold lBits); rfl
  have qtI : tI l = numV (numR (numR ((Lib.cut l [32]).2.1))) := by unfold tI; (try unfold r3L); (try unfold r2L); (try unfold r1L); rw [hf]; (try unfold lD); (try unfold lA); (try unfold lB); (try unfold lBits); rfl
  have HQ := Lib.hid (show tD l = numV ((Lib.cut l [32]).2.1) ∧ tA l = numV (numR ((Lib.cut l [32]).2.1)) ∧ tB l = 0 ∧ tI l = numV (numR (numR ((Lib.cut l [32]).2.1))) from ⟨qtD, qtA, qtB, qtI⟩)
  have HL := c_layoutX (formI (tOp l))
  rw [hf, show lD 4 = true by unfold lD; rfl, show lA 4 = true by unfold lA; rfl, show lB 4 = false by unfold lB; rfl, show lBits 4 = 16 by unfold lBits; rfl] at HL
  have HF := c_formOf (tOp l)
  rw [hf] at HF
  have HC := c_cut l
  clear qtD qtA qtB qtI hf
  have HCC := Lib.hid HC
  have HFF := Lib.hid HF
  have HLL := Lib.hid HL
  have HG := Lib.hid hg
  clear HC HF HL hg
  unfold tOp at *
  generalize (Lib.cut l [32]).1 = name at *
  generalize hrest : (Lib.cut l [32]).2.1 = r0 at *
  clear hrest
  go_enter Tryd.func41, Tryd.ntmps41
  go_wp2_with fail
  refine (HCC.out _ hl (HG.out.next (below_new w _) rfl)).mono ?_
  rintro e w1 ⟨rfl, hb1⟩
  have Z1 := (Box.new w 0 0 0 0 0 _).next hb1 rfl
  have hB1 := Lib.hid (below_on (below_new w _) hb1 (by simp))
  have hz1 : w.heap.size < w1.heap.size := cell_lt Z1.1
  clear hb1
  go_wp2_with fail
  refine (c_opOf name _ (HG.out.next hB1.out rfl).1).mono ?_
  rintro e w2 ⟨rfl, rfl⟩
  go_wp2_with fail
  refine (HFF.out _ (by omega) (by omega)).mono ?_
  rintro e w3 ⟨rfl, rfl⟩
  go_wp2_with fail
  refine (HLL.out _ (by decide) (by decide)).mono ?_
  rintro e w4 ⟨rfl, rfl⟩
  clear HCC HFF HLL
  have L0 := LBox.new ((w1.alloc (.cells #[.int .i64 (opL name), .int .i64 0, .int .i64 0, .int .i64 0, .int .i64 0] 29)).alloc (.cells #[.bool true, .bool true, .bool false, .int .i64 16, .int .i64 (lLeast 4), .int .i64 (lMost 4)] 45)) true true false 16 (lLeast 4) (lMost 4) 45
  rw [show ((w1.alloc (.cells #[.int .i64 (opL name), .int .i64 0, .int .i64 0, .int .i64 0, .int .i64 0] 29)).alloc (.cells #[.bool true, .bool true, .bool false, .int .i64 16, .int .i64 (lLeast 4), .int .i64 (lMost 4)] 45)).heap.size = w1.heap.size + 1 + 1 by simp] at L0
  have R0 : RS w (((w1.alloc (.cells #[.int .i64 (opL name), .int .i64 0, .int .i64 0, .int .i64 0, .int .i64 0] 29)).alloc (.cells #[.bool true, .bool true, .bool false, .int .i64 16, .int .i64 (lLeast 4), .int .i64 (lMost 4)] 45)).alloc (.cells #[.bool true, .bool true, .bool false, .int .i64 16, .int .i64 (lLeast 4), .int .i64 (lMost 4)] 45)) w1.heap.size (w1.heap.size + 1 + 1) true true false 16 (lLeast 4) (lMost 4) (opL name) 0 0 0 0 :=
    ⟨((Box.new w1 (opL name) 0 0 0 0 29).next (below_new _ (.cells #[.bool true, .bool true, .bool false, .int .i64 16, .int .i64 (lLeast 4), .int .i64 (lMost 4)] 45)) rfl).next (below_new _ (.cells #[.bool true, .bool true, .bool false, .int .i64 16, .int .i64 (lLeast 4), .int .i64 (lMost 4)] 45)) rfl, L0, ((Z1.next (below_new _ (.cells #[.int .i64 (opL name), .int .i64 0, .int .i64 0, .int .i64 0, .int .i64 0] 29)) rfl).next (below_new _ (.cells #[.bool true, .bool true, .bool false, .int .i64 16, .int .i64 (lLeast 4), .int .i64 (lMost 4)] 45)) rfl).next (below_new _ (.cells #[.bool true, .bool true, .bool false, .int .i64 16, .int .i64 (lLeast 4), .int .i64 (lMost 4)] 45)) rfl,
      below_on (below_on (below_on hB1.out (below_new _ _) (by omega)) (below_new _ _) (by simp; omega)) (below_new _ _) (by simp; omega), hz1, by omega⟩
  clear L0 Z1
  go_wp2_with fail
  generalize ((w1.alloc (.cells #[.int .i64 (opL name), .int .i64 0, .int .i64 0, .int .i64 0, .int .i64 0] 29)).alloc (.cells #[.bool true, .bool true, .bool false, .int .i64 16, .int .i64 (lLeast 4), .int .i64 (lMost 4)] 45)).alloc (.cells #[.bool true, .bool true, .bool false, .int .i64 16, .int .i64 (lLeast 4), .int .i64 (lMost 4)] 45) = W0 at R0 ⊢
  refine (c_number r0 _ (by omega) (R0.gw HG.out)).mono ?_
  rintro e v0 ⟨rfl, hb0⟩
  have S0 := R0.next hb0 rfl
  clear hb0 R0
  have ⟨⟨x0, x1, x2, x3, x4, xf⟩, ⟨l0, l1, l2, l3, l4, l5⟩, ⟨z0, z1, z2, z3, z4, zf⟩, hB, ho1, ho2⟩ := S0
  have hr1 := numR_le r0
  go_wp2_with fail
  have R1 := S0.set1 (numV r0)
  clear S0 x0 x1 x2 x3 x4 xf l0 l1 l2 l3 l4 l5 z0 z1 z2 z3 z4 zf hB ho1 ho2
  generalize v0.setCell ⟨w1.heap.size, 1, none⟩ (.int .i64 (numV r0)) = W1 at R1 ⊢
  refine (c_number (numR r0) _ (by omega) (R1.gw HG.out)).mono ?_
  rintro e v1 ⟨rfl, hb1⟩
  have S1 := R1.next hb1 rfl
  clear hb1 R1
  have ⟨⟨x0, x1, x2, x3, x4, xf⟩, ⟨l0, l1, l2, l3, l4, l5⟩, ⟨z0, z1, z2, z3, z4, zf⟩, hB, ho1, ho2⟩ := S1
  have hr2 := numR_le (numR r0)
  go_wp2_with fail
  have R2 := S1.set2 (numV (numR r0))
  clear S1 x0 x1 x2 x3 x4 xf l0 l1 l2 l3 l4 l5 z0 z1 z2 z3 z4 zf hB ho1 ho2
  generalize v1.setCell ⟨w1.heap.size, 2, none⟩ (.int .i64 (numV (numR r0))) = W2 at R2 ⊢
  refine (c_number (numR (numR r0)) _ (by omega) (R2.gw HG.out)).mono ?_
  rintro e v2 ⟨rfl, hb2⟩
  have S2 := R2.next hb2 rfl
  clear hb2 R2
  have ⟨⟨x0, x1, x2, x3, x4, xf⟩, ⟨l0, l1, l2, l3, l4, l5⟩, ⟨z0, z1, z2, z3, z4, zf⟩, hB, ho1, ho2⟩ := S2
  have hr3 := numR_le (numR (numR r0))
  clear S2
  go_wp2_with fail
  refine bodyPost_ret (v := .agg #[.int .i64 (opL name), .int .i64 (numV r0), .int .i64 (numV (numR r0)), .int .i64 0, .int .i64 (numV (numR (numR r0)))]) (by simp [results, Tryd.results41, go_sem, z0, z1, z2, z3, z4]) rfl ?_
  exact ⟨ret_instr rfl HQ.out.1.symm HQ.out.2.1.symm HQ.out.2.2.1.symm HQ.out.2.2.2.symm, by go_grown⟩
set_option maxHeartbeats 2000000 in
theorem c_read_5 (l : List UInt8) (w : World) (hl : l.length ≤ 65536) (hg : GW w) (hf : formI (tOp l) = 5) :
    Calls Tryd.prog 41 #[.string ⟨l.toArray⟩] w fun e w' => e = .returned (.agg #[.int .i64 (tOp l), .int .i64 (tD l), .int .i64 (tA l), .int .i64 (tB l), .int .i64 (tI l)]) ∧ Below w.heap.size w w' := by
  have ob := opL_bd (Lib.cut l [32]).1
  have o0 := ob.1
  have o1 := ob.2
  have hr0 := cut_le2 l [32]
  have qtD : tD l = numV ((Lib.cut l [32]).2.1) := by unfold tD; (try unfold r3L); (try unfold r2L); (try unfold r1L); rw [hf]; (try unfold lD); (try unfold lA); (try unfold lB); (try unfold lBits); rfl
  have qtA : tA l = 0 := by unfold tA; (try unfold r3L); (try unfold r2L); (try unfold r1L); rw [hf]; (try unfold lD); (try unfold lA); (try unfold lB); (try unfold lBits); rfl
  have qtB : tB l = 0 := by unfold tB; (try unfold r3L); (try unfold r2L); (try unfold r1L); rw [hf]; (try unfold lD); (try unfold lA); (try unfold lB); (try unfold lBits); rfl
  have qtI : tI l = numV (numR ((Lib.cut l [32]).2.1)) := by unfold tI; (try unfold r3L); (try unfold r2L); (try unfold r1L); rw [hf]; (try unfold lD); (try unfold lA); (try unfold lB); (try unfold lBits); rfl
  have HQ := Lib.hid (show tD l = numV ((Lib.cut l [32]).2.1) ∧ tA l = 0 ∧ tB l = 0 ∧ tI l = numV (numR ((Lib.cut l [32]).2.1)) from ⟨qtD, qtA, qtB, qtI⟩)
  have HL := c_layoutX (formI (tOp l))
  rw [hf, show lD 5 = true by unfold lD; rfl, show lA 5 = false by unfold lA; rfl, show lB 5 = false by unfold lB; rfl, show lBits 5 = 16 by unfold lBits; rfl] at HL
  have HF := c_formOf (tOp l)
  rw [hf] at HF
  have HC := c_cut l
  clear qtD qtA qtB qtI hf
  have HCC := Lib.hid HC
  have HFF := Lib.hid HF
  have HLL := Lib.hid HL
  have HG := Lib.hid hg
  clear HC HF HL hg
  unfold tOp at *
  generalize (Lib.cut l [32]).1 = name at *
  generalize hrest : (Lib.cut l [32]).2.1 = r0 at *
  clear hrest
  go_enter Tryd.func41, Tryd.ntmps41
  go_wp2_with fail
  refine (HCC.out _ hl (HG.out.next (below_new w _) rfl)).mono ?_
  rintro e w1 ⟨rfl, hb1⟩
  have Z1 := (Box.new w 0 0 0 0 0 _).next hb1 rfl
  have hB1 := Lib.hid (below_on (below_new w _) hb1 (by simp))
  have hz1 : w.heap.size < w1.heap.size := cell_lt Z1.1
  clear hb1
  go_wp2_with fail
  refine (c_opOf name _ (HG.out.next hB1.out rfl).1).mono ?_
  rintro e w2 ⟨rfl, rfl⟩
  go_wp2_with fail
  refine (HFF.out _ (by omega) (by omega)).mono ?_
  rintro e w3 ⟨rfl, rfl⟩
  go_wp2_with fail
  refine (HLL.out _ (by decide) (by decide)).mono ?_
  rintro e w4 ⟨rfl, rfl⟩
  clear HCC HFF HLL
  have L0 := LBox.new ((w1.alloc (.cells #[.int .i64 (opL name), .int .i64 0, .int .i64 0, .int .i64 0, .int .i64 0] 29)).alloc (.cells #[.bool true, .bool false, .bool false, .int .i64 16, .int .i64 (lLeast 5), .int .i64 (lMost 5)] 45)) true false false 16 (lLeast 5) (lMost 5) 45
  rw [show ((w1.alloc (.cells #[.int .i64 (opL name), .int .i64 0, .int .i64 0, .int .i64 0, .int .i64 0] 29)).alloc (.cells #[.bool true, .bool false, .bool false, .int .i64 16, .int .i64 (lLeast 5), .int .i64 (lMost 5)] 45)).heap.size = w1.heap.size + 1 + 1 by simp] at L0
  have R0 : RS w (((w1.alloc (.cells #[.int .i64 (opL name), .int .i64 0, .int .i64 0, .int .i64 0, .int .i64 0] 29)).alloc (.cells #[.bool true, .bool false, .bool false, .int .i64 16, .int .i64 (lLeast 5), .int .i64 (lMost 5)] 45)).alloc (.cells #[.bool true, .bool false, .bool false, .int .i64 16, .int .i64 (lLeast 5), .int .i64 (lMost 5)] 45)) w1.heap.size (w1.heap.size + 1 + 1) true false false 16 (lLeast 5) (lMost 5) (opL name) 0 0 0 0 :=
    ⟨((Box.new w1 (opL name) 0 0 0 0 29).next (below_new _ (.cells #[.bool true, .bool false, .bool false, .int .i64 16, .int .i64 (lLeast 5), .int .i64 (lMost 5)] 45)) rfl).next (below_new _ (.cells #[.bool true, .bool false, .bool false, .int .i64 16, .int .i64 (lLeast 5), .int .i64 (lMost 5)] 45)) rfl, L0, ((Z1.next (below_new _ (.cells #[.int .i64 (opL name), .int .i64 0, .int .i64 0, .int .i64 0, .int .i64 0] 29)) rfl).next (below_new _ (.cells #[.bool true, .bool false, .bool false, .int .i64 16, .int .i64 (lLeast 5), .int .i64 (lMost 5)] 45)) rfl).next (below_new _ (.cells #[.bool true, .bool false, .bool false, .int .i64 16, .int .i64 (lLeast 5), .int .i64 (lMost 5)] 45)) rfl,
      below_on (below_on (below_on hB1.out (below_new _ _) (by omega)) (below_new _ _) (by simp; omega)) (below_new _ _) (by simp; omega), hz1, by omega⟩
  clear L0 Z1
  go_wp2_with fail
  generalize ((w1.alloc (.cells #[.int .i64 (opL name), .int .i64 0, .int .i64 0, .int .i64 0, .int .i64 0] 29)).alloc (.cells #[.bool true, .bool false, .bool false, .int .i64 16, .int .i64 (lLeast 5), .int .i64 (lMost 5)] 45)).alloc (.cells #[.bool true, .bool false, .bool false, .int .i64 16, .int .i64 (lLeast 5), .int .i64 (lMost 5)] 45) = W0 at R0 ⊢
  refine (c_number r0 _ (by omega) (R0.gw HG.out)).mono ?_
  rintro e v0 ⟨rfl, hb0⟩
  have S0 := R0.next hb0 rfl
  clear hb0 R0
  have ⟨⟨x0, x1, x2, x3, x4, xf⟩, ⟨l0, l1, l2, l3, l4, l5⟩, ⟨z0, z1, z2, z3, z4, zf⟩, hB, ho1, ho2⟩ := S0
  have hr1 := numR_le r0
  go_wp2_with fail
  have R1 := S0.set1 (numV r0)
  clear S0 x0 x1 x2 x3 x4 xf l0 l1 l2 l3 l4 l5 z0 z1 z2 z3 z4 zf hB ho1 ho2
  generalize v0.setCell ⟨w1.heap.size, 1, none⟩ (.int .i64 (numV r0)) = W1 at R1 ⊢
  refine (c_number (numR r0) _ (by omega) (R1.gw HG.out)).mono ?_
  rintro e v1 ⟨rfl, hb1⟩
  have S1 := R1.next hb1 rfl
  clear hb1 R1
  have ⟨⟨x0, x1, x2, x3, x4, xf⟩, ⟨l0, l1, l2, l3, l4, l5⟩, ⟨z0, z1, z2, z3, z4, zf⟩, hB, ho1, ho2⟩ := S1
  have hr2 := numR_le (numR r0)
  clear S1
  go_wp2_with fail
  refine bodyPost_ret (v := .agg #[.int .i64 (opL name), .int .i64 (numV r0), .int .i64 0, .int .i64 0, .int .i64 (numV (numR r0))]) (by simp [results, Tryd.results41, go_sem, z0, z1, z2, z3, z4]) rfl ?_
  exact ⟨ret_instr rfl HQ.out.1.symm HQ.out.2.1.symm HQ.out.2.2.1.symm HQ.out.2.2.2.symm, by go_grown⟩
set_option maxHeartbeats 2000000 in
theorem c_read_6 (l : List UInt8) (w : World) (hl : l.length ≤ 65536) (hg : GW w) (hf : formI (tOp l) = 6) :
    Calls Tryd.prog 41 #[.string ⟨l.toArray⟩] w fun e w' => e = .returned (.agg #[.int .i64 (tOp l), .int .i64 (tD l), .int .i64 (tA l), .int .i64 (tB l), .int .i64 (tI l)]) ∧ Below w.heap.size w w' := by
  have ob := opL_bd (Lib.cut l [32]).1
  have o0 := ob.1
  have o1 := ob.2
  have hr0 := cut_le2 l [32]
  have qtD : tD l = numV ((Lib.cut l [32]).2.1) := by unfold tD; (try unfold r3L); (try unfold r2L); (try unfold r1L); rw [hf]; (try unfold lD); (try unfold lA); (try unfold lB); (try unfold lBits); rfl
  have qtA : tA l = 0 := by unfold tA; (try unfold r3L); (try unfold r2L); (try unfold r1L); rw [hf]; (try unfold lD); (try unfold lA); (try unfold lB); (try unfold lBits); rfl
  have qtB : tB l = 0 := by unfold tB; (try unfold r3L); (try unfold r2L); (try unfold r1L); rw [hf]; (try unfold lD); (try unfold lA); (try unfold lB); (try unfold lBits); rfl
  have qtI : tI l = numV (numR ((Lib.cut l [32]).2.1)) := by unfold tI; (try unfold r3L); (try unfold r2L); (try unfold r1L); rw [hf]; (try unfold lD); (try unfold lA); (try unfold lB); (try unfold lBits); rfl
  have HQ := Lib.hid (show tD l = numV ((Lib.cut l [32]).2.1) ∧ tA l = 0 ∧ tB l = 0 ∧ tI l = numV (numR ((Lib.cut l [32]).2.1)) from ⟨qtD, qtA, qtB, qtI⟩)
  have HL := c_layoutX (formI (tOp l))
  rw [hf, show lD 6 = true by unfold lD; rfl, show lA 6 = false by unfold lA; rfl, show lB 6 = false by unfold lB; rfl, show lBits 6 = 16 by unfold lBits; rfl] at HL
  have HF := c_formOf (tOp l)
  rw [hf] at HF
  have HC := c_cut l
  clear qtD qtA qtB qtI hf
  have HCC := Lib.hid HC
  have HFF := Lib.hid HF
  have HLL := Lib.hid HL
  have HG := Lib.hid hg
  clear HC HF HL hg
  unfold tOp at *
  generalize (Lib.cut l [32]).1 = name at *
  generalize hrest : (Lib.cut l [32]).2.1 = r0 at *
  clear hrest
  go_enter Tryd.func41, Tryd.ntmps41
  go_wp2_with fail
  refine (HCC.out _ hl (HG.out.next (below_new w _) rfl)).mono ?_
  rintro e w1 ⟨rfl, hb1⟩
  have Z1 := (Box.new w 0 0 0 0 0 _).next hb1 rfl
  have hB1 := Lib.hid (below_on (below_new w _) hb1 (by simp))
  have hz1 : w.heap.size < w1.heap.size := cell_lt Z1.1
  clear hb1
  go_wp2_with fail
  refine (c_opOf name _ (HG.out.next hB1.out rfl).1).mono ?_
  rintro e w2 ⟨rfl, rfl⟩
  go_wp2_with fail
  refine (HFF.out _ (by omega) (by omega)).mono ?_
  rintro e w3 ⟨rfl, rfl⟩
  go_wp2_with fail
  refine (HLL.out _ (by decide) (by decide)).mono ?_
  rintro e w4 ⟨rfl, rfl⟩
  clear HCC HFF HLL
  have L0 := LBox.new ((w1.alloc (.cells #[.int .i64 (opL name), .int .i64 0, .int .i64 0, .int .i64 0, .int .i64 0] 29)).alloc (.cells #[.bool true, .bool false, .bool false, .int .i64 16, .int .i64 (lLeast 6), .int .i64 (lMost 6)] 45)) true false false 16 (lLeast 6) (lMost 6) 45
  rw [show ((w1.alloc (.cells #[.int .i64 (opL name), .int .i64 0, .int .i64 0, .int .i64 0, .int .i64 0] 29)).alloc (.cells #[.bool true, .bool false, .bool false, .int .i64 16, .int .i64 (lLeast 6), .int .i64 (lMost 6)] 45)).heap.size = w1.heap.size + 1 + 1 by simp] at L0
  have R0 : RS w (((w1.alloc (.cells #[.int .i64 (opL name), .int .i64 0, .int .i64 0, .int .i64 0, .int .i64 0] 29)).alloc (.cells #[.bool true, .bool false, .bool false, .int .i64 16, .int .i64 (lLeast 6), .int .i64 (lMost 6)] 45)).alloc (.cells #[.bool true, .bool false, .bool false, .int .i64 16, .int .i64 (lLeast 6), .int .i64 (lMost 6)] 45)) w1.heap.size (w1.heap.size + 1 + 1) true false false 16 (lLeast 6) (lMost 6) (opL name) 0 0 0 0 :=
    ⟨((Box.new w1 (opL name) 0 0 0 0 29).next (below_new _ (.cells #[.bool true, .bool false, .bool false, .int .i64 16, .int .i64 (lLeast 6), .int .i64 (lMost 6)] 45)) rfl).next (below_new _ (.cells #[.bool true, .bool false, .bool false, .int .i64 16, .int .i64 (lLeast 6), .int .i64 (lMost 6)] 45)) rfl, L0, ((Z1.next (below_new _ (.cells #[.int .i64 (opL name), .int .i64 0, .int .i64 0, .int .i64 0, .int .i64 0] 29)) rfl).next (below_new _ (.cells #[.bool true, .bool false, .bool false, .int .i64 16, .int .i64 (lLeast 6), .int .i64 (lMost 6)] 45)) rfl).next (below_new _ (.cells #[.bool true, .bool false, .bool false, .int .i64 16, .int .i64 (lLeast 6), .int .i64 (lMost 6)] 45)) rfl,
      below_on (below_on (below_on hB1.out (below_new _ _) (by omega)) (below_new _ _) (by simp; omega)) (below_new _ _) (by simp; omega), hz1, by omega⟩
  clear L0 Z1
  go_wp2_with fail
  generalize ((w1.alloc (.cells #[.int .i64 (opL name), .int .i64 0, .int .i64 0, .int .i64 0, .int .i64 0] 29)).alloc (.cells #[.bool true, .bool false, .bool false, .int .i64 16, .int .i64 (lLeast 6), .int .i64 (lMost 6)] 45)).alloc (.cells #[.bool true, .bool false, .bool false, .int .i64 16, .int .i64 (lLeast 6), .int .i64 (lMost 6)] 45) = W0 at R0 ⊢
  refine (c_number r0 _ (by omega) (R0.gw HG.out)).mono ?_
  rintro e v0 ⟨rfl, hb0⟩
  have S0 := R0.next hb0 rfl
  clear hb0 R0
  have ⟨⟨x0, x1, x2, x3, x4, xf⟩, ⟨l0, l1, l2, l3, l4, l5⟩, ⟨z0, z1, z2, z3, z4, zf⟩, hB, ho1, ho2⟩ := S0
  have hr1 := numR_le r0
  go_wp2_with fail
  have R1 := S0.set1 (numV r0)
  clear S0 x0 x1 x2 x3 x4 xf l0 l1 l2 l3 l4 l5 z0 z1 z2 z3 z4 zf hB ho1 ho2
  generalize v0.setCell ⟨w1.heap.size, 1, none⟩ (.int .i64 (numV r0)) = W1 at R1 ⊢
  refine (c_number (numR r0) _ (by omega) (R1.gw HG.out)).mono ?_
  rintro e v1 ⟨rfl, hb1⟩
  have S1 := R1.next hb1 rfl
  clear hb1 R1
  have ⟨⟨x0, x1, x2, x3, x4, xf⟩, ⟨l0, l1, l2, l3, l4, l5⟩, ⟨z0, z1, z2, z3, z4, zf⟩, hB, ho1, ho2⟩ := S1
  have hr2 := numR_le (numR r0)
  clear S1
  go_wp2_with fail
  refine bodyPost_ret (v := .agg #[.int .i64 (opL name), .int .i64 (numV r0), .int .i64 0, .int .i64 0, .int .i64 (numV (numR r0))]) (by simp [results, Tryd.results41, go_sem, z0, z1, z2, z3, z4]) rfl ?_
  exact ⟨ret_instr rfl HQ.out.1.symm HQ.out.2.1.symm HQ.out.2.2.1.symm HQ.out.2.2.2.symm, by go_grown⟩
end Go.Proofs.YthekokjmdjokgaaDoor
