
/-
  The contract of Parse, in the code.
-/
import Derived.Test.YthekokjmdjokgaaDoorIsaRead1
import Derived.Test.YthekokjmdjokgaaDoorIsaRead2
namespace Go.Proofs.YthekokjmdjokgaaDoor
set_option linter.unusedVariables false
set_option linter.unusedSimpArgs false
open Go.ChangeShapes Go.WideShapes Go.ChangeAt Go.RowKit

theorem c_read (l : List UInt8) (w : World) (hl : l.length ≤ 65536) (hg : GW w) :
    Calls Tryd.prog 41 #[.string ⟨l.toArray⟩] w fun e w' => e = .returned (.agg #[.int .i64 (tOp l), .int .i64 (tD l), .int .i64 (tA l), .int .i64 (tB l), .int .i64 (tI l)]) ∧ Below w.heap.size w w' := by
  have ⟨f0, f1⟩ := formI_bd (tOp l)
  rcases form_cases _ f0 f1 with h | h | h | h | h | h | h | h | h | h | h | h | h
  · exact c_read_0 l w hl hg h
  · exact c_read_1 l w hl hg h
  · exact c_read_2 l w hl hg h
  · exact c_read_3 l w hl hg h
  · exact c_read_4 l w hl hg h
  · exact c_read_5 l w hl hg h
  · exact c_read_6 l w hl hg h
  · exact c_read_7 l w hl hg h
  · exact c_read_8 l w hl hg h
  · exact c_read_9 l w hl hg h
  · exact c_read_10 l w hl hg h
  · exact c_read_11 l w hl hg h
  · exact c_read_12 l w hl hg h
/-- Is a text an instruction's? -/
@[irreducible] def pB (l : List UInt8) : Bool := decide (l.length ≤ 65536) && (chkB (tOp l) (tD l) (tA l) (tB l) (tI l) && decide (prR (tOp l) (tD l) (tA l) (tB l) (tI l) = l))
@[irreducible] def pE (l : List UInt8) : Int := if 65536 < l.length then 3 else if pB l then 0 else 2
@[irreducible] def vOp (l : List UInt8) : Int := if pB l then tOp l else 0
@[irreducible] def vD (l : List UInt8) : Int := if pB l then tD l else 0
@[irreducible] def vA (l : List UInt8) : Int := if pB l then tA l else 0
@[irreducible] def vB (l : List UInt8) : Int := if pB l then tB l else 0
@[irreducible] def vI (l : List UInt8) : Int := if pB l then tI l else 0
theorem v_all (l : List UInt8) (k : Bool) (hb : pB l = k) : vOp l = (if k then tOp l else 0) ∧ vD l = (if k then tD l else 0) ∧ vA l = (if k then tA l else 0) ∧ vB l = (if k then tB l else 0) ∧ vI l = (if k then tI l else 0) := by
  unfold vOp vD vA vB vI
  rw [hb]
  exact ⟨rfl, rfl, rfl, rfl, rfl⟩
theorem num_bd (s : List UInt8) : -9223372036854775808 ≤ numV s ∧ numV s ≤ 9223372036854775807 := by
  rw [numV_eq]
  split
  · rename_i v hv
    exact Lib.atoiAll_bounds hv
  · omega
theorem t_bd (l : List UInt8) : (-9223372036854775808 ≤ tD l ∧ tD l ≤ 9223372036854775807) ∧ (-9223372036854775808 ≤ tA l ∧ tA l ≤ 9223372036854775807) ∧ (-9223372036854775808 ≤ tB l ∧ tB l ≤ 9223372036854775807) ∧ (-9223372036854775808 ≤ tI l ∧ tI l ≤ 9223372036854775807) := by
  unfold tD tA tB tI
  refine ⟨?_, ?_, ?_, ?_⟩ <;> split <;> first | exact num_bd _ | omega
theorem p_ways (l : List UInt8) (hl : l.length ≤ 65536) : (pB l = true ∧ chkB (tOp l) (tD l) (tA l) (tB l) (tI l) = true ∧ prR (tOp l) (tD l) (tA l) (tB l) (tI l) = l) ∨
    (pB l = false ∧ chkB (tOp l) (tD l) (tA l) (tB l) (tI l) = false) ∨ (pB l = false ∧ chkB (tOp l) (tD l) (tA l) (tB l) (tI l) = true ∧ ¬ prR (tOp l) (tD l) (tA l) (tB l) (tI l) = l) := by
  have e : pB l = (chkB (tOp l) (tD l) (tA l) (tB l) (tI l) && decide (prR (tOp l) (tD l) (tA l) (tB l) (tI l) = l)) := by
    unfold pB
    simp [hl]
  rw [e]
  cases h : chkB (tOp l) (tD l) (tA l) (tB l) (tI l)
  · exact .inr (.inl ⟨rfl, rfl⟩)
  · by_cases he : prR (tOp l) (tD l) (tA l) (tB l) (tI l) = l
    · exact .inl ⟨by rw [decide_eq_true he]; rfl, rfl, he⟩
    · exact .inr (.inr ⟨by simp [he], rfl, he⟩)
theorem pE_no (l : List UInt8) (hl : l.length ≤ 65536) (h : pB l = false) : pE l = 2 := by
  unfold pE
  rw [if_neg (by omega), h]
  rfl
theorem pE_yes (l : List UInt8) (hl : l.length ≤ 65536) (h : pB l = true) : pE l = 0 := by
  unfold pE
  rw [if_neg (by omega), h]
  rfl
theorem pB_long (l : List UInt8) (hl : 65536 < l.length) : pB l = false := by
  unfold pB
  simp
  intro h
  omega
theorem pE_long (l : List UInt8) (hl : 65536 < l.length) : pE l = 3 := by
  unfold pE
  rw [if_pos hl]
theorem c_Parse_long (l : List UInt8) (w : World) (hl : 65536 < l.length) (hm : l.length ≤ maxLen) :
    Calls Tryd.prog 29 #[.string ⟨l.toArray⟩] w fun e w' => e = .returned (.tuple #[.agg #[.int .i64 (vOp l), .int .i64 (vD l), .int .i64 (vA l), .int .i64 (vB l), .int .i64 (vI l)], .int .i64 (pE l)]) ∧ Below w.heap.size w w' := by
  have HV := Lib.hid (v_all l false (pB_long l hl))
  have HE := Lib.hid (pE_long l hl)
  unfold maxLen at hm
  go_enter Tryd.func29, Tryd.ntmps29
  go_wp2_with fail
  refine bodyPost_ret (v := .tuple #[.agg #[.int .i64 0, .int .i64 0, .int .i64 0, .int .i64 0, .int .i64 0], .int .i64 3]) (by simp [results, Tryd.results29, go_sem]) rfl ?_
  exact ⟨ret_ie HV.out.1.symm HV.out.2.1.symm HV.out.2.2.1.symm HV.out.2.2.2.1.symm HV.out.2.2.2.2.symm HE.out.symm, by go_grown⟩
set_option maxHeartbeats 1000000 in
theorem c_Parse_short (l : List UInt8) (w : World) (hl : l.length ≤ 65536) (hg : GW w) :
    Calls Tryd.prog 29 #[.string ⟨l.toArray⟩] w fun e w' => e = .returned (.tuple #[.agg #[.int .i64 (vOp l), .int .i64 (vD l), .int .i64 (vA l), .int .i64 (vB l), .int .i64 (vI l)], .int .i64 (pE l)]) ∧ Below w.heap.size w w' := by
  have HW := Lib.hid (p_ways l hl)
  have HV := Lib.hid (v_all l)
  have HC := Lib.hid (c_read l)
  have HG := Lib.hid hg
  have ob := opL_bd (Lib.cut l [32]).1
  have o0 : 0 ≤ tOp l := ob.1
  have o1 : tOp l ≤ 42 := ob.2
  have ⟨hd, ha, hb, hi⟩ := t_bd l
  have HEN := Lib.hid (pE_no l hl)
  have HEY := Lib.hid (pE_yes l hl)
  clear hg ob
  generalize tOp l = o at *
  generalize tD l = d at *
  generalize tA l = a at *
  generalize tB l = b at *
  generalize tI l = i at *
  go_enter Tryd.func29, Tryd.ntmps29
  go_wp2_with fail
  refine (HC.out _ hl (HG.out.next (below_new w _) rfl)).mono ?_
  rintro e w2 ⟨rfl, hb2⟩
  have hB2 : Below w.heap.size w w2 := below_on (below_new w _) hb2 (by simp)
  have hZ2 : Box w2 w.heap.size 0 0 0 0 0 := (Box.new w 0 0 0 0 0 _).next hb2 rfl
  have hZ2s : w.heap.size < w2.heap.size := cell_lt hZ2.1
  have HB2 := Lib.hid hB2
  clear hb2 hB2
  go_wp2_with fail
  have HG2 := (HG.out.next HB2.out rfl).next (below_new w2 (.cells #[.int .i64 o, .int .i64 d, .int .i64 a, .int .i64 b, .int .i64 i] 29)) rfl
  refine (c_Print o d a b i _ ⟨by omega, by omega⟩ hd ha hb hi HG2.1 HG2.2.1).mono ?_
  rintro e w3 ⟨rfl, hb3⟩
  have hB3 : Below w.heap.size w w3 := below_on (below_on HB2.out (below_new w2 _) HB2.out.size) hb3 (by have := HB2.out.size; simp; omega)
  have ⟨z0, z1, z2, z3, z4, zf⟩ := (hZ2.next (below_new w2 _) rfl).next hb3 rfl
  have ⟨y0, y1, y2, y3, y4, yf⟩ := (Box.new w2 o d a b i _).next hb3 rfl
  clear hb3 hZ2 HG2
  rcases HW.out with ⟨k1, k2, k3⟩ | ⟨k1, k2⟩ | ⟨k1, k2, k3⟩
  · have HX := Lib.hid (HV.out _ k1)
    have HE := Lib.hid (HEY.out k1)
    rw [k2, k3, errI_yes]
    clear k1 k2 k3 HW HV HEN HEY
    go_wp2_with fail
    refine bodyPost_ret (v := .tuple #[.agg #[.int .i64 o, .int .i64 d, .int .i64 a, .int .i64 b, .int .i64 i], .int .i64 0]) (by simp [results, Tryd.results29, go_sem, z0, z1, z2, z3, z4]) rfl ?_
    exact ⟨ret_ie HX.out.1.symm HX.out.2.1.symm HX.out.2.2.1.symm HX.out.2.2.2.1.symm HX.out.2.2.2.2.symm HE.out.symm, by go_grown⟩
  · have HX := Lib.hid (HV.out _ k1)
    have HE := Lib.hid (HEN.out k1)
    rw [k2, errI_no]
    clear k1 k2 HW HV HEN HEY
    go_wp2_with fail
    refine bodyPost_ret (v := .tuple #[.agg #[.int .i64 0, .int .i64 0, .int .i64 0, .int .i64 0, .int .i64 0], .int .i64 2]) (by simp [results, Tryd.results29, go_sem, z0, z1, z2, z3, z4]) rfl ?_
    exact ⟨ret_ie HX.out.1.symm HX.out.2.1.symm HX.out.2.2.1.symm HX.out.2.2.2.1.symm HX.out.2.2.2.2.symm HE.out.symm, by go_grown⟩
  · have HX := Lib.hid (HV.out _ k1)
    have HE := Lib.hid (HEN.out k1)
    rw [k2, errI_yes]
    have n1 : (prR o d a b i == l) = false := by simpa using k3
    have n2 : (prR o d a b i != l) = true := by simpa using k3
    clear k1 k2 k3 HW HV HEN HEY
    go_wp2_with fail
    refine bodyPost_ret (v := .tuple #[.agg #[.int .i64 0, .int .i64 0, .int .i64 0, .int .i64 0, .int .i64 0], .int .i64 2]) (by simp [results, Tryd.results29, go_sem, z0, z1, z2, z3, z4]) rfl ?_
    exact ⟨ret_ie HX.out.1.symm HX.out.2.1.symm HX.out.2.2.1.symm HX.out.2.2.2.1.symm HX.out.2.2.2.2.symm HE.out.symm, by go_grown⟩
theorem c_Parse (l : List UInt8) (w : World) (hm : l.length ≤ maxLen) (hg : GW w) :
    Calls Tryd.prog 29 #[.string ⟨l.toArray⟩] w fun e w' => e = .returned (.tuple #[.agg #[.int .i64 (vOp l), .int .i64 (vD l), .int .i64 (vA l), .int .i64 (vB l), .int .i64 (vI l)], .int .i64 (pE l)]) ∧ Below w.heap.size w w' := by
  by_cases h : l.length ≤ 65536
  · exact c_Parse_short l w h hg
  · exact c_Parse_long l w (by omega) hm
end Go.Proofs.YthekokjmdjokgaaDoor
