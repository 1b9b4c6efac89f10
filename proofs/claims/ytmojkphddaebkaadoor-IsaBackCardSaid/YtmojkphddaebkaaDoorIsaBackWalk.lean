/-
  The walks of the law on words and texts there and back, way by way.
-/
import Derived.Test.YtmojkphddaebkaaDoorIsaParse
import Derived.Test.YtmojkphddaebkaaDoorIsaWorks
namespace Go.Proofs.YtmojkphddaebkaaDoor
set_option linter.unusedVariables false
set_option linter.unusedSimpArgs false
open Go.ChangeShapes Go.WideShapes Go.ChangeAt Go.RowKit

/-- A call of one answer, wherever the tables stand. -/
def CI (f : FuncId) (args : Array Value) (r : Value) : Prop := ∀ w, GW w → Calls Tryd.prog f args w fun e w' => e = .returned r ∧ Below w.heap.size w w'
theorem cw_works : CI 15 #[] (.bool true) := fun w hg => c_works w hg.1 hg.2.1
theorem neq_instr (a b c d e a' b' c' d' e' : Int) (w : World) : (binOp .neq 23 (.agg #[.int .i64 a, .int .i64 b, .int .i64 c, .int .i64 d, .int .i64 e]) (.agg #[.int .i64 a', .int .i64 b', .int .i64 c', .int .i64 d', .int .i64 e'])).run Tryd.prog w = .ok (.bool (!(a == a' && (b == b' && (c == c' && (d == d' && e == e')))))) w := by
  have h := eq_instr a b c d e a' b' c' d' e' w
  rw [run_eql_struct] at h
  rw [run_neq_struct]
  cases hc : (Op.equalIn 10000 23 (.agg #[.int .i64 a, .int .i64 b, .int .i64 c, .int .i64 d, .int .i64 e]) (.agg #[.int .i64 a', .int .i64 b', .int .i64 c', .int .i64 d', .int .i64 e'])).run Tryd.prog w with
  | ok r w2 =>
    rw [hc] at h
    simp only [Result.andThen_ok, Result.ok.injEq, Value.bool.injEq] at h ⊢
    exact ⟨by rw [h.1], h.2⟩
  | halt r w2 =>
    rw [hc] at h
    cases h
set_option maxHeartbeats 2000000 in
theorem back_000 (o d a b i x v : Int) (t l : List UInt8) (y0 y1 y2 y3 y4 t0 t1 t2 t3 t4 ee : Int) (w : World) (hg : GW w) (hx0 : 0 ≤ x) (hx1 : x ≤ 4294967295) (hv0 : 0 ≤ v) (hv1 : v ≤ 4294967295)
    (K1 : CI 13 #[.agg #[.int .i64 o, .int .i64 d, .int .i64 a, .int .i64 b, .int .i64 i]] (.int .i64 20))
    (D2 : CI 11 #[.int .u32 x] (.tuple #[.agg #[.int .i64 0, .int .i64 0, .int .i64 0, .int .i64 0, .int .i64 0], .int .i64 20]))
    (Q3 : CI 18 #[.string ⟨(l).toArray⟩] (.tuple #[.agg #[.int .i64 0, .int .i64 0, .int .i64 0, .int .i64 0, .int .i64 0], .int .i64 ee]))
    (he : (ee == 0) = false) :
    Calls Tryd.prog 7 #[.agg #[.int .i64 o, .int .i64 d, .int .i64 a, .int .i64 b, .int .i64 i], .int .u32 x, .string ⟨(l).toArray⟩] w fun e w' => e = .returned (.bool true) ∧ Below w.heap.size w w' := by
  have HG := Lib.hid hg
  have neq := neq_instr
  clear hg
  go_enter Tryd.func7, Tryd.ntmps7
  go_wp2_with fail
  refine (cw_works _ (HG.out.next (below_new _ (.cells #[.int .i64 o, .int .i64 d, .int .i64 a, .int .i64 b, .int .i64 i] 23)) rfl)).mono ?_
  rintro e w1 ⟨rfl, hb1⟩
  have Xp_1 := (Box.new w o d a b i 23).next hb1 rfl
  have B1 := Lib.hid (below_on (below_new w _) hb1 (by simp))
  clear hb1
  have ⟨p_0, p_1, p_2, p_3, p_4, p_f⟩ := Xp_1
  have p_lt := cell_lt p_0
  dsimp only at p_lt
  go_wp2_with fail
  refine (K1 _ (HG.out.next B1.out rfl)).mono ?_
  rintro e w2 ⟨rfl, hb2⟩
  have Xp_2 := Xp_1.next hb2 rfl
  have B2 := Lib.hid (below_on B1.out hb2 B1.out.size)
  clear hb2 Xp_1
  clear p_0 p_1 p_2 p_3 p_4 p_f p_lt
  go_wp2_with fail
  refine (D2 _ (HG.out.next B2.out rfl)).mono ?_
  rintro e w3 ⟨rfl, hb3⟩
  have Xp_3 := Xp_2.next hb3 rfl
  have B3 := Lib.hid (below_on B2.out hb3 B2.out.size)
  clear hb3 Xp_2
  go_wp2_with fail
  refine (Q3 _ ((HG.out.next B3.out rfl).next (below_new _ (.cells #[.int .i64 0, .int .i64 0, .int .i64 0, .int .i64 0, .int .i64 0] 23)) rfl)).mono ?_
  rintro e w4 ⟨rfl, hb4⟩
  have Xu_4 := (Box.new w3 0 0 0 0 0 23).next hb4 rfl
  have B4 := Lib.hid (below_on (below_on B3.out (below_new _ _) B3.out.size) hb4 (by have := B3.out.size; simp; omega))
  clear hb4
  go_wp2_with fail
  go_ret
  exact ⟨rfl, below_on B4.out (below_new _ _) B4.out.size⟩
set_option maxHeartbeats 2000000 in
theorem back_001 (o d a b i x v : Int) (t l : List UInt8) (y0 y1 y2 y3 y4 t0 t1 t2 t3 t4 ee : Int) (w : World) (hg : GW w) (hx0 : 0 ≤ x) (hx1 : x ≤ 4294967295) (hv0 : 0 ≤ v) (hv1 : v ≤ 4294967295)
    (K1 : CI 13 #[.agg #[.int .i64 o, .int .i64 d, .int .i64 a, .int .i64 b, .int .i64 i]] (.int .i64 20))
    (D2 : CI 11 #[.int .u32 x] (.tuple #[.agg #[.int .i64 0, .int .i64 0, .int .i64 0, .int .i64 0, .int .i64 0], .int .i64 20]))
    (Q3 : CI 18 #[.string ⟨(l).toArray⟩] (.tuple #[.agg #[.int .i64 t0, .int .i64 t1, .int .i64 t2, .int .i64 t3, .int .i64 t4], .int .i64 0]))
    (P3 : CI 16 #[.agg #[.int .i64 t0, .int .i64 t1, .int .i64 t2, .int .i64 t3, .int .i64 t4]] (.tuple #[.string ⟨(l).toArray⟩, .int .i64 0])) :
    Calls Tryd.prog 7 #[.agg #[.int .i64 o, .int .i64 d, .int .i64 a, .int .i64 b, .int .i64 i], .int .u32 x, .string ⟨(l).toArray⟩] w fun e w' => e = .returned (.bool true) ∧ Below w.heap.size w w' := by
  have HG := Lib.hid hg
  have neq := neq_instr
  clear hg
  go_enter Tryd.func7, Tryd.ntmps7
  go_wp2_with fail
  refine (cw_works _ (HG.out.next (below_new _ (.cells #[.int .i64 o, .int .i64 d, .int .i64 a, .int .i64 b, .int .i64 i] 23)) rfl)).mono ?_
  rintro e w1 ⟨rfl, hb1⟩
  have Xp_1 := (Box.new w o d a b i 23).next hb1 rfl
  have B1 := Lib.hid (below_on (below_new w _) hb1 (by simp))
  clear hb1
  have ⟨p_0, p_1, p_2, p_3, p_4, p_f⟩ := Xp_1
  have p_lt := cell_lt p_0
  dsimp only at p_lt
  go_wp2_with fail
  refine (K1 _ (HG.out.next B1.out rfl)).mono ?_
  rintro e w2 ⟨rfl, hb2⟩
  have Xp_2 := Xp_1.next hb2 rfl
  have B2 := Lib.hid (below_on B1.out hb2 B1.out.size)
  clear hb2 Xp_1
  clear p_0 p_1 p_2 p_3 p_4 p_f p_lt
  go_wp2_with fail
  refine (D2 _ (HG.out.next B2.out rfl)).mono ?_
  rintro e w3 ⟨rfl, hb3⟩
  have Xp_3 := Xp_2.next hb3 rfl
  have B3 := Lib.hid (below_on B2.out hb3 B2.out.size)
  clear hb3 Xp_2
  go_wp2_with fail
  refine (Q3 _ ((HG.out.next B3.out rfl).next (below_new _ (.cells #[.int .i64 0, .int .i64 0, .int .i64 0, .int .i64 0, .int .i64 0] 23)) rfl)).mono ?_
  rintro e w4 ⟨rfl, hb4⟩
  have Xu_4 := (Box.new w3 0 0 0 0 0 23).next hb4 rfl
  have B4 := Lib.hid (below_on (below_on B3.out (below_new _ _) B3.out.size) hb4 (by have := B3.out.size; simp; omega))
  clear hb4
  go_wp2_with fail
  refine (P3 _ ((HG.out.next B4.out rfl).next (below_new _ (.cells #[.int .i64 t0, .int .i64 t1, .int .i64 t2, .int .i64 t3, .int .i64 t4] 23)) rfl)).mono ?_
  rintro e w5 ⟨rfl, hb5⟩
  have Xz_5 := (Box.new w4 t0 t1 t2 t3 t4 23).next hb5 rfl
  have B5 := Lib.hid (below_on (below_on B4.out (below_new _ _) B4.out.size) hb5 (by have := B4.out.size; simp; omega))
  clear hb5
  go_wp2_with fail
  go_ret
  exact ⟨rfl, B5.out⟩
set_option maxHeartbeats 2000000 in
theorem back_010 (o d a b i x v : Int) (t l : List UInt8) (y0 y1 y2 y3 y4 t0 t1 t2 t3 t4 ee : Int) (w : World) (hg : GW w) (hx0 : 0 ≤ x) (hx1 : x ≤ 4294967295) (hv0 : 0 ≤ v) (hv1 : v ≤ 4294967295)
    (K1 : CI 13 #[.agg #[.int .i64 o, .int .i64 d, .int .i64 a, .int .i64 b, .int .i64 i]] (.int .i64 20))
    (D2 : CI 11 #[.int .u32 x] (.tuple #[.agg #[.int .i64 y0, .int .i64 y1, .int .i64 y2, .int .i64 y3, .int .i64 y4], .int .i64 0]))
    (E2 : CI 9 #[.agg #[.int .i64 y0, .int .i64 y1, .int .i64 y2, .int .i64 y3, .int .i64 y4]] (.tuple #[.int .u32 x, .int .i64 0]))
    (Q3 : CI 18 #[.string ⟨(l).toArray⟩] (.tuple #[.agg #[.int .i64 0, .int .i64 0, .int .i64 0, .int .i64 0, .int .i64 0], .int .i64 ee]))
    (he : (ee == 0) = false) :
    Calls Tryd.prog 7 #[.agg #[.int .i64 o, .int .i64 d, .int .i64 a, .int .i64 b, .int .i64 i], .int .u32 x, .string ⟨(l).toArray⟩] w fun e w' => e = .returned (.bool true) ∧ Below w.heap.size w w' := by
  have HG := Lib.hid hg
  have neq := neq_instr
  clear hg
  go_enter Tryd.func7, Tryd.ntmps7
  go_wp2_with fail
  refine (cw_works _ (HG.out.next (below_new _ (.cells #[.int .i64 o, .int .i64 d, .int .i64 a, .int .i64 b, .int .i64 i] 23)) rfl)).mono ?_
  rintro e w1 ⟨rfl, hb1⟩
  have Xp_1 := (Box.new w o d a b i 23).next hb1 rfl
  have B1 := Lib.hid (below_on (below_new w _) hb1 (by simp))
  clear hb1
  have ⟨p_0, p_1, p_2, p_3, p_4, p_f⟩ := Xp_1
  have p_lt := cell_lt p_0
  dsimp only at p_lt
  go_wp2_with fail
  refine (K1 _ (HG.out.next B1.out rfl)).mono ?_
  rintro e w2 ⟨rfl, hb2⟩
  have Xp_2 := Xp_1.next hb2 rfl
  have B2 := Lib.hid (below_on B1.out hb2 B1.out.size)
  clear hb2 Xp_1
  clear p_0 p_1 p_2 p_3 p_4 p_f p_lt
  go_wp2_with fail
  refine (D2 _ (HG.out.next B2.out rfl)).mono ?_
  rintro e w3 ⟨rfl, hb3⟩
  have Xp_3 := Xp_2.next hb3 rfl
  have B3 := Lib.hid (below_on B2.out hb3 B2.out.size)
  clear hb3 Xp_2
  go_wp2_with fail
  refine (E2 _ ((HG.out.next B3.out rfl).next (below_new _ (.cells #[.int .i64 y0, .int .i64 y1, .int .i64 y2, .int .i64 y3, .int .i64 y4] 23)) rfl)).mono ?_
  rintro e w4 ⟨rfl, hb4⟩
  have Xu_4 := (Box.new w3 y0 y1 y2 y3 y4 23).next hb4 rfl
  have B4 := Lib.hid (below_on (below_on B3.out (below_new _ _) B3.out.size) hb4 (by have := B3.out.size; simp; omega))
  clear hb4
  go_wp2_with fail
  refine (Q3 _ (HG.out.next B4.out rfl)).mono ?_
  rintro e w5 ⟨rfl, hb5⟩
  have B5 := Lib.hid (below_on B4.out hb5 B4.out.size)
  clear hb5
  go_wp2_with fail
  go_ret
  exact ⟨rfl, below_on B5.out (below_new _ _) B5.out.size⟩
set_option maxHeartbeats 2000000 in
theorem back_011 (o d a b i x v : Int) (t l : List UInt8) (y0 y1 y2 y3 y4 t0 t1 t2 t3 t4 ee : Int) (w : World) (hg : GW w) (hx0 : 0 ≤ x) (hx1 : x ≤ 4294967295) (hv0 : 0 ≤ v) (hv1 : v ≤ 4294967295)
    (K1 : CI 13 #[.agg #[.int .i64 o, .int .i64 d, .int .i64 a, .int .i64 b, .int .i64 i]] (.int .i64 20))
    (D2 : CI 11 #[.int .u32 x] (.tuple #[.agg #[.int .i64 y0, .int .i64 y1, .int .i64 y2, .int .i64 y3, .int .i64 y4], .int .i64 0]))
    (E2 : CI 9 #[.agg #[.int .i64 y0, .int .i64 y1, .int .i64 y2, .int .i64 y3, .int .i64 y4]] (.tuple #[.int .u32 x, .int .i64 0]))
    (Q3 : CI 18 #[.string ⟨(l).toArray⟩] (.tuple #[.agg #[.int .i64 t0, .int .i64 t1, .int .i64 t2, .int .i64 t3, .int .i64 t4], .int .i64 0]))
    (P3 : CI 16 #[.agg #[.int .i64 t0, .int .i64 t1, .int .i64 t2, .int .i64 t3, .int .i64 t4]] (.tuple #[.string ⟨(l).toArray⟩, .int .i64 0])) :
    Calls Tryd.prog 7 #[.agg #[.int .i64 o, .int .i64 d, .int .i64 a, .int .i64 b, .int .i64 i], .int .u32 x, .string ⟨(l).toArray⟩] w fun e w' => e = .returned (.bool true) ∧ Below w.heap.size w w' := by
  have HG := Lib.hid hg
  have neq := neq_instr
  clear hg
  go_enter Tryd.func7, Tryd.ntmps7
  go_wp2_with fail
  refine (cw_works _ (HG.out.next (below_new _ (.cells #[.int .i64 o, .int .i64 d, .int .i64 a, .int .i64 b, .int .i64 i] 23)) rfl)).mono ?_
  rintro e w1 ⟨rfl, hb1⟩
  have Xp_1 := (Box.new w o d a b i 23).next hb1 rfl
  have B1 := Lib.hid (below_on (below_new w _) hb1 (by simp))
  clear hb1
  have ⟨p_0, p_1, p_2, p_3, p_4, p_f⟩ := Xp_1
  have p_lt := cell_lt p_0
  dsimp only at p_lt
  go_wp2_with fail
  refine (K1 _ (HG.out.next B1.out rfl)).mono ?_
  rintro e w2 ⟨rfl, hb2⟩
  have Xp_2 := Xp_1.next hb2 rfl
  have B2 := Lib.hid (below_on B1.out hb2 B1.out.size)
  clear hb2 Xp_1
  clear p_0 p_1 p_2 p_3 p_4 p_f p_lt
  go_wp2_with fail
  refine (D2 _ (HG.out.next B2.out rfl)).mono ?_
  rintro e w3 ⟨rfl, hb3⟩
  have Xp_3 := Xp_2.next hb3 rfl
  have B3 := Lib.hid (below_on B2.out hb3 B2.out.size)
  clear hb3 Xp_2
  go_wp2_with fail
  refine (E2 _ ((HG.out.next B3.out rfl).next (below_new _ (.cells #[.int .i64 y0, .int .i64 y1, .int .i64 y2, .int .i64 y3, .int .i64 y4] 23)) rfl)).mono ?_
  rintro e w4 ⟨rfl, hb4⟩
  have Xu_4 := (Box.new w3 y0 y1 y2 y3 y4 23).next hb4 rfl
  have B4 := Lib.hid (below_on (below_on B3.out (below_new _ _) B3.out.size) hb4 (by have := B3.out.size; simp; omega))
  clear hb4
  go_wp2_with fail
  refine (Q3 _ (HG.out.next B4.out rfl)).mono ?_
  rintro e w5 ⟨rfl, hb5⟩
  have B5 := Lib.hid (below_on B4.out hb5 B4.out.size)
  clear hb5
  go_wp2_with fail
  refine (P3 _ ((HG.out.next B5.out rfl).next (below_new _ (.cells #[.int .i64 t0, .int .i64 t1, .int .i64 t2, .int .i64 t3, .int .i64 t4] 23)) rfl)).mono ?_
  rintro e w6 ⟨rfl, hb6⟩
  have Xz_6 := (Box.new w5 t0 t1 t2 t3 t4 23).next hb6 rfl
  have B6 := Lib.hid (below_on (below_on B5.out (below_new _ _) B5.out.size) hb6 (by have := B5.out.size; simp; omega))
  clear hb6
  go_wp2_with fail
  go_ret
  exact ⟨rfl, B6.out⟩
set_option maxHeartbeats 2000000 in
theorem back_100 (o d a b i x v : Int) (t l : List UInt8) (y0 y1 y2 y3 y4 t0 t1 t2 t3 t4 ee : Int) (w : World) (hg : GW w) (hx0 : 0 ≤ x) (hx1 : x ≤ 4294967295) (hv0 : 0 ≤ v) (hv1 : v ≤ 4294967295)
    (K1 : CI 13 #[.agg #[.int .i64 o, .int .i64 d, .int .i64 a, .int .i64 b, .int .i64 i]] (.int .i64 0))
    (E1 : CI 9 #[.agg #[.int .i64 o, .int .i64 d, .int .i64 a, .int .i64 b, .int .i64 i]] (.tuple #[.int .u32 v, .int .i64 0]))
    (D1 : CI 11 #[.int .u32 v] (.tuple #[.agg #[.int .i64 o, .int .i64 d, .int .i64 a, .int .i64 b, .int .i64 i], .int .i64 0]))
    (P1 : CI 16 #[.agg #[.int .i64 o, .int .i64 d, .int .i64 a, .int .i64 b, .int .i64 i]] (.tuple #[.string ⟨(t).toArray⟩, .int .i64 0]))
    (Q1 : CI 18 #[.string ⟨(t).toArray⟩] (.tuple #[.agg #[.int .i64 o, .int .i64 d, .int .i64 a, .int .i64 b, .int .i64 i], .int .i64 0]))
    (D2 : CI 11 #[.int .u32 x] (.tuple #[.agg #[.int .i64 0, .int .i64 0, .int .i64 0, .int .i64 0, .int .i64 0], .int .i64 20]))
    (Q3 : CI 18 #[.string ⟨(l).toArray⟩] (.tuple #[.agg #[.int .i64 0, .int .i64 0, .int .i64 0, .int .i64 0, .int .i64 0], .int .i64 ee]))
    (he : (ee == 0) = false) :
    Calls Tryd.prog 7 #[.agg #[.int .i64 o, .int .i64 d, .int .i64 a, .int .i64 b, .int .i64 i], .int .u32 x, .string ⟨(l).toArray⟩] w fun e w' => e = .returned (.bool true) ∧ Below w.heap.size w w' := by
  have HG := Lib.hid hg
  have neq := neq_instr
  clear hg
  go_enter Tryd.func7, Tryd.ntmps7
  go_wp2_with fail
  refine (cw_works _ (HG.out.next (below_new _ (.cells #[.int .i64 o, .int .i64 d, .int .i64 a, .int .i64 b, .int .i64 i] 23)) rfl)).mono ?_
  rintro e w1 ⟨rfl, hb1⟩
  have Xp_1 := (Box.new w o d a b i 23).next hb1 rfl
  have B1 := Lib.hid (below_on (below_new w _) hb1 (by simp))
  clear hb1
  have ⟨p_0, p_1, p_2, p_3, p_4, p_f⟩ := Xp_1
  have p_lt := cell_lt p_0
  dsimp only at p_lt
  go_wp2_with fail
  refine (K1 _ (HG.out.next B1.out rfl)).mono ?_
  rintro e w2 ⟨rfl, hb2⟩
  have Xp_2 := Xp_1.next hb2 rfl
  have B2 := Lib.hid (below_on B1.out hb2 B1.out.size)
  clear hb2 Xp_1
  clear p_0 p_1 p_2 p_3 p_4 p_f p_lt
  have ⟨p_0, p_1, p_2, p_3, p_4, p_f⟩ := Xp_2
  have p_lt := cell_lt p_0
  dsimp only at p_lt
  go_wp2_with fail
  refine (E1 _ (HG.out.next B2.out rfl)).mono ?_
  rintro e w3 ⟨rfl, hb3⟩
  have Xp_3 := Xp_2.next hb3 rfl
  have B3 := Lib.hid (below_on B2.out hb3 B2.out.size)
  clear hb3 Xp_2
  clear p_0 p_1 p_2 p_3 p_4 p_f p_lt
  go_wp2_with fail
  refine (D1 _ (HG.out.next B3.out rfl)).mono ?_
  rintro e w4 ⟨rfl, hb4⟩
  have Xp_4 := Xp_3.next hb4 rfl
  have B4 := Lib.hid (below_on B3.out hb4 B3.out.size)
  clear hb4 Xp_3
  have ⟨p_0, p_1, p_2, p_3, p_4, p_f⟩ := Xp_4
  have p_lt := cell_lt p_0
  dsimp only at p_lt
  go_wp2_with fail
  refine (P1 _ ((HG.out.next B4.out rfl).next (below_new _ (.cells #[.int .i64 o, .int .i64 d, .int .i64 a, .int .i64 b, .int .i64 i] 23)) rfl)).mono ?_
  rintro e w5 ⟨rfl, hb5⟩
  have Xp_5 := (Xp_4.next (below_new _ (.cells #[.int .i64 o, .int .i64 d, .int .i64 a, .int .i64 b, .int .i64 i] 23)) rfl).next hb5 rfl
  have Xq_5 := (Box.new w4 o d a b i 23).next hb5 rfl
  have B5 := Lib.hid (below_on (below_on B4.out (below_new _ _) B4.out.size) hb5 (by have := B4.out.size; simp; omega))
  clear hb5 Xp_4
  clear p_0 p_1 p_2 p_3 p_4 p_f p_lt
  go_wp2_with fail
  refine (Q1 _ (HG.out.next B5.out rfl)).mono ?_
  rintro e w6 ⟨rfl, hb6⟩
  have Xp_6 := Xp_5.next hb6 rfl
  have Xq_6 := Xq_5.next hb6 rfl
  have B6 := Lib.hid (below_on B5.out hb6 B5.out.size)
  clear hb6 Xp_5 Xq_5
  have ⟨p_0, p_1, p_2, p_3, p_4, p_f⟩ := Xp_6
  have p_lt := cell_lt p_0
  dsimp only at p_lt
  have ⟨q_0, q_1, q_2, q_3, q_4, q_f⟩ := Xq_6
  have q_lt := cell_lt q_0
  dsimp only at q_lt
  go_wp2_with fail
  clear p_0 p_1 p_2 p_3 p_4 p_f p_lt q_0 q_1 q_2 q_3 q_4 q_f q_lt
  refine (D2 _ ((HG.out.next B6.out rfl).next (below_new _ (.cells #[.int .i64 o, .int .i64 d, .int .i64 a, .int .i64 b, .int .i64 i] 23)) rfl)).mono ?_
  rintro e w7 ⟨rfl, hb7⟩
  have Xp_7 := (Xp_6.next (below_new _ (.cells #[.int .i64 o, .int .i64 d, .int .i64 a, .int .i64 b, .int .i64 i] 23)) rfl).next hb7 rfl
  have Xq_7 := (Xq_6.next (below_new _ (.cells #[.int .i64 o, .int .i64 d, .int .i64 a, .int .i64 b, .int .i64 i] 23)) rfl).next hb7 rfl
  have Xr_7 := (Box.new w6 o d a b i 23).next hb7 rfl
  have B7 := Lib.hid (below_on (below_on B6.out (below_new _ _) B6.out.size) hb7 (by have := B6.out.size; simp; omega))
  clear hb7 Xp_6 Xq_6
  go_wp2_with fail
  refine (Q3 _ ((HG.out.next B7.out rfl).next (below_new _ (.cells #[.int .i64 0, .int .i64 0, .int .i64 0, .int .i64 0, .int .i64 0] 23)) rfl)).mono ?_
  rintro e w8 ⟨rfl, hb8⟩
  have Xu_8 := (Box.new w7 0 0 0 0 0 23).next hb8 rfl
  have B8 := Lib.hid (below_on (below_on B7.out (below_new _ _) B7.out.size) hb8 (by have := B7.out.size; simp; omega))
  clear hb8
  go_wp2_with fail
  go_ret
  exact ⟨rfl, below_on B8.out (below_new _ _) B8.out.size⟩
set_option maxHeartbeats 2000000 in
theorem back_101 (o d a b i x v : Int) (t l : List UInt8) (y0 y1 y2 y3 y4 t0 t1 t2 t3 t4 ee : Int) (w : World) (hg : GW w) (hx0 : 0 ≤ x) (hx1 : x ≤ 4294967295) (hv0 : 0 ≤ v) (hv1 : v ≤ 4294967295)
    (K1 : CI 13 #[.agg #[.int .i64 o, .int .i64 d, .int .i64 a, .int .i64 b, .int .i64 i]] (.int .i64 0))
    (E1 : CI 9 #[.agg #[.int .i64 o, .int .i64 d, .int .i64 a, .int .i64 b, .int .i64 i]] (.tuple #[.int .u32 v, .int .i64 0]))
    (D1 : CI 11 #[.int .u32 v] (.tuple #[.agg #[.int .i64 o, .int .i64 d, .int .i64 a, .int .i64 b, .int .i64 i], .int .i64 0]))
    (P1 : CI 16 #[.agg #[.int .i64 o, .int .i64 d, .int .i64 a, .int .i64 b, .int .i64 i]] (.tuple #[.string ⟨(t).toArray⟩, .int .i64 0]))
    (Q1 : CI 18 #[.string ⟨(t).toArray⟩] (.tuple #[.agg #[.int .i64 o, .int .i64 d, .int .i64 a, .int .i64 b, .int .i64 i], .int .i64 0]))
    (D2 : CI 11 #[.int .u32 x] (.tuple #[.agg #[.int .i64 0, .int .i64 0, .int .i64 0, .int .i64 0, .int .i64 0], .int .i64 20]))
    (Q3 : CI 18 #[.string ⟨(l).toArray⟩] (.tuple #[.agg #[.int .i64 t0, .int .i64 t1, .int .i64 t2, .int .i64 t3, .int .i64 t4], .int .i64 0]))
    (P3 : CI 16 #[.agg #[.int .i64 t0, .int .i64 t1, .int .i64 t2, .int .i64 t3, .int .i64 t4]] (.tuple #[.string ⟨(l).toArray⟩, .int .i64 0])) :
    Calls Tryd.prog 7 #[.agg #[.int .i64 o, .int .i64 d, .int .i64 a, .int .i64 b, .int .i64 i], .int .u32 x, .string ⟨(l).toArray⟩] w fun e w' => e = .returned (.bool true) ∧ Below w.heap.size w w' := by
  have HG := Lib.hid hg
  have neq := neq_instr
  clear hg
  go_enter Tryd.func7, Tryd.ntmps7
  go_wp2_with fail
  refine (cw_works _ (HG.out.next (below_new _ (.cells #[.int .i64 o, .int .i64 d, .int .i64 a, .int .i64 b, .int .i64 i] 23)) rfl)).mono ?_
  rintro e w1 ⟨rfl, hb1⟩
  have Xp_1 := (Box.new w o d a b i 23).next hb1 rfl
  have B1 := Lib.hid (below_on (below_new w _) hb1 (by simp))
  clear hb1
  have ⟨p_0, p_1, p_2, p_3, p_4, p_f⟩ := Xp_1
  have p_lt := cell_lt p_0
  dsimp only at p_lt
  go_wp2_with fail
  refine (K1 _ (HG.out.next B1.out rfl)).mono ?_
  rintro e w2 ⟨rfl, hb2⟩
  have Xp_2 := Xp_1.next hb2 rfl
  have B2 := Lib.hid (below_on B1.out hb2 B1.out.size)
  clear hb2 Xp_1
  clear p_0 p_1 p_2 p_3 p_4 p_f p_lt
  have ⟨p_0, p_1, p_2, p_3, p_4, p_f⟩ := Xp_2
  have p_lt := cell_lt p_0
  dsimp only at p_lt
  go_wp2_with fail
  refine (E1 _ (HG.out.next B2.out rfl)).mono ?_
  rintro e w3 ⟨rfl, hb3⟩
  have Xp_3 := Xp_2.next hb3 rfl
  have B3 := Lib.hid (below_on B2.out hb3 B2.out.size)
  clear hb3 Xp_2
  clear p_0 p_1 p_2 p_3 p_4 p_f p_lt
  go_wp2_with fail
  refine (D1 _ (HG.out.next B3.out rfl)).mono ?_
  rintro e w4 ⟨rfl, hb4⟩
  have Xp_4 := Xp_3.next hb4 rfl
  have B4 := Lib.hid (below_on B3.out hb4 B3.out.size)
  clear hb4 Xp_3
  have ⟨p_0, p_1, p_2, p_3, p_4, p_f⟩ := Xp_4
  have p_lt := cell_lt p_0
  dsimp only at p_lt
  go_wp2_with fail
  refine (P1 _ ((HG.out.next B4.out rfl).next (below_new _ (.cells #[.int .i64 o, .int .i64 d, .int .i64 a, .int .i64 b, .int .i64 i] 23)) rfl)).mono ?_
  rintro e w5 ⟨rfl, hb5⟩
  have Xp_5 := (Xp_4.next (below_new _ (.cells #[.int .i64 o, .int .i64 d, .int .i64 a, .int .i64 b, .int .i64 i] 23)) rfl).next hb5 rfl
  have Xq_5 := (Box.new w4 o d a b i 23).next hb5 rfl
  have B5 := Lib.hid (below_on (below_on B4.out (below_new _ _) B4.out.size) hb5 (by have := B4.out.size; simp; omega))
  clear hb5 Xp_4
  clear p_0 p_1 p_2 p_3 p_4 p_f p_lt
  go_wp2_with fail
  refine (Q1 _ (HG.out.next B5.out rfl)).mono ?_
  rintro e w6 ⟨rfl, hb6⟩
  have Xp_6 := Xp_5.next hb6 rfl
  have Xq_6 := Xq_5.next hb6 rfl
  have B6 := Lib.hid (below_on B5.out hb6 B5.out.size)
  clear hb6 Xp_5 Xq_5
  have ⟨p_0, p_1, p_2, p_3, p_4, p_f⟩ := Xp_6
  have p_lt := cell_lt p_0
  dsimp only at p_lt
  have ⟨q_0, q_1, q_2, q_3, q_4, q_f⟩ := Xq_6
  have q_lt := cell_lt q_0
  dsimp only at q_lt
  go_wp2_with fail
  clear p_0 p_1 p_2 p_3 p_4 p_f p_lt q_0 q_1 q_2 q_3 q_4 q_f q_lt
  refine (D2 _ ((HG.out.next B6.out rfl).next (below_new _ (.cells #[.int .i64 o, .int .i64 d, .int .i64 a, .int .i64 b, .int .i64 i] 23)) rfl)).mono ?_
  rintro e w7 ⟨rfl, hb7⟩
  have Xp_7 := (Xp_6.next (below_new _ (.cells #[.int .i64 o, .int .i64 d, .int .i64 a, .int .i64 b, .int .i64 i] 23)) rfl).next hb7 rfl
  have Xq_7 := (Xq_6.next (below_new _ (.cells #[.int .i64 o, .int .i64 d, .int .i64 a, .int .i64 b, .int .i64 i] 23)) rfl).next hb7 rfl
  have Xr_7 := (Box.new w6 o d a b i 23).next hb7 rfl
  have B7 := Lib.hid (below_on (below_on B6.out (below_new _ _) B6.out.size) hb7 (by have := B6.out.size; simp; omega))
  clear hb7 Xp_6 Xq_6
  go_wp2_with fail
  refine (Q3 _ ((HG.out.next B7.out rfl).next (below_new _ (.cells #[.int .i64 0, .int .i64 0, .int .i64 0, .int .i64 0, .int .i64 0] 23)) rfl)).mono ?_
  rintro e w8 ⟨rfl, hb8⟩
  have Xu_8 := (Box.new w7 0 0 0 0 0 23).next hb8 rfl
  have B8 := Lib.hid (below_on (below_on B7.out (below_new _ _) B7.out.size) hb8 (by have := B7.out.size; simp; omega))
  clear hb8
  go_wp2_with fail
  refine (P3 _ ((HG.out.next B8.out rfl).next (below_new _ (.cells #[.int .i64 t0, .int .i64 t1, .int .i64 t2, .int .i64 t3, .int .i64 t4] 23)) rfl)).mono ?_
  rintro e w9 ⟨rfl, hb9⟩
  have Xz_9 := (Box.new w8 t0 t1 t2 t3 t4 23).next hb9 rfl
  have B9 := Lib.hid (below_on (below_on B8.out (below_new _ _) B8.out.size) hb9 (by have := B8.out.size; simp; omega))
  clear hb9
  go_wp2_with fail
  go_ret
  exact ⟨rfl, B9.out⟩
set_option maxHeartbeats 2000000 in
theorem back_110 (o d a b i x v : Int) (t l : List UInt8) (y0 y1 y2 y3 y4 t0 t1 t2 t3 t4 ee : Int) (w : World) (hg : GW w) (hx0 : 0 ≤ x) (hx1 : x ≤ 4294967295) (hv0 : 0 ≤ v) (hv1 : v ≤ 4294967295)
    (K1 : CI 13 #[.agg #[.int .i64 o, .int .i64 d, .int .i64 a, .int .i64 b, .int .i64 i]] (.int .i64 0))
    (E1 : CI 9 #[.agg #[.int .i64 o, .int .i64 d, .int .i64 a, .int .i64 b, .int .i64 i]] (.tuple #[.int .u32 v, .int .i64 0]))
    (D1 : CI 11 #[.int .u32 v] (.tuple #[.agg #[.int .i64 o, .int .i64 d, .int .i64 a, .int .i64 b, .int .i64 i], .int .i64 0]))
    (P1 : CI 16 #[.agg #[.int .i64 o, .int .i64 d, .int .i64 a, .int .i64 b, .int .i64 i]] (.tuple #[.string ⟨(t).toArray⟩, .int .i64 0]))
    (Q1 : CI 18 #[.string ⟨(t).toArray⟩] (.tuple #[.agg #[.int .i64 o, .int .i64 d, .int .i64 a, .int .i64 b, .int .i64 i], .int .i64 0]))
    (D2 : CI 11 #[.int .u32 x] (.tuple #[.agg #[.int .i64 y0, .int .i64 y1, .int .i64 y2, .int .i64 y3, .int .i64 y4], .int .i64 0]))
    (E2 : CI 9 #[.agg #[.int .i64 y0, .int .i64 y1, .int .i64 y2, .int .i64 y3, .int .i64 y4]] (.tuple #[.int .u32 x, .int .i64 0]))
    (Q3 : CI 18 #[.string ⟨(l).toArray⟩] (.tuple #[.agg #[.int .i64 0, .int .i64 0, .int .i64 0, .int .i64 0, .int .i64 0], .int .i64 ee]))
    (he : (ee == 0) = false) :
    Calls Tryd.prog 7 #[.agg #[.int .i64 o, .int .i64 d, .int .i64 a, .int .i64 b, .int .i64 i], .int .u32 x, .string ⟨(l).toArray⟩] w fun e w' => e = .returned (.bool true) ∧ Below w.heap.size w w' := by
  have HG := Lib.hid hg
  have neq := neq_instr
  clear hg
  go_enter Tryd.func7, Tryd.ntmps7
  go_wp2_with fail
  refine (cw_works _ (HG.out.next (below_new _ (.cells #[.int .i64 o, .int .i64 d, .int .i64 a, .int .i64 b, .int .i64 i] 23)) rfl)).mono ?_
  rintro e w1 ⟨rfl, hb1⟩
  have Xp_1 := (Box.new w o d a b i 23).next hb1 rfl
  have B1 := Lib.hid (below_on (below_new w _) hb1 (by simp))
  clear hb1
  have ⟨p_0, p_1, p_2, p_3, p_4, p_f⟩ := Xp_1
  have p_lt := cell_lt p_0
  dsimp only at p_lt
  go_wp2_with fail
  refine (K1 _ (HG.out.next B1.out rfl)).mono ?_
  rintro e w2 ⟨rfl, hb2⟩
  have Xp_2 := Xp_1.next hb2 rfl
  have B2 := Lib.hid (below_on B1.out hb2 B1.out.size)
  clear hb2 Xp_1
  clear p_0 p_1 p_2 p_3 p_4 p_f p_lt
  have ⟨p_0, p_1, p_2, p_3, p_4, p_f⟩ := Xp_2
  have p_lt := cell_lt p_0
  dsimp only at p_lt
  go_wp2_with fail
  refine (E1 _ (HG.out.next B2.out rfl)).mono ?_
  rintro e w3 ⟨rfl, hb3⟩
  have Xp_3 := Xp_2.next hb3 rfl
  have B3 := Lib.hid (below_on B2.out hb3 B2.out.size)
  clear hb3 Xp_2
  clear p_0 p_1 p_2 p_3 p_4 p_f p_lt
  go_wp2_with fail
  refine (D1 _ (HG.out.next B3.out rfl)).mono ?_
  rintro e w4 ⟨rfl, hb4⟩
  have Xp_4 := Xp_3.next hb4 rfl
  have B4 := Lib.hid (below_on B3.out hb4 B3.out.size)
  clear hb4 Xp_3
  have ⟨p_0, p_1, p_2, p_3, p_4, p_f⟩ := Xp_4
  have p_lt := cell_lt p_0
  dsimp only at p_lt
  go_wp2_with fail
  refine (P1 _ ((HG.out.next B4.out rfl).next (below_new _ (.cells #[.int .i64 o, .int .i64 d, .int .i64 a, .int .i64 b, .int .i64 i] 23)) rfl)).mono ?_
  rintro e w5 ⟨rfl, hb5⟩
  have Xp_5 := (Xp_4.next (below_new _ (.cells #[.int .i64 o, .int .i64 d, .int .i64 a, .int .i64 b, .int .i64 i] 23)) rfl).next hb5 rfl
  have Xq_5 := (Box.new w4 o d a b i 23).next hb5 rfl
  have B5 := Lib.hid (below_on (below_on B4.out (below_new _ _) B4.out.size) hb5 (by have := B4.out.size; simp; omega))
  clear hb5 Xp_4
  clear p_0 p_1 p_2 p_3 p_4 p_f p_lt
  go_wp2_with fail
  refine (Q1 _ (HG.out.next B5.out rfl)).mono ?_
  rintro e w6 ⟨rfl, hb6⟩
  have Xp_6 := Xp_5.next hb6 rfl
  have Xq_6 := Xq_5.next hb6 rfl
  have B6 := Lib.hid (below_on B5.out hb6 B5.out.size)
  clear hb6 Xp_5 Xq_5
  have ⟨p_0, p_1, p_2, p_3, p_4, p_f⟩ := Xp_6
  have p_lt := cell_lt p_0
  dsimp only at p_lt
  have ⟨q_0, q_1, q_2, q_3, q_4, q_f⟩ := Xq_6
  have q_lt := cell_lt q_0
  dsimp only at q_lt
  go_wp2_with fail
  clear p_0 p_1 p_2 p_3 p_4 p_f p_lt q_0 q_1 q_2 q_3 q_4 q_f q_lt
  refine (D2 _ ((HG.out.next B6.out rfl).next (below_new _ (.cells #[.int .i64 o, .int .i64 d, .int .i64 a, .int .i64 b, .int .i64 i] 23)) rfl)).mono ?_
  rintro e w7 ⟨rfl, hb7⟩
  have Xp_7 := (Xp_6.next (below_new _ (.cells #[.int .i64 o, .int .i64 d, .int .i64 a, .int .i64 b, .int .i64 i] 23)) rfl).next hb7 rfl
  have Xq_7 := (Xq_6.next (below_new _ (.cells #[.int .i64 o, .int .i64 d, .int .i64 a, .int .i64 b, .int .i64 i] 23)) rfl).next hb7 rfl
  have Xr_7 := (Box.new w6 o d a b i 23).next hb7 rfl
  have B7 := Lib.hid (below_on (below_on B6.out (below_new _ _) B6.out.size) hb7 (by have := B6.out.size; simp; omega))
  clear hb7 Xp_6 Xq_6
  go_wp2_with fail
  refine (E2 _ ((HG.out.next B7.out rfl).next (below_new _ (.cells #[.int .i64 y0, .int .i64 y1, .int .i64 y2, .int .i64 y3, .int .i64 y4] 23)) rfl)).mono ?_
  rintro e w8 ⟨rfl, hb8⟩
  have Xu_8 := (Box.new w7 y0 y1 y2 y3 y4 23).next hb8 rfl
  have B8 := Lib.hid (below_on (below_on B7.out (below_new _ _) B7.out.size) hb8 (by have := B7.out.size; simp; omega))
  clear hb8
  go_wp2_with fail
  refine (Q3 _ (HG.out.next B8.out rfl)).mono ?_
  rintro e w9 ⟨rfl, hb9⟩
  have B9 := Lib.hid (below_on B8.out hb9 B8.out.size)
  clear hb9
  go_wp2_with fail
  go_ret
  exact ⟨rfl, below_on B9.out (below_new _ _) B9.out.size⟩
set_option maxHeartbeats 2000000 in
theorem back_111 (o d a b i x v : Int) (t l : List UInt8) (y0 y1 y2 y3 y4 t0 t1 t2 t3 t4 ee : Int) (w : World) (hg : GW w) (hx0 : 0 ≤ x) (hx1 : x ≤ 4294967295) (hv0 : 0 ≤ v) (hv1 : v ≤ 4294967295)
    (K1 : CI 13 #[.agg #[.int .i64 o, .int .i64 d, .int .i64 a, .int .i64 b, .int .i64 i]] (.int .i64 0))
    (E1 : CI 9 #[.agg #[.int .i64 o, .int .i64 d, .int .i64 a, .int .i64 b, .int .i64 i]] (.tuple #[.int .u32 v, .int .i64 0]))
    (D1 : CI 11 #[.int .u32 v] (.tuple #[.agg #[.int .i64 o, .int .i64 d, .int .i64 a, .int .i64 b, .int .i64 i], .int .i64 0]))
    (P1 : CI 16 #[.agg #[.int .i64 o, .int .i64 d, .int .i64 a, .int .i64 b, .int .i64 i]] (.tuple #[.string ⟨(t).toArray⟩, .int .i64 0]))
    (Q1 : CI 18 #[.string ⟨(t).toArray⟩] (.tuple #[.agg #[.int .i64 o, .int .i64 d, .int .i64 a, .int .i64 b, .int .i64 i], .int .i64 0]))
    (D2 : CI 11 #[.int .u32 x] (.tuple #[.agg #[.int .i64 y0, .int .i64 y1, .int .i64 y2, .int .i64 y3, .int .i64 y4], .int .i64 0]))
    (E2 : CI 9 #[.agg #[.int .i64 y0, .int .i64 y1, .int .i64 y2, .int .i64 y3, .int .i64 y4]] (.tuple #[.int .u32 x, .int .i64 0]))
    (Q3 : CI 18 #[.string ⟨(l).toArray⟩] (.tuple #[.agg #[.int .i64 t0, .int .i64 t1, .int .i64 t2, .int .i64 t3, .int .i64 t4], .int .i64 0]))
    (P3 : CI 16 #[.agg #[.int .i64 t0, .int .i64 t1, .int .i64 t2, .int .i64 t3, .int .i64 t4]] (.tuple #[.string ⟨(l).toArray⟩, .int .i64 0])) :
    Calls Tryd.prog 7 #[.agg #[.int .i64 o, .int .i64 d, .int .i64 a, .int .i64 b, .int .i64 i], .int .u32 x, .string ⟨(l).toArray⟩] w fun e w' => e = .returned (.bool true) ∧ Below w.heap.size w w' := by
  have HG := Lib.hid hg
  have neq := neq_instr
  clear hg
  go_enter Tryd.func7, Tryd.ntmps7
  go_wp2_with fail
  refine (cw_works _ (HG.out.next (below_new _ (.cells #[.int .i64 o, .int .i64 d, .int .i64 a, .int .i64 b, .int .i64 i] 23)) rfl)).mono ?_
  rintro e w1 ⟨rfl, hb1⟩
  have Xp_1 := (Box.new w o d a b i 23).next hb1 rfl
  have B1 := Lib.hid (below_on (below_new w _) hb1 (by simp))
  clear hb1
  have ⟨p_0, p_1, p_2, p_3, p_4, p_f⟩ := Xp_1
  have p_lt := cell_lt p_0
  dsimp only at p_lt
  go_wp2_with fail
  refine (K1 _ (HG.out.next B1.out rfl)).mono ?_
  rintro e w2 ⟨rfl, hb2⟩
  have Xp_2 := Xp_1.next hb2 rfl
  have B2 := Lib.hid (below_on B1.out hb2 B1.out.size)
  clear hb2 Xp_1
  clear p_0 p_1 p_2 p_3 p_4 p_f p_lt
  have ⟨p_0, p_1, p_2, p_3, p_4, p_f⟩ := Xp_2
  have p_lt := cell_lt p_0
  dsimp only at p_lt
  go_wp2_with fail
  refine (E1 _ (HG.out.next B2.out rfl)).mono ?_
  rintro e w3 ⟨rfl, hb3⟩
  have Xp_3 := Xp_2.next hb3 rfl
  have B3 := Lib.hid (below_on B2.out hb3 B2.out.size)
  clear hb3 Xp_2
  clear p_0 p_1 p_2 p_3 p_4 p_f p_lt
  go_wp2_with fail
  refine (D1 _ (HG.out.next B3.out rfl)).mono ?_
  rintro e w4 ⟨rfl, hb4⟩
  have Xp_4 := Xp_3.next hb4 rfl
  have B4 := Lib.hid (below_on B3.out hb4 B3.out.size)
  clear hb4 Xp_3
  have ⟨p_0, p_1, p_2, p_3, p_4, p_f⟩ := Xp_4
  have p_lt := cell_lt p_0
  dsimp only at p_lt
  go_wp2_with fail
  refine (P1 _ ((HG.out.next B4.out rfl).next (below_new _ (.cells #[.int .i64 o, .int .i64 d, .int .i64 a, .int .i64 b, .int .i64 i] 23)) rfl)).mono ?_
  rintro e w5 ⟨rfl, hb5⟩
  have Xp_5 := (Xp_4.next (below_new _ (.cells #[.int .i64 o, .int .i64 d, .int .i64 a, .int .i64 b, .int .i64 i] 23)) rfl).next hb5 rfl
  have Xq_5 := (Box.new w4 o d a b i 23).next hb5 rfl
  have B5 := Lib.hid (below_on (below_on B4.out (below_new _ _) B4.out.size) hb5 (by have := B4.out.size; simp; omega))
  clear hb5 Xp_4
  clear p_0 p_1 p_2 p_3 p_4 p_f p_lt
  go_wp2_with fail
  refine (Q1 _ (HG.out.next B5.out rfl)).mono ?_
  rintro e w6 ⟨rfl, hb6⟩
  have Xp_6 := Xp_5.next hb6 rfl
  have Xq_6 := Xq_5.next hb6 rfl
  have B6 := Lib.hid (below_on B5.out hb6 B5.out.size)
  clear hb6 Xp_5 Xq_5
  have ⟨p_0, p_1, p_2, p_3, p_4, p_f⟩ := Xp_6
  have p_lt := cell_lt p_0
  dsimp only at p_lt
  have ⟨q_0, q_1, q_2, q_3, q_4, q_f⟩ := Xq_6
  have q_lt := cell_lt q_0
  dsimp only at q_lt
  go_wp2_with fail
  clear p_0 p_1 p_2 p_3 p_4 p_f p_lt q_0 q_1 q_2 q_3 q_4 q_f q_lt
  refine (D2 _ ((HG.out.next B6.out rfl).next (below_new _ (.cells #[.int .i64 o, .int .i64 d, .int .i64 a, .int .i64 b, .int .i64 i] 23)) rfl)).mono ?_
  rintro e w7 ⟨rfl, hb7⟩
  have Xp_7 := (Xp_6.next (below_new _ (.cells #[.int .i64 o, .int .i64 d, .int .i64 a, .int .i64 b, .int .i64 i] 23)) rfl).next hb7 rfl
  have Xq_7 := (Xq_6.next (below_new _ (.cells #[.int .i64 o, .int .i64 d, .int .i64 a, .int .i64 b, .int .i64 i] 23)) rfl).next hb7 rfl
  have Xr_7 := (Box.new w6 o d a b i 23).next hb7 rfl
  have B7 := Lib.hid (below_on (below_on B6.out (below_new _ _) B6.out.size) hb7 (by have := B6.out.size; simp; omega))
  clear hb7 Xp_6 Xq_6
  go_wp2_with fail
  refine (E2 _ ((HG.out.next B7.out rfl).next (below_new _ (.cells #[.int .i64 y0, .int .i64 y1, .int .i64 y2, .int .i64 y3, .int .i64 y4] 23)) rfl)).mono ?_
  rintro e w8 ⟨rfl, hb8⟩
  have Xu_8 := (Box.new w7 y0 y1 y2 y3 y4 23).next hb8 rfl
  have B8 := Lib.hid (below_on (below_on B7.out (below_new _ _) B7.out.size) hb8 (by have := B7.out.size; simp; omega))
  clear hb8
  go_wp2_with fail
  refine (Q3 _ (HG.out.next B8.out rfl)).mono ?_
  rintro e w9 ⟨rfl, hb9⟩
  have B9 := Lib.hid (below_on B8.out hb9 B8.out.size)
  clear hb9
  go_wp2_with fail
  refine (P3 _ ((HG.out.next B9.out rfl).next (below_new _ (.cells #[.int .i64 t0, .int .i64 t1, .int .i64 t2, .int .i64 t3, .int .i64 t4] 23)) rfl)).mono ?_
  rintro e w10 ⟨rfl, hb10⟩
  have Xz_10 := (Box.new w9 t0 t1 t2 t3 t4 23).next hb10 rfl
  have B10 := Lib.hid (below_on (below_on B9.out (below_new _ _) B9.out.size) hb10 (by have := B9.out.size; simp; omega))
  clear hb10
  go_wp2_with fail
  go_ret
  exact ⟨rfl, B10.out⟩
end Go.Proofs.YtmojkphddaebkaaDoor
