/-
  The contracts of what is wrong with a type where no struct is given; of a type that may be, in the code.
-/
import Derived.Test.YtgplonfhmemhiaaGreatDoorTyCk7
namespace Go.Proofs.YtgplonfhmemhiaaGreatDoor
set_option linter.unusedVariables false
set_option linter.unusedSimpArgs false
set_option maxRecDepth 100000
open Go.RowKit

set_option maxHeartbeats 4000000 in
theorem c_layOut0 (w : World) :
    Calls Tryz.prog 33 #[.slice none 0 0] w fun e w' => e = .returned (.tuple #[.slice none 0 0, .agg #[.int .i64 0, .int .i64 0]]) ∧ Below w.heap.size w w' := by
  go_enter Tryz.func33, Tryz.ntmps33
  go_wp2_with fail
  refine wp_loop_rounds 1 ?_
  rw [rounds_succ]
  go_wp2_with fail
  have hst : Stp w.heap.size (w.alloc (.cells #[.int .i64 0, .int .i64 0] 77)) (((w.alloc (.cells #[.int .i64 0, .int .i64 0] 77)).setCell ⟨w.heap.size, 0, none⟩ (.int .i64 0)).setCell ⟨w.heap.size, 1, none⟩ (.int .i64 0)) := (Stp.set w.heap.size 0 _ _).trans (Stp.set w.heap.size 1 _ _)
  first
    | (refine bodyPost_ret (v := .tuple #[.slice none 0 0, .agg #[.int .i64 0, .int .i64 0]]) (by simp [results, Tryz.results33, go_sem]) rfl ?_
       exact ⟨rfl, by first | exact below_a _ _ | exact below_stp (below_a _ _) hst (Nat.le_refl _)⟩)
set_option maxHeartbeats 4000000 in
theorem c_rightType (B : Nat) (l : List UInt8) (w : World) (hE : Env B w) (hB : B ≤ w.heap.size) (hm : l.length ≤ 9223372036854775807) :
    Calls Tryz.prog 66 #[.string ⟨l.toArray⟩, .slice none 0 0] w fun e w' => (∃ (x0 : Int) (s1 : ByteArray) (x2 : Int) (s3 : ByteArray) (a : Option Addr) (n c : Nat) (r : Int), e = .returned (.tuple #[nV x0 s1 x2 s3 a n c, .slice none 0 0, .int .i64 r]) ∧ (r = 0 ∨ r = 4 → ∃ t, tk l = some t ∧ t.rt)) ∧ Below w.heap.size w w' := by
  have HL := Lib.hid c_layOut0
  have HR := Lib.hid (fun w' (hb : Below w.heap.size w w') => c_rightN B l w' (hE.next (hb.mono hB)) (Nat.le_trans hB hb.size) hm)
  clear hE
  go_enter Tryz.func66, Tryz.ntmps66
  go_wp2_with fail
  refine (HL.out _).mono ?_
  rintro e w1 ⟨rfl, hb⟩
  have HB1 := Lib.hid (below_on (below_a w zOb) hb (by simp))
  have HZ1 := Lib.hid (blk_next (heap_alloc_new w zOb) hb)
  clear hb HL
  go_wp2_with fail
  have HA := Lib.hid (below_a w1 (.cells #[.int .i64 0, .int .i64 0] 77))
  have HB2 := Lib.hid (below_on HB1.out HA.out HB1.out.size)
  have HZ2 := Lib.hid (blk_next HZ1.out HA.out)
  refine (HR.out _ HB2.out).mono ?_
  rintro e w3 ⟨⟨x0, s1, x2, s3, a, n, c, r, rfl, hr⟩, hb⟩
  have HB3 := Lib.hid (below_on HB2.out hb HB2.out.size)
  have HZ3 := Lib.hid (blk_next HZ2.out hb)
  have HRr := Lib.hid hr
  clear hb hr HR HA HB1 HZ1 HB2 HZ2
  have hs3 : w.heap.size < w3.heap.size := (Array.getElem?_eq_some_iff.1 HZ3.out).1
  obtain ⟨r0, r1, r2, r3, r4, rf⟩ := five_cells HZ3.out
  have rf0 := rf 0
  have rf1 := rf 1
  have rf2 := rf 2
  have rf3 := rf 3
  have rf4 := rf 4
  clear rf
  go_wp2_with fail
  have hst := Stp.five0 w.heap.size w3 (.int .u8 x0) (.string s1) (.int .i64 x2) (.string s3) (.slice a n c)
  have hb9 := below_stp HB3.out hst (Nat.le_refl _)
  have hz9 := five_set HZ3.out (.int .u8 x0) (.string s1) (.int .i64 x2) (.string s3) (.slice a n c)
  have hs9 := hst.size
  clear hst
  generalize ((((w3.setCell ⟨w.heap.size, 0, none⟩ (.int .u8 x0)).setCell ⟨w.heap.size, 1, none⟩ (.string s1)).setCell ⟨w.heap.size, 2, none⟩ (.int .i64 x2)).setCell ⟨w.heap.size, 3, none⟩ (.string s3)).setCell ⟨w.heap.size, 4, none⟩ (.slice a n c) = w9 at hb9 hz9 hs9 ⊢
  have hlt9 : w.heap.size < w9.heap.size := by rw [hs9]; exact hs3
  have hz10 := (Below.heap_alloc w9 (.cells #[.int .u8 x0, .string s1, .int .i64 x2, .string s3, .slice a n c] 61) _ hlt9).trans hz9
  have hb10 := hb9.alloc hb9.size (.cells #[.int .u8 x0, .string s1, .int .i64 x2, .string s3, .slice a n c] 61)
  generalize w9.alloc (.cells #[.int .u8 x0, .string s1, .int .i64 x2, .string s3, .slice a n c] 61) = wx at hb10 hz10 ⊢
  obtain ⟨q0, q1, q2, q3, q4, qf⟩ := five_cells hz10
  refine bodyPost_ret (v := .tuple #[nV x0 s1 x2 s3 a n c, .slice none 0 0, .int .i64 r]) (by simp [results, Tryz.results66, go_sem, q0, q1, q2, q3, q4]) rfl ?_
  exact ⟨⟨_, _, _, _, _, _, _, r, rfl, HRr.out⟩, hb10⟩
set_option maxHeartbeats 2000000 in
theorem c_Check (B : Nat) (l : List UInt8) (w : World) (hE : Env B w) (hB : B ≤ w.heap.size) (hm : l.length ≤ 9223372036854775807) :
    Calls Tryz.prog 47 #[.string ⟨l.toArray⟩, .slice none 0 0] w fun e w' => (∃ r : Int, e = .returned (.int .i64 r) ∧ (r = 0 ∨ r = 4 → ∃ t, tk l = some t ∧ t.rt)) ∧ Below w.heap.size w w' := by
  have HR := Lib.hid (c_rightType B l w hE hB hm)
  clear hE
  go_enter Tryz.func47, Tryz.ntmps47
  go_wp2_with fail
  refine HR.out.mono ?_
  rintro e w1 ⟨⟨x0, s1, x2, s3, a, n, c, r, rfl, hr⟩, hb⟩
  have HB := Lib.hid hb
  have HRr := Lib.hid hr
  clear hb hr HR
  go_wp2_with fail
  go_ret
  first
    | exact ⟨⟨_, rfl, HRr.out⟩, HB.out⟩
    | exact ⟨⟨_, rfl, HRr.out⟩, HB.out.alloc HB.out.size _⟩
set_option maxHeartbeats 2000000 in
theorem c_lright (B : Nat) (l : List UInt8) (w : World) (hE : Env B w) (hB : B ≤ w.heap.size) (hm : l.length ≤ 9223372036854775807) :
    Calls Tryz.prog 25 #[.string ⟨l.toArray⟩] w fun e w' => (∃ q : Bool, e = .returned (.bool q) ∧ (q = true → ∃ t, tk l = some t ∧ t.rt)) ∧ Below w.heap.size w w' := by
  have HR := Lib.hid (c_Check B l w hE hB hm)
  clear hE
  go_enter Tryz.func25, Tryz.ntmps25
  go_wp2_with fail
  refine HR.out.mono ?_
  rintro e w1 ⟨⟨r, rfl, hr⟩, hb⟩
  have HB := Lib.hid hb
  have HRr := Lib.hid hr
  clear hb hr HR
  cases h0 : r == 0
  all_goals
    cases h4 : r == 4
    all_goals
      have HH := Lib.hid (And.intro h0 h4)
      go_wp2_with fail
      go_ret
      refine ⟨⟨_, rfl, fun h => HRr.out ?_⟩, HB.out⟩
      obtain ⟨g0, g4⟩ := HH.out
      first
        | exact .inl (by simpa using g0)
        | exact .inr (by simpa using g4)
        | cases h
end Go.Proofs.YtgplonfhmemhiaaGreatDoor
