/-
  The contract of Read, in the code.
-/
import Derived.Test.YtbflnkkoecfbaaaMemOps
namespace Go.Proofs.Ytbflnkkoecfbaaa
set_option linter.unusedVariables false
set_option linter.unusedSimpArgs false
set_option maxRecDepth 100000
open Go.ChangeShapes Go.WideShapes Go.ChangeAt Go.RowKit

theorem info8 : (Try.prog.info? 5).map (fun i => (i.zero, i.size, i.bytes)) = some (some (.int .u8 0), 1, 1) := by kernel_rfl
/-- Bytes that were read out, in a row of their own. -/
def RdRow (w : World) (g n : Nat) (C : Nat → Nat → Int) (x : Nat) : Prop := ∃ T, w.heap[g]? = some (.cells (bytesAt C x n).toArray T (0, 0))
set_option maxHeartbeats 2000000 in
theorem c_MRead_ok (A M : Nat → Prop) (gm nb : Nat) (R : Nat → Rg) (C D : Nat → Nat → Nat → Int) (a : Int) (n i : Nat) (w : World) (hM : Mm w A M gm nb R C D) (h4 : 0 ≤ a) (h5 : a ≤ 4294967295) (hn0 : 0 < n) (hn : n ≤ 16777216) (hi : i < nb) (hh : holdB (R i) a n = true) :
    Calls Try.prog 23 #[.pointer (some ⟨gm, 0, none⟩), .int .u32 a, .int .i64 n] w fun e w' => ∃ g, e = .returned (.tuple #[.slice (some ⟨g, 0, none⟩) n n, .int .i64 0]) ∧ RdRow w' g n (C i) (a - (R i).fr).toNat ∧ w.heap.size ≤ g ∧ Below w.heap.size w w' := by
  have hok := hM.okR
  obtain ⟨G, gb, cap, gn, gt, np, cn, ct, P, Q, h1, _⟩ := hM
  have HM := Lib.hid h1.1
  have HOk := Lib.hid hok
  have HH := Lib.hid hh
  obtain ⟨i0, hi0, hz0, hz1, hz2⟩ := info_parts info8
  clear h1 hok hh
  go_enter Try.func23, Try.ntmps23
  go_wp2_with fail
  refine (c_bankOf gm gb nb cap R a n _ HM.out.2.2.1 HM.out.1 HM.out.2.2.2.1 h4 h5 (by omega) (by omega)).mono ?_
  rintro e w1 ⟨p, c, rfl, hB, hb1⟩
  have hM1 := HM.out.next hb1
  have HB1 := Lib.hid hb1
  rcases hB with ⟨i', hi', _, hh', rfl, rfl⟩ | ⟨hno, _⟩
  · obtain rfl : i = i' := hold_one HOk.out hi hi' HH.out hh' (Int.le_refl _) (by omega) (by omega) (by omega)
    have hf := hold_of hh'
    have hrd := hM1.2.2.2.2.1 i hi
    have hrg := HM.out.2.2.2.1 i hi
    have hG := hM1.2.2.2.2.2
    have HR := Lib.hid (fun (w2 : World) (hb2 : Below w1.heap.size w1 w2) (gl : Nat) (hgl : w1.heap.size ≤ gl) (T : TypeId) (cur : List Value) (hl : w2.heap[gl]? = some (.cells cur.toArray T (0, 0))) (hlen : cur.length = n) =>
      c_read gb (i * 7) (gn i) (np i) (cn i) G gl 0 n n (a - (R i).fr).toNat (R i) (P i) (C i) cur T a w2 (hrd.next hb2 hG) hrg (by have := rg_bd hrg; omega) h5 (by have := rg_bd hrg; omega) (by omega) hl (by omega) (Nat.le_refl _) hn)
    clear hb1 hM1 hh' hf hrd hrg hG
    go_wp2_with (refine wpList_make_row _ rfl _ _ 37 rfl 5 i0 (.int .u8 0) Try.underlying37 hi0 hz0 hz1 rfl .i64 .i64 n rfl rfl (by rw [hz2]; omega) (by omega) ?_)
    refine (HR.out _ (below_new w1 _) w1.heap.size (Nat.le_refl _) 5 (List.replicate n (.int .u8 0)) (by
      rw [heap_alloc_new]
      congr 2
      apply Array.ext'
      rw [toList_madeCells_one]) (by simp)).mono ?_
    rintro e w2 ⟨rfl, hrow, hb2⟩
    have HRow : Hid (RdRow w2 w1.heap.size n (C i) (a - (R i).fr).toNat) := by
      refine ⟨5, ?_⟩
      rw [hrow]
      congr 3
      unfold splice
      rw [List.take_zero, List.nil_append, bytesAt_len, List.drop_of_length_le (by simp)]
      simp
    have HB2 : Hid (Below w.heap.size w w2) := below_on HB1.out ((below_new w1 _).trans hb2) HB1.out.size
    have HS := Lib.hid HB1.out.size
    clear hrow hb2
    go_wp2_with fail
    go_ret2
    exact ⟨w1.heap.size, rfl, HRow.out, HS.out, HB2.out⟩
  · exfalso
    have := hno i hi
    rw [HH.out] at this
    cases this
end Go.Proofs.Ytbflnkkoecfbaaa
