/-
  The contracts of what any type takes where no struct is given, in the code.
-/
import Derived.Test.YtgplonfhmemhiaaGreatDoorTyCk
namespace Go.Proofs.YtgplonfhmemhiaaGreatDoor
set_option linter.unusedVariables false
set_option linter.unusedSimpArgs false
set_option maxRecDepth 100000
open Go.RowKit

set_option maxHeartbeats 4000000 in
theorem extent_succ (m : Nat) (hD : ExC m) : ExC (m + 1) := fun t a n c w hsz hwf hN => by
  have hz : ∀ x0 : Int, (t.letter.toNat : Int) = x0 → (x0 = 99 ∨ x0 = 115 ∨ x0 = 105 ∨ x0 = 117 ∨ x0 = 112 ∨ x0 = 106 ∨ x0 = 118 ∨ x0 = 102) → Calls Tryz.prog 27 #[.slice none 0 0, nT t a n c] w fun e w' => ExR e ∧ Below w.heap.size w w' := fun x0 hx0 h1 => by
    unfold nT
    rw [hx0]
    obtain ⟨x2, hx2⟩ : ∃ x2 : Int, (t.count : Int) = x2 := ⟨_, rfl⟩
    obtain ⟨s1, hs1⟩ : ∃ s1, (⟨t.code.toArray⟩ : ByteArray) = s1 := ⟨_, rfl⟩
    obtain ⟨s3, hs3⟩ : ∃ s3, (⟨t.tag.toArray⟩ : ByteArray) = s3 := ⟨_, rfl⟩
    rw [hx2, hs1, hs3]
    clear hN hD hsz hwf hx0 hx2 hs1 hs3
    have hdone : ∀ (y z u : Int) (q : Bool), ExR (.returned (.tuple #[.agg #[.int .i64 y, .int .i64 z, .int .i64 u], .bool q])) := fun y z u q => ⟨y, z, u, q, rfl⟩
    rcases h1 with rfl | rfl | rfl | rfl | rfl | rfl | rfl | rfl
    · go_enter Tryz.func27, Tryz.ntmps27
      go_wp2_with fail
      refine bodyPost_ret (v := .tuple #[.agg #[.int .i64 1, .int .i64 1, .int .i64 1], .bool true]) (by simp [results, Tryz.results27, go_sem]) rfl ?_
      exact ⟨hdone _ _ _ _, (below_a _ _).alloc (by simp) _⟩
    · go_enter Tryz.func27, Tryz.ntmps27
      go_wp2_with fail
      refine bodyPost_ret (v := .tuple #[.agg #[.int .i64 2, .int .i64 2, .int .i64 1], .bool true]) (by simp [results, Tryz.results27, go_sem]) rfl ?_
      exact ⟨hdone _ _ _ _, (below_a _ _).alloc (by simp) _⟩
    · go_enter Tryz.func27, Tryz.ntmps27
      go_wp2_with fail
      refine bodyPost_ret (v := .tuple #[.agg #[.int .i64 4, .int .i64 4, .int .i64 1], .bool true]) (by simp [results, Tryz.results27, go_sem]) rfl ?_
      exact ⟨hdone _ _ _ _, (below_a _ _).alloc (by simp) _⟩
    · go_enter Tryz.func27, Tryz.ntmps27
      go_wp2_with fail
      refine bodyPost_ret (v := .tuple #[.agg #[.int .i64 4, .int .i64 4, .int .i64 1], .bool true]) (by simp [results, Tryz.results27, go_sem]) rfl ?_
      exact ⟨hdone _ _ _ _, (below_a _ _).alloc (by simp) _⟩
    · go_enter Tryz.func27, Tryz.ntmps27
      go_wp2_with fail
      refine bodyPost_ret (v := .tuple #[.agg #[.int .i64 4, .int .i64 4, .int .i64 1], .bool true]) (by simp [results, Tryz.results27, go_sem]) rfl ?_
      exact ⟨hdone _ _ _ _, (below_a _ _).alloc (by simp) _⟩
    · go_enter Tryz.func27, Tryz.ntmps27
      go_wp2_with fail
      refine bodyPost_ret (v := .tuple #[.agg #[.int .i64 64, .int .i64 4, .int .i64 0], .bool true]) (by simp [results, Tryz.results27, go_sem]) rfl ?_
      exact ⟨hdone _ _ _ _, (below_a _ _).alloc (by simp) _⟩
    · go_enter Tryz.func27, Tryz.ntmps27
      go_wp2_with fail
      refine bodyPost_ret (v := .tuple #[.agg #[.int .i64 0, .int .i64 0, .int .i64 0], .bool false]) (by simp [results, Tryz.results27, go_sem]) rfl ?_
      exact ⟨hdone _ _ _ _, (below_a _ _).alloc (by simp) _⟩
    · go_enter Tryz.func27, Tryz.ntmps27
      go_wp2_with fail
      refine bodyPost_ret (v := .tuple #[.agg #[.int .i64 0, .int .i64 0, .int .i64 0], .bool false]) (by simp [results, Tryz.results27, go_sem]) rfl ?_
      exact ⟨hdone _ _ _ _, (below_a _ _).alloc (by simp) _⟩
  cases t with
  | ptr u => exact hz 112 rfl (by decide)
  | fn ps r => exact hz 102 rfl (by decide)
  | base x =>
    have hc : baseC x = true := hwf
    unfold baseC at hc
    simp at hc
    rcases hc with ((((hc | hc) | hc) | hc) | hc) | hc <;> (subst hc; exact hz _ rfl (by decide))
  | str s =>
    have HF := Lib.hid (fun w => c_find0 ⟨s.toArray⟩ w)
    obtain ⟨s1, hs1⟩ : ∃ s1, (⟨(Ty.str s).code.toArray⟩ : ByteArray) = s1 := ⟨_, rfl⟩
    show Calls _ _ #[_, nV 83 ⟨(Ty.str s).code.toArray⟩ 0 ⟨s.toArray⟩ a n c] w _
    rw [hs1]
    clear hz hN hD hsz hwf hs1
    go_enter Tryz.func27, Tryz.ntmps27
    go_wp2_with fail
    refine (HF.out _).mono ?_
    rintro e w2 ⟨rfl, hb⟩
    have hs := hb.size
    simp at hs
    have hlt : w.heap.size < w2.heap.size := by omega
    have hlt1 : w.heap.size + 1 < w2.heap.size := by omega
    have r0 : w2.cell? ⟨w.heap.size + 1, 0, none⟩ = some (.int .i64 0) := (cell_of_blk (hb.block _ (by simp)) 0).trans (by simp)
    have r1 : w2.cell? ⟨w.heap.size + 1, 1, none⟩ = some (.int .i64 0) := (cell_of_blk (hb.block _ (by simp)) 1).trans (by simp)
    have r2 : w2.cell? ⟨w.heap.size + 1, 2, none⟩ = some (.int .i64 0) := (cell_of_blk (hb.block _ (by simp)) 2).trans (by simp)
    have f0 : w2.frozen? ⟨w.heap.size + 1, 0, none⟩ = false := (frozen_of_blk (hb.block _ (by simp)) 0).trans (by simp)
    have f1 : w2.frozen? ⟨w.heap.size + 1, 1, none⟩ = false := (frozen_of_blk (hb.block _ (by simp)) 1).trans (by simp)
    have f2 : w2.frozen? ⟨w.heap.size + 1, 2, none⟩ = false := (frozen_of_blk (hb.block _ (by simp)) 2).trans (by simp)
    have HB : Hid (Below w.heap.size w w2) := below_on ((below_a w (.cells #[.int .u8 83, .string s1, .int .i64 0, .string ⟨s.toArray⟩, .slice a n c] 61)).alloc (by simp) (.cells #[.int .i64 0, .int .i64 0, .int .i64 0] 67)) hb (by simp; omega)
    clear hb hs HF
    go_wp2_with fail
    refine bodyPost_ret (v := .tuple #[.agg #[.int .i64 0, .int .i64 0, .int .i64 0], .bool false]) (by simp [results, Tryz.results27, go_sem, r0, r1, r2, hlt1]) rfl ?_
    refine ⟨⟨_, _, _, _, rfl⟩, ?_⟩
    exact (((HB.out.setCell (p := ⟨w.heap.size + 1, 0, none⟩) (by simp) _).setCell (p := ⟨w.heap.size + 1, 1, none⟩) (by simp) _).setCell (p := ⟨w.heap.size + 1, 2, none⟩) (by simp) _).alloc (by simp; omega) _
  | arr k u =>
    have hNu : ∀ w', Below w.heap.size w w' → NdIn (.arr k u) (.slice a n c) w' := fun w' hb => Nd.mono hN (fun j hj => Nat.lt_of_lt_of_le hj hb.size) (fun j hj => hb.block j hj)
    have HI := Lib.hid (fun w' (hb : Below w.heap.size w w') => c_inner (fun j => j < w'.heap.size) (.arr k u) (.slice a n c) w' (hNu w' hb) [] u rfl (by simp))
    have HD := Lib.hid (fun a n c w hn => hD u a n c w (by have h : u.size + 1 ≤ m + 1 := hsz; omega) hwf.2 hn)
    have HT := Lib.hid c_timesA
    obtain ⟨z0, hz0⟩ : ∃ z : Int, (u.letter.toNat : Int) = z := ⟨_, rfl⟩
    obtain ⟨z2, hz2⟩ : ∃ z : Int, (u.count : Int) = z := ⟨_, rfl⟩
    obtain ⟨x2, hx2⟩ : ∃ x2 : Int, (k : Int) = x2 := ⟨_, rfl⟩
    obtain ⟨s1, hs1⟩ : ∃ s1, (⟨(Ty.arr k u).code.toArray⟩ : ByteArray) = s1 := ⟨_, rfl⟩
    have HI' : Hid (∀ w', Below w.heap.size w w' → Calls Tryz.prog 41 #[nV 97 s1 x2 ⟨#[]⟩ a n c] w' fun e w'' => (∃ a n c, e = .returned (nV z0 ⟨u.code.toArray⟩ z2 ⟨u.tag.toArray⟩ a n c) ∧ NdIn u (.slice a n c) w'') ∧ Below w'.heap.size w' w'') := fun w' hb => by
      have h := HI.out w' hb
      rw [nd_val] at h
      rw [← hs1, ← hx2]
      refine h.mono fun e w'' h => ?_
      obtain ⟨⟨a', n', c', h1, h2⟩, h3⟩ := h
      rw [nd_val, hz0, hz2] at h1
      exact ⟨⟨a', n', c', h1, NdIn.next h2 h3⟩, h3⟩
    have HD' : Hid (∀ a n c w, NdIn u (.slice a n c) w → Calls Tryz.prog 27 #[.slice none 0 0, nV z0 ⟨u.code.toArray⟩ z2 ⟨u.tag.toArray⟩ a n c] w fun e w' => ExR e ∧ Below w.heap.size w w') := fun a n c w hn => by
      have h := HD.out a n c w hn
      unfold nT at h
      rw [hz0, hz2] at h
      exact h
    show Calls _ _ #[_, nV 97 ⟨(Ty.arr k u).code.toArray⟩ (k : Int) ⟨#[]⟩ a n c] w _
    rw [hx2, hs1]
    clear hz hN hD hsz hwf hs1 hx2 hz0 hz2 HI HD hNu
    go_enter Tryz.func27, Tryz.ntmps27
    go_wp2_with fail
    have hA : Below w.heap.size w ((w.alloc (.cells #[.int .u8 97, .string s1, .int .i64 x2, .string ⟨#[]⟩, .slice a n c] 61)).alloc (.cells #[.int .i64 0, .int .i64 0, .int .i64 0] 67)) := (below_a w _).alloc (by simp) _
    have HN0 : Hid (((w.alloc (.cells #[.int .u8 97, .string s1, .int .i64 x2, .string ⟨#[]⟩, .slice a n c] 61)).alloc (.cells #[.int .i64 0, .int .i64 0, .int .i64 0] 67)).heap[w.heap.size]? = some (.cells #[.int .u8 97, .string s1, .int .i64 x2, .string ⟨#[]⟩, .slice a n c] 61)) := (Below.heap_alloc _ _ _ (by simp)).trans (heap_alloc_new w _)
    have HR0 : Hid (((w.alloc (.cells #[.int .u8 97, .string s1, .int .i64 x2, .string ⟨#[]⟩, .slice a n c] 61)).alloc (.cells #[.int .i64 0, .int .i64 0, .int .i64 0] 67)).heap[w.heap.size + 1]? = some (.cells #[.int .i64 0, .int .i64 0, .int .i64 0] 67)) := new2 w _ _
    have HA := Lib.hid hA
    clear hA
    refine (HI'.out _ HA.out).mono ?_
    rintro e w2 ⟨⟨a', n', c', rfl, hn⟩, hb⟩
    have HB2 := Lib.hid (below_on HA.out hb (by simp; omega))
    have HN2 := Lib.hid (blk_next HN0.out hb)
    have HR2 := Lib.hid (blk_next HR0.out hb)
    have HDn := Lib.hid (HD'.out a' n' c' w2 hn)
    clear hb hn HI' HA HN0 HR0 HD'
    go_wp2_with fail
    refine HDn.out.mono ?_
    rintro e w3 ⟨⟨y1, y2, y3, q, rfl⟩, hb⟩
    have HB3 := Lib.hid (below_on HB2.out hb HB2.out.size)
    have HN3 := Lib.hid (blk_next HN2.out hb)
    have HR3 := Lib.hid (blk_next HR2.out hb)
    have hs3 : w.heap.size + 1 < w3.heap.size := (Array.getElem?_eq_some_iff.1 HR3.out).1
    have hs4 : w.heap.size < w3.heap.size := by omega
    clear hb HDn HB2 HN2 HR2
    obtain ⟨n0, n1, n2, n3, n4, nf⟩ := five_cells HN3.out
    go_wp2_with fail
    have HB4 := Lib.hid (below_on HB3.out (below_a w3 (.cells #[.int .i64 y1, .int .i64 y2, .int .i64 y3] 67)) HB3.out.size)
    have HR4 := Lib.hid (blk_next HR3.out (below_a w3 (.cells #[.int .i64 y1, .int .i64 y2, .int .i64 y3] 67)))
    refine (HT.out _ _ _ _ _).mono ?_
    rintro e w5 ⟨⟨v1, v2, v3, rfl⟩, hb⟩
    have HB5 := Lib.hid (below_on HB4.out hb HB4.out.size)
    have hR5 := blk_next HR4.out hb
    clear hb HB4 HR4 HB3 HN3 HR3 n0 n1 n2 n3 n4 nf hs3 hs4
    have r0 : w5.cell? ⟨w.heap.size + 1, 0, none⟩ = some (.int .i64 0) := by rw [Lib.cell_of_heap hR5]; rfl
    have r1 : w5.cell? ⟨w.heap.size + 1, 1, none⟩ = some (.int .i64 0) := by rw [Lib.cell_of_heap hR5]; rfl
    have r2 : w5.cell? ⟨w.heap.size + 1, 2, none⟩ = some (.int .i64 0) := by rw [Lib.cell_of_heap hR5]; rfl
    have f0 := Lib.frozen_of_heap hR5 0
    have f1 := Lib.frozen_of_heap hR5 1
    have f2 := Lib.frozen_of_heap hR5 2
    clear hR5
    go_wp2_with fail
    refine bodyPost_ret (v := .tuple #[.agg #[.int .i64 v1, .int .i64 v2, .int .i64 v3], .bool q]) (by simp [results, Tryz.results27, go_sem, r0, r1, r2]) rfl ?_
    exact ⟨⟨_, _, _, _, rfl⟩, ((HB5.out.setCell (p := ⟨w.heap.size + 1, 0, none⟩) (by simp) _).setCell (p := ⟨w.heap.size + 1, 1, none⟩) (by simp) _).setCell (p := ⟨w.heap.size + 1, 2, none⟩) (by simp) _⟩
theorem c_extent : ∀ m, ExC m
  | 0 => fun t a n c w hsz => by
    have : 1 ≤ t.size := by cases t <;> (unfold Ty.size; omega)
    omega
  | m + 1 => extent_succ m (c_extent m)
end Go.Proofs.YtgplonfhmemhiaaGreatDoor
