/-
  The contract of New, in the code: the walk.
-/
import Derived.Test.YtbflnkkoecfbaaaMemNew2
namespace Go.Proofs.Ytbflnkkoecfbaaa
set_option linter.unusedVariables false
set_option linter.unusedSimpArgs false
set_option maxRecDepth 100000
open Go.ChangeShapes Go.WideShapes Go.ChangeAt Go.RowKit
attribute [local go_sem ↓] Go.wp_at_zero Go.wp_at_succ

theorem infoBk : (Try.prog.info? 69).map (fun i => (i.zero, i.size, i.bytes)) = some (some (.agg #[.string ⟨#[]⟩, .int .i64 0, .int .i64 0, .bool false, .bool false, .slice none 0 0, .slice none 0 0]), 7, 88) := by kernel_rfl
/-- A range in a block. -/
abbrev R5 (br : Nat) (r : Rg) (w' : World) : Prop := w'.cell? ⟨br, 0, none⟩ = some (.string ⟨r.nm.toArray⟩) ∧ w'.cell? ⟨br, 1, none⟩ = some (.int .i64 r.fr) ∧ w'.cell? ⟨br, 2, none⟩ = some (.int .i64 r.sz) ∧ w'.cell? ⟨br, 3, none⟩ = some (.bool r.wr) ∧ w'.cell? ⟨br, 4, none⟩ = some (.bool r.ex)
theorem R5.next {br : Nat} {r : Rg} {w w' : World} (h : R5 br r w) (hb : Below w.heap.size w w') : R5 br r w' := by
  obtain ⟨a2, a3, a4, a5, a6⟩ := h
  exact ⟨(hb.cell (cell_lt a2)).trans a2, (hb.cell (cell_lt a3)).trans a3, (hb.cell (cell_lt a4)).trans a4, (hb.cell (cell_lt a5)).trans a5, (hb.cell (cell_lt a6)).trans a6⟩
theorem R5.far {br : Nat} {r : Rg} {w w' : World} {row : Option Nat} (h : R5 br r w) (hg : w.grownBy w' row) (h2 : row ≠ some br) : R5 br r w' := by
  obtain ⟨a2, a3, a4, a5, a6⟩ := h
  have c1 := fun k => hg.cell_far ⟨br, k, none⟩ (show br < _ from cell_lt a2) (Ne.symm h2)
  exact ⟨(c1 _).trans a2, (c1 _).trans a3, (c1 _).trans a4, (c1 _).trans a5, (c1 _).trans a6⟩
theorem R5.set {br gm : Nat} {r : Rg} {w : World} (h : R5 br r w) (hne : gm ≠ br) (k : Nat) (u : Value) : R5 br r (w.setCell ⟨gm, k, none⟩ u) := by
  obtain ⟨a2, a3, a4, a5, a6⟩ := h
  have c1 : ∀ j, (w.setCell ⟨gm, k, none⟩ u).cell? ⟨br, j, none⟩ = w.cell? ⟨br, j, none⟩ := fun j => World.cell?_setCell_other _ _ _ _ (fun e => hne (by injection e))
  exact ⟨(c1 _).trans a2, (c1 _).trans a3, (c1 _).trans a4, (c1 _).trans a5, (c1 _).trans a6⟩
def NwInv (w wr : World) (gm k : Nat) (R : Nat → Rg) : Prop :=
  ∃ v gn cn gt ct P Q C D, wr.cell? ⟨gm, 0, none⟩ = some v ∧ wr.frozen? ⟨gm, 0, none⟩ = false ∧ Bks wr gm k v R gn cn gt ct P Q C D ∧ (∀ i j, i < k → P i j = Q i j ∧ gm ≤ P i j) ∧ (∀ i j c, C i j c = 0 ∧ D i j c = 0) ∧ Below gm w wr ∧ gm < wr.heap.size
theorem blk_set {w : World} {gm : Nat} {u : Value} : ∀ i, i ≠ gm → (w.setCell ⟨gm, 0, none⟩ u).heap[i]? = w.heap[i]? := fun i hi => Below.heap_setCell w ⟨gm, 0, none⟩ u i (fun e => hi e)
theorem Bks.set {w : World} {gm k : Nat} {v : Value} {R : Nat → Rg} {gn cn gt ct : Nat → Nat} {P Q : Nat → Nat → Nat} {C D : Nat → Nat → Nat → Int} (h : Bks w gm k v R gn cn gt ct P Q C D) (u : Value) : Bks (w.setCell ⟨gm, 0, none⟩ u) gm k v R gn cn gt ct P Q C D := by
  obtain ⟨h1, h2, h3, h4, h5⟩ := h
  have hs : (w.setCell ⟨gm, 0, none⟩ u).heap.size = w.heap.size := by simp [World.setCell]
  refine ⟨⟨h1.1, ?_⟩, fun i hi => ?_, h3, fun g hg => ⟨(h4 g hg).1, by rw [hs]; exact (h4 g hg).2.1, (h4 g hg).2.2⟩, h5⟩
  · rcases h1.2 with h | ⟨g, cap, cur, a1, a2, a3, a4⟩
    · exact .inl h
    · exact .inr ⟨g, cap, cur, a1, a2, (blk_set g (by omega)).trans a3, a4⟩
  · have hh := h2 i hi
    have := hh.1.1
    have := hh.2.1.1
    exact hh.keep (b := gm) blk_set (by rw [hs]; exact Nat.le_refl _) (by omega) (by omega) (fun j hj => (h5 i j hi hj).1)
theorem NwInv_push {w1 w4 w5 w9 : World} {gm k : Nat} {v : Value} {R : Nat → Rg} {gn cn gt ct : Nat → Nat} {P Q : Nat → Nat → Nat} {C D : Nat → Nat → Nat → Int} (hBks : Bks w4 gm k v R gn cn gt ct P Q C D)
    (hPQ : ∀ i j, i < k → P i j = Q i j ∧ gm ≤ P i j) (hCD : ∀ i j c, C i j c = 0 ∧ D i j c = 0) (hBL : Below gm w1 w4) (hgl : gm < w4.heap.size) {g g' n1 n1' p : Nat}
    (hk5 : BkAt w5 w4.heap.size (pgs (R k)) g g' (fun _ => p) (fun _ => p) (fun _ _ => 0) (fun _ _ => 0)) (e1 : p ≠ g) (e2 : p ≠ g') (e3 : w4.heap.size ≤ p) (hb5 : Below w4.heap.size w4.drew w5) {o : Obj} {g9 cap9 : Nat}
    (hown : w9.ownsRow (gm + 1) 69 7 (.slice (some ⟨g9, 0, none⟩) (k + 1) cap9) (k + 1) (fl (fun i => bkC (R i) (pgs (R i)) (gn i) (cn i) (gt i) (ct i)) k ++ bkC (R k) (pgs (R k)) g n1 g' n1'))
    (hgrow : (w5.alloc o).grownBy w9 v.ownBlock) (hat : v.ownBlock = some g9 ∨ g9 = w5.heap.size + 1) (hlt : g9 < w9.heap.size) (hv9 : w9.cell? ⟨gm, 0, none⟩ = some v) (hf9 : w9.frozen? ⟨gm, 0, none⟩ = false) :
    NwInv w1 (w9.setCell ⟨gm, 0, none⟩ (.slice (some ⟨g9, 0, none⟩) (k + 1) cap9)) gm (k + 1) R := by
  have hb : Below w4.heap.size w4 w5 := ((Below.refl w4.heap.size w4).drew).trans hb5
  have hfr : Fr (fun b => v.ownBlock = some b) w5 w9 := ⟨hgrow.os, hgrow.tape, hgrow.output, by have := hgrow.size; simp at this; omega, fun b hb hn => (hgrow.block b (Nat.lt_of_lt_of_le hb (by simp)) (fun e => hn e.symm)).trans (Below.heap_alloc _ _ _ hb)⟩
  have hpush := hBks.push (v' := .slice (some ⟨g9, 0, none⟩) (k + 1) cap9) (n := n1) (n' := n1') hgl hb hk5 (fun j hj => ⟨.inr ⟨e3, e1, e2⟩, .inr ⟨e3, e1, e2⟩⟩) hfr (by
    rcases hat with h | h
    · exact .inl (by rw [h]; rfl)
    · exact .inr ⟨g9, rfl, by omega, hlt⟩) hown
  have hsz : w5.heap.size ≤ w9.heap.size := hfr.size
  have hs5 := hb.size
  refine ⟨_, _, _, _, _, _, _, _, _, World.cell?_setCell_same _ _ _ hv9, by rw [World.frozen?_setCell]; exact hf9, hpush.set _, fun i j hi => ?_, fun i j c => ?_, ?_, ?_⟩
  · by_cases e : i = k
    · subst e; simp only [ins_at]; exact ⟨trivial, by omega⟩
    · simp only [ins_off _ _ _ _ e]; exact hPQ i j (by omega)
  · by_cases e : i = k
    · subst e; simp only [ins_at]; exact ⟨trivial, trivial⟩
    · simp only [ins_off _ _ _ _ e]; exact hCD i j c
  · refine (hBL.trans (hb.mono (Nat.le_of_lt hgl))).trans (Below.setCell (p := ⟨gm, 0, none⟩) ⟨hfr.os, hfr.tape, hfr.output, hfr.size, fun b hbb => by have hb3 : b < gm := hbb; exact hfr.block b (by omega) (fun e => by have := (hBks.2.2.2.1 b e).1; omega)⟩ (Nat.le_refl _) _)
  · simp [World.setCell]; omega
set_option maxHeartbeats 4000000 in
theorem c_New_ok (b off n cap : Nat) (R : Nat → Rg) (w : World) (hm : n ≤ maxLen) (hn16 : n ≤ 16) (hR : RS w b off n R) (hle : n ≤ cap) (hbd : RgBd R n) (hc : chkI R n = 0) :
    Calls Try.prog 8 #[.slice (some ⟨b, off, none⟩) n cap] w fun e w' => ∃ gm, e = .returned (.tuple #[.pointer (some ⟨gm, 0, none⟩), .int .i64 0]) ∧ w.heap.size ≤ gm ∧ ∃ w1, Below w.heap.size w w1 ∧ w1.heap.size = gm ∧ NwInv w1 w' gm n R := by
  have HR := Lib.hid hR
  have HCk := Lib.hid hc
  have HRO : Hid (RSO w (some ⟨b, off, none⟩) n cap R) := .inr ⟨b, off, rfl, hle, hR⟩
  have HBD := Lib.hid hbd
  have HLE := Lib.hid hle
  have HRg : Hid (∀ i, i < n → rgB (R i) = true) := by
    show ∀ _, _
    unfold chkI at hc
    rw [if_neg (by omega)] at hc
    have : okTo R n = true := by
      cases h : okTo R n
      · rw [h] at hc; simp at hc
      · rfl
    exact okTo_rg this
  clear hR hc hbd hle
  go_enter Try.func8, Try.ntmps8
  go_wp2_with fail
  refine (c_Check (some ⟨b, off, none⟩) n cap R _ hm HRO.out HBD.out).mono ?_
  rintro e w1 ⟨rfl, hb1⟩
  rw [HCk.out]
  have HB1 := Lib.hid hb1
  have HMl := Lib.hid hm
  clear hb1 hm
  go_wp2_with fail
  go_loopw [17] (fun i wr => ∃ k : Nat, k ≤ n ∧ i = .int .i64 k ∧ Hid (NwInv w1 wr w1.heap.size k R)) (fun i _ => n - (intOf i).toNat)
  case atStart =>
    refine ⟨0, Nat.zero_le _, rfl, .slice none 0 0, _, _, _, _, _, _, _, _, by simp [go_sem], by simp [go_sem], Bks.start, fun i j hi => by omega, fun i j c => ⟨rfl, rfl⟩, below_new w1 _, by simp⟩
  case round =>
    obtain ⟨k, hk, rfl, HI⟩ := hrel
    by_cases hlt : k < n
    · obtain ⟨v, gn, cn, gt, ct, P, Q, C, D, hv, hf, hBks, hPQ, hCD, hbl, hgl⟩ := HI.out
      have HBw : Hid (Below w.heap.size w wr) := HB1.out.trans (hbl.mono HB1.out.size)
      obtain ⟨x0, x1, x2, x3, x4⟩ := HR.out.next HBw.out k hlt
      have HBks := Lib.hid hBks
      have HPQ := Lib.hid hPQ
      have HCD := Lib.hid hCD
      have HBL := Lib.hid hbl
      have hml : n ≤ 16 := hn16
      have HVL : Hid (wr.cell? ⟨w1.heap.size, 0, none⟩ = some v) := hv
      have hmk : k ≤ cap := by have := HLE.out; omega
      clear hBks hPQ hCD hbl hmk
      go_wp2_with fail
      generalize hw4 : wr.alloc _ = w4
      have hb4 : Below wr.heap.size wr w4 := by rw [← hw4]; exact below_new wr _
      have hs4 : w4.heap.size = wr.heap.size + 1 := by rw [← hw4]; simp
      have hv4 : w4.cell? ⟨w1.heap.size, 0, none⟩ = some v := (hb4.cell (cell_lt hv)).trans hv
      have hf4 : w4.frozen? ⟨w1.heap.size, 0, none⟩ = false := (hb4.frozen (p := ⟨w1.heap.size, 0, none⟩) hgl).trans hf
      have hS4 : R5 wr.heap.size (R k) w4 := by
        refine ⟨?_, ?_, ?_, ?_, ?_⟩ <;> (rw [← hw4]; simp [go_sem])
      have HBks4 := Lib.hid (HBks.out.next hb4)
      have HBL4 : Hid (Below w1.heap.size w1 w4) := HBL.out.trans (hb4.mono (Nat.le_of_lt hgl))
      have HGL := Lib.hid hgl
      have HS4 := Lib.hid hs4
      have hrg := HRg.out k hlt
      have hfar : v.ownBlock ≠ some w1.heap.size ∧ v.ownBlock ≠ some wr.heap.size := ⟨fun e => by have := (HBks.out.2.2.2.1 _ e).1; omega, fun e => by have := (HBks.out.2.2.2.1 _ e).2.1; omega⟩
      have HFar := Lib.hid hfar
      have HOwn : Hid (∀ w6, Below w4.heap.size w4 w6 → w6.ownsRow (w1.heap.size + 1) 69 7 v k (fl (fun i => bkC (R i) (pgs (R i)) (gn i) (cn i) (gt i) (ct i)) k)) := fun w6 h6 => (HBks4.out.next h6).1
      obtain ⟨i0, hi, hz0, hz1, hz2⟩ := info_parts infoBk
      clear hw4 hb4 hv hf x0 x1 x2 x3 x4 hgl hs4 hfar
      have HOwn1 : Hid (∀ w5 o, Below w4.heap.size w4.drew w5 → (w5.alloc o).ownsRow (w1.heap.size + 1) 69 7 v k (fl (fun i => bkC (R i) (pgs (R i)) (gn i) (cn i) (gt i) (ct i)) k)) := fun w5 o h5 => HOwn.out _ ((((Below.refl w4.heap.size w4).drew).trans h5).alloc h5.size _)
      have hne : w1.heap.size ≠ wr.heap.size := by have := HGL.out; omega
      have hl4 : w1.heap.size < w4.heap.size := cell_lt hv4
      have HV4 := Lib.hid (And.intro hv4 (And.intro hf4 hl4))
      clear hl4
      obtain ⟨s0, s1, s2, s3, s4⟩ := hS4
      go_region_law
        (first
          | (go_simp; go_at_call 28; refine (c_newBank (R k) _ hrg).mono ?_; rintro e w5 ⟨g, g', n1, n1', p, rfl, hk5, e1, e2, e3, e4, hb5⟩
             have hv5 : w5.cell? ⟨w1.heap.size, 0, none⟩ = some v := (hb5.cell (p := ⟨w1.heap.size, 0, none⟩) HV4.out.2.2).trans HV4.out.1
             have hf5 : w5.frozen? ⟨w1.heap.size, 0, none⟩ = false := (hb5.frozen (p := ⟨w1.heap.size, 0, none⟩) HV4.out.2.2).trans HV4.out.2.1
             have HL5 : Hid (w1.heap.size < w5.heap.size) := cell_lt hv5
             have ha5 : ∀ o, (w5.alloc o).cell? ⟨w1.heap.size, 0, none⟩ = some v := fun o => ((below_new w5 o).cell (p := ⟨w1.heap.size, 0, none⟩) HL5.out).trans hv5)
          | (refine step_append_lies _ (by rfl) _ _ _ (by rfl) (w1.heap.size + 1) 69 i0 _ 7 88 Try.underlying64 hi hz0 hz1 hz2 rfl (by decide) v k _ (by rfl) (HOwn1.out _ _ (by exact hb5)) ⟨w5.heap.size, 0, none⟩ 1 1 (bkC (R k) (pgs (R k)) g n1 g' n1') (by rfl) rfl (World.news_of_block (heap_alloc_new w5 _)) (bkC_one _ _ _ _ _ _) (by decide) (by unfold maxLen; omega) (by omega) (by have := HL5.out; simp; omega) (w5.heap.size + 1) (by simp) ?_
             intro g9 cap9 w9 hown hgrow hat hlt9
             have hv9 : w9.cell? ⟨w1.heap.size, 0, none⟩ = some v := (hgrow.cell_far ⟨w1.heap.size, 0, none⟩ (by have := HL5.out; simp; omega) (Ne.symm HFar.out.1)).trans (((below_new w5 _).cell (p := ⟨w1.heap.size, 0, none⟩) HL5.out).trans hv5)
             have hf9 : w9.frozen? ⟨w1.heap.size, 0, none⟩ = false := (hgrow.frozen_far ⟨w1.heap.size, 0, none⟩ (by have := HL5.out; simp; omega) (Ne.symm HFar.out.1)).trans (((below_new w5 _).frozen (p := ⟨w1.heap.size, 0, none⟩) HL5.out).trans hf5)))
      all_goals
        have HN9 : Hid (NwInv w1 (w9.setCell ⟨w1.heap.size, 0, none⟩ (.slice (some ⟨g9, 0, none⟩) (k + 1) cap9)) w1.heap.size (k + 1) R) := NwInv_push HBks4.out HPQ.out HCD.out HBL4.out HV4.out.2.2 (by exact hk5) e1 e2 (by exact e3) (by exact hb5) hown hgrow hat hlt9 hv9 hf9
        clear hk5 e1 e2 e3 e4 hb5 hown hgrow hat hlt9 hv5 hf5 ha5 hv4 hf4 s0 s1 s2 s3 s4
        go_wp2_with fail
        go_roundw
        case rel => exact ⟨k + 1, by omega, by go_num, HN9⟩
        case measure => simp [intOf]; omega
    · have hge : decide (k < n) = false := by simp; omega
      obtain rfl : k = n := by omega
      clear hk hlt
      go_wp2_with fail
      go_ret2
      exact ⟨w1.heap.size, rfl, HB1.out.size, w1, HB1.out, rfl, HI.out⟩
end Go.Proofs.Ytbflnkkoecfbaaa
