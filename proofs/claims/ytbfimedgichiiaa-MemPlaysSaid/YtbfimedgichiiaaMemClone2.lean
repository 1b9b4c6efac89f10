/-
  The contract of Clone, in the code.
-/
import Derived.Test.YtbfimedgichiiaaMemClone
import Derived.Test.YtbfimedgichiiaaMemTwo
import Derived.Test.YtbfimedgichiiaaMemMark
import Derived.Deep.RegionLaw
namespace Go.Proofs.Ytbfimedgichiiaa
set_option linter.unusedVariables false
set_option linter.unusedSimpArgs false
set_option maxRecDepth 100000
open Go.ChangeShapes Go.WideShapes Go.ChangeAt Go.RowKit

theorem ins_self {T : Type} (f : Nat → T) (k : Nat) : ins f k (f k) = f := by
  funext i
  unfold ins
  split
  · rename_i h; rw [h]
  · rfl
theorem Bks.start0 {w : World} {gm : Nat} {R : Nat → Rg} (gn cn gt ct : Nat → Nat) (P Q : Nat → Nat → Nat) (C D : Nat → Nat → Nat → Int) : Bks w gm 0 (.slice none 0 0) R gn cn gt ct P Q C D :=
  ⟨⟨rfl, .inl ⟨rfl, rfl⟩⟩, fun i hi => by omega, fun i i' hi => by omega, fun g hg => by simp [Value.ownBlock] at hg, fun i j hi => by omega⟩
/-- A clone under way: its banks, each page shared with the elder memory or its own. -/
def CvInv (w wr : World) (gz k : Nat) (R : Nat → Rg) (P Q : Nat → Nat → Nat) (C D : Nat → Nat → Nat → Int) : Prop :=
  ∃ v gn cn gt ct F, wr.cell? ⟨gz, 0, none⟩ = some v ∧ wr.frozen? ⟨gz, 0, none⟩ = false ∧ Bks wr gz k v R gn cn gt ct F Q C D ∧
    (∀ i j, i < k → j < pgs (R i) → (F i j = P i j ∧ P i j = Q i j ∧ P i j < gz) ∨ (P i j ≠ Q i j ∧ gz < F i j)) ∧ (∀ i j, i < k → j < pgs (R i) → Q i j < gz) ∧
    (∀ i j i' j', i < k → j < pgs (R i) → i' < k → j' < pgs (R i') → F i j = F i' j' → gz < F i j → i = i' ∧ j = j') ∧ Below gz w wr ∧ gz < wr.heap.size
theorem CvInv_push {w1 w4 w5 w9 : World} {gz k : Nat} {v : Value} {R : Nat → Rg} {gn cn gt ct : Nat → Nat} {P F Q : Nat → Nat → Nat} {C D : Nat → Nat → Nat → Int} (hBks : Bks w4 gz k v R gn cn gt ct F Q C D)
    (hF : ∀ i j, i < k → j < pgs (R i) → (F i j = P i j ∧ P i j = Q i j ∧ P i j < gz) ∨ (P i j ≠ Q i j ∧ gz < F i j)) (hQ : ∀ i j, i < k → j < pgs (R i) → Q i j < gz) (hI : ∀ i j i' j', i < k → j < pgs (R i) → i' < k → j' < pgs (R i') → F i j = F i' j' → gz < F i j → i = i' ∧ j = j')
    (hBL : Below gz w1 w4) (hgl : gz < w4.heap.size) (hPQ : ∀ j, j < pgs (R k) → P k j < gz ∧ Q k j < gz) {g g' n1 n1' : Nat} {f : Nat → Nat}
    (hk5 : BkAt w5 w4.heap.size (pgs (R k)) g g' f (Q k) (C k) (D k)) (e1 : ∀ j, j < pgs (R k) → (f j = P k j ∧ P k j = Q k j ∧ P k j < w4.heap.size) ∨ (P k j ≠ Q k j ∧ w4.heap.size ≤ f j ∧ f j ≠ g ∧ f j ≠ g')) (e3 : ∀ j j', j < pgs (R k) → j' < pgs (R k) → f j = f j' → w4.heap.size ≤ f j → j = j')
    (hb5 : Below w4.heap.size w4.drew w5) {o : Obj} {g9 cap9 : Nat}
    (hown : w9.ownsRow (gz + 1) 69 7 (.slice (some ⟨g9, 0, none⟩) (k + 1) cap9) (k + 1) (fl (fun i => bkC (R i) (pgs (R i)) (gn i) (cn i) (gt i) (ct i)) k ++ bkC (R k) (pgs (R k)) g n1 g' n1'))
    (hgrow : (w5.alloc o).grownBy w9 v.ownBlock) (hat : v.ownBlock = some g9 ∨ g9 = w5.heap.size + 1) (hlt : g9 < w9.heap.size) (hv9 : w9.cell? ⟨gz, 0, none⟩ = some v) (hf9 : w9.frozen? ⟨gz, 0, none⟩ = false) :
    CvInv w1 (w9.setCell ⟨gz, 0, none⟩ (.slice (some ⟨g9, 0, none⟩) (k + 1) cap9)) gz (k + 1) R P Q C D := by
  have hb : Below w4.heap.size w4 w5 := ((Below.refl w4.heap.size w4).drew).trans hb5
  have hfr : Fr (fun b => v.ownBlock = some b) w5 w9 := ⟨hgrow.os, hgrow.tape, hgrow.output, by have := hgrow.size; simp at this; omega, fun b hb hn => (hgrow.block b (Nat.lt_of_lt_of_le hb (by simp)) (fun e => hn e.symm)).trans (Below.heap_alloc _ _ _ hb)⟩
  have hFs : ∀ i j, i < k → j < pgs (R i) → F i j < w4.heap.size := fun i j hi hj => ((hBks.2.1 i hi).2.2.2.2 j hj).2.2.1.lt
  have hpush := hBks.push (v' := .slice (some ⟨g9, 0, none⟩) (k + 1) cap9) (n := n1) (n' := n1') hgl hb hk5 (fun j hj => ⟨by
    rcases e1 j hj with ⟨x1, _, _⟩ | ⟨_, x2, x3, x4⟩
    · have := (hPQ j hj).1; exact .inl (by omega)
    · exact .inr ⟨x2, x3, x4⟩, .inl (hPQ j hj).2⟩) hfr (by
    rcases hat with h | h
    · exact .inl (by rw [h]; rfl)
    · exact .inr ⟨g9, rfl, by omega, hlt⟩) hown
  have hsz : w5.heap.size ≤ w9.heap.size := hfr.size
  have hs5 := hb.size
  rw [ins_self Q, ins_self C, ins_self D] at hpush
  refine ⟨_, _, _, _, _, _, World.cell?_setCell_same _ _ _ hv9, by rw [World.frozen?_setCell]; exact hf9, hpush.set _, fun i j hi hj => ?_, fun i j hi hj => ?_, fun i j i' j' hi hj hi' hj' e hge => ?_, ?_, ?_⟩
  · by_cases e : i = k
    · subst e
      simp only [ins_at]
      rcases e1 j hj with ⟨x1, x2, _⟩ | ⟨x1, x2, _⟩
      · exact .inl ⟨x1, x2, (hPQ j hj).1⟩
      · exact .inr ⟨x1, by omega⟩
    · simp only [ins_off _ _ _ _ e]; exact hF i j (by omega) hj
  · by_cases e : i = k
    · subst e; exact (hPQ j hj).2
    · exact hQ i j (by omega) hj
  · by_cases ei : i = k
    · subst ei
      simp only [ins_at] at e hge
      have hnew : w4.heap.size ≤ f j := by
        rcases e1 j hj with ⟨x1, _, _⟩ | ⟨_, x2, _⟩
        · have := (hPQ j hj).1; omega
        · exact x2
      by_cases ei' : i' = i
      · subst ei'
        simp only [ins_at] at e
        exact ⟨rfl, e3 j j' hj hj' e hnew⟩
      · simp only [ins_off _ _ _ _ ei'] at e
        have := hFs i' j' (by omega) hj'
        omega
    · simp only [ins_off _ _ _ _ ei] at e hge
      by_cases ei' : i' = k
      · subst ei'
        simp only [ins_at] at e
        have := hFs i j (by omega) hj
        rcases e1 j' hj' with ⟨x1, _, _⟩ | ⟨_, x2, _⟩
        · have := (hPQ j' hj').1; omega
        · omega
      · simp only [ins_off _ _ _ _ ei'] at e
        exact hI i j i' j' (by omega) hj (by omega) hj' e hge
  · refine (hBL.trans (hb.mono (Nat.le_of_lt hgl))).trans (Below.setCell (p := ⟨gz, 0, none⟩) ⟨hfr.os, hfr.tape, hfr.output, hfr.size, fun b hbb => by have hb3 : b < gz := hbb; exact hfr.block b (by omega) (fun e => by have := (hBks.2.2.2.1 b e).1; omega)⟩ (Nat.le_refl _) _)
  · simp [World.setCell]; omega
set_option maxHeartbeats 4000000 in
theorem c_MClone (G gm gb nb cap : Nat) (R : Nat → Rg) (gn gt np cn ct : Nat → Nat) (P Q : Nat → Nat → Nat) (C D : Nat → Nat → Nat → Int) (w : World) (hM : MS w G gm gb nb cap R gn gt np cn ct P Q C D) (hnp : ∀ i, i < nb → np i = pgs (R i)) :
    Calls Try.prog 12 #[.pointer (some ⟨gm, 0, none⟩)] w fun e w' => e = .returned (.pointer (some ⟨w.heap.size, 0, none⟩)) ∧ CvInv w w' w.heap.size nb R P Q C D := by
  obtain ⟨aB, hc0, haB⟩ := hM.1.1.1
  have HAB := Lib.hid haB
  have hn16 := hM.1.2.2.1
  have HM := Lib.hid hM
  have HNp := Lib.hid hnp
  have hgm : gm < w.heap.size := cell_lt hc0
  have HPQ : Hid (∀ i, i < nb → ∀ j, j < pgs (R i) → P i j < w.heap.size ∧ Q i j < w.heap.size) := fun i hi j hj => by
    have hj' : j < np i := by rw [hnp i hi]; exact hj
    exact ⟨hM.foot_lt _ (.inr (.inr (.inr ⟨i, j, hi, hj', .inl rfl⟩))), hM.foot_lt _ (.inr (.inr (.inr ⟨i, j, hi, hj', .inr rfl⟩)))⟩
  have hne : w.heap.size ≠ gm := by omega
  clear haB hM hnp
  go_enter Try.func12, Try.ntmps12
  go_wp2_with fail
  go_loopw [13] (fun i wr => ∃ k : Nat, k ≤ nb ∧ i = .int .i64 k ∧ Hid (CvInv w wr w.heap.size k R P Q C D)) (fun i _ => nb - (intOf i).toNat)
  case atStart =>
    refine ⟨0, Nat.zero_le _, rfl, .slice none 0 0, fun _ => 0, fun _ => 0, fun _ => 0, fun _ => 0, fun _ _ => 0, by simp [go_sem], by simp [go_sem], Bks.start0 _ _ _ _ _ _ _ _, fun i j hi => by omega, fun i j hi => by omega, fun i j i' j' hi => by omega, below_new w _, by simp⟩
  case round =>
    obtain ⟨k, hk, rfl, HI⟩ := hrel
    by_cases hlt : k < nb
    · obtain rfl := HAB.out (by omega)
      obtain ⟨v, gn', cn', gt', ct', F, hv, hf, hBks, hF, hQ, hI, hbl, hgl⟩ := HI.out
      have hMr := HM.out.next hbl
      obtain ⟨⟨x0, x1, x2, x3, x4⟩, x5, _⟩ := hMr.1.2.2.2.2.1 k hlt
      have x6 := (hMr.2.1 k hlt).1
      have hnk := HNp.out k hlt
      rw [hnk] at x5 x6
      have hRk := hMr.1.2.2.2.2.1 k hlt
      have hTk := hMr.2.1 k hlt
      rw [hnk] at hRk hTk
      have HRk := Lib.hid hRk
      have HTk := Lib.hid hTk
      have HPk := HPQ.out k hlt
      have HPK := Lib.hid HPk
      have hml : nb ≤ 16 := hn16
      clear hRk hTk hnk HPk
      have HMr := Lib.hid hMr
      have HBks := Lib.hid hBks
      have HF := Lib.hid hF
      have HQ := Lib.hid hQ
      have HIn := Lib.hid hI
      have HBL := Lib.hid hbl
      have HVL : Hid (wr.cell? ⟨w.heap.size, 0, none⟩ = some v) := hv
      clear hBks hF hQ hI hbl hMr
      go_wp2_with fail
      have HRT : Hid (∀ wx, Below wr.heap.size wr wx → wx.cell? ⟨wr.heap.size, 0, none⟩ = some (.string ⟨(R k).nm.toArray⟩) → wx.cell? ⟨wr.heap.size, 1, none⟩ = some (.int .i64 (R k).fr) → wx.cell? ⟨wr.heap.size, 2, none⟩ = some (.int .i64 (R k).sz) → wx.cell? ⟨wr.heap.size, 3, none⟩ = some (.bool (R k).wr) → wx.cell? ⟨wr.heap.size, 4, none⟩ = some (.bool (R k).ex) → wx.cell? ⟨wr.heap.size, 5, none⟩ = some (.slice (some ⟨gn k, 0, none⟩) (pgs (R k)) (cn k)) → wx.cell? ⟨wr.heap.size, 6, none⟩ = some (.slice (some ⟨gt k, 0, none⟩) (pgs (R k)) (ct k)) →
          RdH wx (wr.heap.size + 1) wr.heap.size 0 (gn k) (pgs (R k)) (cn k) (R k) (P k) (C k) ∧ ThH wx (wr.heap.size + 1) wr.heap.size 0 (gt k) (pgs (R k)) (ct k) (Q k) (D k)) := by
        intro wx hb c0 c1 c2 c3 c4 c5 c6
        have hG : G ≤ wr.heap.size := Nat.le_trans HM.out.1.2.2.2.2.2 (HBL.out.size)
        obtain ⟨_, _, r1, r2, r3, r4, r5⟩ := HRk.out
        obtain ⟨_, t1, t2⟩ := HTk.out
        exact ⟨⟨⟨c0, c1, c2, c3, c4⟩, c5, by omega, by omega, r3, r4, fun j hj => ⟨(hb.cell (cell_lt (r5 j hj).1)).trans (r5 j hj).1, (r5 j hj).2.1.next hb (r5 j hj).2.1.lt, by have := (r5 j hj).2.2; omega⟩⟩,
          ⟨c6, by omega, fun j hj => ⟨(hb.cell (cell_lt (t2 j hj).1)).trans (t2 j hj).1, (t2 j hj).2.1.next hb (t2 j hj).2.1.lt, by have := (t2 j hj).2.2; omega⟩⟩⟩
      generalize hw4 : wr.alloc _ = w4
      have hb4 : Below wr.heap.size wr w4 := by rw [← hw4]; exact below_new wr _
      have hs4 : w4.heap.size = wr.heap.size + 1 := by rw [← hw4]; simp
      have hv4 : w4.cell? ⟨w.heap.size, 0, none⟩ = some v := (hb4.cell (cell_lt hv)).trans hv
      have hf4 : w4.frozen? ⟨w.heap.size, 0, none⟩ = false := (hb4.frozen (p := ⟨w.heap.size, 0, none⟩) hgl).trans hf
      have hRT4 := HRT.out w4 hb4 (by rw [← hw4]; simp [go_sem]) (by rw [← hw4]; simp [go_sem]) (by rw [← hw4]; simp [go_sem]) (by rw [← hw4]; simp [go_sem]) (by rw [← hw4]; simp [go_sem]) (by rw [← hw4]; simp [go_sem]) (by rw [← hw4]; simp [go_sem])
      have HRT4 : Hid (∀ wx, Below w4.heap.size w4 wx → RdH wx (wr.heap.size + 1) wr.heap.size 0 (gn k) (pgs (R k)) (cn k) (R k) (P k) (C k) ∧ ThH wx (wr.heap.size + 1) wr.heap.size 0 (gt k) (pgs (R k)) (ct k) (Q k) (D k)) := fun wx hb => ⟨hRT4.1.next hb (by omega), hRT4.2.next hb (by omega) (by omega)⟩
      have HBks4 := Lib.hid (HBks.out.next hb4)
      have HBL4 : Hid (Below w.heap.size w w4) := HBL.out.trans (hb4.mono (Nat.le_of_lt hgl))
      have HGL := Lib.hid hgl
      have HS4 := Lib.hid hs4
      have hfar : v.ownBlock ≠ some w.heap.size ∧ v.ownBlock ≠ some wr.heap.size := ⟨fun e => by have := (HBks.out.2.2.2.1 _ e).1; omega, fun e => by have := (HBks.out.2.2.2.1 _ e).2.1; omega⟩
      have HFar := Lib.hid hfar
      obtain ⟨i0, hi, hz0, hz1, hz2⟩ := info_parts infoBk
      have HOwn1 : Hid (∀ w5 o, Below w4.heap.size w4.drew w5 → (w5.alloc o).ownsRow (w.heap.size + 1) 69 7 v k (fl (fun i => bkC (R i) (pgs (R i)) (gn' i) (cn' i) (gt' i) (ct' i)) k)) := fun w5 o h5 => (HBks4.out.next ((((Below.refl w4.heap.size w4).drew).trans h5).alloc h5.size _)).1
      clear hw4 hb4 hv hf x0 x1 x2 x3 x4 x5 x6 hgl hs4 hfar hRT4
      have hne4 : w.heap.size ≠ wr.heap.size := by have := HGL.out; omega
      have hl4 : w.heap.size < w4.heap.size := cell_lt hv4
      have HV4 := Lib.hid (And.intro hv4 (And.intro hf4 hl4))
      clear hl4
      go_region_law
        (first
          | (go_simp; go_at_call 29; refine (c_bclone (wr.heap.size + 1) wr.heap.size 0 (gn k) (gt k) (pgs (R k)) (cn k) (ct k) (R k) (P k) (Q k) (C k) (D k) _ (HRT4.out _ (Below.refl _ _).drew).1 (HRT4.out _ (Below.refl _ _).drew).2 (by have := HS4.out; show wr.heap.size + 1 ≤ w4.heap.size; omega)).mono ?_; rintro e w5 ⟨g, g', n1, n1', f, rfl, hk5, e1, e2, e3, hb5⟩
             have hv5 : w5.cell? ⟨w.heap.size, 0, none⟩ = some v := (hb5.cell (p := ⟨w.heap.size, 0, none⟩) HV4.out.2.2).trans HV4.out.1
             have hf5 : w5.frozen? ⟨w.heap.size, 0, none⟩ = false := (hb5.frozen (p := ⟨w.heap.size, 0, none⟩) HV4.out.2.2).trans HV4.out.2.1
             have HL5 : Hid (w.heap.size < w5.heap.size) := cell_lt hv5
             have ha5 : ∀ o, (w5.alloc o).cell? ⟨w.heap.size, 0, none⟩ = some v := fun o => ((below_new w5 o).cell (p := ⟨w.heap.size, 0, none⟩) HL5.out).trans hv5)
          | (refine step_append_lies _ (by rfl) _ _ _ (by rfl) (w.heap.size + 1) 69 i0 _ 7 88 Try.underlying64 hi hz0 hz1 hz2 rfl (by decide) v k _ (by rfl) (HOwn1.out _ _ (by exact hb5)) ⟨w5.heap.size, 0, none⟩ 1 1 (bkC (R k) (pgs (R k)) g n1 g' n1') (by rfl) rfl (World.news_of_block (heap_alloc_new w5 _)) (bkC_one _ _ _ _ _ _) (by decide) (by unfold maxLen; omega) (by omega) (by have := HL5.out; simp; omega) (w5.heap.size + 1) (by simp) ?_
             intro g9 cap9 w9 hown hgrow hat hlt9
             have hv9 : w9.cell? ⟨w.heap.size, 0, none⟩ = some v := (hgrow.cell_far ⟨w.heap.size, 0, none⟩ (by have := HL5.out; simp; omega) (Ne.symm HFar.out.1)).trans (((below_new w5 _).cell (p := ⟨w.heap.size, 0, none⟩) HL5.out).trans hv5)
             have hf9 : w9.frozen? ⟨w.heap.size, 0, none⟩ = false := (hgrow.frozen_far ⟨w.heap.size, 0, none⟩ (by have := HL5.out; simp; omega) (Ne.symm HFar.out.1)).trans (((below_new w5 _).frozen (p := ⟨w.heap.size, 0, none⟩) HL5.out).trans hf5)))
      all_goals
        have HN9 : Hid (CvInv w (w9.setCell ⟨w.heap.size, 0, none⟩ (.slice (some ⟨g9, 0, none⟩) (k + 1) cap9)) w.heap.size (k + 1) R P Q C D) := CvInv_push HBks4.out HF.out HQ.out HIn.out HBL4.out HV4.out.2.2 HPK.out (by exact hk5) (by exact e1) (by exact e3) (by exact hb5) hown hgrow hat hlt9 hv9 hf9
        clear hk5 e1 e2 e3 hb5 hown hgrow hat hlt9 hv5 hf5 ha5 hv4 hf4
        go_wp2_with fail
        go_roundw
        case rel => exact ⟨k + 1, by omega, by go_num, HN9⟩
        case measure => simp [intOf]; omega
    · have hge : decide (k < nb) = false := by simp; omega
      obtain rfl : k = nb := by omega
      clear hk hlt
      go_wp2_with fail
      go_ret
      exact ⟨rfl, HI.out⟩
/-- A clone under way is a memory when it is done: it shares no page that either may write. -/
theorem CvInv.two {w w' : World} {G gm gb nb cap : Nat} {R : Nat → Rg} {gn gt np cn ct : Nat → Nat} {P Q : Nat → Nat → Nat} {C D : Nat → Nat → Nat → Int} (hM : MS w G gm gb nb cap R gn gt np cn ct P Q C D) (hnp : ∀ i, i < nb → np i = pgs (R i)) (hok : okTo R nb = true)
    (ht : ∀ i j k, i < nb → j < np i → k < 4096 → (R i).sz ≤ ((j * 4096 + k : Nat) : Int) → C i j k = D i j k) {N : Nat} (hN : ∀ b, Mut nb gn gt np P Q b → N ≤ b) (hNs : N ≤ w.heap.size) (h : CvInv w w' w.heap.size nb R P Q C D) :
    Two w' N gm w.heap.size nb R C D C D := by
  obtain ⟨v, gn', cn', gt', ct', F, hv, hf, hBks, hF, hQ, hI, hbl, hgl⟩ := h
  have hlt := hM.foot_lt
  have hrg := hM.1.2.2.2.1
  obtain ⟨gb', cap', hMS, hgb'⟩ := MS.of_bks hv hBks hM.1.2.2.1 hrg (fun i j hi hj hne i' j' hi' hj' => by
    have hnew : w.heap.size < F i j := by
      rcases hF i j hi hj with ⟨x1, x2, _⟩ | ⟨_, x2⟩
      · exact absurd (x1.trans x2) hne
      · exact x2
    refine ⟨by have := hQ i' j' hi' hj'; omega, fun e => ?_⟩
    have h1 := hI i j i' j' hi hj hi' hj' e.symm hnew
    exact ⟨h1.1.symm, h1.2.symm⟩)
  have hM' := hM.next hbl
  have hBA := fun i hi => hBks.2.1 i hi
  refine ⟨Foot gm gb nb gn gt np P Q, Mut nb gn gt np P Q, Foot w.heap.size gb' nb gn' gt' (fun i => pgs (R i)) F Q, Mut nb gn' gt' (fun i => pgs (R i)) F Q,
    ⟨G, gb, cap, gn, gt, np, cn, ct, P, Q, hM', hnp, hok, fun b hb => hb, fun b hb => hb, ht⟩,
    ⟨_, gb', cap', gn', gt', _, cn', ct', F, Q, hMS, fun i hi => rfl, hok, fun b hb => hb, fun b hb => hb, fun i j k hi hj => ht i j k hi (by rw [hnp i hi]; exact hj)⟩,
    fun b hb => Nat.lt_of_lt_of_le (hlt b hb) (Nat.le_of_lt hgl), fun b hb => hMS.foot_lt b hb, fun b hb hB => ?_, fun b hb hA => ?_, hN, fun b hb => ?_, by omega⟩
  · -- what the elder may write, the clone does not stand in
    have hbl' : b < w.heap.size := hlt b hb.foot
    have hq : ∀ i' j', i' < nb → j' < pgs (R i') → b ≠ Q i' j' := by
      intro i' j' hi' hj' e
      have hj2 : j' < np i' := by rw [hnp i' hi']; exact hj'
      obtain ⟨a0, a1, a2, a3, a4⟩ := hM.2.2.2
      rcases hb with ⟨i, hi, e1 | e1⟩ | ⟨i, j, hi, hj, hne, e1⟩
      · exact ((a3 i' j' hi' hj2).2 i hi).2.2.1 (e.symm.trans e1)
      · exact ((a3 i' j' hi' hj2).2 i hi).2.2.2 (e.symm.trans e1)
      · exact (a4 i j hi hj hne i' j' hi' hj2).1 (e.symm.trans e1)
    rcases hB with e | ⟨_, e⟩ | ⟨i, hi, e | e⟩ | ⟨i, j, hi, hj, e | e⟩
    · omega
    · omega
    · have := (hBA i hi).1.1; omega
    · have := (hBA i hi).2.1.1; omega
    · rcases hF i j hi hj with ⟨x1, x2, _⟩ | ⟨_, x2⟩
      · exact hq i j hi hj (e.trans (x1.trans x2))
      · omega
    · exact hq i j hi hj e
  · have hbl' : b < w.heap.size := hlt b hA
    rcases hb with ⟨i, hi, e | e⟩ | ⟨i, j, hi, hj, hne, e⟩
    · have := (hBA i hi).1.1; omega
    · have := (hBA i hi).2.1.1; omega
    · rcases hF i j hi hj with ⟨x1, x2, _⟩ | ⟨_, x2⟩
      · exact hne (x1.trans x2)
      · omega
  · rcases hb with ⟨i, hi, e | e⟩ | ⟨i, j, hi, hj, hne, e⟩
    · have := (hBA i hi).1.1; omega
    · have := (hBA i hi).2.1.1; omega
    · rcases hF i j hi hj with ⟨x1, x2, _⟩ | ⟨_, x2⟩
      · exact absurd (x1.trans x2) hne
      · omega
/-- Clone: a memory that tells the same; neither writes where the other stands. -/
theorem c_mClone (A M : Nat → Prop) (N gm nb : Nat) (R : Nat → Rg) (C D : Nat → Nat → Nat → Int) (w : World) (hM : Mm w A M gm nb R C D) (hN : ∀ b, M b → N ≤ b) (hNs : N ≤ w.heap.size) :
    Calls Try.prog 12 #[.pointer (some ⟨gm, 0, none⟩)] w fun e w' => e = .returned (.pointer (some ⟨w.heap.size, 0, none⟩)) ∧ Two w' N gm w.heap.size nb R C D C D ∧ Below w.heap.size w w' := by
  obtain ⟨G, gb, cap, gn, gt, np, cn, ct, P, Q, h1, h2, h3, h4, h5, h6⟩ := hM
  refine (c_MClone G gm gb nb cap R gn gt np cn ct P Q C D w h1 h2).mono ?_
  rintro e w' ⟨rfl, hI⟩
  refine ⟨rfl, hI.two h1 h2 h3 h6 (fun b hb => hN b (h4 b hb)) hNs, ?_⟩
  obtain ⟨_, _, _, _, _, _, _, _, _, _, _, _, hbl, _⟩ := hI
  exact hbl
end Go.Proofs.Ytbfimedgichiiaa
