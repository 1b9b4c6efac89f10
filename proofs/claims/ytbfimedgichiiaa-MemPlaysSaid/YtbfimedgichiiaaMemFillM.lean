/-
  The contract of fill over several pages, in the code.
-/
import Derived.Test.YtbfimedgichiiaaMemWorks
namespace Go.Proofs.Ytbfimedgichiiaa
set_option linter.unusedVariables false
set_option linter.unusedSimpArgs false
set_option maxRecDepth 100000
open Go.ChangeShapes Go.WideShapes Go.ChangeAt Go.RowKit

theorem upd2_self {A : Type} (C : Nat → Nat → A) (i j : Nat) : upd2 C i j (C i j) = C := by
  funext a b
  unfold upd2
  split
  · rename_i h; rw [h.1, h.2]
  · rfl
theorem Fro.trans {w w1 w2 : World} {gm gb nb : Nat} {gn gt np : Nat → Nat} {P P1 P2 Q : Nat → Nat → Nat} (h : Fro w w1 gm gb nb gn gt np P P1 Q) (k : Fro w1 w2 gm gb nb gn gt np P1 P2 Q) : Fro w w2 gm gb nb gn gt np P P2 Q := by
  have hs := h.1.size
  have h1 : Fr (fun b => Mut nb gn gt np P Q b ∨ w.heap.size ≤ b) w w1 := h.1.weak (fun b _ e => .inl e)
  have k1 : Fr (fun b => Mut nb gn gt np P Q b ∨ w.heap.size ≤ b) w1 w2 := k.1.weak (fun b _ e => h.2.1 b e)
  refine ⟨(h1.trans k1).weak (fun b hb e => e.resolve_right (by omega)), fun b e => ?_, fun b e => ?_⟩
  · rcases k.2.1 b e with e | e
    · exact h.2.1 b e
    · exact .inr (by omega)
  · rcases k.2.2 b e with e | e
    · exact h.2.2 b e
    · exact .inr (by omega)
theorem Fro.of_below {w w' : World} {gm gb nb : Nat} {gn gt np : Nat → Nat} {P Q : Nat → Nat → Nat} (h : Below w.heap.size w w') : Fro w w' gm gb nb gn gt np P P Q := ⟨Fr.of_below h, fun b e => .inl e, fun b e => .inl e⟩
/-- A page of one's own, of a memory that is whole. -/
theorem c_ownM (G gm gb nb cap : Nat) (R : Nat → Rg) (gn gt np cn ct : Nat → Nat) (P Q : Nat → Nat → Nat) (C D : Nat → Nat → Nat → Int) (w : World) (hM : MS w G gm gb nb cap R gn gt np cn ct P Q C D) (i j : Nat) (hi : i < nb) (hj : j < np i) :
    Calls Try.prog 61 #[.pointer (some ⟨gb, i * 7, none⟩), .int .i64 j] w fun e w' => ∃ G' P', e = .returned (.pointer (some ⟨P' i j, 0, none⟩)) ∧ MS w' G' gm gb nb cap R gn gt np cn ct P' Q C D ∧ P' i j ≠ Q i j ∧ Fro w w' gm gb nb gn gt np P P' Q := by
  obtain ⟨_, y5, _, hgn, y8, _, y10⟩ := hM.1.2.2.2.2.1 i hi
  obtain ⟨p1, p2, p3⟩ := y10 _ hj
  obtain ⟨t0, t1, t2⟩ := hM.2.1 i hi
  obtain ⟨q1, q2, q3⟩ := t2 _ hj
  have hG := hM.1.2.2.2.2.2
  by_cases e : P i j = Q i j
  · refine (c_own_same gb (i * 7) (gn i) (gt i) (P i j) j (C i j) w ⟨np i, cn i, np i, ct i, hj, y8, hj, y8, y5, t0, p1, by rw [e]; exact q1⟩ p2 (hM.2.2.1 i j hi).1 (fun ee => (hM.2.2.2.2.1 i hi).2.1 ee.symm)).mono ?_
    rintro e' w' ⟨rfl, cs, n, hcs, hw'⟩
    have hlt : gn i < w.heap.size := by omega
    have hrow : w'.heap[w.heap.size]? = some (.cells cs 97 (0, 0)) := by
      rw [hw', Below.heap_setCell _ _ _ _ (by show w.heap.size ≠ gn i; omega), ← drewN_heap w n]
      exact heap_alloc_new _ _
    have hb0 : Below w.heap.size w ((w.drewN n).alloc (.cells cs 97)) := (below_drewN (Below.refl _ _) n).alloc (by rw [drewN_heap]; exact Nat.le_refl _) _
    have hgr : w.grownBy w' (some (gn i)) := by
      rw [hw']
      exact ⟨hb0.os, hb0.tape, hb0.output, by simp [World.setCell], fun b hb hne => (Below.heap_setCell _ _ _ b (fun e => hne (by rw [e]))).trans (hb0.block b hb)⟩
    have hcell : w'.cell? ⟨gn i, j, none⟩ = some (.pointer (some ⟨w.heap.size, 0, none⟩)) := by
      rw [hw']
      exact World.cell?_setCell_same _ _ _ ((far_cell _ _ _ _ _ hlt).trans p1)
    have hoth : ∀ k, k ≠ j → w'.cell? ⟨gn i, k, none⟩ = w.cell? ⟨gn i, k, none⟩ := fun k hk => by
      rw [hw', World.cell?_setCell_other _ _ _ _ (fun e => by injection e with _ e; exact hk e.symm), far_cell _ _ _ _ _ hlt]
    have hfz : ∀ k, w'.frozen? ⟨gn i, k, none⟩ = false := fun k => by
      rw [hw', World.frozen?_setCell, far_frozen _ _ _ _ _ hlt]
      exact (hM.2.2.1 i k hi).1
    have hMS := hM.shared hi hj (Nat.le_refl _) ⟨cs, _, hrow, hcs⟩ hcell hoth hfz hgr
    rw [upd2_self] at hMS
    refine ⟨_, _, by rw [upd2_at], hMS, by rw [upd2_at]; omega, Fr.of_grown hgr (.inl ⟨i, hi, .inl rfl⟩), fun b hb => (Mut.upd hb).imp id (fun e => by omega), fun b hb => (Foot.upd hb).imp id (fun e => by omega)⟩
  · refine (c_own_other gb (i * 7) (gn i) (gt i) (P i j) (Q i j) j (C i j) (D i j) w ⟨np i, cn i, np i, ct i, hj, y8, hj, y8, y5, t0, p1, q1⟩ p2 q2 e).mono ?_
    rintro e' w' ⟨rfl, n, rfl⟩
    have hb := below_drewN (Below.refl w.heap.size w) n
    exact ⟨G, P, rfl, hM.next hb, e, Fro.of_below hb⟩
/-- The bytes with n of them put in from a place on. -/
def PutIs (C C' : Nat → Nat → Nat → Int) (i x n : Nat) (z : Nat → Int) : Prop := ∀ i' y, byte C' i' y = if i' = i ∧ x ≤ y ∧ y < x + n then z (y - x) else byte C i' y
theorem PutIs.zero (C : Nat → Nat → Nat → Int) (i x : Nat) (z : Nat → Int) : PutIs C C i x 0 z := fun i' y => by rw [if_neg (by omega)]
theorem PutIs.more {C C' : Nat → Nat → Nat → Int} {i x m : Nat} {z : Nat → Int} (h : PutIs C C' i x m z) (k : Nat) (hk : (x + m) % 4096 + k ≤ 4096) :
    PutIs C (upd2 C' i ((x + m) / 4096) (updP (C' i ((x + m) / 4096)) ((x + m) % 4096) k (fun q => z (m + q)))) i x (m + k) z := by
  intro i' y
  have hb : byte (upd2 C' i ((x + m) / 4096) (updP (C' i ((x + m) / 4096)) ((x + m) % 4096) k (fun q => z (m + q)))) i' y = if i' = i ∧ x + m ≤ y ∧ y < x + m + k then z (y - x) else byte C' i' y := by
    unfold byte
    by_cases e : i' = i ∧ y / 4096 = (x + m) / 4096
    · obtain ⟨rfl, e2⟩ := e
      rw [e2, upd2_at]
      unfold updP
      by_cases h2 : (x + m) % 4096 ≤ y % 4096 ∧ y % 4096 < (x + m) % 4096 + k
      · rw [if_pos h2, if_pos ⟨rfl, by omega, by omega⟩]
        show z (m + (y % 4096 - (x + m) % 4096)) = z (y - x)
        rw [show m + (y % 4096 - (x + m) % 4096) = y - x by omega]
      · rw [if_neg h2, if_neg (fun h3 => h2 ⟨by omega, by omega⟩)]
    · rw [upd2_off _ _ _ _ _ _ e, if_neg (fun h3 => e ⟨h3.1, by omega⟩)]
  rw [hb, h i' y]
  by_cases e : i' = i
  · subst e
    by_cases h1 : x + m ≤ y ∧ y < x + m + k
    · rw [if_pos ⟨rfl, h1⟩, if_pos ⟨rfl, by omega, by omega⟩]
    · rw [if_neg (fun h => h1 h.2)]
      by_cases h2 : x ≤ y ∧ y < x + m
      · rw [if_pos ⟨rfl, h2⟩, if_pos ⟨rfl, by omega, by omega⟩]
      · rw [if_neg (fun h => h2 h.2), if_neg (fun h => by omega)]
  · rw [if_neg (fun h => e h.1), if_neg (fun h => e h.1), if_neg (fun h => e h.1)]
/-- Behind bytes that were put in: the memory is whole. -/
def FillIs (w w' : World) (gm gb nb cap : Nat) (R : Nat → Rg) (gn gt np cn ct : Nat → Nat) (P Q : Nat → Nat → Nat) (C D : Nat → Nat → Nat → Int) (i x n : Nat) (z : Nat → Int) : Prop :=
  ∃ G' P' C', MS w' G' gm gb nb cap R gn gt np cn ct P' Q C' D ∧ PutIs C C' i x n z ∧ Fro w w' gm gb nb gn gt np P P' Q
set_option maxHeartbeats 8000000 in
theorem c_fillM (G gm gb nb cap : Nat) (R : Nat → Rg) (gn gt np cn ct : Nat → Nat) (P Q : Nat → Nat → Nat) (C D : Nat → Nat → Nat → Int) (a : Int) (i x n gs os cap' : Nat) (z : Nat → Int) (w : World) (hM : MS w G gm gb nb cap R gn gt np cn ct P Q C D) (hi : i < nb)
    (ha : a = (R i).fr + x) (ha2 : a ≤ 4294967295) (hx : (x : Int) + n ≤ (R i).sz) (hcap : n ≤ cap') (hcm : cap' ≤ 9223372036854775807) (hS : Src w gs os n z) (hgs : 0 < n → ¬ Mut nb gn gt np P Q gs) (hz : ∀ k, k < n → 0 ≤ z k ∧ z k ≤ 255) :
    Calls Try.prog 31 #[.pointer (some ⟨gb, i * 7, none⟩), .int .u32 a, .slice (some ⟨gs, os, none⟩) n cap'] w fun e w' => e = .returned (.tuple #[]) ∧ FillIs w w' gm gb nb cap R gn gt np cn ct P Q C D i x n z := by
  have HM := Lib.hid hM
  have hbd := rg_bd (hM.1.2.2.2.1 i hi)
  obtain ⟨⟨y0, y1, y2, y3, y4⟩, _, _, _, hnp8, hnp9, _⟩ := hM.1.2.2.2.2.1 i hi
  have HS := Lib.hid hS
  have HGs := Lib.hid hgs
  have HZ := Lib.hid hz
  have HX := Lib.hid (show x + n ≤ np i * 4096 ∧ x + n ≤ 16777216 by omega)
  have HA := Lib.hid ha
  have HBd := Lib.hid hbd
  clear hM hS hgs hz ha hnp8 hnp9
  go_enter Try.func31, Try.ntmps31
  go_wp2_with fail
  have haa := HA.out
  refine (c_place _ _ _ _ _ _ _ (by omega) (by omega) (by omega) (by omega)).mono ?_
  rintro e w1 ⟨rfl, hb1⟩
  rw [show a - (R i).fr = (x : Int) by omega]
  have HB1 := Lib.hid hb1
  clear hbd y0 y1 y2 y3 y4 hb1 haa ha2 hx
  go_wp2_with fail
  go_loopw [2, 6] (fun l p wr => ∃ (m : Nat) (A : Option Addr), m ≤ n ∧ l = .slice A (n - m) (cap' - m) ∧ p = .int .i64 ((x + m : Nat) : Int) ∧ Hid (m < n → A = some ⟨gs, os + m, none⟩) ∧ Hid (FillIs w wr gm gb nb cap R gn gt np cn ct P Q C D i x m z)) (fun l _ _ => match l with | .slice _ k _ => k | _ => 0)
  case atStart => exact ⟨0, _, Nat.zero_le _, rfl, rfl, fun _ => rfl, G, P, C, HM.out.next HB1.out, PutIs.zero C i x z, Fro.of_below HB1.out⟩
  case round =>
    obtain ⟨m, A, hm, rfl, rfl, HAd, HF⟩ := hrel
    by_cases hlt : m < n
    · obtain rfl := HAd.out hlt
      obtain ⟨G', P', C', hMr, hPut, hFro⟩ := HF.out
      have hxx := HX.out
      have hj : (x + m) / 4096 < np i := by omega
      have HMr := Lib.hid hMr
      have HPut := Lib.hid hPut
      have HFro := Lib.hid hFro
      have hnm : 0 < n - m := by omega
      have hdv : ((x + m : Nat) : Int) / 4096 = (((x + m) / 4096 : Nat) : Int) := by omega
      have hxm : x + m ≤ 16777216 := by omega
      clear hMr hPut hFro hxx
      go_wp2_with fail
      rw [show ((x : Int) + (m : Int)) / 4096 = (((x + m) / 4096 : Nat) : Int) by omega]
      refine (c_ownM G' gm gb nb cap R gn gt np cn ct P' Q C' D _ HMr.out i ((x + m) / 4096) hi hj).mono ?_
      rintro e w2 ⟨G2, P2, rfl, hM2, hne2, hFro2⟩
      obtain ⟨pp, hpp⟩ : ∃ pp, P2 i ((x + m) / 4096) = pp := ⟨_, rfl⟩
      obtain ⟨cs, T, hrow, hcs⟩ := ((hM2.1.2.2.2.2.1 i hi).2.2.2.2.2.2 _ hj).2.1
      rw [hpp] at hrow
      have HRow := Lib.hid hrow
      have HCs := Lib.hid hcs
      have HM2 := Lib.hid hM2
      have HNe := Lib.hid hne2
      have HPP := Lib.hid hpp
      have HFr2 : Hid (Fro w w2 gm gb nb gn gt np P P2 Q) := HFro.out.trans hFro2
      obtain ⟨k, hk⟩ : ∃ k, k = min (n - m) (4096 - (x + m) % 4096) := ⟨_, rfl⟩
      have hml := Nat.mod_lt (x + m) (show 0 < 4096 by decide)
      have HK : Hid (0 < k ∧ k ≤ n - m ∧ (x + m) % 4096 + k ≤ 4096 ∧ k ≤ 4096) := by show _ ∧ _; omega
      have HMin : Hid ((newsP k (fun q => z (m + q))).length = Nat.min (n - m) (4096 - (x + m) % 4096)) := by show _ = _; rw [newsP_len, hk]
      have HFit : Hid ((x + m) % 4096 + (newsP k (fun q => z (m + q))).length ≤ cs.size) := by show _ ≤ _; rw [newsP_len, hcs.1]; exact HK.out.2.2.1
      have HSrc : Hid (∀ j v, (newsP k (fun q => z (m + q)))[j]? = some v → w2.cell? ((⟨gs, os + m, none⟩ : Addr).add j) = some v) := by
        have h : Src w2 gs (os + m) k (fun q => z (m + q)) := fun q hq => by
          have h0 := HS.out (m + q) (by have := HK.out.2.1; omega)
          rw [show os + m + q = os + (m + q) by omega]
          exact (World.cell?_of_block (a := ⟨gs, os + (m + q), none⟩) (HFr2.out.1.block gs (cell_lt h0) (HGs.out (by omega)))).trans h0
        exact h.at_
      have hsl := slice_page pp ((x + m) % 4096) (((x : Int) + (m : Int)) % 4096) (by omega) hml
      obtain ⟨A3, hA3, hs3⟩ := slice_from gs (os + m) (n - m) (cap' - m) k HK.out.2.1 (by omega)
      have HA3 := Lib.hid hA3
      have hk4 : k ≤ 4096 := HK.out.2.2.2
      rw [hpp]
      clear hrow hcs hM2 hne2 hpp hFro2 hk hA3
      go_wp2_with (with_reducible refine wpList_copy_own rfl (.tmp 24) (.tmp 25) 37 37 rfl 5 Try.underlying37 u8_size pp ((x + m) % 4096) (4096 - (x + m) % 4096) (4096 - (x + m) % 4096) ⟨gs, os + m, none⟩ (n - m) (cap' - m) rfl rfl cs T HRow.out (newsP k (fun q => z (m + q))) HMin.out HSrc.out HFit.out (newsP_one _ _) ?_)
      simp only [newsP_len]
      go_quiet (fail)
      go_wp2_with fail
      have hpg2 := upd_pg HCs.out ((x + m) % 4096) k (fun q => z (m + q)) HK.out.2.2.1 (fun q hq => HZ.out _ (by have := HK.out.2.1; omega))
      rw [newsP_len] at hpg2
      go_roundw
      case rel =>
        have hkk := HK.out
        refine ⟨m + k, A3, by omega, ?_, by go_num, ?_, ?_⟩
        · rw [show n - (m + k) = n - m - k by omega, show cap' - (m + k) = cap' - m - k by omega]
        · intro hlt2
          rw [HA3.out (by omega), Nat.add_assoc]
        · have hgr := grown_drewN (grown_setRow (World.grownBy.refl w2 (some pp)) (((cs.toList.take ((x + m) % 4096) ++ (newsP k (fun q => z (m + q)) ++ cs.toList.drop ((x + m) % 4096 + k))).toArray))) nq
          have hpg : Pg _ pp (updP (C' i ((x + m) / 4096)) ((x + m) % 4096) k (fun q => z (m + q))) := Pg.drewN ⟨_, T, setRow_heap _ pp cs _ T (0, 0) HRow.out, hpg2⟩ nq
          have hMS := HM2.out.own hi hj HNe.out (by rw [HPP.out]; exact hpg) (by rw [HPP.out]; exact hgr)
          have hl2 : (x + m) / 4096 < np i := hj
          exact ⟨_, _, _, hMS, HPut.out.more k hkk.2.2.1, HFr2.out.trans ⟨Fr.of_grown hgr (.inr ⟨i, _, hi, hl2, HNe.out, HPP.out.symm⟩), fun b hb => .inl hb, fun b hb => .inl hb⟩⟩
      case measure => simp; have := HK.out; omega
    · obtain rfl : m = n := by omega
      have hz : m - m = 0 := by omega
      rw [hz]
      clear hlt hm
      go_wp2_with fail
      go_end0
      exact ⟨rfl, HF.out⟩
end Go.Proofs.Ytbfimedgichiiaa
