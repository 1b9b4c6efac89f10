/-
  The contracts of mark and Mark, in the code.
-/
import Derived.Test.YtbfimedgichiiaaMemHoldsWalk
import Derived.Laws.IdiomCopy
import Derived.Deep.RegionHeld3
namespace Go.Proofs.Ytbfimedgichiiaa
set_option linter.unusedVariables false
set_option linter.unusedSimpArgs false
set_option maxRecDepth 100000
open Go.ChangeShapes Go.WideShapes Go.ChangeAt Go.RowKit

theorem sc_blk (b i : Nat) (h : i ≠ b) : ∀ (vs : List Value) (o : Nat) (w : World), (w.setCells b o vs).heap[i]? = w.heap[i]?
  | [], _, _ => rfl
  | v :: r, o, w => by
    rw [World.setCells, sc_blk b i h r (o + 1) _]
    exact Below.heap_setCell w ⟨b, o, none⟩ v i (fun e => h e)
theorem sc_size (b : Nat) : ∀ (vs : List Value) (o : Nat) (w : World), (w.setCells b o vs).heap.size = w.heap.size
  | [], _, _ => rfl
  | v :: r, o, w => by
    rw [World.setCells, sc_size b r (o + 1) _]
    simp [World.setCell]
theorem sc_os (b : Nat) : ∀ (vs : List Value) (o : Nat) (w : World), (w.setCells b o vs).os = w.os ∧ (w.setCells b o vs).tape = w.tape ∧ (w.setCells b o vs).output = w.output
  | [], _, _ => ⟨rfl, rfl, rfl⟩
  | v :: r, o, w => by
    rw [World.setCells]
    exact sc_os b r (o + 1) (w.setCell ⟨b, o, none⟩ v)
theorem sc_frozen (b : Nat) (a : Addr) : ∀ (vs : List Value) (o : Nat) (w : World), (w.setCells b o vs).frozen? a = w.frozen? a
  | [], _, _ => rfl
  | v :: r, o, w => by rw [World.setCells, sc_frozen b a r (o + 1) _, World.frozen?_setCell]
theorem sc_low (b k : Nat) : ∀ (vs : List Value) (o : Nat) (w : World), k < o → (w.setCells b o vs).cell? ⟨b, k, none⟩ = w.cell? ⟨b, k, none⟩
  | [], _, _, _ => rfl
  | v :: r, o, w, h => by
    rw [World.setCells, sc_low b k r (o + 1) _ (by omega)]
    exact World.cell?_setCell_other _ _ _ _ (fun e => by injection e with _ e; omega)
theorem sc_cell (b : Nat) : ∀ (vs : List Value) (o : Nat) (w : World), (∀ j, j < vs.length → (w.cell? ⟨b, o + j, none⟩).isSome = true) → ∀ j v, vs[j]? = some v → (w.setCells b o vs).cell? ⟨b, o + j, none⟩ = some v
  | [], _, _, _, j, v, h => by simp at h
  | x :: r, o, w, hc, j, v, h => by
    rw [World.setCells]
    cases j with
    | zero =>
      obtain rfl : x = v := by simpa using h
      have h0 := hc 0 (by simp)
      obtain ⟨u, hu⟩ := Option.isSome_iff_exists.1 h0
      rw [Nat.add_zero] at hu
      show ((w.setCell ⟨b, o, none⟩ x).setCells b (o + 1) r).cell? ⟨b, o, none⟩ = some x
      rw [sc_low b o r (o + 1) _ (by omega)]
      exact World.cell?_setCell_same _ _ _ hu
    | succ j =>
      have := sc_cell b r (o + 1) (w.setCell ⟨b, o, none⟩ x) (fun i hi => by
        have h1 := hc (i + 1) (by simp; omega)
        rw [show o + (i + 1) = o + 1 + i by omega] at h1
        rw [World.cell?_setCell_other _ _ _ _ (fun e => by injection e with _ e; omega)]
        exact h1) j v (by simpa using h)
      rw [show o + (j + 1) = o + 1 + j by omega]
      exact this
/-- copy at a step of a region, where its run is known. -/
theorem step_copy_run {P : Program} {ops : Array Oper} {w : World} {o : Oper} {a : Act} {K : Act → World → Prop} {Q : Exit → Act → World → Prop} {E : Prop} (hgd : o.guard = none) (d s : Operand) (t t' : TypeId)
    (ho : o.op = .call { callee := .builtin .copy, args := #[d, s], argTypes := #[t, t'] }) (v u : Value) (hd : a.eval d = v) (hs : a.eval s = u) {v' : Value} {w' : World}
    (hr : (Builtin.copy_ #[t, t'] o.type #[v, u]).run P w = .ok v' w') (h : K (a.put o.dst v') w') : if Region.wanted o (yielded ops a.tmps) = true then Oper.wp P o a w K Q else E := by
  have hw : Region.wanted o (yielded ops a.tmps) = true := by simp [Region.wanted, hgd]
  rw [if_pos hw]
  unfold Oper.wp execOp
  simp only [ho, resolve, invoke, builtin, Sem.run_bind, Sem.run_pure, Result.andThen_ok, List.map_toArray, List.map_cons, List.map_nil, hd, hs, hr]
  exact h
/-- Behind mark: the row of then is that of now, and nothing else. -/
def MkIs (w w' : World) (gt n : Nat) (P : Nat → Nat) : Prop := Fr (fun b => b = gt) w w' ∧ (∀ k, w'.frozen? ⟨gt, k, none⟩ = w.frozen? ⟨gt, k, none⟩) ∧ ∀ j, j < n → w'.cell? ⟨gt, j, none⟩ = some (.pointer (some ⟨P j, 0, none⟩))
set_option maxHeartbeats 2000000 in
theorem c_mark (gb o gn gt n cn ct : Nat) (P Q : Nat → Nat) (w : World) (hn : n ≤ 4096) (h5 : w.cell? ⟨gb, o + 5, none⟩ = some (.slice (some ⟨gn, 0, none⟩) n cn)) (h6 : w.cell? ⟨gb, o + 6, none⟩ = some (.slice (some ⟨gt, 0, none⟩) n ct)) (hne : gb ≠ gt)
    (hP : ∀ j, j < n → w.cell? ⟨gn, j, none⟩ = some (.pointer (some ⟨P j, 0, none⟩))) (hQ : ∀ j, j < n → w.cell? ⟨gt, j, none⟩ = some (.pointer (some ⟨Q j, 0, none⟩))) (hf : ∀ k, w.frozen? ⟨gt, k, none⟩ = false) :
    Calls Try.prog 32 #[.pointer (some ⟨gb, o, none⟩)] w fun e w' => e = .returned (.tuple #[]) ∧ MkIs w w' gt n P := by
  have HRun : Hid (∀ ty, (Builtin.copy_ #[67, 67] ty #[.slice (some ⟨gt, 0, none⟩) n ct, .slice (some ⟨gn, 0, none⟩) n cn]).run Try.prog w.drew = .ok (goInt n) (w.drew.setCells gt 0 (prow P n))) := by
    intro ty
    have := run_copy_cells (P := Try.prog) w.drew 67 67 ty 95 gt 0 n ct ⟨gn, 0, none⟩ n cn (prow P n) Try.underlying67 infoSz (by rw [prow_len]; show n = min n n; omega)
      (fun j v hj => by
        obtain ⟨h1, rfl⟩ := prow_get _ _ _ _ hj
        have hadd : (⟨gn, 0, none⟩ : Addr).add j = ⟨gn, j, none⟩ := by unfold Addr.add; split <;> simp_all
        rw [hadd]
        exact hP j h1)
      (fun j hj => by rw [prow_len] at hj; rw [Nat.zero_add]; rw [show w.drew.cell? ⟨gt, j, none⟩ = w.cell? ⟨gt, j, none⟩ from rfl, hQ j hj]; rfl)
      (fun j hj => hf _) (prow_one P n)
    rw [prow_len] at this
    exact this
  have HPost : Hid (MkIs w (w.drew.setCells gt 0 (prow P n)) gt n P) := by
    have hs := sc_os gt (prow P n) 0 w.drew
    refine ⟨⟨hs.1, hs.2.1, hs.2.2, by rw [sc_size]; exact Nat.le_refl _, fun b hb hn => (sc_blk gt b hn _ _ _)⟩, fun k => sc_frozen _ _ _ _ _, fun j hj => ?_⟩
    have := sc_cell gt (prow P n) 0 w.drew (fun j hj => by rw [prow_len] at hj; rw [Nat.zero_add, show w.drew.cell? ⟨gt, j, none⟩ = w.cell? ⟨gt, j, none⟩ from rfl, hQ j hj]; rfl) j _ (prow_at P n j hj)
    rw [Nat.zero_add] at this
    exact this
  have hset : ∀ k, (w.drew.setCells gt 0 (prow P n)).cell? ⟨gb, k, none⟩ = w.cell? ⟨gb, k, none⟩ := fun k => World.cell?_of_block (a := ⟨gb, k, none⟩) (sc_blk gt gb hne _ _ _)
  have HSet := Lib.hid hset
  clear hP hQ hf hset
  go_enter Try.func32, Try.ntmps32
  go_wp2_with fail
  go_region_held3 (fun w' => w'.cell? ⟨gb, o + 5, none⟩ = some (.slice (some ⟨gn, 0, none⟩) n cn) ∧ w'.cell? ⟨gb, o + 6, none⟩ = some (.slice (some ⟨gt, 0, none⟩) n ct))
    (first
      | exact ⟨h5, h6⟩
      | exact ⟨(HSet.out _).trans h5, (HSet.out _).trans h6⟩)
    (first
      | (refine step_copy_run (by rfl) _ _ 67 67 (by rfl) _ _ (by rfl) (by rfl) (HRun.out _) ?_))
  go_wp2_with fail
  go_end0
  exact ⟨rfl, HPost.out⟩
/-- A bank whose mark is laid anew: the memory is whole. -/
theorem MS.mark {w w' : World} {G gm gb nb cap : Nat} {R : Nat → Rg} {gn gt np cn ct : Nat → Nat} {P Q : Nat → Nat → Nat} {C D : Nat → Nat → Nat → Int} (h : MS w G gm gb nb cap R gn gt np cn ct P Q C D) {i : Nat} (hi : i < nb) (hk : MkIs w w' (gt i) (np i) (P i))
    (hgg : gm ≠ gb) :
    MS w' G gm gb nb cap R gn gt np cn ct P (ins Q i (P i)) C (ins D i (C i)) := by
  obtain ⟨⟨⟨⟨mA, m0, mB⟩, m1⟩, m2, m3, m4, m5, m6⟩, t, f, a0, a1, a2, a3, a4⟩ := h
  obtain ⟨hf, hz, hc⟩ := hk
  have blk : ∀ b, b < G → b ≠ gt i → w'.heap[b]? = w.heap[b]? := fun b hb hne => hf.block b (by omega) hne
  have cel : ∀ b k, b < G → b ≠ gt i → w'.cell? ⟨b, k, none⟩ = w.cell? ⟨b, k, none⟩ := fun b k hb hne => World.cell?_of_block (a := ⟨b, k, none⟩) (blk b hb hne)
  have gbG : gb < G := (m5 i hi).2.2.1
  have gmne : gm ≠ gt i := fun e => (a1 i hi).2.2.1 e.symm
  have gbne : gb ≠ gt i := fun e => (a1 i hi).2.2.2 e.symm
  have gnG : ∀ i', i' < nb → gn i' < G := fun i' h' => (m5 i' h').2.2.2.1
  have gnne : ∀ i', i' < nb → gn i' ≠ gt i := fun i' h' => (a2 i' i h' hi).1
  have pg : ∀ i' j', i' < nb → j' < np i' → P i' j' ≠ gt i ∧ Q i' j' ≠ gt i := fun i' j' h' k' => ⟨((a3 i' j' h' k').2 i hi).2.1, ((a3 i' j' h' k').2 i hi).2.2.2⟩
  refine ⟨⟨⟨⟨mA, (cel gm 0 m2 gmne).trans m0, mB⟩, fun i' h' => ?_⟩, m2, m3, m4, fun i' h' => ?_, Nat.le_trans m6 hf.size⟩, fun i' h' => ?_, fun i' k h' => ?_, a0, a1, a2, fun i' j' h' k' => ?_, fun i' j' h' k' hne => ?_⟩
  · obtain ⟨k0, k1, k2, k3, k4⟩ := m1 i' h'
    have q := fun k => cel gb k gbG gbne
    exact ⟨(q _).trans k0, (q _).trans k1, (q _).trans k2, (q _).trans k3, (q _).trans k4⟩
  · obtain ⟨⟨k0, k1, k2, k3, k4⟩, k5, k6, k7, k8, k9, k10⟩ := m5 i' h'
    have q := fun k => cel gb k gbG gbne
    refine ⟨⟨(q _).trans k0, (q _).trans k1, (q _).trans k2, (q _).trans k3, (q _).trans k4⟩, (q _).trans k5, k6, k7, k8, k9, fun j' hj' => ?_⟩
    obtain ⟨l1, l2, l3⟩ := k10 j' hj'
    exact ⟨(cel _ _ k7 (gnne i' h')).trans l1, l2.of_block (blk _ l3 (pg i' j' h' hj').1), l3⟩
  · obtain ⟨k0, k1, k2⟩ := t i' h'
    refine ⟨(cel gb _ gbG gbne).trans k0, k1, fun j' hj' => ?_⟩
    by_cases e : i' = i
    · subst e
      simp only [ins_at]
      obtain ⟨l1, l2, l3⟩ := (m5 i' h').2.2.2.2.2.2 j' hj'
      exact ⟨hc j' hj', l2.of_block (blk _ l3 (pg i' j' h' hj').1), l3⟩
    · simp only [ins_off _ _ _ _ e]
      obtain ⟨l1, l2, l3⟩ := k2 j' hj'
      exact ⟨(cel _ _ k1 (((a2 i' i h' hi).2 e).2)).trans l1, l2.of_block (blk _ l3 (pg i' j' h' hj').2), l3⟩
  · refine ⟨(World.frozen?_of_block (a := ⟨gn i', k, none⟩) (blk _ (gnG i' h') (gnne i' h'))).trans (f i' k h').1, ?_⟩
    by_cases e : i' = i
    · subst e
      exact (hz k).trans (f i' k h').2
    · exact (World.frozen?_of_block (a := ⟨gt i', k, none⟩) (blk _ (t i' h').2.1 (((a2 i' i h' hi).2 e).2))).trans (f i' k h').2
  · have o := a3 i' j' h' k'
    by_cases e : i' = i
    · subst e
      simp only [ins_at]
      exact ⟨⟨o.1.1, o.1.2.1, o.1.1, o.1.2.1⟩, fun i2 h2 => ⟨(o.2 i2 h2).1, (o.2 i2 h2).2.1, (o.2 i2 h2).1, (o.2 i2 h2).2.1⟩⟩
    · simp only [ins_off _ _ _ _ e]
      exact o
  · by_cases e : i' = i
    · subst e
      simp only [ins_at] at hne
      exact absurd rfl hne
    · simp only [ins_off _ _ _ _ e] at hne
      intro i2 j2 h2 k2
      refine ⟨?_, (a4 i' j' h' k' hne i2 j2 h2 k2).2⟩
      by_cases e2 : i2 = i
      · subst e2
        simp only [ins_at]
        exact fun ee => e ((a4 i' j' h' k' hne i2 j2 h2 k2).2 ee).1.symm
      · simp only [ins_off _ _ _ _ e2]
        exact (a4 i' j' h' k' hne i2 j2 h2 k2).1
def mkT {T : Type} (Q P : Nat → T) (k : Nat) : Nat → T := fun i => if i < k then P i else Q i
theorem mkT_zero {T : Type} (Q P : Nat → T) : mkT Q P 0 = Q := by funext i; unfold mkT; rw [if_neg (by omega)]
theorem mkT_succ {T : Type} (Q P : Nat → T) (k : Nat) : ins (mkT Q P k) k (P k) = mkT Q P (k + 1) := by
  funext i
  unfold ins mkT
  by_cases e : i = k
  · subst e; rw [if_pos rfl, if_pos (by omega)]
  · rw [if_neg e]
    by_cases h : i < k
    · rw [if_pos h, if_pos (by omega)]
    · rw [if_neg h, if_neg (by omega)]
set_option maxHeartbeats 2000000 in
theorem c_MMark (G gm gb nb cap : Nat) (R : Nat → Rg) (gn gt np cn ct : Nat → Nat) (P Q : Nat → Nat → Nat) (C D : Nat → Nat → Nat → Int) (w : World) (hM : MS w G gm gb nb cap R gn gt np cn ct P Q C D) :
    Calls Try.prog 14 #[.pointer (some ⟨gm, 0, none⟩)] w fun e w' => e = .returned (.tuple #[]) ∧ MS w' G gm gb nb cap R gn gt np cn ct P (mkT Q P nb) C (mkT D C nb) ∧ Fr (fun b => ∃ i, i < nb ∧ b = gt i) w w' := by
  obtain ⟨aB, hc0, haB⟩ := hM.1.1.1
  have HAB := Lib.hid haB
  have hn16 := hM.1.2.2.1
  have HM0 : Hid (MS w G gm gb nb cap R gn gt np cn ct P (mkT Q P 0) C (mkT D C 0)) := by rw [mkT_zero, mkT_zero]; exact hM
  have HC0 := Lib.hid hc0
  have HAp := Lib.hid hM.2.2.2
  clear haB hM
  go_enter Try.func14, Try.ntmps14
  go_wp2_with fail
  go_loopw [8] (fun i wr => ∃ k : Nat, k ≤ nb ∧ i = .int .i64 k ∧ Hid (MS wr G gm gb nb cap R gn gt np cn ct P (mkT Q P k) C (mkT D C k)) ∧ Hid (Fr (fun b => ∃ i, i < nb ∧ b = gt i) w wr)) (fun i _ => nb - (intOf i).toNat)
  case atStart => exact ⟨0, Nat.zero_le _, rfl, HM0, Fr.refl _ _⟩
  case round =>
    obtain ⟨k, hk, rfl, HMr, HFr⟩ := hrel
    by_cases hlt : k < nb
    · obtain rfl := HAB.out (by omega)
      have hc0 : wr.cell? ⟨gm, 0, none⟩ = some (.slice (some ⟨gb, 0, none⟩) nb cap) := (World.cell?_of_block (a := ⟨gm, 0, none⟩) (HFr.out.block gm (cell_lt HC0.out) (fun ⟨i, hi, e⟩ => (HAp.out.2.1 i hi).2.2.1 e.symm))).trans HC0.out
      go_wp2_with fail
      have hMr := HMr.out
      have hbk := hMr.1.2.2.2.2.1 k hlt
      have hth := hMr.2.1 k hlt
      refine (c_mark gb (k * 7) (gn k) (gt k) (np k) (cn k) (ct k) (P k) (mkT Q P k k) _ hbk.2.2.2.2.1 hbk.2.1 hth.1 (fun e => (HAp.out.2.1 k hlt).2.2.2 e.symm) (fun j hj => (hbk.2.2.2.2.2.2 j hj).1) (fun j hj => (hth.2.2 j hj).1) (fun q => (hMr.2.2.1 k q hlt).2)).mono ?_
      rintro e w1 ⟨rfl, hmk⟩
      have hM1 := MS.mark hMr hlt hmk HAp.out.1
      have HM1 : Hid (MS w1 G gm gb nb cap R gn gt np cn ct P (mkT Q P (k + 1)) C (mkT D C (k + 1))) := by
        show MS _ _ _ _ _ _ _ _ _ _ _ _ _ _ _ _
        rw [← mkT_succ, ← mkT_succ]
        exact hM1
      have HF1 : Hid (Fr (fun b => ∃ i, i < nb ∧ b = gt i) w w1) := HFr.out.trans (hmk.1.weak (fun b _ e => ⟨k, hlt, e⟩))
      clear hMr hbk hth hmk hM1 hc0
      go_wp2_with fail
      go_roundw
      case rel => exact ⟨k + 1, by omega, by go_num, HM1, HF1⟩
      case measure => simp [intOf]; omega
    · obtain rfl : k = nb := by omega
      clear hlt hk
      go_wp2_with fail
      go_end0
      exact ⟨rfl, HMr.out, HFr.out⟩
/-- Mark: what is now is what the bytes are held against. -/
theorem c_mMark (A M : Nat → Prop) (gm nb : Nat) (R : Nat → Rg) (C D : Nat → Nat → Nat → Int) (w : World) (hM : Mm w A M gm nb R C D) :
    Calls Try.prog 14 #[.pointer (some ⟨gm, 0, none⟩)] w fun e w' => e = .returned (.tuple #[]) ∧ Mm w' A M gm nb R C (mkT D C nb) ∧ Fr M w w' := by
  obtain ⟨G, gb, cap, gn, gt, np, cn, ct, P, Q, h1, h2, h3, h4, h5, h6⟩ := hM
  refine (c_MMark G gm gb nb cap R gn gt np cn ct P Q C D w h1).mono ?_
  rintro e w' ⟨rfl, hMS, hF⟩
  refine ⟨rfl, ⟨G, gb, cap, gn, gt, np, cn, ct, P, _, hMS, h2, h3, fun b hb => h4 b ?_, fun b hb => h5 b ?_, fun i j k hi hj hk hs => ?_⟩, hF.weak (fun b _ ⟨i, hi, e⟩ => h4 b (.inl ⟨i, hi, .inr e⟩))⟩
  · rcases hb with h | ⟨i, j, hi, hj, hne, _⟩
    · exact .inl h
    · unfold mkT at hne
      rw [if_pos hi] at hne
      exact absurd rfl hne
  · rcases hb with h | h | h | ⟨i, j, hi, hj, h⟩
    · exact .inl h
    · exact .inr (.inl h)
    · exact .inr (.inr (.inl h))
    · unfold mkT at h
      rw [if_pos hi] at h
      exact .inr (.inr (.inr ⟨i, j, hi, hj, .inl (h.elim id id)⟩))
  · unfold mkT
    rw [if_pos hi]
end Go.Proofs.Ytbfimedgichiiaa
