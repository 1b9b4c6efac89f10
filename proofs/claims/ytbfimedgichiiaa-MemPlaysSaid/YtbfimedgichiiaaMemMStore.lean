/-
  The contract of Store, in the code.
-/
import Derived.Test.YtbfimedgichiiaaMemStore
namespace Go.Proofs.Ytbfimedgichiiaa
set_option linter.unusedVariables false
set_option linter.unusedSimpArgs false
open Go.ChangeShapes Go.WideShapes Go.ChangeAt Go.RowKit

theorem ThH.next {w w' : World} {N G gb o gt np ct : Nat} {Q : Nat → Nat} {D : Nat → Nat → Int} (h : ThH w G gb o gt np ct Q D) (hb : Below N w w') (hN : G ≤ N) (hgb : gb < N) : ThH w' G gb o gt np ct Q D := by
  obtain ⟨h0, h1, h2⟩ := h
  refine ⟨(hb.cell (p := ⟨gb, _, none⟩) hgb).trans h0, h1, fun j hj => ?_⟩
  obtain ⟨k1, k2, k3⟩ := h2 j hj
  exact ⟨(hb.cell (p := ⟨gt, j, none⟩) (by show gt < N; omega)).trans k1, k2.next hb (by omega), k3⟩
theorem MS.next {w w' : World} {G gm gb nb cap : Nat} {R : Nat → Rg} {gn gt np cn ct : Nat → Nat} {P Q : Nat → Nat → Nat} {C D : Nat → Nat → Nat → Int} (h : MS w G gm gb nb cap R gn gt np cn ct P Q C D) (hb : Below w.heap.size w w') : MS w' G gm gb nb cap R gn gt np cn ct P Q C D := by
  obtain ⟨h1, h2, h3, h4⟩ := h
  have hG := h1.2.2.2.2.2
  exact ⟨h1.next hb, fun i hi => (h2 i hi).next hb hG (by have := (h1.2.2.2.2.1 i hi).2.2.1; omega), fun i k hi => ⟨(hb.frozen (p := ⟨gn i, k, none⟩) (by have := (h1.2.2.2.2.1 i hi).2.2.2.1; show gn i < _; omega)).trans (h3 i k hi).1, (hb.frozen (p := ⟨gt i, k, none⟩) (by have := (h2 i hi).2.1; show gt i < _; omega)).trans (h3 i k hi).2⟩, h4⟩
/-- What may be written: rows, pages of one's own. -/
def Mut (nb : Nat) (gn gt np : Nat → Nat) (P Q : Nat → Nat → Nat) (b : Nat) : Prop := (∃ i, i < nb ∧ (b = gn i ∨ b = gt i)) ∨ ∃ i j, i < nb ∧ j < np i ∧ P i j ≠ Q i j ∧ b = P i j
/-- What a memory stands in. -/
def Foot (gm gb nb : Nat) (gn gt np : Nat → Nat) (P Q : Nat → Nat → Nat) (b : Nat) : Prop := b = gm ∨ (0 < nb ∧ b = gb) ∨ (∃ i, i < nb ∧ (b = gn i ∨ b = gt i)) ∨ ∃ i j, i < nb ∧ j < np i ∧ (b = P i j ∨ b = Q i j)
/-- A world behind another one: but for the blocks of M, what stood stands. -/
structure Fr (M : Nat → Prop) (w w' : World) : Prop where
  os : w'.os = w.os
  tape : w'.tape = w.tape
  output : w'.output = w.output
  size : w.heap.size ≤ w'.heap.size
  block : ∀ b, b < w.heap.size → ¬ M b → w'.heap[b]? = w.heap[b]?
theorem Fr.refl (M : Nat → Prop) (w : World) : Fr M w w := ⟨rfl, rfl, rfl, Nat.le_refl _, fun _ _ _ => rfl⟩
theorem Fr.of_below {M : Nat → Prop} {w w' : World} (h : Below w.heap.size w w') : Fr M w w' := ⟨h.os, h.tape, h.output, h.size, fun b hb _ => h.block b hb⟩
theorem Fr.of_grown {M : Nat → Prop} {w w' : World} {g : Nat} (h : w.grownBy w' (some g)) (hg : M g) : Fr M w w' := ⟨h.os, h.tape, h.output, h.size, fun b hb hn => h.block b hb (fun e => hn (by injection e with e; rw [e]; exact hg))⟩
theorem Fr.weak {M M' : Nat → Prop} {w w' : World} (h : Fr M w w') (hM : ∀ b, b < w.heap.size → M b → M' b) : Fr M' w w' := ⟨h.os, h.tape, h.output, h.size, fun b hb hn => h.block b hb (fun e => hn (hM b hb e))⟩
theorem Fr.trans {M : Nat → Prop} {a b c : World} (h : Fr M a b) (k : Fr M b c) : Fr M a c := ⟨k.os.trans h.os, k.tape.trans h.tape, k.output.trans h.output, Nat.le_trans h.size k.size, fun i hi hn => (k.block i (Nat.lt_of_lt_of_le hi h.size) hn).trans (h.block i hi hn)⟩
theorem Fr.below {N : Nat} {M : Nat → Prop} {w w' : World} (h : Fr M w w') (hN : N ≤ w.heap.size) (hM : ∀ b, M b → N ≤ b) : Below N w w' := ⟨h.os, h.tape, h.output, h.size, fun b hb => h.block b (by omega) (fun e => by have := hM b e; omega)⟩
theorem Fr.from_below {N : Nat} {w w' : World} (h : Below N w w') : Fr (fun b => N ≤ b) w w' := ⟨h.os, h.tape, h.output, h.size, fun b hb hn => h.block b (by omega)⟩
theorem Mut.upd {nb : Nat} {gn gt np : Nat → Nat} {P Q : Nat → Nat → Nat} {i j g b : Nat} (h : Mut nb gn gt np (upd2 P i j g) Q b) : Mut nb gn gt np P Q b ∨ b = g := by
  rcases h with h | ⟨i', j', h1, h2, h3, h4⟩
  · exact .inl (.inl h)
  · by_cases e : i' = i ∧ j' = j
    · obtain ⟨rfl, rfl⟩ := e
      rw [upd2_at] at h4
      exact .inr h4
    · rw [upd2_off _ _ _ _ _ _ e] at h3 h4
      exact .inl (.inr ⟨i', j', h1, h2, h3, h4⟩)
theorem Foot.upd {gm gb nb : Nat} {gn gt np : Nat → Nat} {P Q : Nat → Nat → Nat} {i j g b : Nat} (h : Foot gm gb nb gn gt np (upd2 P i j g) Q b) : Foot gm gb nb gn gt np P Q b ∨ b = g := by
  rcases h with h | h | h | ⟨i', j', h1, h2, h4⟩
  · exact .inl (.inl h)
  · exact .inl (.inr (.inl h))
  · exact .inl (.inr (.inr (.inl h)))
  · by_cases e : i' = i ∧ j' = j
    · obtain ⟨rfl, rfl⟩ := e
      rw [upd2_at] at h4
      rcases h4 with h4 | h4
      · exact .inr h4
      · exact .inl (.inr (.inr (.inr ⟨i', j', h1, h2, .inr h4⟩)))
    · rw [upd2_off _ _ _ _ _ _ e] at h4
      exact .inl (.inr (.inr (.inr ⟨i', j', h1, h2, h4⟩)))
/-- Behind a write: what may be written, and what the memory stands in, is what it was, or new. -/
def Fro (w w' : World) (gm gb nb : Nat) (gn gt np : Nat → Nat) (P P' Q : Nat → Nat → Nat) : Prop :=
  Fr (Mut nb gn gt np P Q) w w' ∧ (∀ b, Mut nb gn gt np P' Q b → Mut nb gn gt np P Q b ∨ w.heap.size ≤ b) ∧ (∀ b, Foot gm gb nb gn gt np P' Q b → Foot gm gb nb gn gt np P Q b ∨ w.heap.size ≤ b)
theorem c_Bytes (a : Int) (w : World) (h0 : 0 ≤ a) (h1 : a ≤ 4294967295) :
    Calls Try.prog 51 #[.int .u32 a] w fun e w' => e = .returned (.slice (some ⟨w.heap.size, 0, none⟩) 4 4) ∧ w' = w.alloc (.cells #[.int .u8 (a % 256), .int .u8 (a / 256 % 256), .int .u8 (a / 65536 % 256), .int .u8 (a / 16777216)] 5) := by
  go_enter Try.func51, Try.ntmps51
  go_wp2
  go_ret
  exact ⟨rfl, rfl⟩
/-- The bytes of a word. -/
def byOf (v : Int) (k : Nat) : Int := if k = 0 then v % 256 else if k = 1 then v / 256 % 256 else if k = 2 then v / 65536 % 256 else if k = 3 then v / 16777216 else 0
theorem byOf_bd (v : Int) (h0 : 0 ≤ v) (h1 : v ≤ 4294967295) (k : Nat) : 0 ≤ byOf v k ∧ byOf v k ≤ 255 := by
  unfold byOf
  (repeat' split) <;> omega
theorem src_bytes (w : World) (v : Int) (n : Nat) (hn : n ≤ 4) : Src (w.alloc (.cells #[.int .u8 (v % 256), .int .u8 (v / 256 % 256), .int .u8 (v / 65536 % 256), .int .u8 (v / 16777216)] 5)) w.heap.size 0 n (byOf v) := by
  intro j hj
  have : j = 0 ∨ j = 1 ∨ j = 2 ∨ j = 3 := by omega
  rcases this with rfl | rfl | rfl | rfl <;> simp [go_sem, byOf]
theorem c_MSfill (G gm gb nb cap : Nat) (R : Nat → Rg) (gn gt np cn ct : Nat → Nat) (P Q : Nat → Nat → Nat) (C D : Nat → Nat → Nat → Int) (a : Int) (i x n gs cap' : Nat) (z : Nat → Int) (w : World) (hM : MS w G gm gb nb cap R gn gt np cn ct P Q C D) (hi : i < nb)
    (ha : a = (R i).fr + x) (ha2 : a ≤ 4294967295) (hn : 0 < n) (hpg : x % 4096 + n ≤ 4096) (hxm : x ≤ 16777216) (hcap : n ≤ cap') (hcm : cap' ≤ 16777216) (hj : x / 4096 < np i) (hS : Src w gs 0 n z) (hgs : G ≤ gs) (hz : ∀ k, k < n → 0 ≤ z k ∧ z k ≤ 255) :
    Calls Try.prog 31 #[.pointer (some ⟨gb, i * 7, none⟩), .int .u32 a, .slice (some ⟨gs, 0, none⟩) n cap'] w
      fun e w' => e = .returned (.tuple #[]) ∧ ∃ G' P', MS w' G' gm gb nb cap R gn gt np cn ct P' Q (upd2 C i (x / 4096) (updP (C i (x / 4096)) (x % 4096) n z)) D ∧ Fro w w' gm gb nb gn gt np P P' Q := by
  have hR := hM.1.2.2.2.2.1 i hi
  have hT := hM.2.1 i hi
  have hr := hM.1.2.2.2.1 i hi
  obtain ⟨⟨y0, y1, y2, y3, y4⟩, y5, y6, y7, y8, y9, y10⟩ := hR
  obtain ⟨p1, p2, p3⟩ := y10 _ hj
  obtain ⟨t0, t1, t2⟩ := hT
  obtain ⟨q1, q2, q3⟩ := t2 _ hj
  have hgn : gn i < G := y7
  by_cases e : P i (x / 4096) = Q i (x / 4096)
  · refine (c_fill_shared gb (i * 7) (gn i) (gt i) (np i) (cn i) x n gs 0 cap' (P i (x / 4096)) (R i) (C i (x / 4096)) z a w hr ha ha2 hn hpg hxm hcap hcm y0 y1 y2 y3 y4 ⟨np i, cn i, np i, ct i, hj, y8, hj, y8, y5, t0, p1, by rw [e]; exact q1⟩ p2 (fun k => (hM.2.2.1 i k hi).1) (fun ee => (hM.2.2.2.2.1 i hi).2.1 ee.symm) (by omega) hS hz).mono ?_
    rintro e w' ⟨rfl, ⟨g, h1, h2, h3⟩, h4, h5, h6⟩
    exact ⟨rfl, _, _, hM.shared hi hj h1 h2 h3 h4 h5 h6, Fr.of_grown h6 (.inl ⟨i, hi, .inl rfl⟩), fun b hb => (Mut.upd hb).imp id (fun e => by rw [e]; exact h1), fun b hb => (Foot.upd hb).imp id (fun e => by rw [e]; exact h1)⟩
  · refine (c_fill_own gb (i * 7) (gn i) (gt i) (np i) (cn i) x n gs 0 cap' (P i (x / 4096)) (Q i (x / 4096)) (R i) (C i (x / 4096)) (D i (x / 4096)) z a w hr ha ha2 hn hpg hxm hcap hcm y0 y1 y2 y3 y4 ⟨np i, cn i, np i, ct i, hj, y8, hj, y8, y5, t0, p1, q1⟩ p2 q2 e hS hz).mono ?_
    rintro e' w' ⟨rfl, h1, h2⟩
    exact ⟨rfl, _, _, hM.own hi hj e h1 h2, Fr.of_grown h2 (.inr ⟨i, _, hi, hj, e, rfl⟩), fun b hb => .inl hb, fun b hb => .inl hb⟩
/-- The memory behind a call of Store, and what it answered. -/
def StIs (w w' : World) (gm gb nb cap : Nat) (R : Nat → Rg) (gn gt np cn ct : Nat → Nat) (P Q : Nat → Nat → Nat) (C D : Nat → Nat → Nat → Int) (a n v e : Int) : Prop :=
  (e ≠ 0 ∧ Below w.heap.size w w' ∧ ((∃ p, AccIs gb nb R a n p e) ∨ e = 32 ∧ ∃ i, i < nb ∧ AccIs gb nb R a n (some ⟨gb, i * 7, none⟩) 0 ∧ (R i).wr = false)) ∨
  (e = 0 ∧ ∃ i G' P', i < nb ∧ AccIs gb nb R a n (some ⟨gb, i * 7, none⟩) 0 ∧ (R i).wr = true ∧
    MS w' G' gm gb nb cap R gn gt np cn ct P' Q (upd2 C i ((a - (R i).fr).toNat / 4096) (updP (C i ((a - (R i).fr).toNat / 4096)) ((a - (R i).fr).toNat % 4096) n.toNat (byOf v))) D ∧ Fro w w' gm gb nb gn gt np P P' Q)
set_option maxHeartbeats 4000000 in
theorem c_MStore (G gm gb nb cap : Nat) (R : Nat → Rg) (gn gt np cn ct : Nat → Nat) (P Q : Nat → Nat → Nat) (C D : Nat → Nat → Nat → Int) (a n v : Int) (w : World) (hM : MS w G gm gb nb cap R gn gt np cn ct P Q C D) (h4 : 0 ≤ a) (h5 : a ≤ 4294967295) (h6 : 0 ≤ v) (h7 : v ≤ 4294967295) :
    Calls Try.prog 21 #[.pointer (some ⟨gm, 0, none⟩), .int .u32 a, .int .i64 n, .int .u32 v] w fun e w' => ∃ c, e = .returned (.int .i64 c) ∧ StIs w w' gm gb nb cap R gn gt np cn ct P Q C D a n v c := by
  have HM := Lib.hid hM
  clear hM
  go_enter Try.func21, Try.ntmps21
  go_wp2_with fail
  refine (c_access gm gb nb cap R a n _ HM.out.1.2.2.1 HM.out.1.1 HM.out.1.2.2.2.1 h4 h5).mono ?_
  rintro e w1 ⟨p, c, rfl, hA, hb1⟩
  have HA := Lib.hid hA
  have HB1 := Lib.hid hb1
  rcases hA with ⟨k1, rfl, rfl⟩ | ⟨k1, k2, rfl, rfl⟩ | ⟨k1, k2, hK⟩
  · clear hb1 k1
    go_wp2_with fail
    go_ret
    exact ⟨1, rfl, .inl ⟨by decide, HB1.out, .inl ⟨_, HA.out⟩⟩⟩
  · clear hb1 k1 k2
    go_wp2_with fail
    go_ret
    exact ⟨31, rfl, .inl ⟨by decide, HB1.out, .inl ⟨_, HA.out⟩⟩⟩
  · rcases hK with ⟨i, hi, hbf, hh, rfl, rfl⟩ | ⟨hno, rfl, rfl⟩
    · have hM1 := HM.out.next hb1
      have HM1 := Lib.hid hM1
      have y3 := (hM1.1.1.2 i hi).2.2.2.1
      have hh2 := hold_of hh
      have hbd := rg_bd (HM.out.1.2.2.2.1 i hi)
      have hnp := (hM1.1.2.2.2.2.1 i hi).2.2.2.2.2.1
      have HF := Lib.hid (show 16 ≤ (R i).fr ∧ (R i).fr ≤ 4294967296 ∧ (R i).fr % 16 = 0 ∧ (R i).fr ≤ a ∧ a + n ≤ (R i).fr + (R i).sz ∧ (R i).sz ≤ 16777216 ∧ (R i).sz ≤ np i * 4096 from ⟨hbd.1, hbd.2.1, hbd.2.2.2.2.1, hh2.1, hh2.2, hbd.2.2.2.1, hnp⟩)
      have HK := Lib.hid k2
      clear hb1 hbf hh hM1 hh2 hbd hnp k2
      cases hw : (R i).wr
      · rw [hw] at y3
        have HW := Lib.hid hw
        clear hw
        go_wp2_with fail
        go_ret
        exact ⟨32, rfl, .inl ⟨by decide, HB1.out, .inr ⟨rfl, i, hi, HA.out, HW.out⟩⟩⟩
      · rw [hw] at y3
        have HW := Lib.hid hw
        clear hw
        rcases k1 with rfl | rfl | rfl
        all_goals
          go_wp2_with fail
          refine (c_Bytes v _ h6 h7).mono ?_
          rintro e w2 ⟨rfl, hw2⟩
          have hM2 := HM1.out.next (show Below w1.heap.size w1 w2 by rw [hw2]; exact below_new w1 _)
          have HM2 := Lib.hid hM2
          have HF2 : Hid (Below w.heap.size w w2) := below_on HB1.out (show Below w1.heap.size w1 w2 by rw [hw2]; exact below_new w1 _) HB1.out.size
          have HSrc := Lib.hid (fun (n : Nat) (hn : n ≤ 4) => show Src w2 w1.heap.size 0 n (byOf v) by rw [hw2]; exact src_bytes w1 v n hn)
          have HG1 := Lib.hid HM1.out.1.2.2.2.2.2
          clear hM2 hw2 y3
          go_wp2_with fail
          have hF := HF.out
          have hK := HK.out
          refine (c_MSfill G gm gb nb cap R gn gt np cn ct P Q C D a i (a - (R i).fr).toNat _ w1.heap.size 4 (byOf v) w2 HM2.out hi (by omega) h5 (by decide) (by omega) (by omega) (by decide) (by decide) (by omega) (HSrc.out _ (by decide)) HG1.out (fun k _ => byOf_bd v h6 h7 k)).mono ?_
          rintro e w3 ⟨rfl, G', P', hM3, hFr⟩
          have HM3 := Lib.hid hM3
          have HFr : Hid (Fro w w3 gm gb nb gn gt np P P' Q) := by
            have hs := HF2.out.size
            exact ⟨(Fr.of_below HF2.out).trans hFr.1, fun b hb => (hFr.2.1 b hb).imp id (fun h => by omega), fun b hb => (hFr.2.2 b hb).imp id (fun h => by omega)⟩
          clear hF hK hM3 hFr
          go_wp2_with fail
          go_ret
          exact ⟨0, rfl, .inr ⟨rfl, i, G', P', hi, HA.out, HW.out, HM3.out, HFr.out⟩⟩
    · clear hb1 k1 k2 hno
      go_wp2_with fail
      go_ret
      exact ⟨30, rfl, .inl ⟨by decide, HB1.out, .inl ⟨_, HA.out⟩⟩⟩
end Go.Proofs.Ytbfimedgichiiaa
