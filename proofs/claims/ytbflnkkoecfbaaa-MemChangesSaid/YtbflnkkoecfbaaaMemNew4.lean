/-
  New makes a memory that is whole: of noughts, nothing changed.
-/
import Derived.Test.YtbflnkkoecfbaaaMemNew3
namespace Go.Proofs.Ytbflnkkoecfbaaa
set_option linter.unusedVariables false
set_option linter.unusedSimpArgs false
set_option maxRecDepth 100000
open Go.ChangeShapes Go.WideShapes Go.ChangeAt Go.RowKit

/-- A memory as the document has it: it stands in A, writes in M alone; now C, at the mark D. -/
def Mm (w : World) (A M : Nat → Prop) (gm nb : Nat) (R : Nat → Rg) (C D : Nat → Nat → Nat → Int) : Prop :=
  ∃ G gb cap gn gt np cn ct P Q, MS w G gm gb nb cap R gn gt np cn ct P Q C D ∧ (∀ i, i < nb → np i = pgs (R i)) ∧ okTo R nb = true ∧ (∀ b, Mut nb gn gt np P Q b → M b) ∧ (∀ b, Foot gm gb nb gn gt np P Q b → A b) ∧
    (∀ i j k, i < nb → j < np i → k < 4096 → (R i).sz ≤ ((j * 4096 + k : Nat) : Int) → C i j k = D i j k)
theorem MS.of_bks {w : World} {gm nb : Nat} {v : Value} {R : Nat → Rg} {gn cn gt ct : Nat → Nat} {P Q : Nat → Nat → Nat} {C D : Nat → Nat → Nat → Int} (hv : w.cell? ⟨gm, 0, none⟩ = some v) (h : Bks w gm nb v R gn cn gt ct P Q C D) (hn : nb ≤ 16)
    (hR : ∀ i, i < nb → rgB (R i) = true) (hpriv : ∀ i j, i < nb → j < pgs (R i) → P i j ≠ Q i j → ∀ i' j', i' < nb → j' < pgs (R i') → Q i' j' ≠ P i j ∧ (P i' j' = P i j → i' = i ∧ j' = j)) :
    ∃ gb cap, MS w w.heap.size gm gb nb cap R gn gt (fun i => pgs (R i)) cn ct P Q C D ∧ gm < gb := by
  obtain ⟨h1, h2, h3, h4, h5⟩ := h
  have hgm : gm < w.heap.size := cell_lt hv
  have hnp : ∀ i, i < nb → pgs (R i) ≤ 4096 ∧ (R i).sz ≤ (pgs (R i)) * 4096 := fun i hi => by
    have := rg_bd (hR i hi)
    unfold pgs
    omega
  have key : ∀ gb cap, v = .slice (some ⟨gb, 0, none⟩) nb cap → gm < gb → MS w w.heap.size gm gb nb cap R gn gt (fun i => pgs (R i)) cn ct P Q C D := by
    intro gb cap hvv hgb
    subst hvv
    have hblk := h4 gb rfl
    have cel : ∀ i c, i < nb → c < 7 → w.cell? ⟨gb, i * 7 + c, none⟩ = (bkC (R i) (pgs (R i)) (gn i) (cn i) (gt i) (ct i))[c]? := fun i c hi hc => by
      rw [h1.cellAt (i * 7 + c) (by omega)]
      exact fl_get (fun i => bkC (R i) (pgs (R i)) (gn i) (cn i) (gt i) (ct i)) 7 (fun i => rfl) c hc nb i hi
    have c0 := fun i (hi : i < nb) => cel i 0 hi (by decide)
    have c1 := fun i (hi : i < nb) => cel i 1 hi (by decide)
    have c2 := fun i (hi : i < nb) => cel i 2 hi (by decide)
    have c3 := fun i (hi : i < nb) => cel i 3 hi (by decide)
    have c4 := fun i (hi : i < nb) => cel i 4 hi (by decide)
    have c5 := fun i (hi : i < nb) => cel i 5 hi (by decide)
    have c6 := fun i (hi : i < nb) => cel i 6 hi (by decide)
    refine ⟨⟨⟨⟨_, hv, fun _ => rfl⟩, fun i hi => ⟨c0 i hi, c1 i hi, c2 i hi, c3 i hi, c4 i hi⟩⟩, hgm, hn, hR, fun i hi => ⟨⟨c0 i hi, c1 i hi, c2 i hi, c3 i hi, c4 i hi⟩, c5 i hi, hblk.2.1, (h2 i hi).1.2, (hnp i hi).1, (hnp i hi).2, fun j hj => ?_⟩, Nat.le_refl _⟩, fun i hi => ⟨c6 i hi, (h2 i hi).2.1.2, fun j hj => ?_⟩, fun i k hi => (h2 i hi).2.2.2.1 k, by omega, fun i hi => ?_, h3, fun i j hi hj => ?_, hpriv⟩
    · have := (h2 i hi).2.2.2.2 j hj
      exact ⟨this.1, this.2.2.1, this.2.2.1.lt⟩
    · have := (h2 i hi).2.2.2.2 j hj
      exact ⟨this.2.1, this.2.2.2, this.2.2.2.lt⟩
    · have a1 := (h2 i hi).1.1
      have a2 := (h2 i hi).2.1.1
      have a3 := hblk.2.2 i hi
      exact ⟨by omega, fun e => a3.1 e.symm, by omega, fun e => a3.2.1 e.symm⟩
    · have a3 := (hblk.2.2 i hi).2.2 j hj
      have a5 := h5 i j hi hj
      exact ⟨⟨a5.1.1, fun e => a3.1 e.symm, a5.1.2, fun e => a3.2 e.symm⟩, a5.2⟩
  rcases h1.2 with ⟨hv0, h0⟩ | ⟨g, cap, cur, hv0, hg, _⟩
  · subst h0
    refine ⟨gm + 1, 0, ⟨⟨⟨⟨_, by rw [hv, hv0], fun h => by omega⟩, fun i hi => by omega⟩, hgm, by omega, fun i hi => by omega, fun i hi => by omega, Nat.le_refl _⟩, fun i hi => by omega, fun i k hi => by omega, by omega, fun i hi => by omega, fun i i' hi => by omega, fun i j hi => by omega, fun i j hi => by omega⟩, by omega⟩
  · exact ⟨g, cap, key g cap hv0 (by omega), by omega⟩
/-- The bytes as none stands. -/
def zC : Nat → Nat → Nat → Int := fun _ _ _ => 0
theorem NwInv.mm {w w' : World} {gm n : Nat} {R : Nat → Rg} (h : NwInv w w' gm n R) (hn : n ≤ 16) (hok : okTo R n = true) : Mm w' (fun b => gm ≤ b) (fun b => gm ≤ b) gm n R zC zC := by
  obtain ⟨v, gn, cn, gt, ct, P, Q, C, D, hv, hf, hB, hPQ, hCD, hbl, hgl⟩ := h
  have hC : C = zC := by funext i j c; exact (hCD i j c).1
  have hD : D = zC := by funext i j c; exact (hCD i j c).2
  subst hC hD
  obtain ⟨gb, cap, hMS, hgb⟩ := MS.of_bks hv hB hn (okTo_rg hok) (fun i j hi hj hne => absurd (hPQ i j hi).1 hne)
  have hb2 := hB.2.1
  refine ⟨_, gb, cap, gn, gt, _, cn, ct, P, Q, hMS, fun i hi => rfl, hok, fun b hb => ?_, fun b hb => ?_, fun i j k _ _ _ _ => rfl⟩
  · rcases hb with ⟨i, hi, h⟩ | ⟨i, j, hi, hj, hne, h⟩
    · have a1 := (hb2 i hi).1.1
      have a2 := (hb2 i hi).2.1.1
      show gm ≤ b
      omega
    · exact absurd (hPQ i j hi).1 hne
  · rcases hb with h | ⟨_, h⟩ | ⟨i, hi, h⟩ | ⟨i, j, hi, hj, h⟩
    · show gm ≤ b
      omega
    · show gm ≤ b
      omega
    · have a1 := (hb2 i hi).1.1
      have a2 := (hb2 i hi).2.1.1
      show gm ≤ b
      omega
    · have := hPQ i j hi
      show gm ≤ b
      omega
/-- What New answers: nothing and what is wrong, or a memory of noughts, all of it new. -/
def NewAns (w w' : World) (n : Nat) (R : Nat → Rg) (e : Ending) : Prop :=
  (chkI R n ≠ 0 ∧ e = .returned (.tuple #[.pointer none, .int .i64 (chkI R n)]) ∧ Below w.heap.size w w') ∨
  (chkI R n = 0 ∧ ∃ gm, e = .returned (.tuple #[.pointer (some ⟨gm, 0, none⟩), .int .i64 0]) ∧ w.heap.size ≤ gm ∧ Mm w' (fun b => gm ≤ b) (fun b => gm ≤ b) gm n R zC zC ∧ Below w.heap.size w w')
theorem chk_ok {R : Nat → Rg} {n : Nat} (h : chkI R n = 0) : n ≤ 16 ∧ okTo R n = true := by
  unfold chkI at h
  by_cases hn : 16 < n
  · rw [if_pos hn] at h; simp at h
  · rw [if_neg hn] at h
    refine ⟨by omega, ?_⟩
    cases h' : okTo R n
    · rw [h'] at h; simp at h
    · rfl
theorem c_New_no (a : Option Addr) (n cap : Nat) (R : Nat → Rg) (w : World) (hm : n ≤ maxLen) (hR : RSO w a n cap R) (hbd : RgBd R n) (hc : chkI R n ≠ 0) :
    Calls Try.prog 8 #[.slice a n cap] w fun e w' => NewAns w w' n R e := by
  have hcd : (chkI R n == 0) = false := beq_no hc
  have HC : Hid ((chkI R n = 0) = False) := eq_false hc
  have HR := Lib.hid hR
  have HBD := Lib.hid hbd
  have HMl := Lib.hid hm
  clear hc hR hbd hm
  go_enter Try.func8, Try.ntmps8
  go_wp2_with fail
  refine (c_Check a n cap R _ HMl.out HR.out HBD.out).mono ?_
  rintro e w1 ⟨rfl, hb1⟩
  have HB1 := Lib.hid hb1
  clear hb1
  go_wp2_with fail
  go_ret2
  exact .inl ⟨of_eq_false HC.out, rfl, HB1.out⟩
theorem c_New_none (a : Option Addr) (cap : Nat) (R : Nat → Rg) (w : World) :
    Calls Try.prog 8 #[.slice a 0 cap] w fun e w' => NewAns w w' 0 R e := by
  have hc : chkI R 0 = 0 := by unfold chkI okTo; rfl
  have HC := Lib.hid hc
  go_enter Try.func8, Try.ntmps8
  go_wp2_with fail
  refine (c_Check a 0 cap R _ (Nat.zero_le _) (.inl rfl) (fun i hi => by omega)).mono ?_
  rintro e w1 ⟨rfl, hb1⟩
  rw [HC.out]
  have HB1 := Lib.hid hb1
  clear hb1 hc
  go_wp2_with fail
  go_rounds 1
  all_goals
    go_wp2_with fail
    go_ret2
    have hN : NwInv w1 (w1.alloc (.cells #[.slice none 0 0] 66)) w1.heap.size 0 R := ⟨.slice none 0 0, _, _, _, _, _, _, _, _, by simp [go_sem], by simp [go_sem], Bks.start, fun i j hi => by omega, fun i j c => ⟨rfl, rfl⟩, below_new w1 _, by simp⟩
    exact .inr ⟨HC.out, w1.heap.size, rfl, HB1.out.size, hN.mm (by omega) rfl, HB1.out.alloc HB1.out.size _⟩
theorem c_New (a : Option Addr) (n cap : Nat) (R : Nat → Rg) (w : World) (hm : n ≤ maxLen) (hR : RSO w a n cap R) (hbd : RgBd R n) :
    Calls Try.prog 8 #[.slice a n cap] w fun e w' => NewAns w w' n R e := by
  by_cases hc : chkI R n = 0
  · rcases hR with h0 | ⟨b, off, rfl, hle, hR⟩
    · subst h0
      exact c_New_none a cap R w
    · have hk := chk_ok hc
      refine (c_New_ok b off n cap R w hm hk.1 hR hle hbd hc).mono ?_
      rintro e w' ⟨gm, rfl, hg, w1, hb1, hw1, hN⟩
      have hb2 : Below gm w1 w' := by obtain ⟨v, gn, cn, gt, ct, P, Q, C, D, _, _, _, _, _, hbl, _⟩ := hN; exact hbl
      exact .inr ⟨hc, gm, rfl, hg, hN.mm hk.1 hk.2, hb1.trans (hb2.mono hg)⟩
  · exact c_New_no a n cap R w hm hR hbd hc
end Go.Proofs.Ytbflnkkoecfbaaa
