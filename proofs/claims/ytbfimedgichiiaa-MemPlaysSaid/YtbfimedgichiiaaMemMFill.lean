/-
  The contract of Fill, in the code.
-/
import Derived.Test.YtbfimedgichiiaaMemFillM
namespace Go.Proofs.Ytbfimedgichiiaa
set_option linter.unusedVariables false
set_option linter.unusedSimpArgs false
set_option maxRecDepth 100000
open Go.ChangeShapes Go.WideShapes Go.ChangeAt Go.RowKit

/-- What Fill answers, and the memory behind it. -/
def FillAns (w w' : World) (A M : Nat → Prop) (gm nb : Nat) (R : Nat → Rg) (C D : Nat → Nat → Nat → Int) (a : Int) (n : Nat) (z : Nat → Int) (e : Int) : Prop :=
  (16777216 < n ∧ e = 3 ∧ Below w.heap.size w w') ∨ (n = 0 ∧ e = 0 ∧ Below w.heap.size w w') ∨
  (0 < n ∧ n ≤ 16777216 ∧ (∀ j, j < nb → holdB (R j) a n = false) ∧ e = 30 ∧ Below w.heap.size w w') ∨
  (0 < n ∧ n ≤ 16777216 ∧ e = 0 ∧ ∃ i C', i < nb ∧ holdB (R i) a n = true ∧ PutIs C C' i (a - (R i).fr).toNat n z ∧ Mm w' (fun b => A b ∨ w.heap.size ≤ b) (fun b => M b ∨ w.heap.size ≤ b) gm nb R C' D ∧ Fr M w w')
theorem c_MFill_long (gm : Nat) (a : Int) (p : Option Addr) (n cap : Nat) (w : World) (hn : 16777216 < n) (hm : n ≤ maxLen) :
    Calls Try.prog 13 #[.pointer (some ⟨gm, 0, none⟩), .int .u32 a, .slice p n cap] w fun e w' => e = .returned (.int .i64 3) ∧ Below w.heap.size w w' := by
  have hd : decide ((16777216 : Int) < (n : Int)) = true := by simp; omega
  unfold maxLen at hm
  clear hn
  go_enter Try.func13, Try.ntmps13
  go_wp2_with fail
  go_ret
  exact ⟨rfl, Below.refl _ _⟩
theorem c_MFill_zero (gm : Nat) (a : Int) (p : Option Addr) (cap : Nat) (w : World) :
    Calls Try.prog 13 #[.pointer (some ⟨gm, 0, none⟩), .int .u32 a, .slice p 0 cap] w fun e w' => e = .returned (.int .i64 0) ∧ Below w.heap.size w w' := by
  go_enter Try.func13, Try.ntmps13
  go_wp2_with fail
  go_ret
  exact ⟨rfl, Below.refl _ _⟩
set_option maxHeartbeats 2000000 in
theorem c_MFill_some (A M : Nat → Prop) (gm nb : Nat) (R : Nat → Rg) (C D : Nat → Nat → Nat → Int) (a : Int) (n gs os cap : Nat) (z : Nat → Int) (w : World) (hM : Mm w A M gm nb R C D) (h4 : 0 ≤ a) (h5 : a ≤ 4294967295) (hn0 : 0 < n) (hn : n ≤ 16777216) (hcap : n ≤ cap) (hcm : cap ≤ 9223372036854775807)
    (hS : Src w gs os n z) (hgs : ¬ M gs) (hz : ∀ k, k < n → 0 ≤ z k ∧ z k ≤ 255) :
    Calls Try.prog 13 #[.pointer (some ⟨gm, 0, none⟩), .int .u32 a, .slice (some ⟨gs, os, none⟩) n cap] w fun e w' => ∃ c, e = .returned (.int .i64 c) ∧ FillAns w w' A M gm nb R C D a n z c := by
  have hok := hM.okR
  obtain ⟨G, gb, bcap, gn, gt, np, cn, ct, P, Q, h1, h2, h3, hMu, hFo, ht⟩ := hM
  have HM := Lib.hid h1
  have HRest := Lib.hid (And.intro h2 (And.intro h3 (And.intro hMu (And.intro hFo ht))))
  have HS := Lib.hid hS
  have HGs : Hid (M gs → False) := hgs
  have HZ := Lib.hid hz
  clear h1 h2 h3 hMu hFo ht hS hgs hz hok
  go_enter Try.func13, Try.ntmps13
  go_wp2_with fail
  refine (c_bankOf gm gb nb bcap R a n _ HM.out.1.2.2.1 HM.out.1.1 HM.out.1.2.2.2.1 h4 h5 (by omega) (by omega)).mono ?_
  rintro e w1 ⟨p, c, rfl, hB, hb1⟩
  have HB1 := Lib.hid hb1
  rcases hB with ⟨i, hi, _, hh, rfl, rfl⟩ | ⟨hno, rfl, rfl⟩
  · have HH := Lib.hid hh
    have HM1 := Lib.hid (HM.out.next hb1)
    have hf := hold_of hh
    have hrg := rg_bd (HM.out.1.2.2.2.1 i hi)
    have HC := Lib.hid (c_fillM G gm gb nb bcap R gn gt np cn ct P Q C D a i (a - (R i).fr).toNat n gs os cap z w1 HM1.out hi (by omega) h5 (by omega) hcap hcm (fun j hj => (hb1.cell (cell_lt (HS.out j hj))).trans (HS.out j hj)) (fun _ hm => HGs.out (HRest.out.2.2.1 gs hm)) HZ.out)
    clear hb1 hh hf hrg
    go_wp2_with fail
    refine HC.out.mono ?_
    rintro e w2 ⟨rfl, G', P', C', hMS, hPut, hFro⟩
    have hs1 := HB1.out.size
    have HFr : Hid (Fro w w2 gm gb nb gn gt np P P' Q) := (Fro.of_below HB1.out).trans hFro
    have HMS := Lib.hid hMS
    have HPut := Lib.hid hPut
    clear hMS hPut hFro
    go_wp2_with fail
    go_ret
    refine ⟨0, rfl, .inr (.inr (.inr ⟨hn0, hn, rfl, i, C', hi, HH.out, HPut.out, ⟨G', gb, bcap, gn, gt, np, cn, ct, P', Q, HMS.out, HRest.out.1, HRest.out.2.1, fun b hb => (HFr.out.2.1 b hb).imp (HRest.out.2.2.1 b) id, fun b hb => (HFr.out.2.2 b hb).imp (HRest.out.2.2.2.1 b) id, ?_⟩, HFr.out.1.weak (fun b _ h => HRest.out.2.2.1 b h)⟩))⟩
    intro i' j' k' hi' hj' hk' hs
    have hf := hold_of HH.out
    have := HPut.out i' (j' * 4096 + k')
    unfold byte at this
    rw [show (j' * 4096 + k') / 4096 = j' by omega, show (j' * 4096 + k') % 4096 = k' by omega] at this
    rw [this]
    by_cases e : i' = i
    · subst e
      rw [if_neg (by omega)]
      exact HRest.out.2.2.2.2 i' j' k' hi' hj' hk' hs
    · rw [if_neg (fun h => e h.1)]
      exact HRest.out.2.2.2.2 i' j' k' hi' hj' hk' hs
  · have HNo := Lib.hid hno
    clear hb1 hno
    go_wp2_with fail
    go_ret
    exact ⟨30, rfl, .inr (.inr (.inl ⟨hn0, hn, HNo.out, rfl, HB1.out⟩))⟩
/-- Fill, whatever is asked: its bytes stand in a block that the memory does not write. -/
theorem c_mFill (A M : Nat → Prop) (gm nb : Nat) (R : Nat → Rg) (C D : Nat → Nat → Nat → Int) (a : Int) (p : Option Addr) (n cap : Nat) (z : Nat → Int) (w : World) (hM : Mm w A M gm nb R C D) (h4 : 0 ≤ a) (h5 : a ≤ 4294967295) (hm : n ≤ maxLen) (hcap : n ≤ cap) (hcm : cap ≤ 9223372036854775807)
    (hS : 0 < n → ∃ gs os, p = some ⟨gs, os, none⟩ ∧ Src w gs os n z ∧ ¬ M gs) (hz : ∀ k, k < n → 0 ≤ z k ∧ z k ≤ 255) :
    Calls Try.prog 13 #[.pointer (some ⟨gm, 0, none⟩), .int .u32 a, .slice p n cap] w fun e w' => ∃ c, e = .returned (.int .i64 c) ∧ FillAns w w' A M gm nb R C D a n z c := by
  by_cases h1 : 16777216 < n
  · exact (c_MFill_long gm a p n cap w h1 hm).mono fun e w' ⟨he, hb⟩ => ⟨3, he, .inl ⟨h1, rfl, hb⟩⟩
  by_cases h2 : n = 0
  · subst h2
    exact (c_MFill_zero gm a p cap w).mono fun e w' ⟨he, hb⟩ => ⟨0, he, .inr (.inl ⟨rfl, rfl, hb⟩)⟩
  · obtain ⟨gs, os, rfl, h3, h6⟩ := hS (by omega)
    exact c_MFill_some A M gm nb R C D a n gs os cap z w hM h4 h5 (by omega) (by omega) hcap hcm h3 h6 hz
end Go.Proofs.Ytbfimedgichiiaa
