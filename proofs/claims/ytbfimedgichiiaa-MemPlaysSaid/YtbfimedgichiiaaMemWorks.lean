/-
  The chapter's example, in the code.
-/
import Derived.Test.YtbfimedgichiiaaMemRanges
namespace Go.Proofs.Ytbfimedgichiiaa
set_option linter.unusedVariables false
set_option linter.unusedSimpArgs false
set_option maxRecDepth 100000
open Go.ChangeShapes Go.WideShapes Go.ChangeAt Go.RowKit

def byte (C : Nat → Nat → Nat → Int) (i y : Nat) : Int := C i (y / 4096) (y % 4096)
theorem stC_byte (C : Nat → Nat → Nat → Int) (i x n i' y : Nat) (v : Int) (h : x % 4096 + n ≤ 4096) : byte (stC C i x n v) i' y = if i' = i ∧ x ≤ y ∧ y < x + n then byOf v (y - x) else byte C i' y := by
  unfold byte stC
  by_cases e : i' = i ∧ y / 4096 = x / 4096
  · obtain ⟨rfl, e2⟩ := e
    rw [e2, upd2_at]
    unfold updP
    by_cases h2 : x % 4096 ≤ y % 4096 ∧ y % 4096 < x % 4096 + n
    · rw [if_pos h2, if_pos ⟨rfl, by omega, by omega⟩]
      congr 1
      omega
    · rw [if_neg h2, if_neg (fun h3 => h2 ⟨by omega, by omega⟩)]
  · rw [upd2_off _ _ _ _ _ _ e, if_neg (fun h3 => e ⟨h3.1, by omega⟩)]
theorem ldI_one (c : Nat → Nat → Int) (x : Nat) : ldI c x 1 = c (x / 4096) (x % 4096) := by
  unfold ldI wordI byAt
  simp
def R0 : Nat → Rg := fun _ => ⟨[97], 16, 32, true, false⟩
theorem chk0 : chkI R0 1 = 0 := by
  have h : rgB (R0 0) = true := by
    unfold rgB nameB R0
    decide
  unfold chkI okTo okTo anyTo
  rw [h]
  rfl
theorem acc0 : AccOk 1 R0 20 4 0 := ⟨by decide, by decide, by decide, by decide⟩
theorem acc1 : AccOk 1 R0 21 1 0 := ⟨by decide, by decide, by decide, by decide⟩
theorem acc3 : AccOk 1 R0 16 4 0 := ⟨by decide, by decide, by decide, by decide⟩
theorem dif0 (x : Int) : Dif 1 R0 (stC zC 0 4 4 16909060) zC x ↔ cov [(20, 4)] x := by
  rw [cov_cons]
  simp only [cov_nil, or_false]
  have hb : ∀ j k, j < 1 → k < 4096 → stC zC 0 4 4 16909060 0 j k = if 4 ≤ k ∧ k < 8 then byOf 16909060 (k - 4) else 0 := by
    intro j k hj hk
    have := stC_byte zC 0 4 4 0 k 16909060 (by decide)
    unfold byte at this
    rw [show k / 4096 = 0 by omega, show k % 4096 = k by omega] at this
    rw [show j = 0 by omega, this]
    simp [zC]
  have hnz : ∀ k, k < 4 → byOf 16909060 k ≠ 0 := by decide
  constructor
  · rintro ⟨i, j, k, hi, hj, hk, hne, rfl⟩
    obtain rfl : i = 0 := by omega
    have hp : pgs (R0 0) = 1 := by decide
    rw [hp] at hj
    rw [hb j k hj hk] at hne
    have h48 : 4 ≤ k ∧ k < 8 := by
      by_cases h : 4 ≤ k ∧ k < 8
      · exact h
      · rw [if_neg h] at hne
        exact absurd rfl hne
    show (20 : Int) ≤ (16 : Int) + _ ∧ (16 : Int) + _ < 20 + 4
    omega
  · rintro ⟨h1, h2⟩
    have h1' : (20 : Int) ≤ x := h1
    have h2' : x < (20 : Int) + 4 := h2
    refine ⟨0, 0, (x - 16).toNat, by decide, by decide, by omega, ?_, ?_⟩
    · rw [hb 0 _ (by decide) (by omega), if_pos (by omega)]
      exact hnz _ (by omega)
    · show x = (16 : Int) + _
      omega
set_option maxHeartbeats 2000000 in
theorem c_works (w : World) :
    Calls Try.prog 20 #[] w fun e w' => e = .returned (.bool true) ∧ Below w.heap.size w w' := by
  go_enter Try.func20, Try.ntmps20
  go_wp2_with fail
  refine (c_New (some ⟨w.heap.size, 0, none⟩) 1 1 R0 _ (by decide) (.inr ⟨w.heap.size, 0, rfl, by decide, fun i hi => ?_⟩) (fun i hi => ?_)).mono ?_
  · obtain rfl : i = 0 := by omega
    simp [go_sem, R0]
  · show (1 : Nat) ≤ maxLen ∧ -9223372036854775808 ≤ (16 : Int) ∧ (16 : Int) ≤ 9223372036854775807 ∧ -9223372036854775808 ≤ (32 : Int) ∧ (32 : Int) ≤ 9223372036854775807
    decide
  rintro e w1 hN
  rcases hN with ⟨h, _⟩ | ⟨_, gm, rfl, hgm, hMm, hb1⟩
  · exact absurd chk0 h
  have HM1 := Lib.hid hMm
  have HB1 : Hid (Below w.heap.size w w1) := (below_new w _).trans (hb1.mono (by simp))
  have HG : Hid (w.heap.size ≤ gm) := by have := hgm; simp at this; show _ ≤ _; omega
  clear hMm hb1 hgm
  go_wp2_with fail
  refine (c_mStore _ _ gm 1 R0 zC zC 20 4 16909060 _ HM1.out (by decide) (by decide) (by decide) (by decide)).mono ?_
  rintro e w2 ⟨c, rfl, hS⟩
  rcases hS with ⟨_, _, hno | ⟨_, i, hi, hwr⟩⟩ | ⟨rfl, i, hi, _, hM2, hF2⟩
  · exact (acc_not_both acc0 hno).elim
  · obtain rfl := acc_one HM1.out.okR hi acc0
    cases hwr
  obtain rfl := acc_one HM1.out.okR hi acc0
  have HM2 : Hid (Mm w2 (fun b => gm ≤ b) (fun b => gm ≤ b) gm 1 R0 (stC zC 0 4 4 16909060) zC) := by
    have hgm1 : gm < w1.heap.size := by
      obtain ⟨G, gb, cap, gn, gt, np, cn, ct, P, Q, h1, _⟩ := HM1.out
      have := h1.1.2.1
      have := h1.1.2.2.2.2.2
      omega
    exact Mm.weak hM2 (fun b hb => hb.elim id (fun h => by omega)) (fun b hb => hb.elim id (fun h => by omega))
  have HB2 : Hid (Below w.heap.size w w2) := HB1.out.trans (hF2.below HB1.out.size (fun b hb => Nat.le_trans HG.out hb))
  clear hM2 hF2 hi
  go_wp2_with fail
  refine (c_mLoad _ _ gm 1 R0 _ zC 21 1 _ HM2.out (by decide) (by decide)).mono ?_
  rintro e w3 ⟨v3, c3, rfl, hL, hb3⟩
  have hv3 : v3 = 3 ∧ c3 = 0 := by
    rcases hL with ⟨h0, i, hi, hv⟩ | ⟨_, _, hno⟩
    · obtain rfl := acc_one HM2.out.okR hi acc1
      refine ⟨?_, h0⟩
      rw [hv, show (1 : Int).toNat = 1 from rfl, ldI_one]
      have := stC_byte zC 0 4 4 0 5 16909060 (by decide)
      unfold byte at this
      exact this.trans (by decide)
    · exact (acc_not_both acc1 hno).elim
  obtain ⟨rfl, rfl⟩ := hv3
  have HM3 := Lib.hid (HM2.out.next hb3)
  have HB3 : Hid (Below w.heap.size w w3) := below_on HB2.out hb3 HB2.out.size
  clear hL hb3
  go_wp2_with fail
  refine (c_mLoad _ _ gm 1 R0 _ zC 18 4 _ HM3.out (by decide) (by decide)).mono ?_
  rintro e w4 ⟨v4, c4, rfl, hL, hb4⟩
  have hv4 : c4 = 31 := by
    rcases hL with ⟨_, i, hi, _⟩ | ⟨_, _, hno⟩
    · have := hi.2.1
      exact absurd this (by decide)
    · rcases hno with ⟨h, _⟩ | ⟨_, _, h⟩ | ⟨_, h, _⟩
      · exact absurd (.inr (.inr rfl)) h
      · exact h
      · exact absurd h (by decide)
  subst hv4
  have HM4 := Lib.hid (HM3.out.next hb4)
  have HB4 : Hid (Below w.heap.size w w4) := below_on HB3.out hb4 HB3.out.size
  clear hL hb4
  go_wp2_with fail
  refine (c_mFetch _ _ gm 1 R0 _ zC 16 _ HM4.out (by decide) (by decide)).mono ?_
  rintro e w5 ⟨v5, c5, rfl, hL, hb5⟩
  have hv5 : c5 = 33 := by
    rcases hL with ⟨_, i, hi, hx, _⟩ | ⟨h, _⟩ | ⟨_, _, hno⟩
    · obtain rfl := acc_one HM4.out.okR hi acc3
      cases hx
    · exact h
    · exact (acc_not_both acc3 hno).elim
  subst hv5
  have HM5 := Lib.hid (HM4.out.next hb5)
  have HB5 : Hid (Below w.heap.size w w5) := below_on HB4.out hb5 HB4.out.size
  clear hL hb5
  go_wp2_with fail
  refine (c_Changed _ _ gm 1 R0 _ _ w5 HM5.out).mono ?_
  rintro e w6 ⟨v6, L, hi, rfl, hG6, hW6, hcov, hb6⟩
  obtain rfl : L = [(20, 4)] := Wf.uniq hW6 (show Wf 0 [(20, 4)] 24 from ⟨by decide, by decide, by decide, fun h hh => by simp at hh, by show (0 : Int) ≤ 24; decide⟩) (fun x => (hcov x).trans (dif0 x))
  obtain ⟨a6, cap6, rfl, hcap6, hI6⟩ := hG6.gapIn
  have HB6 : Hid (Below w.heap.size w w6) := below_on HB5.out hb6 HB5.out.size
  have HI6 := Lib.hid hI6
  have HC6 := Lib.hid hcap6
  have hlen : [((20 : Int), (4 : Int))].length = 1 := rfl
  rw [hlen]
  clear hG6 hW6 hcov hb6 hI6 hcap6 hlen
  go_wp2_with fail
  refine (c_gaps a6 (some ⟨w6.heap.size, 0, none⟩) cap6 1 [(20, 4)] _ (by decide) HC6.out (by decide) (HI6.out.next (below_new w6 _)) (fun _ => ⟨w6.heap.size, 0, rfl, fun i x hx => ?_⟩)).mono ?_
  · have hi : i = 0 := by
      have := (List.getElem?_eq_some_iff.1 hx).1
      simpa using this
    subst hi
    simp at hx
    subst hx
    simp [go_sem]
  rintro e w7 ⟨rfl, hb7⟩
  have HB7 : Hid (Below w.heap.size w w7) := below_on HB6.out ((below_new w6 _).trans (hb7.mono (by simp))) HB6.out.size
  clear hb7
  go_wp2_with fail
  go_ret
  exact ⟨rfl, HB7.out⟩
end Go.Proofs.Ytbfimedgichiiaa
