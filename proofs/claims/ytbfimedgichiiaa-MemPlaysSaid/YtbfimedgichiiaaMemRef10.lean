/-
  The document's memory: Check.
-/
import Derived.Test.YtbfimedgichiiaaMemRef9
import Derived.Test.YtbfimedgichiiaaMemCheck2
namespace Go.Proofs.Ytbfimedgichiiaa
set_option linter.unusedVariables false
set_option linter.unusedSimpArgs false
set_option maxRecDepth 100000
open Go.ChangeShapes Go.WideShapes Go.ChangeAt Go.RowKit

theorem chk_no {R : Nat → Rg} {n k j : Nat} (hn : n ≤ 16) (hj : j < k) (hk : k < n) (hc : clB (R k) (R j) = true) : chkI R n = 5 := by
  have h0 : anyTo (R k) R (j + 1) = true := by
    show (anyTo (R k) R j || clB (R k) (R j)) = true
    rw [hc, Bool.or_true]
  have h1 : anyTo (R k) R k = true := by
    have := anyTo_mono (R k) R (j + 1) (k - (j + 1)) h0
    rwa [show j + 1 + (k - (j + 1)) = k by omega] at this
  have h2 : okTo R (k + 1) = false := by
    show (okTo R k && (rgB (R k) && !anyTo (R k) R k)) = false
    rw [h1]
    simp
  have h3 : okTo R n = false := by
    cases h : okTo R n
    · rfl
    · have := okTo_less R (k + 1) (n - (k + 1)) (by rw [show k + 1 + (n - (k + 1)) = n by omega]; exact h)
      rw [h2] at this
      cases this
  unfold chkI
  rw [if_neg (by omega), h3]
  rfl
theorem clB_is (r o : Rg) : clB r o = (decide (r.nm = o.nm) || decide ((if r.fr < o.fr then o.fr else r.fr) < (if r.fr + r.sz < o.fr + o.sz then r.fr + r.sz else o.fr + o.sz))) := by unfold clB; rfl
set_option maxHeartbeats 8000000 in
theorem c_rCheck_short (b off n cap : Nat) (R : Nat → Rg) (w : World) (hn : n ≤ 16) (hcap : n ≤ cap) (hR : RS w b off n R) (hbd : RgBd R n) :
    Calls Try.prog 7 #[.slice (some ⟨b, off, none⟩) n cap] w fun e w' => e = .returned (.int .i64 (chkI R n)) ∧ Below w.heap.size w w' := by
  have hd : decide ((16 : Int) < (n : Int)) = false := by simp; omega
  have HV : Hid (chkI R n = if okTo R n then 0 else 5) := by show _ = _; unfold chkI; rw [if_neg (by omega)]
  have HR := Lib.hid hR
  have HBD := Lib.hid hbd
  have HM := Lib.hid hn
  have HCP := Lib.hid hcap
  clear hR hbd hn hcap
  go_enter Try.func7, Try.ntmps7
  go_wp2_with fail
  clear hd
  go_loopw [3] (fun i wr => ∃ k : Nat, k ≤ n ∧ i = .int .i64 k ∧ Hid (okTo R k = true) ∧ Hid (Below w.heap.size w wr)) (fun i _ => n - (intOf i).toNat)
  case atStart => exact ⟨0, Nat.zero_le _, rfl, rfl, Below.refl _ _⟩
  case round =>
    obtain ⟨k, hk, rfl, HA, HBl⟩ := hrel
    by_cases hlt : k < n
    · obtain ⟨x0, x1, x2, x3, x4⟩ := HR.out.next HBl.out k hlt
      have hml : n ≤ 16 := HM.out
      have hle : k ≤ cap := by have := HCP.out; omega
      obtain ⟨b1, b2, b3, b4, b5⟩ := HBD.out k hlt
      have HRk := Lib.hid ((HR.out.less (show k ≤ n by omega)))
      have HRr := Lib.hid (okTo_rg HA.out)
      have HS0 : ∀ wS, wS = (wr.alloc (.cells #[.string ⟨(R k).nm.toArray⟩, .int .i64 (R k).fr, .int .i64 (R k).sz, .bool (R k).wr, .bool (R k).ex] 34)) →
          (wS.cell? ⟨wr.heap.size, 0, none⟩ = some (.string ⟨(R k).nm.toArray⟩) ∧ wS.cell? ⟨wr.heap.size, 1, none⟩ = some (.int .i64 (R k).fr) ∧ wS.cell? ⟨wr.heap.size, 2, none⟩ = some (.int .i64 (R k).sz) ∧ wS.cell? ⟨wr.heap.size, 3, none⟩ = some (.bool (R k).wr) ∧ wS.cell? ⟨wr.heap.size, 4, none⟩ = some (.bool (R k).ex) ∧ Below w.heap.size w wS) := by
        rintro wS rfl
        refine ⟨?_, ?_, ?_, ?_, ?_, HBl.out.alloc HBl.out.size _⟩ <;> simp [go_sem]
      have HS := Lib.hid HS0
      clear HS0
      have HNm := Lib.hid (c_rName (R k).nm)
      have HRV : Hid (rgB (R k) = (nameB (R k).nm && decide (16 ≤ (R k).fr) && decide ((R k).fr ≤ 4294967296) && decide ((R k).fr % 16 = 0) && decide (0 ≤ (R k).sz) && decide ((R k).sz ≤ 16777216) && decide ((R k).sz % 16 = 0) && decide ((R k).fr + (R k).sz ≤ 4294967296))) := by
        show _ = _
        unfold rgB
        rfl
      have hno : rgB (R k) = false → Hid (chkI R n = 5) := fun hc => by
        show _ = _
        rw [HV.out]
        have : okTo R n = false := by
          cases h : okTo R n
          · rfl
          · have := okTo_rg h k hlt; rw [hc] at this; cases this
        rw [this]
        rfl
      have HNO := Lib.hid hno
      clear hno
      cases hnm : nameB (R k).nm
      · have HZ := HNO.out (by rw [HRV.out, hnm]; simp)
        go_wp2_with (go_at_call 27; refine (HNm.out _ b1).mono ?_; rw [hnm]; rintro e w2 ⟨rfl, rfl⟩)
        all_goals
          go_returns
          exact ⟨ret_i HZ.out.symm, (HS.out _ rfl).2.2.2.2.2⟩
      · go_wp2_with (go_at_call 27; refine (HNm.out _ b1).mono ?_; rw [hnm]; rintro e w2 ⟨rfl, rfl⟩)
        all_goals
          first
          | (go_returns
             refine ⟨ret_i (HNO.out ?_).out.symm, (HS.out _ rfl).2.2.2.2.2⟩
             rw [HRV.out, hnm, Bool.eq_false_iff]
             simp only [Bool.and_eq_true, decide_eq_true_eq, beq_iff_eq, true_and, ne_eq, bne_iff_ne, Bool.not_eq_true', decide_eq_false_iff_not] at *
             omega)
          | (have HG : Hid (rgB (R k) = true) := by
               show _ = _
               rw [HRV.out, hnm]
               simp only [Bool.and_eq_true, decide_eq_true_eq, true_and, Bool.true_and] at *
               omega
             have HK1 : Hid (K1 w wr.heap.size (R k) (wr.alloc (.cells #[.string ⟨(R k).nm.toArray⟩, .int .i64 (R k).fr, .int .i64 (R k).sz, .bool (R k).wr, .bool (R k).ex] 34))) := HS.out _ rfl
             clear x0 x1 x2 x3 x4 b1 b2 b3 b4 b5 hnm
             clear HS HNm HRV HNO
             obtain ⟨wk, hwk⟩ : ∃ wk, (wr.alloc (.cells #[.string ⟨(R k).nm.toArray⟩, .int .i64 (R k).fr, .int .i64 (R k).sz, .bool (R k).wr, .bool (R k).ex] 34)) = wk := ⟨_, rfl⟩
             rw [hwk] at HK1
             try rw [hwk]
             clear hwk
             obtain ⟨g, hg⟩ : ∃ g, wr.heap.size = g := ⟨_, rfl⟩
             rw [hg] at HK1
             try rw [hg]
             clear hg
             go_loopw [5] (fun i wj => ∃ j : Nat, j ≤ k ∧ i = .int .i64 j ∧ Hid (anyTo (R k) R j = false) ∧ Hid (K1 w g (R k) wj)) (fun i _ => k - (intOf i).toNat)
             case atStart => exact ⟨0, Nat.zero_le _, rfl, rfl, HK1⟩
             case round =>
               obtain ⟨j, hj, rfl, HAj, HKj⟩ := hrel
               by_cases hjt : j < k
               · obtain ⟨z0, z1, z2, z3, z4, zB⟩ := HKj.out
                 obtain ⟨x0, x1, x2, x3, x4⟩ := HR.out.next zB j (by omega)
                 have hjn : j < n := by omega
                 have hjc : j < cap := by omega
                 have HO1 := Lib.hid (HRr.out j hjt)
                 have hb5 := HO1.out
                 unfold rgB at hb5
                 simp only [Bool.and_eq_true, decide_eq_true_eq] at hb5
                 obtain ⟨⟨⟨⟨⟨⟨⟨_, c1⟩, c2⟩, _⟩, c3⟩, c4⟩, _⟩, c5⟩ := hb5
                 have hyes : clB (R k) (R j) = true → Hid (chkI R n = 5) := fun hc => chk_no hml hjt hlt hc
                 have HYES := Lib.hid hyes
                 have HNX : Hid (clB (R k) (R j) = false → anyTo (R k) R (j + 1) = false) := fun hc => by
                   show (anyTo (R k) R j || clB (R k) (R j)) = false
                   rw [hc, HAj.out]
                   rfl
                 have HCV := Lib.hid (clB_is (R k) (R j))
                 have HKB := Lib.hid zB
                 have hgl : g < wr.heap.size := cell_lt z0
                 clear hyes zB HK1
                 by_cases hs : (R j).nm = (R k).nm
                 · have hsq : ((R j).nm == (R k).nm) = true := by simpa using hs
                   have HZ := HYES.out (by rw [HCV.out]; simp [hs])
                   go_wp2_with fail
                   all_goals
                     go_returns
                     exact ⟨ret_i HZ.out.symm, HKB.out.trans ((below_new wr _).mono HKB.out.size)⟩
                 · have hsq : ((R j).nm == (R k).nm) = false := by simpa using hs
                   go_wp2_with fail
                   all_goals
                     first
                     | (go_returns
                        refine ⟨ret_i (HYES.out ?_).out.symm, HKB.out.trans ((below_new wr _).mono HKB.out.size)⟩
                        rw [HCV.out]
                        simp only [Bool.or_eq_true, decide_eq_true_eq]
                        right
                        (repeat' split) <;> omega)
                     | (refine ⟨⟨j + 1, by omega, by go_num, HNX.out ?_, K1.next HKj.out (below_new wr _)⟩, by simp [intOf]; omega⟩
                        rw [HCV.out, Bool.or_eq_false_iff]
                        refine ⟨decide_eq_false_iff_not.2 (fun h => hs h.symm), decide_eq_false_iff_not.2 ?_⟩
                        (repeat' split) <;> omega)
               · have hge : decide (j < k) = false := by simp; omega
                 have HJ := Lib.hid (show j = k by omega)
                 have HO : Hid (okTo R (k + 1) = true) := by
                   show (okTo R k && (rgB (R k) && !anyTo (R k) R k)) = true
                   have h1 := HAj.out
                   rw [HJ.out] at h1
                   rw [HA.out, HG.out, h1]
                   rfl
                 clear hj hjt
                 go_wp2_with fail
                 go_roundw
                 case rel => exact ⟨k + 1, by omega, by go_num, HO, HKj.out.2.2.2.2.2⟩
                 case measure => simp [intOf]; omega)
    · have hge : decide (k < n) = false := by simp; omega
      have HK := Lib.hid (show k = n by omega)
      clear hk hlt
      go_wp2_with fail
      go_ret
      refine ⟨ret_i ?_, HBl.out⟩
      rw [HV.out, ← HK.out, HA.out]
      rfl
theorem c_rCheck_long (a : Option Addr) (n cap : Nat) (R : Nat → Rg) (w : World) (hn : 16 < n) (hm : n ≤ maxLen) :
    Calls Try.prog 7 #[.slice a n cap] w fun e w' => e = .returned (.int .i64 (chkI R n)) ∧ Below w.heap.size w w' := by
  have hd : decide ((16 : Int) < (n : Int)) = true := by simp; omega
  have HV : Hid (chkI R n = 3) := by show _ = _; unfold chkI; rw [if_pos hn]
  unfold maxLen at hm
  clear hn
  go_enter Try.func7, Try.ntmps7
  go_wp2_with fail
  go_ret
  exact ⟨ret_i HV.out.symm, Below.refl _ _⟩
theorem c_rCheck_none (a : Option Addr) (n cap : Nat) (R : Nat → Rg) (w : World) (hn : n = 0) :
    Calls Try.prog 7 #[.slice a n cap] w fun e w' => e = .returned (.int .i64 (chkI R n)) ∧ Below w.heap.size w w' := by
  subst hn
  have HV : Hid (chkI R 0 = 0) := by show _ = _; unfold chkI okTo; rfl
  go_enter Try.func7, Try.ntmps7
  go_wp2_with fail
  go_rounds 1
  go_wp2_with fail
  go_ret
  exact ⟨ret_i HV.out.symm, Below.refl _ _⟩
theorem c_rCheck (a : Option Addr) (n cap : Nat) (R : Nat → Rg) (w : World) (hm : n ≤ maxLen) (hR : RSO w a n cap R) (hbd : RgBd R n) :
    Calls Try.prog 7 #[.slice a n cap] w fun e w' => e = .returned (.int .i64 (chkI R n)) ∧ Below w.heap.size w w' := by
  by_cases hn : n ≤ 16
  · rcases hR with h0 | ⟨b, off, rfl, hc, hR⟩
    · exact c_rCheck_none a n cap R w h0
    · exact c_rCheck_short b off n cap R w hn hc hR hbd
  · exact c_rCheck_long a n cap R w (by omega) hm
end Go.Proofs.Ytbfimedgichiiaa
