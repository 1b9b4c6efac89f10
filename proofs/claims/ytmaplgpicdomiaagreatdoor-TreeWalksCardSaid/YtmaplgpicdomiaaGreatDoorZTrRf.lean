/-
  The contract of fit, as the document has it.
-/
import Derived.Test.YtmaplgpicdomiaaGreatDoorZTrDp
namespace Go.Proofs.YtmaplgpicdomiaaGreatDoor
set_option linter.unusedVariables false
set_option linter.unusedSimpArgs false
set_option maxRecDepth 100000
open Go.RowKit

theorem fitD_def {t : List NdT} {ps : List (List Nat)} (hw : PsWf t ps) {j : Nat} {x : NdT} {p : List Nat} (hx : t[j]? = some x) (hp : ps[j]? = some p) : fitB t ps j = ((List.range p.length).all (fun i => fitR x.kind i (kdA t (p.getD i 0))) && !(x.kind == 23 && decide (3 ≤ p.length) && opV t ps (p.getD 1 0))) := by
  rw [fit_both hw j]
  unfold fitD
  rw [hx, hp]
  show ((List.range p.length).all (fun i => fitR x.kind i (kdA t (p.getD i 0))) && !(x.kind == 23 && decide (3 ≤ p.length) && opR t ps t.length (p.getD 1 0))) = _
  by_cases h3 : 3 ≤ p.length
  · have hq := (hw.2 j x p hx hp).2.2 (p.getD 1 0) (by
      rw [List.getD_eq_getElem?_getD, List.getElem?_eq_getElem (by omega : 1 < p.length)]
      exact List.getElem_mem _)
    have hj := (List.getElem?_eq_some_iff.1 hx).1
    rw [op_eq hw t.length (p.getD 1 0) (by omega) (by omega)]
    rfl
  · have : decide (3 ≤ p.length) = false := by simpa using h3
    rw [this, Bool.and_false, Bool.false_and, Bool.false_and]
/-- A kind that has parts, and is no expression's. -/
theorem kinds_of {k n : Int} (h : hpB k n = true) (hn : 0 < n) (he : exB k = false) : k = 20 ∨ k = 21 ∨ k = 22 ∨ k = 23 ∨ k = 24 ∨ k = 25 ∨ k = 26 ∨ k = 27 ∨ k = 28 ∨ k = 29 ∨ k = 32 := by
  unfold exB at he
  simp at he
  unfold hpB at h
  (repeat' split at h) <;> simp at h <;> omega
set_option maxHeartbeats 16000000 in
theorem c_rfit (t : List NdT) (ps : List (List Nat)) (fr : List Nat) (a : Option Addr) (c : Nat) (fa : Option Addr) (fc : Nat) (at' : Nat) (w : World) (hl : t.length ≤ 4096) (hG : PsG t t.length ps fr) (hfl : fr.length = t.length) (hat : at' < t.length) (hT : TrIn t a w) (hF : IntIn any_ fr fa w) :
    Calls Tryz.prog 22 #[.slice a t.length c, .slice fa t.length fc, .int .i64 at'] w fun e w' => e = .returned (.bool (fitB t ps at')) ∧ Below w.heap.size w w' := by
  obtain ⟨x, hxq⟩ : ∃ x, t[at']? = some x := ⟨_, List.getElem?_eq_getElem hat⟩
  obtain ⟨p, hpq, e2, e3, e4, e5⟩ := hG.2 at' x hat hxq
  have hv := fitD_def hG.wf hxq hpq
  have HPt := Lib.hid (c_rpartsT t ps fr a c fa fc p at' w hl hT hF hG hfl hpq)
  have HOp := Lib.hid (fun r (hr : r < t.length) w' (hb : Below w.heap.size w w') => c_ropen t ps fr a c fa fc hl hG hfl (r + 1) r (by omega) hr w' (hT.next hb) (hF.next hb))
  have hpl : p.length ≤ 4096 := by omega
  obtain ⟨b, off, ha, hb, hx⟩ := hT (by omega)
  subst ha
  have y0 := hx at' x hxq 0 _ rfl
  rw [Nat.add_zero] at y0
  obtain ⟨kd, hkd⟩ : ∃ kd, x.kind = kd := ⟨_, rfl⟩
  obtain ⟨n, hn⟩ : ∃ n, p.length = n := ⟨_, rfl⟩
  obtain ⟨N, hN⟩ : ∃ N, t.length = N := ⟨_, rfl⟩
  obtain ⟨R, hR⟩ : ∃ R, fitB t ps at' = R := ⟨_, rfl⟩
  have hq0 : (0 : Int) ≤ (at' : Int) := by omega
  have hqN : (at' : Int) < (N : Int) := by omega
  have HR : Hid (((List.range n).all (fun i => fitR kd i (kdA t (p.getD i 0))) && !(kd == 23 && decide (3 ≤ n) && opV t ps (p.getD 1 0))) = R) := by rw [← hR, hv, hkd, hn]; exact rfl
  have HK := Lib.hid (And.intro hkd (And.intro hn (And.intro hpl (And.intro hN hl))))
  have HE := Lib.hid (And.intro e3 (And.intro e2 e5))
  have HTX := Lib.hid hx
  have HAt := Lib.hid hat
  rw [hkd] at y0
  rw [hR]
  rw [hn, hN] at HPt
  rw [hN] at HOp ⊢
  clear hT hF hG hfl hxq hpq e2 e3 e4 e5 hv hx hkd hn hN hR hl hat hpl
  go_enter Tryz.func22, Tryz.ntmps22
  go_wp2_with fail
  refine HPt.out.mono ?_
  rintro e w1 ⟨⟨rfl, hpI⟩, hbl⟩
  have y0' := (hbl.cell (p := ⟨b, off + at' * 6, none⟩) hb).trans y0
  have HB1 := Lib.hid hbl
  have HPI := Lib.hid hpI
  clear hbl hpI HPt y0
  go_wp2_with fail
  clear y0'
  go_loopg [9] n (fun m v9 wr => ∃ i : Nat, i + m = n ∧ v9 = .int .i64 (i : Int) ∧ Hid (∀ j, j < i → fitR kd j (kdA t (p.getD j 0)) = true) ∧ wr = w1)
  case atStart => exact ⟨0, by omega, rfl, fun j hj => by omega, rfl⟩
  case round =>
    obtain ⟨i, hi, rfl, HAL, rfl⟩ := hrel
    have hbI := HB1.out
    by_cases hlt : i < n
    · have hdi : decide ((i : Int) < (n : Int)) = true := by simp; omega
      obtain ⟨_, _, he, _, hlw, hpx⟩ := HPI.out (by have := HK.out; omega)
      cases he
      obtain ⟨r, hr⟩ : ∃ r, p[i]? = some r := ⟨_, List.getElem?_eq_getElem (by have := HK.out; omega)⟩
      have hrq := HE.out.2.2.lt i r hr
      have z1 := hpx i r hr
      rw [Nat.zero_add] at z1
      obtain ⟨xr, hxr⟩ : ∃ xr, t[r]? = some xr := ⟨_, List.getElem?_eq_getElem (by have := HAt.out; omega)⟩
      have z2 := (hbI.cell (p := ⟨b, off + r * 6, none⟩) hb).trans (HTX.out r xr hxr 0 _ rfl)
      obtain ⟨kr, hkr⟩ : ∃ kr, xr.kind = kr := ⟨_, rfl⟩
      rw [hkr] at z2
      have hi0 : (0 : Int) ≤ (i : Int) := by omega
      have hin : (i : Int) < (n : Int) := by omega
      have hr0 : (0 : Int) ≤ (r : Int) := by omega
      have hrN : (r : Int) < (N : Int) := by have h1 := HAt.out; have h2 := HK.out.2.2.2.1; omega
      have hwi : IntKind.i64.wrap ((i : Int) + 1) = ((i + 1 : Nat) : Int) := by have h1 := HK.out; rw [IntKind.wrap_i64]; omega
      have HMi : Hid (n - (i + 1) < gk ∧ i + 1 + (n - (i + 1)) = n) := ⟨by omega, by omega⟩
      obtain ⟨v, hv⟩ : ∃ v, fitR kd i kr = v := ⟨_, rfl⟩
      have HV : Hid (fitR kd i (kdA t (p.getD i 0)) = v) := by rw [getD_of hr, kd_at hxr, hkr]; exact hv
      have HVk := Lib.hid hv
      have HRf : Hid (v = false → R = false) := fun hvf => by
        rw [← HR.out, all_no hlt (by rw [HV.out]; exact hvf)]
        rfl
      have HX := Lib.hid (c_rExpr kd)
      have HXr := Lib.hid (c_rExpr kr)
      have HSr := Lib.hid (c_rStat kr)
      have HNx : Hid (v = true → ∀ j, j < i + 1 → fitR kd j (kdA t (p.getD j 0)) = true) := fun hvt j hj => by
        by_cases hji : j = i
        · rw [hji, HV.out]; exact hvt
        · exact HAL.out j (by omega)
      obtain ⟨xe, hxe⟩ : ∃ xe, exB kd = xe := ⟨_, rfl⟩
      obtain ⟨re, hre⟩ : ∃ re, exB kr = re := ⟨_, rfl⟩
      obtain ⟨rs, hrs⟩ : ∃ rs, stB kr = rs := ⟨_, rfl⟩
      have HRe := Lib.hid (And.intro hre hrs)
      rw [hxe] at HX
      rw [hre] at HXr
      rw [hrs] at HSr
      have HIN := Lib.hid (And.intro hlt hi)
      clear hpx hr hrq hxr hkr hv hre hrs hbI hlw hi
      cases xe
      · have hks := kinds_of HE.out.1 (by have h1 := HE.out.2.1; have h2 := HK.out; have h3 := hp_nn HE.out.1; omega) (by rw [HK.out.1]; exact hxe)
        have hnk := HE.out.1
        have hnl := HE.out.2.1
        rw [HK.out.1] at hks hnk
        rw [HK.out.2.1] at hnl
        have hnp := hp_nn hnk
        rcases hks with rfl | rfl | rfl | rfl | rfl | rfl | rfl | rfl | rfl | rfl | rfl
        · clear hxe
          have FK : exB kr = fitR 20 i kr := rfl
          clear hnk hnl hnp
          have hvv : re = v := by rw [← HVk.out, ← HRe.out.1]; exact FK
          subst hvv
          cases re
          · go_wp2_with fail
            refine (HX.out _).mono ?_
            rintro e w2 ⟨rfl, rfl⟩
            go_wp2_with fail
            refine (HXr.out _).mono ?_
            rintro e w2 ⟨rfl, rfl⟩
            go_wp2_with fail
            go_ret
            exact ⟨ret_b (HRf.out (by first | trivial | simp | rfl)).symm, HB1.out⟩
          · go_wp2_with fail
            refine (HX.out _).mono ?_
            rintro e w2 ⟨rfl, rfl⟩
            go_wp2_with fail
            refine (HXr.out _).mono ?_
            rintro e w2 ⟨rfl, rfl⟩
            go_wp2_with fail
            go_roundg (n - (i + 1))
            case measure => exact HMi.out.1
            case rel => exact ⟨i + 1, HMi.out.2, rfl, HNx.out (by first | trivial | simp | rfl), rfl⟩
        · clear hxe
          have FK : (stB kr || kr == 22) = fitR 21 i kr := rfl
          clear hnk hnl hnp
          obtain ⟨eq, heq⟩ : ∃ eq, (kr == 22) = eq := ⟨_, rfl⟩
          have hvv : (rs || eq) = v := by rw [← HVk.out, ← HRe.out.2, ← heq]; exact FK
          subst hvv
          cases rs
          · cases eq
            · go_wp2_with fail
              refine (HX.out _).mono ?_
              rintro e w2 ⟨rfl, rfl⟩
              go_wp2_with fail
              refine (HSr.out _).mono ?_
              rintro e w2 ⟨rfl, rfl⟩
              go_wp2_with fail
              go_ret
              exact ⟨ret_b (HRf.out (by first | trivial | simp | rfl)).symm, HB1.out⟩
            · go_wp2_with fail
              refine (HX.out _).mono ?_
              rintro e w2 ⟨rfl, rfl⟩
              go_wp2_with fail
              refine (HSr.out _).mono ?_
              rintro e w2 ⟨rfl, rfl⟩
              go_wp2_with fail
              go_roundg (n - (i + 1))
              case measure => exact HMi.out.1
              case rel => exact ⟨i + 1, HMi.out.2, rfl, HNx.out (by first | trivial | simp | rfl), rfl⟩
          · clear heq
            go_wp2_with fail
            refine (HX.out _).mono ?_
            rintro e w2 ⟨rfl, rfl⟩
            go_wp2_with fail
            refine (HSr.out _).mono ?_
            rintro e w2 ⟨rfl, rfl⟩
            go_wp2_with fail
            go_roundg (n - (i + 1))
            case measure => exact HMi.out.1
            case rel => exact ⟨i + 1, HMi.out.2, rfl, HNx.out (by first | trivial | simp | rfl), rfl⟩
        · clear hxe
          have FK : exB kr = fitR 22 i kr := rfl
          clear hnk hnl hnp
          have hvv : re = v := by rw [← HVk.out, ← HRe.out.1]; exact FK
          subst hvv
          cases re
          · go_wp2_with fail
            refine (HX.out _).mono ?_
            rintro e w2 ⟨rfl, rfl⟩
            go_wp2_with fail
            refine (HXr.out _).mono ?_
            rintro e w2 ⟨rfl, rfl⟩
            go_wp2_with fail
            go_ret
            exact ⟨ret_b (HRf.out (by first | trivial | simp | rfl)).symm, HB1.out⟩
          · go_wp2_with fail
            refine (HX.out _).mono ?_
            rintro e w2 ⟨rfl, rfl⟩
            go_wp2_with fail
            refine (HXr.out _).mono ?_
            rintro e w2 ⟨rfl, rfl⟩
            go_wp2_with fail
            go_roundg (n - (i + 1))
            case measure => exact HMi.out.1
            case rel => exact ⟨i + 1, HMi.out.2, rfl, HNx.out (by first | trivial | simp | rfl), rfl⟩
        · clear hxe
          by_cases h0 : i = 0
          · have e0 : ((i : Int) == 0) = true := by simp; omega
            have FK : exB kr = fitR 23 i kr := by subst h0; rfl
            clear hnk hnl hnp h0
            have hvv : re = v := by rw [← HVk.out, ← HRe.out.1]; exact FK
            subst hvv
            cases re
            · go_wp2_with fail
              refine (HX.out _).mono ?_
              rintro e w2 ⟨rfl, rfl⟩
              go_wp2_with fail
              refine (HXr.out _).mono ?_
              rintro e w2 ⟨rfl, rfl⟩
              go_wp2_with fail
              go_ret
              exact ⟨ret_b (HRf.out (by first | trivial | simp | rfl)).symm, HB1.out⟩
            · go_wp2_with fail
              refine (HX.out _).mono ?_
              rintro e w2 ⟨rfl, rfl⟩
              go_wp2_with fail
              refine (HXr.out _).mono ?_
              rintro e w2 ⟨rfl, rfl⟩
              go_wp2_with fail
              go_roundg (n - (i + 1))
              case measure => exact HMi.out.1
              case rel => exact ⟨i + 1, HMi.out.2, rfl, HNx.out (by first | trivial | simp | rfl), rfl⟩
          · have e0 : ((i : Int) == 0) = false := by simp; omega
            have FK : stB kr = fitR 23 i kr := by simp [fitR, exB, h0]
            clear hnk hnl hnp h0
            have hvv : rs = v := by rw [← HVk.out, ← HRe.out.2]; exact FK
            subst hvv
            cases rs
            · go_wp2_with fail
              refine (HX.out _).mono ?_
              rintro e w2 ⟨rfl, rfl⟩
              go_wp2_with fail
              refine (HSr.out _).mono ?_
              rintro e w2 ⟨rfl, rfl⟩
              go_wp2_with fail
              go_ret
              exact ⟨ret_b (HRf.out (by first | trivial | simp | rfl)).symm, HB1.out⟩
            · go_wp2_with fail
              refine (HX.out _).mono ?_
              rintro e w2 ⟨rfl, rfl⟩
              go_wp2_with fail
              refine (HSr.out _).mono ?_
              rintro e w2 ⟨rfl, rfl⟩
              go_wp2_with fail
              go_roundg (n - (i + 1))
              case measure => exact HMi.out.1
              case rel => exact ⟨i + 1, HMi.out.2, rfl, HNx.out (by first | trivial | simp | rfl), rfl⟩
        · clear hxe
          by_cases h0 : i = 0
          · have e0 : ((i : Int) == 0) = true := by simp; omega
            have FK : exB kr = fitR 24 i kr := by subst h0; rfl
            clear hnk hnl hnp h0
            have hvv : re = v := by rw [← HVk.out, ← HRe.out.1]; exact FK
            subst hvv
            cases re
            · go_wp2_with fail
              refine (HX.out _).mono ?_
              rintro e w2 ⟨rfl, rfl⟩
              go_wp2_with fail
              refine (HXr.out _).mono ?_
              rintro e w2 ⟨rfl, rfl⟩
              go_wp2_with fail
              go_ret
              exact ⟨ret_b (HRf.out (by first | trivial | simp | rfl)).symm, HB1.out⟩
            · go_wp2_with fail
              refine (HX.out _).mono ?_
              rintro e w2 ⟨rfl, rfl⟩
              go_wp2_with fail
              refine (HXr.out _).mono ?_
              rintro e w2 ⟨rfl, rfl⟩
              go_wp2_with fail
              go_roundg (n - (i + 1))
              case measure => exact HMi.out.1
              case rel => exact ⟨i + 1, HMi.out.2, rfl, HNx.out (by first | trivial | simp | rfl), rfl⟩
          · have e0 : ((i : Int) == 0) = false := by simp; omega
            have FK : stB kr = fitR 24 i kr := by simp [fitR, exB, h0]
            clear hnk hnl hnp h0
            have hvv : rs = v := by rw [← HVk.out, ← HRe.out.2]; exact FK
            subst hvv
            cases rs
            · go_wp2_with fail
              refine (HX.out _).mono ?_
              rintro e w2 ⟨rfl, rfl⟩
              go_wp2_with fail
              refine (HSr.out _).mono ?_
              rintro e w2 ⟨rfl, rfl⟩
              go_wp2_with fail
              go_ret
              exact ⟨ret_b (HRf.out (by first | trivial | simp | rfl)).symm, HB1.out⟩
            · go_wp2_with fail
              refine (HX.out _).mono ?_
              rintro e w2 ⟨rfl, rfl⟩
              go_wp2_with fail
              refine (HSr.out _).mono ?_
              rintro e w2 ⟨rfl, rfl⟩
              go_wp2_with fail
              go_roundg (n - (i + 1))
              case measure => exact HMi.out.1
              case rel => exact ⟨i + 1, HMi.out.2, rfl, HNx.out (by first | trivial | simp | rfl), rfl⟩
        · clear hxe
          by_cases h0 : i = 1
          · have e0 : ((i : Int) == 1) = true := by simp; omega
            have FK : exB kr = fitR 25 i kr := by subst h0; rfl
            clear hnk hnl hnp h0
            have hvv : re = v := by rw [← HVk.out, ← HRe.out.1]; exact FK
            subst hvv
            cases re
            · go_wp2_with fail
              refine (HX.out _).mono ?_
              rintro e w2 ⟨rfl, rfl⟩
              go_wp2_with fail
              refine (HXr.out _).mono ?_
              rintro e w2 ⟨rfl, rfl⟩
              go_wp2_with fail
              go_ret
              exact ⟨ret_b (HRf.out (by first | trivial | simp | rfl)).symm, HB1.out⟩
            · go_wp2_with fail
              refine (HX.out _).mono ?_
              rintro e w2 ⟨rfl, rfl⟩
              go_wp2_with fail
              refine (HXr.out _).mono ?_
              rintro e w2 ⟨rfl, rfl⟩
              go_wp2_with fail
              go_roundg (n - (i + 1))
              case measure => exact HMi.out.1
              case rel => exact ⟨i + 1, HMi.out.2, rfl, HNx.out (by first | trivial | simp | rfl), rfl⟩
          · have e0 : ((i : Int) == 1) = false := by simp; omega
            have FK : stB kr = fitR 25 i kr := by simp [fitR, exB, h0]
            clear hnk hnl hnp h0
            have hvv : rs = v := by rw [← HVk.out, ← HRe.out.2]; exact FK
            subst hvv
            cases rs
            · go_wp2_with fail
              refine (HX.out _).mono ?_
              rintro e w2 ⟨rfl, rfl⟩
              go_wp2_with fail
              refine (HSr.out _).mono ?_
              rintro e w2 ⟨rfl, rfl⟩
              go_wp2_with fail
              go_ret
              exact ⟨ret_b (HRf.out (by first | trivial | simp | rfl)).symm, HB1.out⟩
            · go_wp2_with fail
              refine (HX.out _).mono ?_
              rintro e w2 ⟨rfl, rfl⟩
              go_wp2_with fail
              refine (HSr.out _).mono ?_
              rintro e w2 ⟨rfl, rfl⟩
              go_wp2_with fail
              go_roundg (n - (i + 1))
              case measure => exact HMi.out.1
              case rel => exact ⟨i + 1, HMi.out.2, rfl, HNx.out (by first | trivial | simp | rfl), rfl⟩
        · clear hxe
          by_cases h0 : i = 0
          · have e0 : ((i : Int) == 0) = true := by simp; omega
            have FK : (kr == 20 || kr == 22 || kr == 33) = fitR 26 i kr := by subst h0; rfl
            clear hnk hnl hnp h0
            obtain ⟨q1, hq1⟩ : ∃ q, (kr == 20) = q := ⟨_, rfl⟩
            obtain ⟨q2, hq2⟩ : ∃ q, (kr == 22) = q := ⟨_, rfl⟩
            obtain ⟨q3, hq3⟩ : ∃ q, (kr == 33) = q := ⟨_, rfl⟩
            have hvv : (q1 || q2 || q3) = v := by rw [← HVk.out, ← hq1, ← hq2, ← hq3]; exact FK
            subst hvv
            cases q1
            · cases q2
              · cases q3
                · go_wp2_with fail
                  refine (HX.out _).mono ?_
                  rintro e w2 ⟨rfl, rfl⟩
                  go_wp2_with fail
                  go_ret
                  exact ⟨ret_b (HRf.out (by first | trivial | simp | rfl)).symm, HB1.out⟩
                · go_wp2_with fail
                  refine (HX.out _).mono ?_
                  rintro e w2 ⟨rfl, rfl⟩
                  go_wp2_with fail
                  go_roundg (n - (i + 1))
                  case measure => exact HMi.out.1
                  case rel => exact ⟨i + 1, HMi.out.2, rfl, HNx.out (by first | trivial | simp | rfl), rfl⟩
              · clear hq3
                go_wp2_with fail
                refine (HX.out _).mono ?_
                rintro e w2 ⟨rfl, rfl⟩
                go_wp2_with fail
                go_roundg (n - (i + 1))
                case measure => exact HMi.out.1
                case rel => exact ⟨i + 1, HMi.out.2, rfl, HNx.out (by first | trivial | simp | rfl), rfl⟩
            · clear hq2 hq3
              go_wp2_with fail
              refine (HX.out _).mono ?_
              rintro e w2 ⟨rfl, rfl⟩
              go_wp2_with fail
              go_roundg (n - (i + 1))
              case measure => exact HMi.out.1
              case rel => exact ⟨i + 1, HMi.out.2, rfl, HNx.out (by first | trivial | simp | rfl), rfl⟩
          · have e0 : ((i : Int) == 0) = false := by simp; omega
            by_cases h3 : i < 3
            · have e3 : decide ((i : Int) < 3) = true := by simp; omega
              have FK : (exB kr || kr == 33) = fitR 26 i kr := by simp [fitR, exB, h0, h3]
              clear hnk hnl hnp h0 h3
              obtain ⟨eq, heq⟩ : ∃ eq, (kr == 33) = eq := ⟨_, rfl⟩
              have hvv : (re || eq) = v := by rw [← HVk.out, ← HRe.out.1, ← heq]; exact FK
              subst hvv
              cases re
              · cases eq
                · go_wp2_with fail
                  refine (HX.out _).mono ?_
                  rintro e w2 ⟨rfl, rfl⟩
                  go_wp2_with fail
                  refine (HXr.out _).mono ?_
                  rintro e w2 ⟨rfl, rfl⟩
                  go_wp2_with fail
                  go_ret
                  exact ⟨ret_b (HRf.out (by first | trivial | simp | rfl)).symm, HB1.out⟩
                · go_wp2_with fail
                  refine (HX.out _).mono ?_
                  rintro e w2 ⟨rfl, rfl⟩
                  go_wp2_with fail
                  refine (HXr.out _).mono ?_
                  rintro e w2 ⟨rfl, rfl⟩
                  go_wp2_with fail
                  go_roundg (n - (i + 1))
                  case measure => exact HMi.out.1
                  case rel => exact ⟨i + 1, HMi.out.2, rfl, HNx.out (by first | trivial | simp | rfl), rfl⟩
              · clear heq
                go_wp2_with fail
                refine (HX.out _).mono ?_
                rintro e w2 ⟨rfl, rfl⟩
                go_wp2_with fail
                refine (HXr.out _).mono ?_
                rintro e w2 ⟨rfl, rfl⟩
                go_wp2_with fail
                go_roundg (n - (i + 1))
                case measure => exact HMi.out.1
                case rel => exact ⟨i + 1, HMi.out.2, rfl, HNx.out (by first | trivial | simp | rfl), rfl⟩
            · have e3 : decide ((i : Int) < 3) = false := by simp; omega
              have FK : stB kr = fitR 26 i kr := by simp [fitR, exB, h0, h3]
              clear hnk hnl hnp h0 h3
              have hvv : rs = v := by rw [← HVk.out, ← HRe.out.2]; exact FK
              subst hvv
              cases rs
              · go_wp2_with fail
                refine (HX.out _).mono ?_
                rintro e w2 ⟨rfl, rfl⟩
                go_wp2_with fail
                refine (HSr.out _).mono ?_
                rintro e w2 ⟨rfl, rfl⟩
                go_wp2_with fail
                go_ret
                exact ⟨ret_b (HRf.out (by first | trivial | simp | rfl)).symm, HB1.out⟩
              · go_wp2_with fail
                refine (HX.out _).mono ?_
                rintro e w2 ⟨rfl, rfl⟩
                go_wp2_with fail
                refine (HSr.out _).mono ?_
                rintro e w2 ⟨rfl, rfl⟩
                go_wp2_with fail
                go_roundg (n - (i + 1))
                case measure => exact HMi.out.1
                case rel => exact ⟨i + 1, HMi.out.2, rfl, HNx.out (by first | trivial | simp | rfl), rfl⟩
        · clear hxe
          by_cases h0 : i = 0
          · have e0 : ((i : Int) == 0) = true := by simp; omega
            have FK : exB kr = fitR 27 i kr := by subst h0; rfl
            clear hnk hnl hnp h0
            have hvv : re = v := by rw [← HVk.out, ← HRe.out.1]; exact FK
            subst hvv
            cases re
            · go_wp2_with fail
              refine (HX.out _).mono ?_
              rintro e w2 ⟨rfl, rfl⟩
              go_wp2_with fail
              refine (HXr.out _).mono ?_
              rintro e w2 ⟨rfl, rfl⟩
              go_wp2_with fail
              go_ret
              exact ⟨ret_b (HRf.out (by first | trivial | simp | rfl)).symm, HB1.out⟩
            · go_wp2_with fail
              refine (HX.out _).mono ?_
              rintro e w2 ⟨rfl, rfl⟩
              go_wp2_with fail
              refine (HXr.out _).mono ?_
              rintro e w2 ⟨rfl, rfl⟩
              go_wp2_with fail
              go_roundg (n - (i + 1))
              case measure => exact HMi.out.1
              case rel => exact ⟨i + 1, HMi.out.2, rfl, HNx.out (by first | trivial | simp | rfl), rfl⟩
          · have e0 : ((i : Int) == 0) = false := by simp; omega
            have FK : stB kr = fitR 27 i kr := by simp [fitR, exB, h0]
            clear hnk hnl hnp h0
            have hvv : rs = v := by rw [← HVk.out, ← HRe.out.2]; exact FK
            subst hvv
            cases rs
            · go_wp2_with fail
              refine (HX.out _).mono ?_
              rintro e w2 ⟨rfl, rfl⟩
              go_wp2_with fail
              refine (HSr.out _).mono ?_
              rintro e w2 ⟨rfl, rfl⟩
              go_wp2_with fail
              go_ret
              exact ⟨ret_b (HRf.out (by first | trivial | simp | rfl)).symm, HB1.out⟩
            · go_wp2_with fail
              refine (HX.out _).mono ?_
              rintro e w2 ⟨rfl, rfl⟩
              go_wp2_with fail
              refine (HSr.out _).mono ?_
              rintro e w2 ⟨rfl, rfl⟩
              go_wp2_with fail
              go_roundg (n - (i + 1))
              case measure => exact HMi.out.1
              case rel => exact ⟨i + 1, HMi.out.2, rfl, HNx.out (by first | trivial | simp | rfl), rfl⟩
        · clear hxe
          by_cases h0 : i = 0
          · have e0 : ((i : Int) == 0) = true := by simp; omega
            have FK : exB kr = fitR 28 i kr := by subst h0; rfl
            clear hnk hnl hnp h0
            have hvv : re = v := by rw [← HVk.out, ← HRe.out.1]; exact FK
            subst hvv
            cases re
            · go_wp2_with fail
              refine (HX.out _).mono ?_
              rintro e w2 ⟨rfl, rfl⟩
              go_wp2_with fail
              refine (HXr.out _).mono ?_
              rintro e w2 ⟨rfl, rfl⟩
              go_wp2_with fail
              go_ret
              exact ⟨ret_b (HRf.out (by first | trivial | simp | rfl)).symm, HB1.out⟩
            · go_wp2_with fail
              refine (HX.out _).mono ?_
              rintro e w2 ⟨rfl, rfl⟩
              go_wp2_with fail
              refine (HXr.out _).mono ?_
              rintro e w2 ⟨rfl, rfl⟩
              go_wp2_with fail
              go_roundg (n - (i + 1))
              case measure => exact HMi.out.1
              case rel => exact ⟨i + 1, HMi.out.2, rfl, HNx.out (by first | trivial | simp | rfl), rfl⟩
          · have e0 : ((i : Int) == 0) = false := by simp; omega
            have FK : stB kr = fitR 28 i kr := by simp [fitR, exB, h0]
            clear hnk hnl hnp h0
            have hvv : rs = v := by rw [← HVk.out, ← HRe.out.2]; exact FK
            subst hvv
            cases rs
            · go_wp2_with fail
              refine (HX.out _).mono ?_
              rintro e w2 ⟨rfl, rfl⟩
              go_wp2_with fail
              refine (HSr.out _).mono ?_
              rintro e w2 ⟨rfl, rfl⟩
              go_wp2_with fail
              go_ret
              exact ⟨ret_b (HRf.out (by first | trivial | simp | rfl)).symm, HB1.out⟩
            · go_wp2_with fail
              refine (HX.out _).mono ?_
              rintro e w2 ⟨rfl, rfl⟩
              go_wp2_with fail
              refine (HSr.out _).mono ?_
              rintro e w2 ⟨rfl, rfl⟩
              go_wp2_with fail
              go_roundg (n - (i + 1))
              case measure => exact HMi.out.1
              case rel => exact ⟨i + 1, HMi.out.2, rfl, HNx.out (by first | trivial | simp | rfl), rfl⟩
        · clear hxe
          have FK : stB kr = fitR 29 i kr := by simp [fitR, exB]
          clear hnk hnl hnp
          have hvv : rs = v := by rw [← HVk.out, ← HRe.out.2]; exact FK
          subst hvv
          cases rs
          · go_wp2_with fail
            refine (HX.out _).mono ?_
            rintro e w2 ⟨rfl, rfl⟩
            go_wp2_with fail
            refine (HSr.out _).mono ?_
            rintro e w2 ⟨rfl, rfl⟩
            go_wp2_with fail
            go_ret
            exact ⟨ret_b (HRf.out (by first | trivial | simp | rfl)).symm, HB1.out⟩
          · go_wp2_with fail
            refine (HX.out _).mono ?_
            rintro e w2 ⟨rfl, rfl⟩
            go_wp2_with fail
            refine (HSr.out _).mono ?_
            rintro e w2 ⟨rfl, rfl⟩
            go_wp2_with fail
            go_roundg (n - (i + 1))
            case measure => exact HMi.out.1
            case rel => exact ⟨i + 1, HMi.out.2, rfl, HNx.out (by first | trivial | simp | rfl), rfl⟩
        · clear hxe
          have FK : exB kr = fitR 32 i kr := rfl
          clear hnk hnl hnp
          have hvv : re = v := by rw [← HVk.out, ← HRe.out.1]; exact FK
          subst hvv
          cases re
          · go_wp2_with fail
            refine (HX.out _).mono ?_
            rintro e w2 ⟨rfl, rfl⟩
            go_wp2_with fail
            refine (HXr.out _).mono ?_
            rintro e w2 ⟨rfl, rfl⟩
            go_wp2_with fail
            go_ret
            exact ⟨ret_b (HRf.out (by first | trivial | simp | rfl)).symm, HB1.out⟩
          · go_wp2_with fail
            refine (HX.out _).mono ?_
            rintro e w2 ⟨rfl, rfl⟩
            go_wp2_with fail
            refine (HXr.out _).mono ?_
            rintro e w2 ⟨rfl, rfl⟩
            go_wp2_with fail
            go_roundg (n - (i + 1))
            case measure => exact HMi.out.1
            case rel => exact ⟨i + 1, HMi.out.2, rfl, HNx.out (by first | trivial | simp | rfl), rfl⟩
      · have FK : exB kr = fitR kd i kr := by unfold fitR; rw [hxe]; rfl
        clear hxe
        have hvv : re = v := by rw [← HVk.out, ← HRe.out.1]; exact FK
        subst hvv
        cases re
        · go_wp2_with fail
          refine (HX.out _).mono ?_
          rintro e w2 ⟨rfl, rfl⟩
          go_wp2_with fail
          refine (HXr.out _).mono ?_
          rintro e w2 ⟨rfl, rfl⟩
          go_wp2_with fail
          go_ret
          exact ⟨ret_b (HRf.out (by first | trivial | simp | rfl)).symm, HB1.out⟩
        · go_wp2_with fail
          refine (HX.out _).mono ?_
          rintro e w2 ⟨rfl, rfl⟩
          go_wp2_with fail
          refine (HXr.out _).mono ?_
          rintro e w2 ⟨rfl, rfl⟩
          go_wp2_with fail
          go_roundg (n - (i + 1))
          case measure => exact HMi.out.1
          case rel => exact ⟨i + 1, HMi.out.2, rfl, HNx.out (by first | trivial | simp | rfl), rfl⟩
    · have hdi : decide ((i : Int) < (n : Int)) = false := by simp; omega
      obtain rfl : i = n := by omega
      have hall : (List.range i).all (fun j => fitR kd j (kdA t (p.getD j 0))) = true := all_yes (fun j hj => HAL.out j hj)
      have HRv : Hid ((!(kd == 23 && decide (3 ≤ i) && opV t ps (p.getD 1 0))) = R) := by
        have h := HR.out
        rw [hall, Bool.true_and] at h
        exact h
      by_cases h23 : kd = 23
      · subst h23
        by_cases h3 : 3 ≤ i
        · have d3 : decide ((i : Int) < 3) = false := by simp; omega
          obtain ⟨_, _, he, _, hlw, hpx⟩ := HPI.out (by have := HK.out; omega)
          cases he
          obtain ⟨r, hr⟩ : ∃ r, p[1]? = some r := ⟨_, List.getElem?_eq_getElem (by have := HK.out; omega)⟩
          have hrq := HE.out.2.2.lt 1 r hr
          have z1 := hpx 1 r hr
          rw [Nat.zero_add] at z1
          have hi1 : (1 : Int) < (i : Int) := by omega
          have hi2 : 1 < i := by omega
          have HC := Lib.hid (HOp.out r (by have := HAt.out; omega) wr HB1.out)
          obtain ⟨o, ho⟩ : ∃ o, opV t ps r = o := ⟨_, rfl⟩
          have HRo : Hid ((!o) = R) := by
            rw [← HRv.out, getD_of hr, ho, show decide (3 ≤ i) = true by simpa using h3]
            exact rfl
          rw [ho] at HC
          have hRo := HRo.out
          subst hRo
          clear hpx hr hrq hlw ho h3 hall
          go_wp2_with fail
          refine HC.out.mono ?_
          rintro e w2 ⟨rfl, hb2⟩
          have HB2 := Lib.hid (below_t HB1.out hb2 HB1.out.size)
          clear hb2
          go_wp2_with fail
          go_ret
          exact ⟨rfl, HB2.out⟩
        · have d3 : decide ((i : Int) < 3) = true := by simp; omega
          have HRo : Hid (R = true) := by
            rw [← HRv.out, show decide (3 ≤ i) = false by simpa using h3]
            exact rfl
          have hRo := HRo.out
          subst hRo
          clear h3 hall
          go_wp2_with fail
          go_ret
          exact ⟨rfl, HB1.out⟩
      · have e1 : (kd == 23) = false := by simpa using h23
        have e2 : (kd != 23) = true := by simp [bne, e1]
        have HRo : Hid (R = true) := by
          rw [← HRv.out, e1]
          exact rfl
        have hRo := HRo.out
        subst hRo
        clear h23 hall
        go_wp2_with fail
        go_ret
        exact ⟨rfl, HB1.out⟩
end Go.Proofs.YtmaplgpicdomiaaGreatDoor
