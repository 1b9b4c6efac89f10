/-
  The document's memory: Changed.
-/
import Derived.Test.YtbfimedgichiiaaMemPut4
import Derived.Test.YtbfimedgichiiaaMemTie2
namespace Go.Proofs.Ytbfimedgichiiaa
set_option linter.unusedVariables false
set_option linter.unusedSimpArgs false
set_option maxRecDepth 100000
open Go.ChangeShapes Go.WideShapes Go.ChangeAt Go.RowKit

set_option maxHeartbeats 4000000 in
theorem c_rChanged (gy gl gN gW nb : Nat) (R : Nat → Rg) (rn rw' : Nat → Nat) (c d : Nat → Nat → Int) (w : World) (hL : RL w gy gl nb R) (hN : RN w 1 gy gN nb R rn c) (hW : RN w 2 gy gW nb R rw' d) (hnb : nb ≤ 16) (hok : okTo R nb = true) :
    Calls Try.prog 18 #[.pointer (some ⟨gy, 0, none⟩)] w fun e w' => ∃ g cap L, e = .returned (.slice (some ⟨g, 0, none⟩) L.length cap) ∧ GLs w' w.heap.size g cap L ∧ RcS R c d nb 0 L ∧ Below w.heap.size w w' := by
  have HL := Lib.hid hL
  have HN := Lib.hid hN
  have HW := Lib.hid hW
  have HOk := Lib.hid hok
  clear hL hN hW hok
  go_enter Try.func18, Try.ntmps18
  go_wp2_with fail
  go_loopw [3, 4] (fun l i wr => ∃ I g n cap : Nat, I ≤ nb ∧ i = .int .i64 I ∧ l = .slice (some ⟨g, 0, none⟩) n cap ∧ Hid (∃ L, L.length = n ∧ GLs wr w.heap.size g cap L ∧ RcS R c d I 0 L) ∧ Hid (Below w.heap.size w wr)) (fun _ i _ => nb - (intOf i).toNat)
  case atStart => exact ⟨0, w.heap.size, 0, 0, Nat.zero_le _, rfl, rfl, ⟨[], rfl, World.ownsRow_made w #[] 0 (Nat.le_refl _) (by decide) rfl, RcS.start R c d⟩, below_new w _⟩
  case round =>
    obtain ⟨I, g, n, cap, hI, rfl, rfl, HG, HB⟩ := hrel
    obtain ⟨⟨aL, cL, hcl, haL⟩, hRS⟩ := HL.out.next HB.out
    obtain ⟨⟨aN, cN, hcn, haN⟩, hrN⟩ := HN.out.next HB.out
    by_cases hlt : I < nb
    · obtain rfl := haL (by omega)
      obtain rfl := haN (by omega)
      obtain ⟨ar, cr, z1, z2, z3, z4⟩ := hrN I hlt
      obtain rfl := z3
      have hrg := rg_bd (okTo_rg HOk.out I hlt)
      obtain ⟨z, hz⟩ : ∃ z : Nat, (R I).sz.toNat = z := ⟨_, rfl⟩
      have HZ := Lib.hid hz
      have HRg := Lib.hid hrg
      have hzb : z ≤ 16777216 := by omega
      have hI0 : (0 : Int) ≤ (I : Int) := by omega
      have hI1 : (I : Int) < (nb : Int) := by omega
      clear hrN hRS z4 hrg hz z1 z2 hcn
      go_wp2_with fail
      go_loopw [3, 5] (fun l i wr => ∃ K g n cap : Nat, K ≤ z ∧ i = .int .i64 K ∧ l = .slice (some ⟨g, 0, none⟩) n cap ∧ Hid (∃ L, L.length = n ∧ GLs wr w.heap.size g cap L ∧ RcS R c d I K L) ∧ Hid (Below w.heap.size w wr)) (fun _ i _ => z - (intOf i).toNat)
      case atStart => exact ⟨0, g, n, cap, Nat.zero_le _, rfl, rfl, HG, HB⟩
      case round =>
        clear hcl
        obtain ⟨K, g2, n2, cap2, hK, rfl, rfl, HG2, HB2⟩ := hrel
        obtain ⟨⟨aL2, cL2, hcl, haL2⟩, hRS2⟩ := HL.out.next HB2.out
        obtain ⟨⟨aN2, cN2, hcn, haN2⟩, hrN2⟩ := HN.out.next HB2.out
        obtain ⟨⟨aW2, cW2, hcw, haW2⟩, hrW2⟩ := HW.out.next HB2.out
        obtain rfl := haL2 (by omega)
        obtain rfl := haN2 (by omega)
        obtain rfl := haW2 (by omega)
        obtain ⟨ar2, cr2, z1, z2, z3, z4⟩ := hrN2 I hlt
        obtain rfl := z3
        obtain ⟨aw2, cw2, y1, y2, y3, y4⟩ := hrW2 I hlt
        obtain rfl := y3
        rw [HZ.out] at z1 z2 y1 y2
        have hf1 := (hRS2 I hlt).2.1
        rw [Nat.zero_add] at hf1
        clear hRS2 hrN2 hrW2
        have hrI := HRg.out
        by_cases hlk : K < z
        · obtain ⟨b1, b2, b3⟩ := z4 K (by have := HZ.out; omega)
          obtain ⟨q1, q2, q3⟩ := y4 K (by have := HZ.out; omega)
          have hK0 : (0 : Int) ≤ (K : Int) := by omega
          have hK1 : (K : Int) < (z : Int) := by omega
          have HXn : Hid (∀ m, Below w.heap.size w (wr.drewN m)) := fun m => below_drewN HB2.out m
          have HSame : Hid (c I K = d I K → ∀ q, ∃ L, L.length = n2 ∧ GLs (wr.drewN q) w.heap.size g2 cap2 L ∧ RcS R c d I (K + 1) L) := fun e q => by
            obtain ⟨L, h1, h2, h3⟩ := HG2.out
            exact ⟨L, h1, h2.bl (below_drewN (Below.refl _ _) q), h3.same e⟩
          have HPut : Hid (c I K ≠ d I K → ∀ q, ∃ L, L.length = n2 ∧ GLs (wr.drewN q) w.heap.size g2 cap2 L ∧ Wf 0 L 4294967296 ∧ RcS R c d I (K + 1) (putP L ((R I).fr + K))) := fun e q => by
            obtain ⟨L, h1, h2, h3⟩ := HG2.out
            exact ⟨L, h1, h2.bl (below_drewN (Below.refl _ _) q), h3.1, h3.put HOk.out hlt (by have := HZ.out; omega) e⟩
          clear z4 y4
          generalize c I K = x at b1 b2 b3 HSame HPut
          generalize d I K = y at q1 q2 q3 HSame HPut
          by_cases he : x = y
          · have HS1 := Lib.hid (HSame.out he)
            have de : (x == y) = true := by simp [he]
            subst he
            clear hrI
            go_wp2_with fail
            go_quiet (fail)
            go_wp2_with fail
            go_roundw
            case rel => exact ⟨K + 1, g2, n2, cap2, by omega, by go_num, rfl, HS1.out _, HXn.out _⟩
            case measure => simp [intOf]; omega
          · have HS1 := Lib.hid (HPut.out he)
            have de : (x == y) = false := by simp [he]
            generalize (R I).fr = f at hf1 hrI HS1
            obtain ⟨r1, r2, r3, r4, r5, r6, r7⟩ := hrI
            have hfk0 : 0 ≤ f + (K : Int) := by omega
            have hfk1 : f + (K : Int) ≤ 4294967296 := by have := HZ.out; omega
            clear he r3 r4 r5 r6 r7
            go_wp2_with fail
            go_quiet (fail)
            go_wp2_with fail
            obtain ⟨L, hl, hGs, hWf, hR⟩ := HS1.out nq
            have HR := Lib.hid hR
            have HXq := Lib.hid (HXn.out nq)
            clear hR HS1 HXn HSame HPut HG2
            subst hl
            refine (c_put g2 cap2 L (f + (K : Int)) 4294967296 w.heap.size _ hGs hWf (Int.le_refl _) hfk0 hfk1 HXq.out.size).mono ?_
            rintro e w3 ⟨g3, cap3, rfl, hG3, hC3⟩
            have HG3 : Hid (∃ L', L'.length = (putP L (f + (K : Int))).length ∧ GLs w3 w.heap.size g3 cap3 L' ∧ RcS R c d I (K + 1) L') := ⟨_, rfl, hG3, HR.out⟩
            have HB3 : Hid (Below w.heap.size w w3) := HXq.out.trans (hC3.1.below HXq.out.size (fun b e => by rw [e]; exact hGs.cap.2.1))
            generalize (putP L (f + (K : Int))).length = n3 at HG3 ⊢
            clear hGs hWf hG3 hC3 HR
            go_wp2_with fail
            go_roundw
            case rel => exact ⟨K + 1, g3, n3, cap3, by omega, by go_num, rfl, HG3, HB3⟩
            case measure => simp [intOf]; omega
        · have hge : decide ((K : Int) < (z : Int)) = false := by simp; omega
          obtain rfl : K = z := by omega
          have HG3 : Hid (∃ L, L.length = n2 ∧ GLs wr w.heap.size g2 cap2 L ∧ RcS R c d (I + 1) 0 L) := by
            obtain ⟨L, h1, h2, h3⟩ := HG2.out
            exact ⟨L, h1, h2, h3.next (by have := HZ.out; omega)⟩
          clear hlk hK z4 y4 hrI
          go_wp2_with fail
          go_roundw
          case rel => exact ⟨I + 1, g2, n2, cap2, by omega, by go_num, rfl, HG3, HB2⟩
          case measure => simp [intOf]; omega
    · have hge : decide ((I : Int) < (nb : Int)) = false := by simp; omega
      obtain rfl : I = nb := by omega
      clear hlt hI hrN hRS
      go_wp2_with fail
      go_ret
      obtain ⟨L, h1, h2, h3⟩ := HG.out
      subst h1
      exact ⟨g, cap, L, rfl, h2, h3, HB.out⟩
end Go.Proofs.Ytbfimedgichiiaa
