/-
  The document's memory: Fetch, Of.
-/
import Derived.Test.YtbfimedgichiiaaMemTwo
namespace Go.Proofs.Ytbfimedgichiiaa
set_option linter.unusedVariables false
set_option linter.unusedSimpArgs false
set_option maxRecDepth 100000
open Go.ChangeShapes Go.WideShapes Go.ChangeAt Go.RowKit

/-- The ranges of the document's memory. -/
def RL (w : World) (gy gl nb : Nat) (R : Nat → Rg) : Prop :=
  (∃ aL cL, w.cell? ⟨gy, 0, none⟩ = some (.slice aL nb cL) ∧ (0 < nb → aL = some ⟨gl, 0, none⟩)) ∧ RS w gl 0 nb R
theorem RL.next {w w' : World} {gy gl nb : Nat} {R : Nat → Rg} (h : RL w gy gl nb R) (hb : Below w.heap.size w w') : RL w' gy gl nb R := by
  obtain ⟨⟨aL, cL, h1, h2⟩, h3⟩ := h
  exact ⟨⟨aL, cL, (hb.cell (cell_lt h1)).trans h1, h2⟩, h3.next hb⟩
/-- The range that has n bytes from an address on, and where there. -/
def InAns (nb : Nat) (R : Nat → Rg) (a n i k : Int) : Prop :=
  (∃ j : Nat, j < nb ∧ holdB (R j) a n = true ∧ i = j ∧ k = a - (R j).fr) ∨ ((∀ j, j < nb → holdB (R j) a n = false) ∧ i = -1 ∧ k = 0)
set_option maxHeartbeats 2000000 in
theorem c_rIn (gy gl nb : Nat) (R : Nat → Rg) (a n : Int) (w : World) (hL : RL w gy gl nb R) (hnb : nb ≤ 16) (hok : okTo R nb = true) (a0 : 0 ≤ a) (a1 : a ≤ 4294967295) (n0 : 0 < n) (n1 : n ≤ 140737488355328) :
    Calls Try.prog 64 #[.pointer (some ⟨gy, 0, none⟩), .int .i64 a, .int .i64 n] w fun e w' => ∃ i k, e = .returned (.tuple #[.int .i64 i, .int .i64 k]) ∧ InAns nb R a n i k ∧ Below w.heap.size w w' := by
  have HL := Lib.hid hL
  have HRg : Hid (∀ i, i < nb → rgB (R i) = true) := okTo_rg hok
  obtain ⟨⟨aL, cL, hc0, haL⟩, _⟩ := hL
  have HaL := Lib.hid haL
  have HC0 := Lib.hid hc0
  have hnd : decide (0 < n) = true := by simp [n0]
  clear haL hok
  go_enter Try.func64, Try.ntmps64
  go_wp2_with fail
  go_loopw [8] (fun i wr => ∃ q : Nat, q ≤ nb ∧ i = .int .i64 q ∧ Hid (∀ j, j < q → holdB (R j) a n = false) ∧ Hid (Below w.heap.size w wr)) (fun i _ => nb - (intOf i).toNat)
  case atStart => exact ⟨0, Nat.zero_le _, rfl, fun j hj => by omega, Below.refl _ _⟩
  case round =>
    obtain ⟨q, hq, rfl, HK, HB⟩ := hrel
    obtain ⟨⟨aL', cL', hcr, _⟩, hRS⟩ := HL.out.next HB.out
    have hcr0 : wr.cell? ⟨gy, 0, none⟩ = some (.slice aL nb cL) := (HB.out.cell (cell_lt HC0.out)).trans HC0.out
    clear hcr
    by_cases hlt : q < nb
    · obtain rfl := HaL.out (by omega)
      obtain ⟨x0, x1, x2, x3, x4⟩ := hRS q hlt
      rw [Nat.zero_add] at x0 x1 x2 x3 x4
      have hrg := rg_bd (HRg.out q hlt)
      have hq0 : (0 : Int) ≤ (q : Int) := by omega
      have hq1 : (q : Int) < (nb : Int) := by omega
      have HX : Hid (∀ m, Below w.heap.size w (wr.drewN m)) := fun m => below_drewN HB.out m
      have HH : Hid (holdB (R q) a n = decide ((R q).fr ≤ a ∧ a + n ≤ (R q).fr + (R q).sz)) := rfl
      have HNx : Hid (holdB (R q) a n = false → ∀ j, j < q + 1 → holdB (R j) a n = false) := fun h j hj => by
        by_cases e : j = q
        · subst e; exact h
        · exact HK.out j (by omega)
      obtain ⟨f, hf⟩ : ∃ f, f = (R q).fr := ⟨_, rfl⟩
      obtain ⟨z, hz⟩ : ∃ z, z = (R q).sz := ⟨_, rfl⟩
      have HF := Lib.hid hf
      rw [← hf, ← hz] at hrg
      have HH2 : Hid (holdB (R q) a n = decide (f ≤ a ∧ a + n ≤ f + z)) := by show _ = _; rw [HH.out, hf, hz]
      rw [← hf] at x1
      rw [← hz] at x2
      clear hRS x0 x3 x4 hf hz HH
      obtain ⟨r1, r2, r3, r4, r5, r6, r7⟩ : 16 ≤ f ∧ f ≤ 4294967296 ∧ 0 ≤ z ∧ z ≤ 16777216 ∧ f + z ≤ 4294967296 ∧ 0 ≤ f + z ∧ 0 ≤ a + n := by omega
      clear hrg
      by_cases h1 : f ≤ a
      · have d1 : decide (f ≤ a) = true := by simp [h1]
        by_cases h2 : a + n ≤ f + z
        · have d2 : decide (a + n ≤ f + z) = true := by simp [h2]
          have HV : Hid (holdB (R q) a n = true) := by show _ = _; rw [HH2.out]; simp [h1, h2]
          clear h1 h2
          go_wp2_with fail
          go_quiet (fail)
          go_wp2_with fail
          go_quiet (fail)
          go_wp2_with fail
          go_ret2
          exact ⟨_, _, rfl, .inl ⟨q, hlt, HV.out, rfl, by rw [HF.out]⟩, by first | exact HX.out _ | exact below_drewN (HX.out _) _⟩
        · have d2 : decide (a + n ≤ f + z) = false := by simp; omega
          have HV : Hid (holdB (R q) a n = false) := by show _ = _; rw [HH2.out]; simp; omega
          clear h1 h2
          go_wp2_with fail
          go_quiet (fail)
          go_wp2_with fail
          go_roundw
          case rel => exact ⟨q + 1, by omega, by go_num, HNx.out HV.out, HX.out _⟩
          case measure => simp [intOf]; omega
      · have d1 : decide (f ≤ a) = false := by simp; omega
        have HV : Hid (holdB (R q) a n = false) := by show _ = _; rw [HH2.out]; simp; omega
        clear h1
        go_wp2_with fail
        go_quiet (fail)
        go_wp2_with fail
        go_roundw
        case rel => exact ⟨q + 1, by omega, by go_num, HNx.out HV.out, HX.out _⟩
        case measure => simp [intOf]; omega
    · have hge : decide (q < nb) = false := by simp; omega
      obtain rfl : q = nb := by omega
      clear hlt hq hRS
      go_wp2_with fail
      go_ret2
      exact ⟨_, _, rfl, .inr ⟨HK.out, rfl, rfl⟩, HB.out⟩
/-- Where an access goes in the document's memory. -/
def RAcc (nb : Nat) (R : Nat → Rg) (a n i k e : Int) : Prop :=
  (e = 0 ∧ ∃ j : Nat, AccOk nb R a n j ∧ i = j ∧ k = a - (R j).fr) ∨ (e ≠ 0 ∧ AccNo nb R a n e)
set_option maxHeartbeats 2000000 in
theorem c_rAccess (gy gl nb : Nat) (R : Nat → Rg) (a n : Int) (w : World) (hL : RL w gy gl nb R) (hnb : nb ≤ 16) (hok : okTo R nb = true) (a0 : 0 ≤ a) (a1 : a ≤ 4294967295) :
    Calls Try.prog 62 #[.pointer (some ⟨gy, 0, none⟩), .int .u32 a, .int .i64 n] w fun e w' => ∃ i k c, e = .returned (.tuple #[.int .i64 i, .int .i64 k, .int .i64 c]) ∧ RAcc nb R a n i k c ∧ Below w.heap.size w w' := by
  have HL := Lib.hid hL
  have HOk := Lib.hid hok
  clear hL hok
  by_cases hn : n = 1 ∨ n = 2 ∨ n = 4
  · by_cases hal : a % n = 0
    · have HIn0 : Hid (∀ j, j < nb → holdB (R j) a n = true → AccOk nb R a n j) := fun j hj hh => ⟨hn, hal, hj, hh⟩
      have HNo0 : Hid ((∀ j, j < nb → holdB (R j) a n = false) → AccNo nb R a n 30) := fun hno => .inr (.inr ⟨hn, hal, hno, rfl⟩)
      have hn0 : 0 < n ∧ n ≤ 4 := by omega
      obtain ⟨hn0, hn4⟩ := hn0
      have hz : (a.tmod n == 0) = true := by rw [Int.tmod_eq_emod_of_nonneg a0]; simp [hal]
      rcases hn with rfl | rfl | rfl
      all_goals
        go_enter Try.func62, Try.ntmps62
        go_wp2_with fail
        refine (c_rIn gy gl nb R a _ _ HL.out hnb HOk.out a0 a1 hn0 (by omega)).mono ?_
        rintro e w1 ⟨i, k, rfl, hin, hb⟩
        rcases hin with ⟨j, hj, hh, rfl, rfl⟩ | ⟨hno, rfl, rfl⟩
        · have HIn : Hid (AccOk nb R a _ j) := HIn0.out j hj hh
          have hjd : decide ((j : Int) < 0) = false := by simp
          clear hh hj
          go_wp2_with fail
          go_returns
          exact ⟨_, _, _, rfl, .inl ⟨rfl, j, HIn.out, rfl, rfl⟩, hb⟩
        · have HIn : Hid (AccNo nb R a _ 30) := HNo0.out hno
          clear hno
          go_wp2_with fail
          go_returns
          exact ⟨_, _, _, rfl, .inr ⟨by decide, HIn.out⟩, hb⟩
    · have HNo : Hid (AccNo nb R a n 31) := .inr (.inl ⟨hn, hal, rfl⟩)
      rcases hn with rfl | rfl | rfl
      · omega
      all_goals
        go_enter Try.func62, Try.ntmps62
        go_wp2_with fail
        go_returns
        exact ⟨_, _, _, rfl, .inr ⟨by decide, HNo.out⟩, Below.refl _ _⟩
  · have HNo : Hid (AccNo nb R a n 1) := .inl ⟨hn, rfl⟩
    have e1 : (n == 1) = false := by simp; omega
    have e2 : (n == 2) = false := by simp; omega
    have e4 : (n == 4) = false := by simp; omega
    have b1 : (n != 1) = true := by simp [bne, e1]
    have b2 : (n != 2) = true := by simp [bne, e2]
    have b4 : (n != 4) = true := by simp [bne, e4]
    clear hn
    go_enter Try.func62, Try.ntmps62
    go_wp2_with fail
    go_returns
    exact ⟨_, _, _, rfl, .inr ⟨by decide, HNo.out⟩, Below.refl _ _⟩
end Go.Proofs.Ytbfimedgichiiaa
namespace Go.Proofs.Ytbfimedgichiiaa
set_option linter.unusedVariables false
set_option linter.unusedSimpArgs false
set_option maxRecDepth 100000
open Go.ChangeShapes Go.WideShapes Go.ChangeAt Go.RowKit

/-- Rows of bytes, a row each range; q: the field that they stand in. -/
def RN (w : World) (q gy gN nb : Nat) (R : Nat → Rg) (rn : Nat → Nat) (c : Nat → Nat → Int) : Prop :=
  (∃ aN cN, w.cell? ⟨gy, q, none⟩ = some (.slice aN nb cN) ∧ (0 < nb → aN = some ⟨gN, 0, none⟩)) ∧
  ∀ i, i < nb → ∃ a cap, w.cell? ⟨gN, i, none⟩ = some (.slice a (R i).sz.toNat cap) ∧ (R i).sz.toNat ≤ cap ∧ a = some ⟨rn i, 0, none⟩ ∧ ∀ y : Nat, (y : Int) < (R i).sz → w.cell? ⟨rn i, y, none⟩ = some (.int .u8 (c i y)) ∧ 0 ≤ c i y ∧ c i y ≤ 255
theorem RN.next {w w' : World} {q gy gN nb : Nat} {R : Nat → Rg} {rn : Nat → Nat} {c : Nat → Nat → Int} (h : RN w q gy gN nb R rn c) (hb : Below w.heap.size w w') : RN w' q gy gN nb R rn c := by
  obtain ⟨⟨aN, cN, h1, h2⟩, h3⟩ := h
  refine ⟨⟨aN, cN, (hb.cell (cell_lt h1)).trans h1, h2⟩, fun i hi => ?_⟩
  obtain ⟨a, cap, k1, k2, k3, k4⟩ := h3 i hi
  exact ⟨a, cap, (hb.cell (cell_lt k1)).trans k1, k2, k3, fun y hy => ⟨(hb.cell (cell_lt (k4 y hy).1)).trans (k4 y hy).1, (k4 y hy).2⟩⟩
/-- The word that n bytes from a place on are. -/
def rW (f : Nat → Int) (x n : Nat) : Int := f x + (if 1 < n then f (x + 1) * 256 else 0) + (if 2 < n then f (x + 2) * 65536 else 0) + (if 3 < n then f (x + 3) * 16777216 else 0)
set_option maxHeartbeats 4000000 in
theorem c_rLoad (gy gl gN nb : Nat) (R : Nat → Rg) (rn : Nat → Nat) (c : Nat → Nat → Int) (a n : Int) (w : World) (hL : RL w gy gl nb R) (hN : RN w 1 gy gN nb R rn c) (hnb : nb ≤ 16) (hok : okTo R nb = true) (a0 : 0 ≤ a) (a1 : a ≤ 4294967295) :
    Calls Try.prog 33 #[.pointer (some ⟨gy, 0, none⟩), .int .u32 a, .int .i64 n] w fun e w' => ∃ v k, e = .returned (.tuple #[.int .u32 v, .int .i64 k]) ∧
      ((k = 0 ∧ ∃ j : Nat, AccOk nb R a n j ∧ v = rW (c j) (a - (R j).fr).toNat n.toNat) ∨ (k ≠ 0 ∧ v = 0 ∧ AccNo nb R a n k)) ∧ Below w.heap.size w w' := by
  have HN := Lib.hid hN
  have HOk := Lib.hid hok
  have HL := Lib.hid hL
  clear hL hN hok
  go_enter Try.func33, Try.ntmps33
  go_wp2_with fail
  refine (c_rAccess gy gl nb R a n _ HL.out hnb HOk.out a0 a1).mono ?_
  rintro e w1 ⟨i, k, c0, rfl, hacc, hb1⟩
  have HB1 := Lib.hid hb1
  rcases hacc with ⟨rfl, j, hA, rfl, rfl⟩ | ⟨hne, hA⟩
  · have HA := Lib.hid hA
    have hn := hA.1
    have hj := hA.2.2.1
    have hh := hold_of hA.2.2.2
    have hrg := rg_bd (okTo_rg HOk.out j hj)
    obtain ⟨⟨aN, cN, h1, h2⟩, h3⟩ := HN.out.next hb1
    obtain ⟨ar, cap, k1, k2, k3, k4⟩ := h3 j hj
    obtain rfl := h2 (by omega)
    obtain rfl := k3
    obtain ⟨x, hx⟩ : ∃ x : Nat, a - (R j).fr = x := ⟨(a - (R j).fr).toNat, by omega⟩
    have HX := Lib.hid hx
    rw [hx]
    have hxt : (a - (R j).fr).toNat = x := by omega
    have hj0 : (0 : Int) ≤ (j : Int) := by omega
    have hj1 : (j : Int) < (nb : Int) := by omega
    obtain ⟨z, hz⟩ : ∃ z : Nat, (R j).sz.toNat = z := ⟨_, rfl⟩
    rw [hz] at k1 k2
    have hxz : (x : Int) + n ≤ (z : Int) := by omega
    have hz2 : z ≤ 16777216 := by omega
    have HK : Hid (∀ y : Nat, (y : Int) < (z : Int) → w1.cell? ⟨rn j, y, none⟩ = some (.int .u8 (c j y)) ∧ 0 ≤ c j y ∧ c j y ≤ 255) := fun y hy => k4 y (by omega)
    have HXt := Lib.hid hxt
    clear h3 k4 hb1 hh hrg hx hA hxt hz
    rcases hn with rfl | rfl | rfl
    · obtain ⟨y0, l0, g0⟩ := HK.out x (by omega)
      have HV : Hid (rW (c j) x 1 = c j x) := by show _ = _; unfold rW; simp
      generalize c j x = b0 at y0 l0 g0 HV
      go_wp2_with fail
      go_rounds 5
      go_ret2
      refine ⟨_, _, rfl, .inl ⟨rfl, j, HA.out, ?_⟩, HB1.out⟩
      rw [HXt.out, show Int.toNat 1 = 1 from rfl, HV.out]
    · obtain ⟨y0, l0, g0⟩ := HK.out x (by omega)
      obtain ⟨y1, l1, g1⟩ := HK.out (x + 1) (by omega)
      have HV : Hid (rW (c j) x 2 = c j x + c j (x + 1) * 256) := by show _ = _; unfold rW; simp
      generalize c j (x + 1) = b1 at y1 l1 g1 HV
      generalize c j x = b0 at y0 l0 g0 HV
      go_wp2_with fail
      go_rounds 5
      go_ret2
      refine ⟨_, _, rfl, .inl ⟨rfl, j, HA.out, ?_⟩, HB1.out⟩
      rw [HXt.out, show Int.toNat 2 = 2 from rfl, HV.out]
      try omega
    · obtain ⟨y0, l0, g0⟩ := HK.out x (by omega)
      obtain ⟨y1, l1, g1⟩ := HK.out (x + 1) (by omega)
      obtain ⟨y2, l2, g2⟩ := HK.out (x + 2) (by omega)
      obtain ⟨y3, l3, g3⟩ := HK.out (x + 3) (by omega)
      have HV : Hid (rW (c j) x 4 = c j x + c j (x + 1) * 256 + c j (x + 2) * 65536 + c j (x + 3) * 16777216) := by show _ = _; unfold rW; simp
      generalize c j (x + 3) = b3 at y3 l3 g3 HV
      generalize c j (x + 2) = b2 at y2 l2 g2 HV
      generalize c j (x + 1) = b1 at y1 l1 g1 HV
      generalize c j x = b0 at y0 l0 g0 HV
      go_wp2_with fail
      go_rounds 5
      go_ret2
      refine ⟨_, _, rfl, .inl ⟨rfl, j, HA.out, ?_⟩, HB1.out⟩
      rw [HXt.out, show Int.toNat 4 = 4 from rfl, HV.out]
      try omega
  · have hne2 : (c0 == 0) = false := by simp [hne]
    have HA := Lib.hid hA
    clear hA hb1
    have HNe := Lib.hid hne
    clear hne
    go_wp2_with fail
    go_ret2
    exact ⟨_, _, rfl, .inr ⟨HNe.out, rfl, HA.out⟩, HB1.out⟩
end Go.Proofs.Ytbfimedgichiiaa
namespace Go.Proofs.Ytbfimedgichiiaa
set_option linter.unusedVariables false
set_option linter.unusedSimpArgs false
set_option maxRecDepth 100000
open Go.ChangeShapes Go.WideShapes Go.ChangeAt Go.RowKit

set_option maxHeartbeats 4000000 in
theorem c_rFetch (gy gl gN nb : Nat) (R : Nat → Rg) (rn : Nat → Nat) (c : Nat → Nat → Int) (a : Int) (w : World) (hL : RL w gy gl nb R) (hN : RN w 1 gy gN nb R rn c) (hnb : nb ≤ 16) (hok : okTo R nb = true) (a0 : 0 ≤ a) (a1 : a ≤ 4294967295) :
    Calls Try.prog 36 #[.pointer (some ⟨gy, 0, none⟩), .int .u32 a] w fun e w' => ∃ v k, e = .returned (.tuple #[.int .u32 v, .int .i64 k]) ∧
      ((k = 0 ∧ ∃ j : Nat, AccOk nb R a 4 j ∧ (R j).ex = true ∧ v = rW (c j) (a - (R j).fr).toNat 4) ∨ (k = 33 ∧ v = 0 ∧ ∃ j : Nat, AccOk nb R a 4 j ∧ (R j).ex = false) ∨ (k ≠ 0 ∧ v = 0 ∧ AccNo nb R a 4 k)) ∧ Below w.heap.size w w' := by
  have HN := Lib.hid hN
  have HOk := Lib.hid hok
  have HL := Lib.hid hL
  clear hL hN hok
  go_enter Try.func36, Try.ntmps36
  go_wp2_with fail
  refine (c_rAccess gy gl nb R a 4 _ HL.out hnb HOk.out a0 a1).mono ?_
  rintro e w1 ⟨i, k, c0, rfl, hacc, hb1⟩
  have HB1 := Lib.hid hb1
  rcases hacc with ⟨rfl, j, hA, rfl, rfl⟩ | ⟨hne, hA⟩
  · have HA := Lib.hid hA
    have hj := hA.2.2.1
    obtain ⟨⟨aL, cL, h1, h2⟩, h3⟩ := HL.out.next hb1
    obtain rfl := h2 (by omega)
    obtain ⟨x0, x1, x2, x3, x4⟩ := h3 j hj
    rw [Nat.zero_add] at x0 x1 x2 x3 x4
    have hj0 : (0 : Int) ≤ (j : Int) := by omega
    have hj1 : (j : Int) < (nb : Int) := by omega
    have HL1 := Lib.hid (HL.out.next hb1)
    have HN1 := Lib.hid (HN.out.next hb1)
    clear h3 hb1 hA x0 x1 x2 x3
    cases hex : (R j).ex
    · have HEx := Lib.hid hex
      rw [hex] at x4
      clear hex
      go_wp2_with fail
      go_ret2
      exact ⟨_, _, rfl, .inr (.inl ⟨rfl, rfl, j, HA.out, HEx.out⟩), HB1.out⟩
    · have HEx := Lib.hid hex
      rw [hex] at x4
      clear hex
      go_wp2_with fail
      refine (c_rLoad gy gl gN nb R rn c a 4 _ HL1.out HN1.out hnb HOk.out a0 a1).mono ?_
      rintro e w2 ⟨v, k, rfl, hv, hb2⟩
      have HB2 : Hid (Below w.heap.size w w2) := below_on HB1.out hb2 HB1.out.size
      have HV : Hid (k = 0 ∧ v = rW (c j) (a - (R j).fr).toNat 4) := by
        rcases hv with ⟨h1, j', h2, h3⟩ | ⟨_, _, h3⟩
        · obtain rfl := acc_one HOk.out HA.out h2
          exact ⟨h1, h3⟩
        · exact (acc_not_both HA.out h3).elim
      clear hv hb2
      obtain ⟨rfl, hvv⟩ := HV.out
      go_wp2_with fail
      go_ret2
      exact ⟨_, _, rfl, .inl ⟨rfl, j, HA.out, HEx.out, rfl⟩, HB2.out⟩
  · have hne2 : (c0 == 0) = false := by simp [hne]
    have HA := Lib.hid hA
    have HNe := Lib.hid hne
    clear hA hb1 hne
    go_wp2_with fail
    go_ret2
    exact ⟨_, _, rfl, .inr (.inr ⟨HNe.out, rfl, HA.out⟩), HB1.out⟩
set_option maxHeartbeats 4000000 in
theorem c_rOf (gy gl nb : Nat) (R : Nat → Rg) (a : Int) (w : World) (hL : RL w gy gl nb R) (hnb : nb ≤ 16) (hok : okTo R nb = true) (a0 : 0 ≤ a) (a1 : a ≤ 4294967295) :
    Calls Try.prog 42 #[.pointer (some ⟨gy, 0, none⟩), .int .u32 a] w fun e w' => ∃ s k m, e = .returned (.tuple #[.string s, .int .i64 k, .int .i64 m]) ∧
      ((∃ j : Nat, j < nb ∧ holdB (R j) a 1 = true ∧ s = ⟨(R j).nm.toArray⟩ ∧ k = a - (R j).fr ∧ m = 0) ∨ ((∀ j, j < nb → holdB (R j) a 1 = false) ∧ s = ⟨#[]⟩ ∧ k = 0 ∧ m = 30)) ∧ Below w.heap.size w w' := by
  have HL := Lib.hid hL
  have HOk := Lib.hid hok
  clear hL hok
  go_enter Try.func42, Try.ntmps42
  go_wp2_with fail
  refine (c_rIn gy gl nb R a 1 _ HL.out hnb HOk.out a0 a1 (by decide) (by decide)).mono ?_
  rintro e w1 ⟨i, k, rfl, hin, hb1⟩
  have HB1 := Lib.hid hb1
  rcases hin with ⟨j, hj, hh, rfl, rfl⟩ | ⟨hno, rfl, rfl⟩
  · have HH := Lib.hid (And.intro hj hh)
    obtain ⟨⟨aL, cL, h1, h2⟩, h3⟩ := HL.out.next hb1
    obtain rfl := h2 (by omega)
    obtain ⟨x0, x1, x2, x3, x4⟩ := h3 j hj
    rw [Nat.zero_add] at x0
    have hjd : decide ((j : Int) < 0) = false := by simp
    have hj0 : (0 : Int) ≤ (j : Int) := by omega
    have hj1 : (j : Int) < (nb : Int) := by omega
    clear h3 hh hb1 x1 x2 x3 x4
    go_wp2_with fail
    try go_quiet (fail)
    try go_wp2_with fail
    go_returns
    exact ⟨_, _, _, rfl, .inl ⟨j, HH.out.1, HH.out.2, rfl, rfl, rfl⟩, by first | exact HB1.out | exact below_drewN HB1.out _ | exact HB1.out.drew⟩
  · have HNo := Lib.hid hno
    clear hno hb1
    go_wp2_with fail
    go_returns
    exact ⟨_, _, _, rfl, .inr ⟨HNo.out, rfl, rfl, rfl⟩, HB1.out⟩
end Go.Proofs.Ytbfimedgichiiaa
