/-
  What the walk of the law on Changed reckons with, plain.
-/
import Derived.Test.YtbfimedgichiiaaMemClone2
import Derived.Test.YtbfimedgichiiaaMemCount
namespace Go.Proofs.Ytbfimedgichiiaa
set_option linter.unusedVariables false
set_option linter.unusedSimpArgs false
open Go.ChangeShapes Go.WideShapes Go.ChangeAt Go.RowKit

theorem Mm.tail {w : World} {A M : Nat → Prop} {gm nb : Nat} {R : Nat → Rg} {C D : Nat → Nat → Nat → Int} (h : Mm w A M gm nb R C D) : ∀ i j k, i < nb → j < pgs (R i) → k < 4096 → (R i).sz ≤ ((j * 4096 + k : Nat) : Int) → C i j k = D i j k := by
  obtain ⟨G, gb, cap, gn, gt, np, cn, ct, P, Q, h1, h2, h3, h4, h5, h6⟩ := h
  intro i j k hi hj hk hs
  exact h6 i j k hi (by rw [h2 i hi]; exact hj) hk hs
theorem dif_in {nb : Nat} {R : Nat → Rg} {C D : Nat → Nat → Nat → Int} (hok : okTo R nb = true) (ht : ∀ i j k, i < nb → j < pgs (R i) → k < 4096 → (R i).sz ≤ ((j * 4096 + k : Nat) : Int) → C i j k = D i j k) {x : Int} (h : Dif nb R C D x) :
    ∃ i, ∃ y : Nat, i < nb ∧ (y : Int) < (R i).sz ∧ x = (R i).fr + (y : Int) ∧ byte C i y ≠ byte D i y := by
  obtain ⟨i, j, k, hi, hj, hk, hne, hx⟩ := h
  refine ⟨i, j * 4096 + k, hi, ?_, hx, ?_⟩
  · have := ht i j k hi hj hk
    by_cases e : (R i).sz ≤ ((j * 4096 + k : Nat) : Int)
    · exact absurd (this e) hne
    · omega
  · unfold byte
    rw [show (j * 4096 + k) / 4096 = j by omega, show (j * 4096 + k) % 4096 = k by omega]
    exact hne
theorem in_dif {nb : Nat} {R : Nat → Rg} {C D : Nat → Nat → Nat → Int} {i y : Nat} (hi : i < nb) (hy : (y : Int) < (R i).sz) (h : byte C i y ≠ byte D i y) : Dif nb R C D ((R i).fr + (y : Int)) := by
  refine ⟨i, y / 4096, y % 4096, hi, ?_, Nat.mod_lt _ (by decide), h, ?_⟩
  · unfold pgs; omega
  · rw [show y / 4096 * 4096 + y % 4096 = y by omega]
theorem at_one {nb : Nat} {R : Nat → Rg} (hok : okTo R nb = true) {i j : Nat} {x : Int} (hi : i < nb) (hj : j < nb) (h1 : (R i).fr ≤ x ∧ x < (R i).fr + (R i).sz) (h2 : (R j).fr ≤ x ∧ x < (R j).fr + (R j).sz) : i = j :=
  hold_one (a := x) (n := 1) (b := x) (m := 1) hok hi hj (by unfold holdB; simp; omega) (by unfold holdB; simp; omega) (Int.le_refl _) (by omega) (by omega) (by omega)
/-- Is a byte another one? -/
def difB (C E : Nat → Nat → Nat → Int) (i k : Nat) : Bool := decide (byte C i k ≠ byte E i k)
theorem cov_at {nb : Nat} {R : Nat → Rg} {C D E : Nat → Nat → Nat → Int} {L : List (Int × Int)} (hok : okTo R nb = true) (ht : ∀ i j k, i < nb → j < pgs (R i) → k < 4096 → (R i).sz ≤ ((j * 4096 + k : Nat) : Int) → C i j k = D i j k) (hD : ∀ i, i < nb → D i = E i)
    (hcov : ∀ x, cov L x ↔ Dif nb R C D x) {i k : Nat} (hi : i < nb) (hk : (k : Int) < (R i).sz) : covB L ((R i).fr + (k : Int)) = difB C E i k := by
  have hb : byte D i k = byte E i k := by unfold byte; rw [hD i hi]
  unfold difB
  rw [← hb, Bool.eq_iff_iff, covB_iff, hcov, decide_eq_true_iff]
  constructor
  · intro h
    obtain ⟨i', y, hi', hy, hx, hne⟩ := dif_in hok ht h
    obtain rfl := at_one hok hi hi' (x := (R i).fr + (k : Int)) (by omega) (by omega)
    obtain rfl : k = y := by omega
    exact hne
  · exact in_dif hi hk
theorem Wf.low {lo hi N : Int} : ∀ {L : List (Int × Int)}, Wf lo L hi → lo ≤ N → (∀ g ∈ L, g.1 + g.2 ≤ N) → Wf lo L N
  | [], h, h1, _ => h1
  | g :: l, h, h1, h2 => ⟨h.1, h.2.1, h2 g (by simp), h.2.2.2.1, h.2.2.2.2.low h1 (fun k hk => h2 k (by simp [hk]))⟩
theorem Wf.two {lo hi : Int} : ∀ {L : List (Int × Int)} {i : Nat} {x y : Int × Int}, Wf lo L hi → L[i]? = some x → L[i + 1]? = some y → x.1 + x.2 < y.1
  | [], i, x, y, h, h1, _ => by simp at h1
  | g :: l, 0, x, y, h, h1, h2 => by
    obtain rfl : g = x := by simpa using h1
    exact h.2.2.2.1 y (List.mem_of_getElem? (i := 0) (by simpa using h2))
  | g :: l, i + 1, x, y, h, h1, h2 => Wf.two (i := i) h.2.2.2.2 (by simpa using h1) (by simpa using h2)
theorem ch_bd {nb : Nat} {R : Nat → Rg} {C D : Nat → Nat → Nat → Int} {L : List (Int × Int)} {hi : Int} (hok : okTo R nb = true) (ht : ∀ i j k, i < nb → j < pgs (R i) → k < 4096 → (R i).sz ≤ ((j * 4096 + k : Nat) : Int) → C i j k = D i j k)
    (hcov : ∀ x, cov L x ↔ Dif nb R C D x) (hW : Wf 0 L hi) : Wf 0 L 4294967296 ∧ (∀ g ∈ L, 0 ≤ g.1 ∧ 1 ≤ g.2 ∧ g.1 + g.2 ≤ 4294967296) ∧ L.length ≤ 4294967296 := by
  have h1 : ∀ g ∈ L, g.1 + g.2 ≤ 4294967296 := fun g hg => by
    have hm := hW.mem g hg
    obtain ⟨i, y, hi', hy, hx, _⟩ := dif_in hok ht ((hcov (g.1 + g.2 - 1)).1 ⟨g, hg, by omega, by omega⟩)
    have := rg_bd (okTo_rg hok i hi')
    omega
  have h2 := hW.low (N := 4294967296) (by omega) h1
  refine ⟨h2, fun g hg => ⟨(hW.mem g hg).1, (hW.mem g hg).2.1, h1 g hg⟩, ?_⟩
  have := h2.len0
  omega
theorem ch_sum {nb : Nat} {R : Nat → Rg} {C D E : Nat → Nat → Nat → Int} {L : List (Int × Int)} (hok : okTo R nb = true) (ht : ∀ i j k, i < nb → j < pgs (R i) → k < 4096 → (R i).sz ≤ ((j * 4096 + k : Nat) : Int) → C i j k = D i j k) (hD : ∀ i, i < nb → D i = E i)
    (hcov : ∀ x, cov L x ↔ Dif nb R C D x) (hW : Wf 0 L 4294967296) : sumG L = (toldI (difB C E) (fun i => (R i).sz.toNat) nb : Nat) := by
  have hr := fun i (hi : i < nb) => rg_bd (okTo_rg hok i hi)
  rw [sumG_cnt 4294967296 hW (by omega) (by omega), ← told_cnt 4294967296 (difB C E) (fun i => (R i).fr.toNat) (fun i => (R i).sz.toNat) nb (fun i hi => by have := hr i hi; show (R i).fr.toNat + (R i).sz.toNat ≤ _; omega) (fun i j x hij hj h => by
    have h1 := hr i (by omega)
    have h2 := hr j hj
    have h3 : ((R i).fr.toNat ≤ x ∧ x < (R i).fr.toNat + (R i).sz.toNat) ∧ ((R j).fr.toNat ≤ x ∧ x < (R j).fr.toNat + (R j).sz.toNat) := h
    have := at_one hok (show i < nb by omega) hj (x := (x : Int)) (by omega) (by omega)
    omega)]
  refine congrArg (fun z : Nat => (z : Int)) (cnt_congr _ (fun x hx => ?_))
  rw [Bool.eq_iff_iff, covB_iff, hcov, inB_iff]
  constructor
  · intro h
    obtain ⟨i, y, hi, hy, hxx, hne⟩ := dif_in hok ht h
    have h1 := hr i hi
    have hxx' : (x : Int) = (R i).fr + (y : Int) := hxx
    have e : x - (R i).fr.toNat = y := by omega
    have e1 : (R i).fr.toNat ≤ x := by omega
    have e2 : x < (R i).fr.toNat + (R i).sz.toNat := by omega
    refine ⟨i, hi, e1, e2, ?_⟩
    show difB C E i (x - (R i).fr.toNat) = true
    rw [e]
    unfold difB
    have hb : byte D i y = byte E i y := by unfold byte; rw [hD i hi]
    rw [← hb]
    exact decide_eq_true hne
  · rintro ⟨i, hi, h1, h2, h3⟩
    have h0 := hr i hi
    have h1' : (R i).fr.toNat ≤ x := h1
    have h2' : x < (R i).fr.toNat + (R i).sz.toNat := h2
    have h3' : difB C E i (x - (R i).fr.toNat) = true := h3
    have hb : byte D i (x - (R i).fr.toNat) = byte E i (x - (R i).fr.toNat) := by unfold byte; rw [hD i hi]
    have := in_dif (R := R) (C := C) (D := D) hi (y := x - (R i).fr.toNat) (by omega) (by rw [hb]; exact of_decide_eq_true h3')
    rw [show (R i).fr + ((x - (R i).fr.toNat : Nat) : Int) = (x : Int) by omega] at this
    exact this
/-- One byte is loaded. -/
theorem c_byteM (A M : Nat → Prop) (gm nb : Nat) (R : Nat → Rg) (C D : Nat → Nat → Nat → Int) (i k : Nat) (w : World) (hM : Mm w A M gm nb R C D) (hi : i < nb) (hk : (k : Int) < (R i).sz) :
    Calls Try.prog 22 #[.pointer (some ⟨gm, 0, none⟩), .int .u32 ((R i).fr + k), .int .i64 1] w fun e w' => e = .returned (.tuple #[.int .u32 (byte C i k), .int .i64 0]) ∧ Below w.heap.size w w' := by
  have hok := hM.okR
  have hr := rg_bd (okTo_rg hok i hi)
  refine (c_mLoad A M gm nb R C D ((R i).fr + k) 1 w hM (by omega) (by omega)).mono ?_
  rintro e w' ⟨v, c, rfl, hL, hb⟩
  have ho : AccOk nb R ((R i).fr + k) 1 i := ⟨.inl rfl, by omega, hi, by unfold holdB; simp; omega⟩
  rcases hL with ⟨rfl, i', hi', hv⟩ | ⟨_, _, hno⟩
  · obtain rfl := acc_one hok ho hi'
    rw [show (1 : Int).toNat = 1 from rfl, ldI_one, show ((R i).fr + (k : Int) - (R i).fr).toNat = k by omega] at hv
    subst hv
    exact ⟨rfl, hb⟩
  · exact (acc_not_both ho hno).elim
end Go.Proofs.Ytbfimedgichiiaa
