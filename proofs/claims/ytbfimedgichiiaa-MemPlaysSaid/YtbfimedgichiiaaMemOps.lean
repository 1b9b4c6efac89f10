/-
  Loads and stores of a memory as the document has it.
-/
import Derived.Test.YtbfimedgichiiaaMemMChg
namespace Go.Proofs.Ytbfimedgichiiaa
set_option linter.unusedVariables false
set_option linter.unusedSimpArgs false
set_option maxRecDepth 100000
open Go.ChangeShapes Go.WideShapes Go.ChangeAt Go.RowKit

theorem Mm.next {w w' : World} {A M : Nat → Prop} {gm nb : Nat} {R : Nat → Rg} {C D : Nat → Nat → Nat → Int} (h : Mm w A M gm nb R C D) (hb : Below w.heap.size w w') : Mm w' A M gm nb R C D := by
  obtain ⟨G, gb, cap, gn, gt, np, cn, ct, P, Q, h1, h2⟩ := h
  exact ⟨G, gb, cap, gn, gt, np, cn, ct, P, Q, h1.next hb, h2⟩
theorem Mm.weak {w : World} {A M A' M' : Nat → Prop} {gm nb : Nat} {R : Nat → Rg} {C D : Nat → Nat → Nat → Int} (h : Mm w A M gm nb R C D) (hA : ∀ b, A b → A' b) (hM : ∀ b, M b → M' b) : Mm w A' M' gm nb R C D := by
  obtain ⟨G, gb, cap, gn, gt, np, cn, ct, P, Q, h1, h2, h3, h4, h5, h6⟩ := h
  exact ⟨G, gb, cap, gn, gt, np, cn, ct, P, Q, h1, h2, h3, fun b hb => hM b (h4 b hb), fun b hb => hA b (h5 b hb), h6⟩
theorem Mm.okR {w : World} {A M : Nat → Prop} {gm nb : Nat} {R : Nat → Rg} {C D : Nat → Nat → Nat → Int} (h : Mm w A M gm nb R C D) : okTo R nb = true := by
  obtain ⟨G, gb, cap, gn, gt, np, cn, ct, P, Q, h1, h2, h3, _⟩ := h
  exact h3
/-- An access that goes to bank i. -/
def AccOk (nb : Nat) (R : Nat → Rg) (a n : Int) (i : Nat) : Prop := (n = 1 ∨ n = 2 ∨ n = 4) ∧ a % n = 0 ∧ i < nb ∧ holdB (R i) a n = true
/-- What is wrong with an access, or nothing. -/
def AccNo (nb : Nat) (R : Nat → Rg) (a n e : Int) : Prop :=
  (¬ (n = 1 ∨ n = 2 ∨ n = 4) ∧ e = 1) ∨ ((n = 1 ∨ n = 2 ∨ n = 4) ∧ ¬ a % n = 0 ∧ e = 31) ∨ ((n = 1 ∨ n = 2 ∨ n = 4) ∧ a % n = 0 ∧ (∀ j, j < nb → holdB (R j) a n = false) ∧ e = 30)
theorem hold_one {R : Nat → Rg} {nb i j : Nat} {a n b m : Int} (hok : okTo R nb = true) (hi : i < nb) (hj : j < nb) (h1 : holdB (R i) a n = true) (h2 : holdB (R j) b m = true) (hn : a ≤ b) (hm : b < a + n) (hm1 : 1 ≤ m) (hn1 : 1 ≤ n) : i = j := by
  by_cases e : i = j
  · exact e
  · have := okTo_apart hok hi hj e
    have := hold_of h1
    have := hold_of h2
    omega
theorem acc_cases {gb nb : Nat} {R : Nat → Rg} {a n e : Int} {p : Option Addr} (h : AccIs gb nb R a n p e) : (e = 0 ∧ ∃ i, AccOk nb R a n i ∧ p = some ⟨gb, i * 7, none⟩) ∨ (e ≠ 0 ∧ AccNo nb R a n e) := by
  rcases h with ⟨h1, h2, h3⟩ | ⟨h1, h2, h3, h4⟩ | ⟨h1, h2, h3⟩
  · exact .inr ⟨by omega, .inl ⟨h1, h3⟩⟩
  · exact .inr ⟨by omega, .inr (.inl ⟨h1, h2, h4⟩)⟩
  · rcases h3 with ⟨i, hi, _, hh, hp, he⟩ | ⟨hno, hp, he⟩
    · exact .inl ⟨he, i, ⟨h1, h2, hi, hh⟩, hp⟩
    · exact .inr ⟨by omega, .inr (.inr ⟨h1, h2, hno, he⟩)⟩
theorem acc_not_both {nb : Nat} {R : Nat → Rg} {a n e : Int} {i : Nat} (h : AccOk nb R a n i) (k : AccNo nb R a n e) : False := by
  obtain ⟨h1, h2, h3, h4⟩ := h
  rcases k with ⟨k1, _⟩ | ⟨_, k2, _⟩ | ⟨_, _, k3, _⟩
  · exact k1 h1
  · exact k2 h2
  · rw [k3 i h3] at h4; cases h4
theorem acc_one {nb : Nat} {R : Nat → Rg} {a n : Int} {i j : Nat} (hok : okTo R nb = true) (h : AccOk nb R a n i) (k : AccOk nb R a n j) : i = j :=
  hold_one hok h.2.2.1 k.2.2.1 h.2.2.2 k.2.2.2 (Int.le_refl _) (by have := h.1; omega) (by have := h.1; omega) (by have := h.1; omega)
/-- What a load answers. -/
def LoadAns (nb : Nat) (R : Nat → Rg) (C : Nat → Nat → Nat → Int) (a n v e : Int) : Prop :=
  (e = 0 ∧ ∃ i, AccOk nb R a n i ∧ v = ldI (C i) (a - (R i).fr).toNat n.toNat) ∨ (e ≠ 0 ∧ v = 0 ∧ AccNo nb R a n e)
theorem c_mLoad (A M : Nat → Prop) (gm nb : Nat) (R : Nat → Rg) (C D : Nat → Nat → Nat → Int) (a n : Int) (w : World) (hM : Mm w A M gm nb R C D) (h4 : 0 ≤ a) (h5 : a ≤ 4294967295) :
    Calls Try.prog 22 #[.pointer (some ⟨gm, 0, none⟩), .int .u32 a, .int .i64 n] w fun e w' => ∃ v c, e = .returned (.tuple #[.int .u32 v, .int .i64 c]) ∧ LoadAns nb R C a n v c ∧ Below w.heap.size w w' := by
  obtain ⟨G, gb, cap, gn, gt, np, cn, ct, P, Q, h1, _⟩ := hM
  refine (c_MLoad G gm gb nb cap R gn np cn P C a n w h1.1 h4 h5).mono ?_
  rintro e w' ⟨v, c, rfl, ⟨p, hA, hz, hv⟩, hb⟩
  refine ⟨v, c, rfl, ?_, hb⟩
  rcases acc_cases hA with ⟨he, i, hi, hp⟩ | ⟨he, hno⟩
  · exact .inl ⟨he, i, hi, hv i hi.2.2.1 hp⟩
  · exact .inr ⟨he, hz he, hno⟩
/-- The bytes behind a store of n bytes of v at a place of bank i. -/
def stC (C : Nat → Nat → Nat → Int) (i x n : Nat) (v : Int) : Nat → Nat → Nat → Int := upd2 C i (x / 4096) (updP (C i (x / 4096)) (x % 4096) n (byOf v))
def StoreAns (w w' : World) (A M : Nat → Prop) (gm nb : Nat) (R : Nat → Rg) (C D : Nat → Nat → Nat → Int) (a n v e : Int) : Prop :=
  (e ≠ 0 ∧ Below w.heap.size w w' ∧ (AccNo nb R a n e ∨ e = 32 ∧ ∃ i, AccOk nb R a n i ∧ (R i).wr = false)) ∨
  (e = 0 ∧ ∃ i, AccOk nb R a n i ∧ (R i).wr = true ∧ Mm w' (fun b => A b ∨ w.heap.size ≤ b) (fun b => M b ∨ w.heap.size ≤ b) gm nb R (stC C i (a - (R i).fr).toNat n.toNat v) D ∧ Fr M w w')
theorem c_mStore (A M : Nat → Prop) (gm nb : Nat) (R : Nat → Rg) (C D : Nat → Nat → Nat → Int) (a n v : Int) (w : World) (hM : Mm w A M gm nb R C D) (h4 : 0 ≤ a) (h5 : a ≤ 4294967295) (h6 : 0 ≤ v) (h7 : v ≤ 4294967295) :
    Calls Try.prog 21 #[.pointer (some ⟨gm, 0, none⟩), .int .u32 a, .int .i64 n, .int .u32 v] w fun e w' => ∃ c, e = .returned (.int .i64 c) ∧ StoreAns w w' A M gm nb R C D a n v c := by
  obtain ⟨G, gb, cap, gn, gt, np, cn, ct, P, Q, h1, h2, h3, hMu, hFo, ht⟩ := hM
  refine (c_MStore G gm gb nb cap R gn gt np cn ct P Q C D a n v w h1 h4 h5 h6 h7).mono ?_
  rintro e w' ⟨c, rfl, hS⟩
  refine ⟨c, rfl, ?_⟩
  have idx : ∀ i j, i < nb → (some (⟨gb, i * 7, none⟩ : Addr)) = some ⟨gb, j * 7, none⟩ → i = j := by
    intro i j _ h
    have : i * 7 = j * 7 := by injection h with h; injection h
    omega
  rcases hS with ⟨he, hb, hw⟩ | ⟨he, i, G', P', hi, hA, hwr, hMS, hFr⟩
  · refine .inl ⟨he, hb, ?_⟩
    rcases hw with ⟨p, hA⟩ | ⟨he2, i, hi, hA, hwr⟩
    · exact .inl ((acc_cases hA).resolve_left (fun h => he h.1)).2
    · rcases acc_cases hA with ⟨_, j, hj, hp⟩ | ⟨h0, _⟩
      · obtain rfl := idx i j hi hp
        exact .inr ⟨he2, i, hj, hwr⟩
      · exact absurd rfl h0
  · rcases acc_cases hA with ⟨_, j, hj, hp⟩ | ⟨h0, _⟩
    · obtain rfl := idx i j hi hp
      refine .inr ⟨he, i, hj, hwr, ⟨G', gb, cap, gn, gt, np, cn, ct, P', Q, hMS, h2, h3, fun b hb => (hFr.2.1 b hb).imp (hMu b) id, fun b hb => (hFr.2.2 b hb).imp (hFo b) id, ?_⟩, hFr.1.weak (fun b _ h => hMu b h)⟩
      intro i' j' k' hi' hj' hk' hs
      have hh := hold_of hj.2.2.2
      have hn := hj.1
      unfold stC
      by_cases e : i' = i ∧ j' = (a - (R i).fr).toNat / 4096
      · obtain ⟨rfl, rfl⟩ := e
        rw [upd2_at]
        unfold updP
        rw [if_neg (by omega)]
        exact ht i' _ k' hi' hj' hk' hs
      · rw [upd2_off _ _ _ _ _ _ e]
        exact ht i' j' k' hi' hj' hk' hs
    · exact absurd rfl h0
end Go.Proofs.Ytbfimedgichiiaa
