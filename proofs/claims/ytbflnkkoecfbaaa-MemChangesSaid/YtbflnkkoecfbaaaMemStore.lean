/-
  The whole of a memory, as it is now and as it was at the mark, and that a byte that is put in keeps it whole.
-/
import Derived.Test.YtbflnkkoecfbaaaMemMLoad
namespace Go.Proofs.Ytbflnkkoecfbaaa
set_option linter.unusedVariables false
set_option linter.unusedSimpArgs false
open Go.ChangeShapes Go.WideShapes Go.ChangeAt Go.RowKit

/-- A bank's pages as they were at the mark. -/
def ThH (w : World) (G gb o gt np ct : Nat) (Q : Nat → Nat) (D : Nat → Nat → Int) : Prop :=
  w.cell? ⟨gb, o + 6, none⟩ = some (.slice (some ⟨gt, 0, none⟩) np ct) ∧ gt < G ∧ ∀ j, j < np → w.cell? ⟨gt, j, none⟩ = some (.pointer (some ⟨Q j, 0, none⟩)) ∧ Pg w (Q j) (D j) ∧ Q j < G
/-- The rows and pages of a memory lie apart; a page that now and then do not have in common stands nowhere else. -/
def Apart (gm gb nb : Nat) (gn gt np : Nat → Nat) (P Q : Nat → Nat → Nat) : Prop :=
  gm ≠ gb ∧ (∀ i, i < nb → gn i ≠ gm ∧ gn i ≠ gb ∧ gt i ≠ gm ∧ gt i ≠ gb) ∧ (∀ i i', i < nb → i' < nb → gn i ≠ gt i' ∧ (i ≠ i' → gn i ≠ gn i' ∧ gt i ≠ gt i')) ∧
  (∀ i j, i < nb → j < np i → (P i j ≠ gm ∧ P i j ≠ gb ∧ Q i j ≠ gm ∧ Q i j ≠ gb) ∧ ∀ i', i' < nb → P i j ≠ gn i' ∧ P i j ≠ gt i' ∧ Q i j ≠ gn i' ∧ Q i j ≠ gt i') ∧
  (∀ i j, i < nb → j < np i → P i j ≠ Q i j → ∀ i' j', i' < nb → j' < np i' → Q i' j' ≠ P i j ∧ (P i' j' = P i j → i' = i ∧ j' = j))
def MS (w : World) (G gm gb nb cap : Nat) (R : Nat → Rg) (gn gt np cn ct : Nat → Nat) (P Q : Nat → Nat → Nat) (C D : Nat → Nat → Nat → Int) : Prop :=
  MR w G gm gb nb cap R gn np cn P C ∧ (∀ i, i < nb → ThH w G gb (i * 7) (gt i) (np i) (ct i) (Q i) (D i)) ∧ (∀ i k, i < nb → w.frozen? ⟨gn i, k, none⟩ = false ∧ w.frozen? ⟨gt i, k, none⟩ = false) ∧ Apart gm gb nb gn gt np P Q
def upd2 {A : Type} (P : Nat → Nat → A) (i j : Nat) (v : A) : Nat → Nat → A := fun a b => if a = i ∧ b = j then v else P a b
theorem upd2_at {A : Type} (P : Nat → Nat → A) (i j : Nat) (v : A) : upd2 P i j v i j = v := by unfold upd2; rw [if_pos ⟨rfl, rfl⟩]
theorem upd2_off {A : Type} (P : Nat → Nat → A) (i j a b : Nat) (v : A) (h : ¬ (a = i ∧ b = j)) : upd2 P i j v a b = P a b := by unfold upd2; rw [if_neg h]
theorem Pg.of_block {w w' : World} {g : Nat} {c : Nat → Int} (h : Pg w g c) (e : w'.heap[g]? = w.heap[g]?) : Pg w' g c := by
  obtain ⟨cs, T, h1, h2⟩ := h
  exact ⟨cs, T, e.trans h1, h2⟩
/-- A write into a private page keeps the memory whole. -/
theorem MS.own {w w' : World} {G gm gb nb cap : Nat} {R : Nat → Rg} {gn gt np cn ct : Nat → Nat} {P Q : Nat → Nat → Nat} {C D : Nat → Nat → Nat → Int} (h : MS w G gm gb nb cap R gn gt np cn ct P Q C D)
    {i j : Nat} (hi : i < nb) (hj : j < np i) (hpq : P i j ≠ Q i j) {c : Nat → Int} (hp : Pg w' (P i j) c) (hg : w.grownBy w' (some (P i j))) :
    MS w' G gm gb nb cap R gn gt np cn ct P Q (upd2 C i j c) D := by
  obtain ⟨⟨⟨⟨mA, m0, mB⟩, m1⟩, m2, m3, m4, m5, m6⟩, t, f, a0, a1, a2, a3, a4⟩ := h
  have blk : ∀ b, b < G → b ≠ P i j → w'.heap[b]? = w.heap[b]? := fun b hb hne => hg.block b (by omega) (fun e => hne (by injection e))
  have gmne := (a3 i j hi hj).1
  have cel : ∀ b k, b < G → b ≠ P i j → w'.cell? ⟨b, k, none⟩ = w.cell? ⟨b, k, none⟩ := fun b k hb hne => World.cell?_of_block (a := ⟨b, k, none⟩) (blk b hb hne)
  have gbG : gb < G := by have := (m5 i hi).2.2.1; exact this
  have gnG : ∀ i', i' < nb → gn i' < G := fun i' h' => (m5 i' h').2.2.2.1
  have gnne : ∀ i', i' < nb → gn i' ≠ P i j := fun i' h' e => ((a3 i j hi hj).2 i' h').1 e.symm
  have gtne : ∀ i', i' < nb → gt i' ≠ P i j := fun i' h' e => ((a3 i j hi hj).2 i' h').2.1 e.symm
  refine ⟨⟨⟨⟨mA, (cel gm 0 m2 (fun e => gmne.1 e.symm)).trans m0, mB⟩, fun i' h' => ?_⟩, m2, m3, m4, fun i' h' => ?_, Nat.le_trans m6 hg.size⟩, fun i' h' => ?_, fun i' k h' => ?_, a0, a1, a2, a3, a4⟩
  · obtain ⟨k0, k1, k2, k3, k4⟩ := m1 i' h'
    have q := fun k => cel gb k gbG (fun e => gmne.2.1 e.symm)
    exact ⟨(q _).trans k0, (q _).trans k1, (q _).trans k2, (q _).trans k3, (q _).trans k4⟩
  · obtain ⟨⟨k0, k1, k2, k3, k4⟩, k5, k6, k7, k8, k9, k10⟩ := m5 i' h'
    have q := fun k => cel gb k gbG (fun e => gmne.2.1 e.symm)
    refine ⟨⟨(q _).trans k0, (q _).trans k1, (q _).trans k2, (q _).trans k3, (q _).trans k4⟩, (q _).trans k5, k6, k7, k8, k9, fun j' hj' => ?_⟩
    obtain ⟨l1, l2, l3⟩ := k10 j' hj'
    refine ⟨(cel _ _ k7 (gnne i' h')).trans l1, ?_, l3⟩
    by_cases e : i' = i ∧ j' = j
    · obtain ⟨rfl, rfl⟩ := e
      rw [upd2_at]
      exact hp
    · rw [upd2_off _ _ _ _ _ _ e]
      exact l2.of_block (blk _ l3 (fun ee => e ((a4 i j hi hj hpq i' j' h' hj').2 ee)))
  · obtain ⟨k0, k1, k2⟩ := t i' h'
    refine ⟨(cel gb _ gbG (fun e => gmne.2.1 e.symm)).trans k0, k1, fun j' hj' => ?_⟩
    obtain ⟨l1, l2, l3⟩ := k2 j' hj'
    exact ⟨(cel _ _ k1 (gtne i' h')).trans l1, l2.of_block (blk _ l3 (a4 i j hi hj hpq i' j' h' hj').1), l3⟩
  · exact ⟨(World.frozen?_of_block (a := ⟨gn i', k, none⟩) (blk _ (gnG i' h') (gnne i' h'))).trans (f i' k h').1, (World.frozen?_of_block (a := ⟨gt i', k, none⟩) (blk _ (t i' h').2.1 (gtne i' h'))).trans (f i' k h').2⟩
/-- A page that now and then had in common is copied, and written: the memory is whole. -/
theorem MS.shared {w w' : World} {G gm gb nb cap : Nat} {R : Nat → Rg} {gn gt np cn ct : Nat → Nat} {P Q : Nat → Nat → Nat} {C D : Nat → Nat → Nat → Int} (h : MS w G gm gb nb cap R gn gt np cn ct P Q C D)
    {i j : Nat} (hi : i < nb) (hj : j < np i) {c : Nat → Int} {g : Nat} (hsz : w.heap.size ≤ g) (hp : Pg w' g c) (hcell : w'.cell? ⟨gn i, j, none⟩ = some (.pointer (some ⟨g, 0, none⟩)))
    (hoth : ∀ k, k ≠ j → w'.cell? ⟨gn i, k, none⟩ = w.cell? ⟨gn i, k, none⟩) (hfz : ∀ k, w'.frozen? ⟨gn i, k, none⟩ = false) (hg : w.grownBy w' (some (gn i))) :
    MS w' w'.heap.size gm gb nb cap R gn gt np cn ct (upd2 P i j g) Q (upd2 C i j c) D := by
  obtain ⟨⟨⟨⟨mA, m0, mB⟩, m1⟩, m2, m3, m4, m5, m6⟩, t, f, a0, a1, a2, a3, a4⟩ := h
  have hgl : g < w'.heap.size := by obtain ⟨cs, T, hh, _⟩ := hp; exact (Array.getElem?_eq_some_iff.1 hh).1
  have hGG : G ≤ w'.heap.size := Nat.le_trans m6 hg.size
  have blk : ∀ b, b < G → b ≠ gn i → w'.heap[b]? = w.heap[b]? := fun b hb hne => hg.block b (by omega) (fun e => hne (by injection e))
  have cel : ∀ b k, b < G → b ≠ gn i → w'.cell? ⟨b, k, none⟩ = w.cell? ⟨b, k, none⟩ := fun b k hb hne => World.cell?_of_block (a := ⟨b, k, none⟩) (blk b hb hne)
  have gbG : gb < G := (m5 i hi).2.2.1
  have gnG : ∀ i', i' < nb → gn i' < G := fun i' h' => (m5 i' h').2.2.2.1
  have gtG : ∀ i', i' < nb → gt i' < G := fun i' h' => (t i' h').2.1
  have PG : ∀ i' j', i' < nb → j' < np i' → P i' j' < G := fun i' j' h' k' => ((m5 i' h').2.2.2.2.2.2 j' k').2.2
  have QG : ∀ i' j', i' < nb → j' < np i' → Q i' j' < G := fun i' j' h' k' => ((t i' h').2.2 j' k').2.2
  have gmne : gm ≠ gn i := fun e => (a1 i hi).1 e.symm
  have gbne : gb ≠ gn i := fun e => (a1 i hi).2.1 e.symm
  have rows : ∀ i' k, i' < nb → (i' = i → k ≠ j) → w'.cell? ⟨gn i', k, none⟩ = w.cell? ⟨gn i', k, none⟩ := fun i' k h' hk => by
    by_cases e : i' = i
    · subst e
      exact hoth k (hk rfl)
    · exact cel _ _ (gnG i' h') ((a2 i' i h' hi).2 e).1
  refine ⟨⟨⟨⟨mA, (cel gm 0 m2 gmne).trans m0, mB⟩, fun i' h' => ?_⟩, by omega, m3, m4, fun i' h' => ?_, Nat.le_refl _⟩, fun i' h' => ?_, fun i' k h' => ?_, a0, a1, a2, fun i' j' h' k' => ?_, fun i' j' h' k' hne => ?_⟩
  · obtain ⟨k0, k1, k2, k3, k4⟩ := m1 i' h'
    have q := fun k => cel gb k gbG gbne
    exact ⟨(q _).trans k0, (q _).trans k1, (q _).trans k2, (q _).trans k3, (q _).trans k4⟩
  · obtain ⟨⟨k0, k1, k2, k3, k4⟩, k5, k6, k7, k8, k9, k10⟩ := m5 i' h'
    have q := fun k => cel gb k gbG gbne
    refine ⟨⟨(q _).trans k0, (q _).trans k1, (q _).trans k2, (q _).trans k3, (q _).trans k4⟩, (q _).trans k5, by omega, by omega, k8, k9, fun j' hj' => ?_⟩
    obtain ⟨l1, l2, l3⟩ := k10 j' hj'
    by_cases e : i' = i ∧ j' = j
    · obtain ⟨rfl, rfl⟩ := e
      rw [upd2_at, upd2_at]
      exact ⟨hcell, hp, hgl⟩
    · rw [upd2_off _ _ _ _ _ _ e, upd2_off _ _ _ _ _ _ e]
      exact ⟨(rows i' j' h' (fun e1 e2 => e ⟨e1, e2⟩)).trans l1, l2.of_block (blk _ l3 ((a3 i' j' h' hj').2 i hi).1), by omega⟩
  · obtain ⟨k0, k1, k2⟩ := t i' h'
    refine ⟨(cel gb _ gbG gbne).trans k0, by omega, fun j' hj' => ?_⟩
    obtain ⟨l1, l2, l3⟩ := k2 j' hj'
    exact ⟨(cel _ _ k1 (fun e => (a2 i i' hi h').1 e.symm)).trans l1, l2.of_block (blk _ l3 ((a3 i' j' h' hj').2 i hi).2.2.1), by omega⟩
  · have hgt := (World.frozen?_of_block (a := ⟨gt i', k, none⟩) (blk _ (gtG i' h') (fun e => (a2 i i' hi h').1 e.symm))).trans (f i' k h').2
    by_cases e : i' = i
    · subst e
      exact ⟨hfz k, hgt⟩
    · exact ⟨(World.frozen?_of_block (a := ⟨gn i', k, none⟩) (blk _ (gnG i' h') ((a2 i' i h' hi).2 e).1)).trans (f i' k h').1, hgt⟩
  · have o := a3 i' j' h' k'
    by_cases e : i' = i ∧ j' = j
    · obtain ⟨rfl, rfl⟩ := e
      rw [upd2_at]
      refine ⟨⟨by omega, by omega, o.1.2.2.1, o.1.2.2.2⟩, fun i2 h2 => ?_⟩
      have := gnG i2 h2
      have := gtG i2 h2
      exact ⟨by omega, by omega, (o.2 i2 h2).2.2.1, (o.2 i2 h2).2.2.2⟩
    · rw [upd2_off _ _ _ _ _ _ e]
      exact o
  · intro i2 j2 h2 k2
    by_cases e : i' = i ∧ j' = j
    · obtain ⟨rfl, rfl⟩ := e
      rw [upd2_at]
      have q2 := QG i2 j2 h2 k2
      refine ⟨by omega, fun ee => ?_⟩
      by_cases e2 : i2 = i' ∧ j2 = j'
      · exact e2
      · rw [upd2_off _ _ _ _ _ _ e2] at ee
        have := PG i2 j2 h2 k2
        omega
    · rw [upd2_off _ _ _ _ _ _ e] at hne ⊢
      refine ⟨(a4 i' j' h' k' hne i2 j2 h2 k2).1, fun ee => ?_⟩
      by_cases e2 : i2 = i ∧ j2 = j
      · obtain ⟨rfl, rfl⟩ := e2
        rw [upd2_at] at ee
        have := PG i' j' h' k'
        omega
      · rw [upd2_off _ _ _ _ _ _ e2] at ee
        exact (a4 i' j' h' k' hne i2 j2 h2 k2).2 ee
end Go.Proofs.Ytbflnkkoecfbaaa
