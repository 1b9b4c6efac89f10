/-
  Two memories beside each other: what is done in one leaves the other as it stands.
-/
import Derived.Test.YtbfimedgichiiaaMemOps
namespace Go.Proofs.Ytbfimedgichiiaa
set_option linter.unusedVariables false
set_option linter.unusedSimpArgs false
set_option maxRecDepth 100000
open Go.ChangeShapes Go.WideShapes Go.ChangeAt Go.RowKit

theorem MS.foot_lt {w : World} {G gm gb nb cap : Nat} {R : Nat → Rg} {gn gt np cn ct : Nat → Nat} {P Q : Nat → Nat → Nat} {C D : Nat → Nat → Nat → Int} (h : MS w G gm gb nb cap R gn gt np cn ct P Q C D) : ∀ b, Foot gm gb nb gn gt np P Q b → b < w.heap.size := by
  obtain ⟨⟨⟨⟨mA, m0, mB⟩, m1⟩, m2, m3, m4, m5, m6⟩, t, f, ap⟩ := h
  intro b hb
  rcases hb with rfl | ⟨h0, rfl⟩ | ⟨i, hi, rfl | rfl⟩ | ⟨i, j, hi, hj, rfl | rfl⟩
  · omega
  · have := (m5 0 h0).2.2.1; omega
  · have := (m5 i hi).2.2.2.1; omega
  · have := (t i hi).2.1; omega
  · have := ((m5 i hi).2.2.2.2.2.2 j hj).2.2; omega
  · have := ((t i hi).2.2 j hj).2.2; omega
theorem MS.fr {N : Nat → Prop} {w w' : World} {G gm gb nb cap : Nat} {R : Nat → Rg} {gn gt np cn ct : Nat → Nat} {P Q : Nat → Nat → Nat} {C D : Nat → Nat → Nat → Int} (h : MS w G gm gb nb cap R gn gt np cn ct P Q C D) (hf : Fr N w w') (hd : ∀ b, Foot gm gb nb gn gt np P Q b → ¬ N b) :
    MS w' G gm gb nb cap R gn gt np cn ct P Q C D := by
  have hlt := h.foot_lt
  have blk : ∀ b, Foot gm gb nb gn gt np P Q b → w'.heap[b]? = w.heap[b]? := fun b hb => hf.block b (hlt b hb) (hd b hb)
  have cel : ∀ b k, Foot gm gb nb gn gt np P Q b → w'.cell? ⟨b, k, none⟩ = w.cell? ⟨b, k, none⟩ := fun b k hb => World.cell?_of_block (a := ⟨b, k, none⟩) (blk b hb)
  obtain ⟨⟨⟨⟨mA, m0, mB⟩, m1⟩, m2, m3, m4, m5, m6⟩, t, f, ap⟩ := h
  have fgb : ∀ i, i < nb → Foot gm gb nb gn gt np P Q gb := fun i hi => .inr (.inl ⟨by omega, rfl⟩)
  have fgn : ∀ i, i < nb → Foot gm gb nb gn gt np P Q (gn i) := fun i hi => .inr (.inr (.inl ⟨i, hi, .inl rfl⟩))
  have fgt : ∀ i, i < nb → Foot gm gb nb gn gt np P Q (gt i) := fun i hi => .inr (.inr (.inl ⟨i, hi, .inr rfl⟩))
  refine ⟨⟨⟨⟨mA, (cel gm 0 (.inl rfl)).trans m0, mB⟩, fun i' h' => ?_⟩, m2, m3, m4, fun i' h' => ?_, Nat.le_trans m6 hf.size⟩, fun i' h' => ?_, fun i' k h' => ?_, ap⟩
  · obtain ⟨k0, k1, k2, k3, k4⟩ := m1 i' h'
    have q := fun k => cel gb k (fgb i' h')
    exact ⟨(q _).trans k0, (q _).trans k1, (q _).trans k2, (q _).trans k3, (q _).trans k4⟩
  · obtain ⟨⟨k0, k1, k2, k3, k4⟩, k5, k6, k7, k8, k9, k10⟩ := m5 i' h'
    have q := fun k => cel gb k (fgb i' h')
    refine ⟨⟨(q _).trans k0, (q _).trans k1, (q _).trans k2, (q _).trans k3, (q _).trans k4⟩, (q _).trans k5, k6, k7, k8, k9, fun j' hj' => ?_⟩
    obtain ⟨l1, l2, l3⟩ := k10 j' hj'
    exact ⟨(cel _ _ (fgn i' h')).trans l1, l2.of_block (blk _ (.inr (.inr (.inr ⟨i', j', h', hj', .inl rfl⟩)))), l3⟩
  · obtain ⟨k0, k1, k2⟩ := t i' h'
    refine ⟨(cel gb _ (fgb i' h')).trans k0, k1, fun j' hj' => ?_⟩
    obtain ⟨l1, l2, l3⟩ := k2 j' hj'
    exact ⟨(cel _ _ (fgt i' h')).trans l1, l2.of_block (blk _ (.inr (.inr (.inr ⟨i', j', h', hj', .inr rfl⟩)))), l3⟩
  · exact ⟨(World.frozen?_of_block (a := ⟨gn i', k, none⟩) (blk _ (fgn i' h'))).trans (f i' k h').1, (World.frozen?_of_block (a := ⟨gt i', k, none⟩) (blk _ (fgt i' h'))).trans (f i' k h').2⟩
theorem Mm.fr {N : Nat → Prop} {w w' : World} {A M : Nat → Prop} {gm nb : Nat} {R : Nat → Rg} {C D : Nat → Nat → Nat → Int} (h : Mm w A M gm nb R C D) (hf : Fr N w w') (hd : ∀ b, b < w.heap.size → A b → ¬ N b) : Mm w' A M gm nb R C D := by
  obtain ⟨G, gb, cap, gn, gt, np, cn, ct, P, Q, h1, h2, h3, h4, h5, h6⟩ := h
  exact ⟨G, gb, cap, gn, gt, np, cn, ct, P, Q, h1.fr hf (fun b hb => hd b (h1.foot_lt b hb) (h5 b hb)), h2, h3, h4, h5, h6⟩
theorem Mut.foot {gm gb nb : Nat} {gn gt np : Nat → Nat} {P Q : Nat → Nat → Nat} {b : Nat} (h : Mut nb gn gt np P Q b) : Foot gm gb nb gn gt np P Q b := by
  rcases h with h | ⟨i, j, hi, hj, _, rfl⟩
  · exact .inr (.inr (.inl h))
  · exact .inr (.inr (.inr ⟨i, j, hi, hj, .inl rfl⟩))
theorem Mm.cut {w : World} {A M : Nat → Prop} {gm nb : Nat} {R : Nat → Rg} {C D : Nat → Nat → Nat → Int} (h : Mm w A M gm nb R C D) : Mm w (fun b => A b ∧ b < w.heap.size) (fun b => M b ∧ b < w.heap.size) gm nb R C D := by
  obtain ⟨G, gb, cap, gn, gt, np, cn, ct, P, Q, h1, h2, h3, h4, h5, h6⟩ := h
  exact ⟨G, gb, cap, gn, gt, np, cn, ct, P, Q, h1, h2, h3, fun b hb => ⟨h4 b hb, h1.foot_lt b hb.foot⟩, fun b hb => ⟨h5 b hb, h1.foot_lt b hb⟩, h6⟩
/-- A memory and a copy of it: neither writes where the other stands; all of both from N on. -/
def Two (w : World) (N gm gz nb : Nat) (R : Nat → Rg) (C D E F : Nat → Nat → Nat → Int) : Prop :=
  ∃ A M B K : Nat → Prop, Mm w A M gm nb R C D ∧ Mm w B K gz nb R E F ∧ (∀ b, A b → b < w.heap.size) ∧ (∀ b, B b → b < w.heap.size) ∧ (∀ b, M b → ¬ B b) ∧ (∀ b, K b → ¬ A b) ∧ (∀ b, M b → N ≤ b) ∧ (∀ b, K b → N ≤ b) ∧ N ≤ w.heap.size
theorem Two.next {w w' : World} {N gm gz nb : Nat} {R : Nat → Rg} {C D E F : Nat → Nat → Nat → Int} (h : Two w N gm gz nb R C D E F) (hb : Below w.heap.size w w') : Two w' N gm gz nb R C D E F := by
  obtain ⟨A, M, B, K, h1, h2, h3, h4, h5, h6, h7, h8, h9⟩ := h
  have hs := hb.size
  exact ⟨A, M, B, K, h1.next hb, h2.next hb, fun b hb => Nat.lt_of_lt_of_le (h3 b hb) hs, fun b hb => Nat.lt_of_lt_of_le (h4 b hb) hs, h5, h6, h7, h8, Nat.le_trans h9 hs⟩
/-- A step of the first. -/
theorem Two.step {w w' : World} {N gm gz nb : Nat} {R : Nat → Rg} {A M B K : Nat → Prop} {C D C' D' E F : Nat → Nat → Nat → Int} (h2 : Mm w B K gz nb R E F) (h3 : ∀ b, A b → b < w.heap.size) (h4 : ∀ b, B b → b < w.heap.size) (h5 : ∀ b, M b → ¬ B b) (h6 : ∀ b, K b → ¬ A b) (h7 : ∀ b, M b → N ≤ b) (h8 : ∀ b, K b → N ≤ b) (h9 : N ≤ w.heap.size)
    (hM : Mm w' (fun b => A b ∨ w.heap.size ≤ b) (fun b => M b ∨ w.heap.size ≤ b) gm nb R C' D') (hf : Fr M w w') : Two w' N gm gz nb R C' D' E F := by
  have hs := hf.size
  refine ⟨_, _, B, fun b => K b ∧ b < w.heap.size, hM.cut, ?_, fun b hb => hb.2, fun b hb => Nat.lt_of_lt_of_le (h4 b hb) hs, fun b hb hB => ?_, fun b hb hA => ?_, fun b hb => ?_, fun b hb => h8 b hb.1, Nat.le_trans h9 hs⟩
  · exact (h2.cut.weak (fun b hb => hb.1) (fun b hb => hb)).fr hf (fun b _ hB hM => h5 b hM hB)
  · rcases hb.1 with h | h
    · exact h5 b h hB
    · have := h4 b hB; omega
  · rcases hA.1 with h | h
    · exact h6 b hb.1 h
    · have := hb.2; omega
  · rcases hb.1 with h | h
    · exact h7 b h
    · omega
end Go.Proofs.Ytbfimedgichiiaa
