/-
  Reads of both memories held against each other; rows that the law writes over.
-/
import Derived.Test.YtbfimedgichiiaaMemTie2
import Derived.Test.YtbfimedgichiiaaMemClone2
import Derived.Test.YtbfimedgichiiaaMemMFill
import Derived.Test.YtbfimedgichiiaaMemRanges
namespace Go.Proofs.Ytbfimedgichiiaa
set_option linter.unusedVariables false
set_option linter.unusedSimpArgs false
set_option maxRecDepth 100000
open Go.ChangeShapes Go.WideShapes Go.ChangeAt Go.RowKit

theorem fr_cel {M : Nat → Prop} {w w' : World} (hf : Fr M w w') {b o : Nat} {v : Value} (hb : ¬ M b) (hc : w.cell? ⟨b, o, none⟩ = some v) : w'.cell? ⟨b, o, none⟩ = some v :=
  (World.cell?_of_block (a := ⟨b, o, none⟩) (hf.block b (cell_lt hc) hb)).trans hc
theorem RL.fr {M : Nat → Prop} {w w' : World} {gy gl nb : Nat} {R : Nat → Rg} (h : RL w gy gl nb R) (hf : Fr M w w') (h1 : ¬ M gy) (h2 : 0 < nb → ¬ M gl) : RL w' gy gl nb R := by
  obtain ⟨⟨aL, cL, k1, k2⟩, k3⟩ := h
  refine ⟨⟨aL, cL, fr_cel hf h1 k1, k2⟩, fun i hi => ?_⟩
  obtain ⟨x0, x1, x2, x3, x4⟩ := k3 i hi
  have h := h2 (by omega)
  exact ⟨fr_cel hf h x0, fr_cel hf h x1, fr_cel hf h x2, fr_cel hf h x3, fr_cel hf h x4⟩
/-- The document's memory: it stands in Y, writes in V alone. -/
def Rm (w : World) (Y V : Nat → Prop) (gy nb : Nat) (R : Nat → Rg) (c d : Nat → Nat → Int) : Prop :=
  ∃ (gl gN gW : Nat) (rn rw : Nat → Nat), RL w gy gl nb R ∧ RN w 1 gy gN nb R rn c ∧ RN w 2 gy gW nb R rw d ∧ (Y gy ∧ gy < w.heap.size) ∧
    (0 < nb → Y gl ∧ Y gN ∧ Y gW ∧ V gW ∧ gW ≠ gy ∧ gW ≠ gl ∧ gW ≠ gN ∧ gW < w.heap.size ∧ gl < w.heap.size ∧ gN < w.heap.size ∧ ∀ k, w.frozen? ⟨gW, k, none⟩ = false) ∧
    ∀ i, i < nb → (Y (rn i) ∧ V (rn i) ∧ Y (rw i) ∧ rn i < w.heap.size ∧ rw i < w.heap.size) ∧ (rn i ≠ gy ∧ rn i ≠ gl ∧ rn i ≠ gN ∧ rn i ≠ gW ∧ rw i ≠ gW) ∧ (∀ k, w.frozen? ⟨rn i, k, none⟩ = false) ∧ (∀ i', i' < nb → i' ≠ i → rn i' ≠ rn i) ∧ ∀ i', i' < nb → rw i' ≠ rn i
theorem Rm.fr {N : Nat → Prop} {w w' : World} {Y V : Nat → Prop} {gy nb : Nat} {R : Nat → Rg} {c d : Nat → Nat → Int} (h : Rm w Y V gy nb R c d) (hf : Fr N w w') (hd : ∀ b, b < w.heap.size → Y b → ¬ N b) : Rm w' Y V gy nb R c d := by
  obtain ⟨gl, gN, gW, rn, rw', h1, h2, h3, h4, h5, h6⟩ := h
  have hs := hf.size
  have y0 := hd gy h4.2 h4.1
  have fz : ∀ b, b < w.heap.size → Y b → (∀ k, w.frozen? ⟨b, k, none⟩ = false) → ∀ k, w'.frozen? ⟨b, k, none⟩ = false := fun b hb hY h k => (World.frozen?_of_block (a := ⟨b, k, none⟩) (hf.block b hb (hd b hb hY))).trans (h k)
  refine ⟨gl, gN, gW, rn, rw', h1.fr hf y0 (fun h => hd _ (h5 h).2.2.2.2.2.2.2.2.1 (h5 h).1), ?_, ?_, ⟨h4.1, by omega⟩, fun h => ?_, fun i hi => ?_⟩
  · by_cases h0 : 0 < nb
    · exact h2.fr hf y0 (hd _ (h5 h0).2.2.2.2.2.2.2.2.2.1 (h5 h0).2.1) (fun i hi => hd _ (h6 i hi).1.2.2.2.1 (h6 i hi).1.1)
    · obtain rfl : nb = 0 := by omega
      obtain ⟨⟨aN, cN, k1, k2⟩, _⟩ := h2
      exact ⟨⟨aN, cN, fr_cel hf y0 k1, k2⟩, fun i hi => by omega⟩
  · by_cases h0 : 0 < nb
    · exact h3.fr hf y0 (hd _ (h5 h0).2.2.2.2.2.2.2.1 (h5 h0).2.2.1) (fun i hi => hd _ (h6 i hi).1.2.2.2.2 (h6 i hi).1.2.2.1)
    · obtain rfl : nb = 0 := by omega
      obtain ⟨⟨aN, cN, k1, k2⟩, _⟩ := h3
      exact ⟨⟨aN, cN, fr_cel hf y0 k1, k2⟩, fun i hi => by omega⟩
  · obtain ⟨a1, a2, a3, a4, a5, a6, a7, a8, a9, a10, a11⟩ := h5 h
    exact ⟨a1, a2, a3, a4, a5, a6, a7, by omega, by omega, by omega, fz _ a8 a3 a11⟩
  · obtain ⟨⟨a1, a2, a3, a4, a5⟩, a6, a7, a8⟩ := h6 i hi
    exact ⟨⟨a1, a2, a3, by omega, by omega⟩, a6, fz _ a4 a1 a7, a8⟩
theorem Rm.next {w w' : World} {Y V : Nat → Prop} {gy nb : Nat} {R : Nat → Rg} {c d : Nat → Nat → Int} (h : Rm w Y V gy nb R c d) (hb : Below w.heap.size w w') : Rm w' Y V gy nb R c d := by
  refine h.fr (N := fun _ => False) (Fr.of_below hb) (fun _ _ _ h => h)
theorem Rm.weak {w : World} {Y V Y' V' : Nat → Prop} {gy nb : Nat} {R : Nat → Rg} {c d : Nat → Nat → Int} (h : Rm w Y V gy nb R c d) (hY : ∀ b, b < w.heap.size → Y b → Y' b) (hV : ∀ b, b < w.heap.size → V b → V' b) : Rm w Y' V' gy nb R c d := by
  obtain ⟨gl, gN, gW, rn, rw', h1, h2, h3, h4, h5, h6⟩ := h
  refine ⟨gl, gN, gW, rn, rw', h1, h2, h3, ⟨hY _ h4.2 h4.1, h4.2⟩, fun h => ?_, fun i hi => ?_⟩
  · obtain ⟨a1, a2, a3, a4, a5, a6, a7, a8, a9, a10, a11⟩ := h5 h
    exact ⟨hY _ a9 a1, hY _ a10 a2, hY _ a8 a3, hV _ a8 a4, a5, a6, a7, a8, a9, a10, a11⟩
  · obtain ⟨⟨a1, a2, a3, a4, a5⟩, a6, a7, a8⟩ := h6 i hi
    exact ⟨⟨hY _ a4 a1, hV _ a4 a2, hY _ a5 a3, a4, a5⟩, a6, a7, a8⟩
/-- What Store answers, of the document's memory, and the memory behind it. -/
def StoreY (w w' : World) (Y V : Nat → Prop) (gy nb : Nat) (R : Nat → Rg) (c d : Nat → Nat → Int) (a n v k : Int) : Prop :=
  (k ≠ 0 ∧ Below w.heap.size w w' ∧ (AccNo nb R a n k ∨ k = 32 ∧ ∃ j, AccOk nb R a n j ∧ (R j).wr = false)) ∨
  (k = 0 ∧ ∃ j, AccOk nb R a n j ∧ (R j).wr = true ∧ Rm w' Y V gy nb R (stR c j (a - (R j).fr).toNat n.toNat v) d ∧ Fr V w w')
/-- A row of Now was written to. -/
theorem Rm.wrote {w w' : World} {Y V : Nat → Prop} {gy gl gN gW nb : Nat} {R : Nat → Rg} {rn rw' : Nat → Nat} {c' d : Nat → Nat → Int} {j : Nat} (hj : j < nb) (h1 : RL w gy gl nb R) (h3 : RN w 2 gy gW nb R rw' d) (h4 : Y gy ∧ gy < w.heap.size)
    (h5 : 0 < nb → Y gl ∧ Y gN ∧ Y gW ∧ V gW ∧ gW ≠ gy ∧ gW ≠ gl ∧ gW ≠ gN ∧ gW < w.heap.size ∧ gl < w.heap.size ∧ gN < w.heap.size ∧ ∀ k, w.frozen? ⟨gW, k, none⟩ = false)
    (h6 : ∀ i, i < nb → (Y (rn i) ∧ V (rn i) ∧ Y (rw' i) ∧ rn i < w.heap.size ∧ rw' i < w.heap.size) ∧ (rn i ≠ gy ∧ rn i ≠ gl ∧ rn i ≠ gN ∧ rn i ≠ gW ∧ rw' i ≠ gW) ∧ (∀ k, w.frozen? ⟨rn i, k, none⟩ = false) ∧ (∀ i', i' < nb → i' ≠ i → rn i' ≠ rn i) ∧ ∀ i', i' < nb → rw' i' ≠ rn i)
    (hN : RN w' 1 gy gN nb R rn c') (hf : Fr (fun b => b = rn j) w w') (hz : ∀ k, w'.frozen? ⟨rn j, k, none⟩ = false) : Rm w' Y V gy nb R c' d ∧ Fr V w w' := by
  obtain ⟨⟨b1, b2, b3, b4, b5⟩, ⟨c1, c2, c3, c4, c5⟩, b7, b8, b9⟩ := h6 j hj
  have hs := hf.size
  refine ⟨⟨gl, gN, gW, rn, rw', h1.fr hf (fun e => c1 e.symm) (fun _ e => c2 e.symm), hN, h3.fr hf (fun e => c1 e.symm) (fun e => c4 e.symm) (fun i hi e => b9 i hi e), ⟨h4.1, by omega⟩, fun h => ?_, fun i hi => ?_⟩, hf.weak (fun b _ e => by rw [e]; exact b2)⟩
  · obtain ⟨a1, a2, a3, a4, a5, a6, a7, a8, a9, a10, a11⟩ := h5 h
    exact ⟨a1, a2, a3, a4, a5, a6, a7, by omega, by omega, by omega, fun k => (World.frozen?_of_block (a := ⟨gW, k, none⟩) (hf.block gW a8 (fun e => c4 e.symm))).trans (a11 k)⟩
  · obtain ⟨⟨a1, a2, a3, a4, a5⟩, a6, a7, a8⟩ := h6 i hi
    refine ⟨⟨a1, a2, a3, by omega, by omega⟩, a6, fun k => ?_, a8⟩
    by_cases e : i = j
    · subst e; exact hz k
    · exact (World.frozen?_of_block (a := ⟨rn i, k, none⟩) (hf.block (rn i) a4 (b8 i hi e))).trans (a7 k)
theorem c_ymStore (Y V : Nat → Prop) (gy nb : Nat) (R : Nat → Rg) (c d : Nat → Nat → Int) (a n v : Int) (w : World) (hY : Rm w Y V gy nb R c d) (hnb : nb ≤ 16) (hok : okTo R nb = true) (a0 : 0 ≤ a) (a1 : a ≤ 4294967295) (v0 : 0 ≤ v) (v1 : v ≤ 4294967295) :
    Calls Try.prog 34 #[.pointer (some ⟨gy, 0, none⟩), .int .u32 a, .int .i64 n, .int .u32 v] w fun e w' => ∃ k, e = .returned (.int .i64 k) ∧ StoreY w w' Y V gy nb R c d a n v k := by
  obtain ⟨gl, gN, gW, rn, rw', h1, h2, h3, h4, h5, h6⟩ := hY
  refine (c_rStore gy gl gN nb R rn c a n v w h1 h2 hnb hok a0 a1 v0 v1 (fun i hi => ⟨(h6 i hi).2.1.1, (h6 i hi).2.1.2.1, (h6 i hi).2.1.2.2.1, (h6 i hi).1.2.2.2.1, (h6 i hi).2.2.1, (h6 i hi).2.2.2.1⟩)).mono ?_
  rintro e w' ⟨k, rfl, hk⟩
  refine ⟨k, rfl, ?_⟩
  rcases hk with hk | ⟨k0, j, hA, hw, hN, hf, hz⟩
  · exact .inl hk
  · have := Rm.wrote (c' := stR c j (a - (R j).fr).toNat n.toNat v) hA.2.2.1 h1 h3 h4 h5 h6 hN hf hz
    exact .inr ⟨k0, j, hA, hw, this.1, this.2⟩
/-- What Fill answers, of the document's memory, and the memory behind it. -/
def FillY (w w' : World) (Y V : Nat → Prop) (gy nb : Nat) (R : Nat → Rg) (c d : Nat → Nat → Int) (a : Int) (m : Nat) (f : Nat → Int) (k : Int) : Prop :=
  (Below w.heap.size w w' ∧ ((16777216 < m ∧ k = 3) ∨ (m = 0 ∧ k = 0) ∨ (0 < m ∧ m ≤ 16777216 ∧ (∀ j, j < nb → holdB (R j) a m = false) ∧ k = 30))) ∨
  (0 < m ∧ m ≤ 16777216 ∧ k = 0 ∧ ∃ j, j < nb ∧ holdB (R j) a m = true ∧ Rm w' Y V gy nb R (stF c j (a - (R j).fr).toNat m f) d ∧ Fr V w w')
theorem c_ymFill (Y V : Nat → Prop) (gy nb : Nat) (R : Nat → Rg) (c d : Nat → Nat → Int) (a : Int) (sa : Option Addr) (m scap : Nat) (f : Nat → Int) (w : World) (hY : Rm w Y V gy nb R c d) (hnb : nb ≤ 16) (hok : okTo R nb = true) (a0 : 0 ≤ a) (a1 : a ≤ 4294967295) (hm : m ≤ 9223372036854775807) (hmc : m ≤ scap)
    (hS : 0 < m → ∃ b off, sa = some ⟨b, off, none⟩ ∧ b < w.heap.size ∧ ¬ V b ∧ ∀ y, y < m → w.cell? ⟨b, off + y, none⟩ = some (.int .u8 (f y)) ∧ 0 ≤ f y ∧ f y ≤ 255) :
    Calls Try.prog 40 #[.pointer (some ⟨gy, 0, none⟩), .int .u32 a, .slice sa m scap] w fun e w' => ∃ k, e = .returned (.int .i64 k) ∧ FillY w w' Y V gy nb R c d a m f k := by
  obtain ⟨gl, gN, gW, rn, rw', h1, h2, h3, h4, h5, h6⟩ := hY
  refine (c_rFill gy gl gN nb R rn c a sa m scap f w h1 h2 hnb hok a0 a1 hm hmc (fun i hi => ⟨(h6 i hi).2.1.1, (h6 i hi).2.1.2.1, (h6 i hi).2.1.2.2.1, (h6 i hi).1.2.2.2.1, (h6 i hi).2.2.1, (h6 i hi).2.2.2.1⟩) (fun h => by
    obtain ⟨b, off, e, k1, k2, k3⟩ := hS h
    exact ⟨b, off, e, k1, fun i hi e => k2 (by rw [e]; exact (h6 i hi).1.2.1), k3⟩)).mono ?_
  rintro e w' ⟨k, rfl, hk⟩
  refine ⟨k, rfl, ?_⟩
  rcases hk with hk | ⟨m0, m1, k0, j, hj, hh, hN, hf, hz⟩
  · exact .inl hk
  · have := Rm.wrote (c' := stF c j (a - (R j).fr).toNat m f) hj h1 h3 h4 h5 h6 hN hf hz
    exact .inr ⟨m0, m1, k0, j, hj, hh, this.1, this.2⟩
theorem c_ymMark (Y V : Nat → Prop) (gy nb : Nat) (R : Nat → Rg) (c d : Nat → Nat → Int) (w : World) (hY : Rm w Y V gy nb R c d) (hnb : nb ≤ 16) (hok : okTo R nb = true) :
    Calls Try.prog 43 #[.pointer (some ⟨gy, 0, none⟩)] w fun e w' => e = .returned (.tuple #[]) ∧ Rm w' (fun b => Y b ∨ w.heap.size ≤ b) V gy nb R c (mkT d c nb) ∧ Fr V w w' := by
  obtain ⟨gl, gN, gW, rn, rw', h1, h2, h3, h4, h5, h6⟩ := hY
  by_cases h0 : 0 < nb
  · refine (c_rMark gy gN gW nb R rn rw' c d w h2 h3 hnb hok (fun h => ⟨(h5 h).2.2.2.2.2.2.2.1, (h5 h).2.2.2.2.1, (h5 h).2.2.2.2.2.2.1, (h5 h).2.2.2.2.2.2.2.2.2.2⟩) (fun i hi => ⟨(h6 i hi).2.1.2.2.2.1, (h6 i hi).2.1.2.2.2.2⟩)).mono ?_
    rintro e w' ⟨rfl, rz, hN, hW, hrz, hf, hz⟩
    have hs := hf.size
    obtain ⟨a1, a2, a3, a4, a5, a6, a7, a8, a9, a10, a11⟩ := h5 h0
    refine ⟨rfl, ⟨gl, gN, gW, rn, rz, h1.fr hf (fun e => a5 e.symm) (fun _ e => a6 e.symm), hN, hW, ⟨.inl h4.1, by omega⟩, fun _ => ⟨.inl a1, .inl a2, .inl a3, a4, a5, a6, a7, by omega, by omega, by omega, fun k => hz k h0⟩, fun i hi => ?_⟩, hf.weak (fun b _ e => by rw [e]; exact a4)⟩
    obtain ⟨⟨b1, b2, b3, b4, b5⟩, ⟨c1, c2, c3, c4, c5⟩, b7, b8, b9⟩ := h6 i hi
    obtain ⟨r1, r2, r3⟩ := hrz i hi
    refine ⟨⟨.inl b1, b2, .inr r1, by omega, r2⟩, ⟨c1, c2, c3, c4, by omega⟩, fun k => (World.frozen?_of_block (a := ⟨rn i, k, none⟩) (hf.block (rn i) b4 c4)).trans (b7 k), b8, fun i' hi' => ?_⟩
    have := (hrz i' hi').1
    omega
  · obtain rfl : nb = 0 := by omega
    have h3' : RN w 2 gy w.heap.size 0 R rw' d := by
      obtain ⟨⟨aN, cN, k1, k2⟩, _⟩ := h3
      exact ⟨⟨aN, cN, k1, fun h => by omega⟩, fun i hi => by omega⟩
    refine (c_rMark gy gN w.heap.size 0 R rn rw' c d w h2 h3' hnb hok (fun h => by omega) (fun i hi => by omega)).mono ?_
    rintro e w' ⟨rfl, rz, hN, hW, hrz, hf, hz⟩
    have hs := hf.size
    have hy := h4.2
    exact ⟨rfl, ⟨gl, gN, w.heap.size, rn, rz, h1.fr hf (fun e => by omega) (fun h => by omega), hN, hW, ⟨.inl h4.1, by omega⟩, fun h => by omega, fun i hi => by omega⟩, hf.weak (fun b hb e => by omega)⟩
end Go.Proofs.Ytbfimedgichiiaa
namespace Go.Proofs.Ytbfimedgichiiaa
set_option linter.unusedVariables false
set_option linter.unusedSimpArgs false
set_option maxRecDepth 100000
open Go.ChangeShapes Go.WideShapes Go.ChangeAt Go.RowKit

/-- Both memories; what they write, from N on; they stand nowhere in S. -/
def Du (w : World) (S : Nat → Prop) (N gm gy nb : Nat) (R : Nat → Rg) (C D : Nat → Nat → Nat → Int) (c d : Nat → Nat → Int) : Prop :=
  ∃ A M Y V : Nat → Prop, Mm w A M gm nb R C D ∧ Rm w Y V gy nb R c d ∧ (∀ b, A b → ¬ S b ∧ b < w.heap.size) ∧ (∀ b, Y b → ¬ S b ∧ b < w.heap.size) ∧ (∀ b, M b → ¬ Y b ∧ N ≤ b ∧ ¬ S b ∧ b < w.heap.size) ∧ (∀ b, V b → ¬ A b ∧ N ≤ b ∧ ¬ S b ∧ b < w.heap.size) ∧ N ≤ w.heap.size ∧ ∀ b, S b → b < w.heap.size
theorem Du.frame {F : Nat → Prop} {w w' : World} {S : Nat → Prop} {N gm gy nb : Nat} {R : Nat → Rg} {C D : Nat → Nat → Nat → Int} {c d : Nat → Nat → Int} (h : Du w S N gm gy nb R C D c d) (hf : Fr F w w') (hF : ∀ b, b < w.heap.size → F b → S b) : Du w' S N gm gy nb R C D c d := by
  obtain ⟨A, M, Y, V, k1, k2, k3, k4, k5, k6, k7, k8⟩ := h
  have hs := hf.size
  exact ⟨A, M, Y, V, k1.fr hf (fun b hb hA hF' => (k3 b hA).1 (hF b hb hF')), k2.fr hf (fun b hb hY hF' => (k4 b hY).1 (hF b hb hF')), fun b hb => ⟨(k3 b hb).1, by have := (k3 b hb).2; omega⟩, fun b hb => ⟨(k4 b hb).1, by have := (k4 b hb).2; omega⟩, fun b hb => by obtain ⟨a1, a2, a3, a4⟩ := k5 b hb; exact ⟨a1, a2, a3, by omega⟩, fun b hb => by obtain ⟨a1, a2, a3, a4⟩ := k6 b hb; exact ⟨a1, a2, a3, by omega⟩, by omega, fun b hb => by have := k8 b hb; omega⟩
theorem Du.next {w w' : World} {S : Nat → Prop} {N gm gy nb : Nat} {R : Nat → Rg} {C D : Nat → Nat → Nat → Int} {c d : Nat → Nat → Int} (h : Du w S N gm gy nb R C D c d) (hb : Below w.heap.size w w') : Du w' S N gm gy nb R C D c d :=
  h.frame (F := fun _ => False) (Fr.of_below hb) (fun _ _ h => h.elim)
theorem Du.le {w : World} {S : Nat → Prop} {N gm gy nb : Nat} {R : Nat → Rg} {C D : Nat → Nat → Nat → Int} {c d : Nat → Nat → Int} (h : Du w S N gm gy nb R C D c d) : N ≤ w.heap.size := by
  obtain ⟨A, M, Y, V, k1, k2, k3, k4, k5, k6, k7, k8⟩ := h
  exact k7
/-- What is laid behind both is spared. -/
theorem Du.spare {w w' : World} {S : Nat → Prop} {N gm gy nb : Nat} {R : Nat → Rg} {C D : Nat → Nat → Nat → Int} {c d : Nat → Nat → Int} (h : Du w S N gm gy nb R C D c d) (hb : Below w.heap.size w w') : Du w' (fun b => S b ∨ w.heap.size ≤ b ∧ b < w'.heap.size) N gm gy nb R C D c d := by
  obtain ⟨A, M, Y, V, k1, k2, k3, k4, k5, k6, k7, k8⟩ := h
  have hs := hb.size
  refine ⟨A, M, Y, V, k1.next hb, k2.next hb, fun b hb => ?_, fun b hb => ?_, fun b hb => ?_, fun b hb => ?_, by omega, fun b hb => ?_⟩
  · obtain ⟨a1, a2⟩ := k3 b hb
    exact ⟨fun h => h.elim a1 (fun h => by omega), by omega⟩
  · obtain ⟨a1, a2⟩ := k4 b hb
    exact ⟨fun h => h.elim a1 (fun h => by omega), by omega⟩
  · obtain ⟨a1, a2, a3, a4⟩ := k5 b hb
    exact ⟨a1, a2, fun h => h.elim a3 (fun h => by omega), by omega⟩
  · obtain ⟨a1, a2, a3, a4⟩ := k6 b hb
    exact ⟨a1, a2, fun h => h.elim a3 (fun h => by omega), by omega⟩
  · rcases hb with h | h
    · have := k8 b h; omega
    · exact h.2
theorem Du.less {w : World} {S S' : Nat → Prop} {N gm gy nb : Nat} {R : Nat → Rg} {C D : Nat → Nat → Nat → Int} {c d : Nat → Nat → Int} (h : Du w S N gm gy nb R C D c d) (hS : ∀ b, S' b → S b) : Du w S' N gm gy nb R C D c d := by
  obtain ⟨A, M, Y, V, k1, k2, k3, k4, k5, k6, k7, k8⟩ := h
  exact ⟨A, M, Y, V, k1, k2, fun b hb => ⟨fun h => (k3 b hb).1 (hS b h), (k3 b hb).2⟩, fun b hb => ⟨fun h => (k4 b hb).1 (hS b h), (k4 b hb).2⟩, fun b hb => ⟨(k5 b hb).1, (k5 b hb).2.1, fun h => (k5 b hb).2.2.1 (hS b h), (k5 b hb).2.2.2⟩, fun b hb => ⟨(k6 b hb).1, (k6 b hb).2.1, fun h => (k6 b hb).2.2.1 (hS b h), (k6 b hb).2.2.2⟩, k7, fun b hb => k8 b (hS b hb)⟩
/-- What a step may write. -/
def Wr (S : Nat → Prop) (N : Nat) : Nat → Prop := fun b => N ≤ b ∧ ¬ S b
theorem Wr.below {w w' : World} {S : Nat → Prop} {N : Nat} (h : Fr (Wr S N) w w') (hN : N ≤ w.heap.size) : Below N w w' := h.below hN (fun b hb => hb.1)
/-- A step of the program's memory. -/
theorem Du.stepX {w w' : World} {S : Nat → Prop} {N gm gy nb : Nat} {R : Nat → Rg} {C' D' : Nat → Nat → Nat → Int} {c d : Nat → Nat → Int} {A M Y V : Nat → Prop} (k2 : Rm w Y V gy nb R c d) (k3 : ∀ b, A b → ¬ S b ∧ b < w.heap.size) (k4 : ∀ b, Y b → ¬ S b ∧ b < w.heap.size) (k5 : ∀ b, M b → ¬ Y b ∧ N ≤ b ∧ ¬ S b ∧ b < w.heap.size) (k6 : ∀ b, V b → ¬ A b ∧ N ≤ b ∧ ¬ S b ∧ b < w.heap.size) (k7 : N ≤ w.heap.size) (k8 : ∀ b, S b → b < w.heap.size)
    (hM : Mm w' (fun b => A b ∨ w.heap.size ≤ b) (fun b => M b ∨ w.heap.size ≤ b) gm nb R C' D') (hf : Fr M w w') : Du w' S N gm gy nb R C' D' c d ∧ Fr (Wr S N) w w' := by
  have hs := hf.size
  refine ⟨⟨_, _, Y, V, hM.cut, k2.fr hf (fun b _ hY hM => (k5 b hM).1 hY), fun b hb => ⟨fun hS => ?_, hb.2⟩, fun b hb => ⟨(k4 b hb).1, by have := (k4 b hb).2; omega⟩, fun b hb => ?_, fun b hb => ?_, by omega, fun b hb => by have := k8 b hb; omega⟩, hf.weak (fun b _ hb => ⟨(k5 b hb).2.1, (k5 b hb).2.2.1⟩)⟩
  · rcases hb.1 with h | h
    · exact (k3 b h).1 hS
    · have := k8 b hS; omega
  · rcases hb.1 with h | h
    · exact ⟨(k5 b h).1, (k5 b h).2.1, (k5 b h).2.2.1, hb.2⟩
    · exact ⟨fun hY => by have := (k4 b hY).2; omega, by omega, fun hS => by have := k8 b hS; omega, hb.2⟩
  · obtain ⟨h1, h2, h3, h4⟩ := k6 b hb
    refine ⟨fun h => ?_, h2, h3, by omega⟩
    rcases h.1 with h | h
    · exact h1 h
    · omega
/-- A step of the document's memory. -/
theorem Du.stepY {w w' : World} {S : Nat → Prop} {N gm gy nb : Nat} {R : Nat → Rg} {C D : Nat → Nat → Nat → Int} {c' d' : Nat → Nat → Int} {A M Y V : Nat → Prop} (k1 : Mm w A M gm nb R C D) (k3 : ∀ b, A b → ¬ S b ∧ b < w.heap.size) (k4 : ∀ b, Y b → ¬ S b ∧ b < w.heap.size) (k5 : ∀ b, M b → ¬ Y b ∧ N ≤ b ∧ ¬ S b ∧ b < w.heap.size) (k6 : ∀ b, V b → ¬ A b ∧ N ≤ b ∧ ¬ S b ∧ b < w.heap.size) (k7 : N ≤ w.heap.size) (k8 : ∀ b, S b → b < w.heap.size)
    (hY : Rm w' (fun b => Y b ∨ w.heap.size ≤ b) V gy nb R c' d') (hf : Fr V w w') : Du w' S N gm gy nb R C D c' d' ∧ Fr (Wr S N) w w' := by
  have hs := hf.size
  refine ⟨⟨A, M, fun b => (Y b ∨ w.heap.size ≤ b) ∧ b < w'.heap.size, V, k1.fr hf (fun b _ hA hV => (k6 b hV).1 hA), hY.weak (fun b h1 h2 => ⟨h2, h1⟩) (fun b _ h => h), fun b hb => ⟨(k3 b hb).1, by have := (k3 b hb).2; omega⟩, fun b hb => ⟨fun hS => ?_, hb.2⟩, fun b hb => ?_, fun b hb => ?_, by omega, fun b hb => by have := k8 b hb; omega⟩, hf.weak (fun b _ hb => ⟨(k6 b hb).2.1, (k6 b hb).2.2.1⟩)⟩
  · rcases hb.1 with h | h
    · exact (k4 b h).1 hS
    · have := k8 b hS; omega
  · obtain ⟨h1, h2, h3, h4⟩ := k5 b hb
    refine ⟨fun h => ?_, h2, h3, by omega⟩
    rcases h.1 with h | h
    · exact h1 h
    · omega
  · obtain ⟨h1, h2, h3, h4⟩ := k6 b hb
    exact ⟨h1, h2, h3, by omega⟩
def StoreC (nb : Nat) (R : Nat → Rg) (C C' : Nat → Nat → Nat → Int) (a n v k : Int) : Prop :=
  (k ≠ 0 ∧ C' = C ∧ (AccNo nb R a n k ∨ k = 32 ∧ ∃ j, AccOk nb R a n j ∧ (R j).wr = false)) ∨ (k = 0 ∧ ∃ j, AccOk nb R a n j ∧ (R j).wr = true ∧ C' = stC C j (a - (R j).fr).toNat n.toNat v)
def StoreD (nb : Nat) (R : Nat → Rg) (c c' : Nat → Nat → Int) (a n v k : Int) : Prop :=
  (k ≠ 0 ∧ c' = c ∧ (AccNo nb R a n k ∨ k = 32 ∧ ∃ j, AccOk nb R a n j ∧ (R j).wr = false)) ∨ (k = 0 ∧ ∃ j, AccOk nb R a n j ∧ (R j).wr = true ∧ c' = stR c j (a - (R j).fr).toNat n.toNat v)
theorem tie_store {nb : Nat} {R : Nat → Rg} {C C' : Nat → Nat → Nat → Int} {c c' : Nat → Nat → Int} {a n v k k' : Int} (hok : okTo R nb = true) (ht : TieB R nb C c) (h : StoreC nb R C C' a n v k) (h' : StoreD nb R c c' a n v k') : k = k' ∧ TieB R nb C' c' := by
  rcases h with ⟨h1, rfl, h2⟩ | ⟨rfl, i, hi, hw, rfl⟩ <;> rcases h' with ⟨q1, rfl, q2⟩ | ⟨rfl, j, hj, hw', rfl⟩
  · refine ⟨?_, ht⟩
    rcases h2 with h2 | ⟨rfl, i, hi, hw⟩ <;> rcases q2 with q2 | ⟨rfl, j, hj, hw'⟩
    · exact accNo_uniq h2 q2
    · exact (acc_not_both hj h2).elim
    · exact (acc_not_both hi q2).elim
    · rfl
  · rcases h2 with h2 | ⟨rfl, i, hi, hw⟩
    · exact (acc_not_both hj h2).elim
    · obtain rfl := acc_one hok hi hj
      rw [hw] at hw'; cases hw'
  · rcases q2 with q2 | ⟨rfl, j, hj, hw'⟩
    · exact (acc_not_both hi q2).elim
    · obtain rfl := acc_one hok hi hj
      rw [hw] at hw'; cases hw'
  · obtain rfl := acc_one hok hi hj
    exact ⟨rfl, tie_st ht hok hi⟩
theorem d_Store (S : Nat → Prop) (N gm gy nb : Nat) (R : Nat → Rg) (C D : Nat → Nat → Nat → Int) (c d : Nat → Nat → Int) (a n v : Int) (w : World) (h : Du w S N gm gy nb R C D c d) (h4 : 0 ≤ a) (h5 : a ≤ 4294967295) (h6 : 0 ≤ v) (h7 : v ≤ 4294967295) :
    Calls Try.prog 21 #[.pointer (some ⟨gm, 0, none⟩), .int .u32 a, .int .i64 n, .int .u32 v] w fun e w' => ∃ k, e = .returned (.int .i64 k) ∧ (∃ C', StoreC nb R C C' a n v k ∧ Du w' S N gm gy nb R C' D c d) ∧ Fr (Wr S N) w w' := by
  obtain ⟨A, M, Y, V, k1, k2, k3, k4, k5, k6, k7, k8⟩ := h
  refine (c_mStore A M gm nb R C D a n v w k1 h4 h5 h6 h7).mono ?_
  rintro e w' ⟨k, rfl, hS⟩
  refine ⟨k, rfl, ?_⟩
  rcases hS with ⟨h1, hb, h2⟩ | ⟨h1, i, hA, hw, hM, hf⟩
  · exact ⟨⟨C, .inl ⟨h1, rfl, h2⟩, Du.next ⟨A, M, Y, V, k1, k2, k3, k4, k5, k6, k7, k8⟩ hb⟩, Fr.of_below hb⟩
  · have := Du.stepX k2 k3 k4 k5 k6 k7 k8 hM hf
    exact ⟨⟨_, .inr ⟨h1, i, hA, hw, rfl⟩, this.1⟩, this.2⟩
theorem d_rStore (S : Nat → Prop) (N gm gy nb : Nat) (R : Nat → Rg) (C D : Nat → Nat → Nat → Int) (c d : Nat → Nat → Int) (a n v : Int) (w : World) (h : Du w S N gm gy nb R C D c d) (hnb : nb ≤ 16) (hok : okTo R nb = true) (h4 : 0 ≤ a) (h5 : a ≤ 4294967295) (h6 : 0 ≤ v) (h7 : v ≤ 4294967295) :
    Calls Try.prog 34 #[.pointer (some ⟨gy, 0, none⟩), .int .u32 a, .int .i64 n, .int .u32 v] w fun e w' => ∃ k, e = .returned (.int .i64 k) ∧ (∃ c', StoreD nb R c c' a n v k ∧ Du w' S N gm gy nb R C D c' d) ∧ Fr (Wr S N) w w' := by
  obtain ⟨A, M, Y, V, k1, k2, k3, k4, k5, k6, k7, k8⟩ := h
  refine (c_ymStore Y V gy nb R c d a n v w k2 hnb hok h4 h5 h6 h7).mono ?_
  rintro e w' ⟨k, rfl, hS⟩
  refine ⟨k, rfl, ?_⟩
  rcases hS with ⟨h1, hb, h2⟩ | ⟨h1, i, hA, hw, hY, hf⟩
  · exact ⟨⟨c, .inl ⟨h1, rfl, h2⟩, Du.next ⟨A, M, Y, V, k1, k2, k3, k4, k5, k6, k7, k8⟩ hb⟩, Fr.of_below hb⟩
  · have := Du.stepY k1 k3 k4 k5 k6 k7 k8 (hY.weak (fun b _ h => .inl h) (fun b _ h => h)) hf
    exact ⟨⟨_, .inr ⟨h1, i, hA, hw, rfl⟩, this.1⟩, this.2⟩
def FillNo (nb : Nat) (R : Nat → Rg) (a : Int) (n : Nat) (k : Int) : Prop := (16777216 < n ∧ k = 3) ∨ (n = 0 ∧ k = 0) ∨ (0 < n ∧ n ≤ 16777216 ∧ (∀ j, j < nb → holdB (R j) a n = false) ∧ k = 30)
def FillC (nb : Nat) (R : Nat → Rg) (C C' : Nat → Nat → Nat → Int) (a : Int) (n : Nat) (z : Nat → Int) (k : Int) : Prop :=
  (C' = C ∧ FillNo nb R a n k) ∨ (0 < n ∧ n ≤ 16777216 ∧ k = 0 ∧ ∃ i, i < nb ∧ holdB (R i) a n = true ∧ PutIs C C' i (a - (R i).fr).toNat n z)
def FillD (nb : Nat) (R : Nat → Rg) (c c' : Nat → Nat → Int) (a : Int) (n : Nat) (z : Nat → Int) (k : Int) : Prop :=
  (c' = c ∧ FillNo nb R a n k) ∨ (0 < n ∧ n ≤ 16777216 ∧ k = 0 ∧ ∃ i, i < nb ∧ holdB (R i) a n = true ∧ c' = stF c i (a - (R i).fr).toNat n z)
theorem fillNo_uniq {nb : Nat} {R : Nat → Rg} {a k k' : Int} {n : Nat} (h : FillNo nb R a n k) (h' : FillNo nb R a n k') : k = k' := by
  rcases h with ⟨h1, h2⟩ | ⟨h1, h2⟩ | ⟨h1, h2, h3, h4⟩ <;> rcases h' with ⟨q1, q2⟩ | ⟨q1, q2⟩ | ⟨q1, q2, q3, q4⟩ <;> omega
theorem fillNo_not {nb : Nat} {R : Nat → Rg} {a k : Int} {n i : Nat} (h : FillNo nb R a n k) (h1 : 0 < n) (h2 : n ≤ 16777216) (hi : i < nb) (hh : holdB (R i) a n = true) : False := by
  rcases h with ⟨q1, q2⟩ | ⟨q1, q2⟩ | ⟨q1, q2, q3, q4⟩
  · omega
  · omega
  · rw [q3 i hi] at hh; cases hh
theorem tie_fill {nb : Nat} {R : Nat → Rg} {C C' : Nat → Nat → Nat → Int} {c c' : Nat → Nat → Int} {a k k' : Int} {n : Nat} {z : Nat → Int} (hok : okTo R nb = true) (ht : TieB R nb C c) (h : FillC nb R C C' a n z k) (h' : FillD nb R c c' a n z k') : k = k' ∧ TieB R nb C' c' := by
  rcases h with ⟨rfl, h1⟩ | ⟨h1, h2, rfl, i, hi, hh, hp⟩ <;> rcases h' with ⟨rfl, q1⟩ | ⟨q1, q2, rfl, j, hj, qh, rfl⟩
  · exact ⟨fillNo_uniq h1 q1, ht⟩
  · exact (fillNo_not h1 q1 q2 hj qh).elim
  · exact (fillNo_not q1 h1 h2 hi hh).elim
  · obtain rfl := hold_1 hok hi hj hh qh (by omega)
    exact ⟨rfl, tie_put ht hp (fun y _ => rfl)⟩
theorem d_Fill (S : Nat → Prop) (N gm gy nb : Nat) (R : Nat → Rg) (C D : Nat → Nat → Nat → Int) (c d : Nat → Nat → Int) (a : Int) (p : Option Addr) (n cap : Nat) (z : Nat → Int) (w : World) (h : Du w S N gm gy nb R C D c d) (h4 : 0 ≤ a) (h5 : a ≤ 4294967295) (hm : n ≤ maxLen) (hcap : n ≤ cap) (hcm : cap ≤ 9223372036854775807)
    (hS : 0 < n → ∃ gs os, p = some ⟨gs, os, none⟩ ∧ Src w gs os n z ∧ (S gs ∨ gs < N)) (hz : ∀ k, k < n → 0 ≤ z k ∧ z k ≤ 255) :
    Calls Try.prog 13 #[.pointer (some ⟨gm, 0, none⟩), .int .u32 a, .slice p n cap] w fun e w' => ∃ k, e = .returned (.int .i64 k) ∧ (∃ C', FillC nb R C C' a n z k ∧ Du w' S N gm gy nb R C' D c d) ∧ Fr (Wr S N) w w' := by
  obtain ⟨A, M, Y, V, k1, k2, k3, k4, k5, k6, k7, k8⟩ := h
  refine (c_mFill A M gm nb R C D a p n cap z w k1 h4 h5 hm hcap hcm (fun h => by
    obtain ⟨gs, os, e, h1, h2⟩ := hS h
    exact ⟨gs, os, e, h1, fun hM => h2.elim (fun h => (k5 gs hM).2.2.1 h) (fun h => by have := (k5 gs hM).2.1; omega)⟩) hz).mono ?_
  rintro e w' ⟨k, rfl, hS⟩
  refine ⟨k, rfl, ?_⟩
  have no : ∀ (hb : Below w.heap.size w w') (hn : FillNo nb R a n k), (∃ C', FillC nb R C C' a n z k ∧ Du w' S N gm gy nb R C' D c d) ∧ Fr (Wr S N) w w' := fun hb hn =>
    ⟨⟨C, .inl ⟨rfl, hn⟩, Du.next ⟨A, M, Y, V, k1, k2, k3, k4, k5, k6, k7, k8⟩ hb⟩, Fr.of_below hb⟩
  rcases hS with ⟨h1, h2, hb⟩ | ⟨h1, h2, hb⟩ | ⟨h1, h2, h3, h4, hb⟩ | ⟨h1, h2, h3, i, C', hi, hh, hp, hM, hf⟩
  · exact no hb (.inl ⟨h1, h2⟩)
  · exact no hb (.inr (.inl ⟨h1, h2⟩))
  · exact no hb (.inr (.inr ⟨h1, h2, h3, h4⟩))
  · have := Du.stepX k2 k3 k4 k5 k6 k7 k8 hM hf
    exact ⟨⟨_, .inr ⟨h1, h2, h3, i, hi, hh, hp⟩, this.1⟩, this.2⟩
theorem d_rFill (S : Nat → Prop) (N gm gy nb : Nat) (R : Nat → Rg) (C D : Nat → Nat → Nat → Int) (c d : Nat → Nat → Int) (a : Int) (p : Option Addr) (n cap : Nat) (z : Nat → Int) (w : World) (h : Du w S N gm gy nb R C D c d) (hnb : nb ≤ 16) (hok : okTo R nb = true) (h4 : 0 ≤ a) (h5 : a ≤ 4294967295) (hm : n ≤ maxLen) (hcap : n ≤ cap)
    (hS : 0 < n → ∃ gs os, p = some ⟨gs, os, none⟩ ∧ Src w gs os n z ∧ gs < N) (hz : ∀ k, k < n → 0 ≤ z k ∧ z k ≤ 255) :
    Calls Try.prog 40 #[.pointer (some ⟨gy, 0, none⟩), .int .u32 a, .slice p n cap] w fun e w' => ∃ k, e = .returned (.int .i64 k) ∧ (∃ c', FillD nb R c c' a n z k ∧ Du w' S N gm gy nb R C D c' d) ∧ Fr (Wr S N) w w' := by
  obtain ⟨A, M, Y, V, k1, k2, k3, k4, k5, k6, k7, k8⟩ := h
  unfold maxLen at hm
  refine (c_ymFill Y V gy nb R c d a p n cap z w k2 hnb hok h4 h5 (by omega) hcap (fun h => by
    obtain ⟨gs, os, e, h1, h2⟩ := hS h
    exact ⟨gs, os, e, by omega, fun hV => by have := (k6 gs hV).2.1; omega, fun y hy => ⟨h1 y hy, hz y hy⟩⟩)).mono ?_
  rintro e w' ⟨k, rfl, hS⟩
  refine ⟨k, rfl, ?_⟩
  rcases hS with ⟨hb, h1⟩ | ⟨h1, h2, h3, i, hi, hh, hY, hf⟩
  · exact ⟨⟨c, .inl ⟨rfl, h1⟩, Du.next ⟨A, M, Y, V, k1, k2, k3, k4, k5, k6, k7, k8⟩ hb⟩, Fr.of_below hb⟩
  · have := Du.stepY k1 k3 k4 k5 k6 k7 k8 (hY.weak (fun b _ h => .inl h) (fun b _ h => h)) hf
    exact ⟨⟨_, .inr ⟨h1, h2, h3, i, hi, hh, rfl⟩, this.1⟩, this.2⟩
theorem d_Mark (S : Nat → Prop) (N gm gy nb : Nat) (R : Nat → Rg) (C D : Nat → Nat → Nat → Int) (c d : Nat → Nat → Int) (w : World) (h : Du w S N gm gy nb R C D c d) :
    Calls Try.prog 14 #[.pointer (some ⟨gm, 0, none⟩)] w fun e w' => e = .returned (.tuple #[]) ∧ Du w' S N gm gy nb R C (mkT D C nb) c d ∧ Fr (Wr S N) w w' := by
  obtain ⟨A, M, Y, V, k1, k2, k3, k4, k5, k6, k7, k8⟩ := h
  refine (c_mMark A M gm nb R C D w k1).mono ?_
  rintro e w' ⟨rfl, hM, hf⟩
  exact ⟨rfl, Du.stepX k2 k3 k4 k5 k6 k7 k8 (hM.weak (fun b h => .inl h) (fun b h => .inl h)) hf⟩
theorem d_rMark (S : Nat → Prop) (N gm gy nb : Nat) (R : Nat → Rg) (C D : Nat → Nat → Nat → Int) (c d : Nat → Nat → Int) (w : World) (h : Du w S N gm gy nb R C D c d) (hnb : nb ≤ 16) (hok : okTo R nb = true) :
    Calls Try.prog 43 #[.pointer (some ⟨gy, 0, none⟩)] w fun e w' => e = .returned (.tuple #[]) ∧ Du w' S N gm gy nb R C D c (mkT d c nb) ∧ Fr (Wr S N) w w' := by
  obtain ⟨A, M, Y, V, k1, k2, k3, k4, k5, k6, k7, k8⟩ := h
  refine (c_ymMark Y V gy nb R c d w k2 hnb hok).mono ?_
  rintro e w' ⟨rfl, hY, hf⟩
  exact ⟨rfl, Du.stepY k1 k3 k4 k5 k6 k7 k8 hY hf⟩
theorem Du.fst {w : World} {S : Nat → Prop} {N gm gy nb : Nat} {R : Nat → Rg} {C D : Nat → Nat → Nat → Int} {c d : Nat → Nat → Int} (h : Du w S N gm gy nb R C D c d) : ∃ A M, Mm w A M gm nb R C D := by
  obtain ⟨A, M, Y, V, k1, _⟩ := h
  exact ⟨A, M, k1⟩
theorem Du.snd {w : World} {S : Nat → Prop} {N gm gy nb : Nat} {R : Nat → Rg} {C D : Nat → Nat → Nat → Int} {c d : Nat → Nat → Int} (h : Du w S N gm gy nb R C D c d) : ∃ gl gN gW rn rw, RL w gy gl nb R ∧ RN w 1 gy gN nb R rn c ∧ RN w 2 gy gW nb R rw d := by
  obtain ⟨A, M, Y, V, _, ⟨gl, gN, gW, rn, rw', h1, h2, h3, _⟩, _⟩ := h
  exact ⟨gl, gN, gW, rn, rw', h1, h2, h3⟩
/-- A clone of the program's memory takes its place; the elder one stands beside both. -/
def Tri (w : World) (N gm gz gy nb : Nat) (R : Nat → Rg) (C D E F : Nat → Nat → Nat → Int) (c d : Nat → Nat → Int) : Prop :=
  ∃ A M Q K Y V : Nat → Prop, Mm w A M gm nb R C D ∧ Mm w Q K gz nb R E F ∧ Rm w Y V gy nb R c d ∧ (∀ b, A b → b < w.heap.size) ∧ (∀ b, Q b → b < w.heap.size) ∧ (∀ b, Y b → b < w.heap.size) ∧ (∀ b, M b → ¬ Y b ∧ ¬ Q b ∧ N ≤ b) ∧ (∀ b, K b → ¬ Y b ∧ N ≤ b ∧ b < w.heap.size) ∧ (∀ b, V b → ¬ Q b ∧ N ≤ b ∧ b < w.heap.size) ∧ N ≤ w.heap.size
theorem Tri.next {w w' : World} {N gm gz gy nb : Nat} {R : Nat → Rg} {C D E F : Nat → Nat → Nat → Int} {c d : Nat → Nat → Int} (h : Tri w N gm gz gy nb R C D E F c d) (hb : Below w.heap.size w w') : Tri w' N gm gz gy nb R C D E F c d := by
  obtain ⟨A, M, Q, K, Y, V, h1, h2, h3, h4, h5, h6, h7, h8, h9, h10⟩ := h
  have hs := hb.size
  exact ⟨A, M, Q, K, Y, V, h1.next hb, h2.next hb, h3.next hb, fun b hb => by have := h4 b hb; omega, fun b hb => by have := h5 b hb; omega, fun b hb => by have := h6 b hb; omega, h7, fun b hb => ⟨(h8 b hb).1, (h8 b hb).2.1, by have := (h8 b hb).2.2; omega⟩, fun b hb => ⟨(h9 b hb).1, (h9 b hb).2.1, by have := (h9 b hb).2.2; omega⟩, by omega⟩
/-- The elder one takes a step. -/
theorem Tri.step {w w' : World} {N gm gz gy nb : Nat} {R : Nat → Rg} {C' D' E F : Nat → Nat → Nat → Int} {c d : Nat → Nat → Int} {A M Q K Y V : Nat → Prop} (h2 : Mm w Q K gz nb R E F) (h3 : Rm w Y V gy nb R c d) (h5 : ∀ b, Q b → b < w.heap.size) (h6 : ∀ b, Y b → b < w.heap.size) (h7 : ∀ b, M b → ¬ Y b ∧ ¬ Q b ∧ N ≤ b) (h8 : ∀ b, K b → ¬ Y b ∧ N ≤ b ∧ b < w.heap.size) (h9 : ∀ b, V b → ¬ Q b ∧ N ≤ b ∧ b < w.heap.size) (h10 : N ≤ w.heap.size)
    (hM : Mm w' (fun b => A b ∨ w.heap.size ≤ b) (fun b => M b ∨ w.heap.size ≤ b) gm nb R C' D') (hf : Fr M w w') : Tri w' N gm gz gy nb R C' D' E F c d ∧ Below N w w' := by
  have hs := hf.size
  refine ⟨⟨_, _, Q, K, Y, V, hM.cut, h2.fr hf (fun b _ hQ hM => (h7 b hM).2.1 hQ), h3.fr hf (fun b _ hY hM => (h7 b hM).1 hY), fun b hb => hb.2, fun b hb => by have := h5 b hb; omega, fun b hb => by have := h6 b hb; omega, fun b hb => ?_, fun b hb => ⟨(h8 b hb).1, (h8 b hb).2.1, by have := (h8 b hb).2.2; omega⟩, fun b hb => ⟨(h9 b hb).1, (h9 b hb).2.1, by have := (h9 b hb).2.2; omega⟩, by omega⟩, hf.below h10 (fun b hb => (h7 b hb).2.2)⟩
  rcases hb.1 with h | h
  · exact h7 b h
  · exact ⟨fun hY => by have := h6 b hY; omega, fun hQ => by have := h5 b hQ; omega, by omega⟩
/-- The clone goes on. -/
theorem Tri.go {w : World} {N gm gz gy nb : Nat} {R : Nat → Rg} {C D E F : Nat → Nat → Nat → Int} {c d : Nat → Nat → Int} (h : Tri w N gm gz gy nb R C D E F c d) : Du w (fun _ => False) N gz gy nb R E F c d := by
  obtain ⟨A, M, Q, K, Y, V, h1, h2, h3, h4, h5, h6, h7, h8, h9, h10⟩ := h
  exact ⟨Q, K, Y, V, h2, h3, fun b hb => ⟨fun h => h, h5 b hb⟩, fun b hb => ⟨fun h => h, h6 b hb⟩, fun b hb => ⟨(h8 b hb).1, (h8 b hb).2.1, fun h => h, (h8 b hb).2.2⟩, fun b hb => ⟨(h9 b hb).1, (h9 b hb).2.1, fun h => h, (h9 b hb).2.2⟩, h10, fun b h => h.elim⟩
theorem t_Fill (N gm gz gy nb : Nat) (R : Nat → Rg) (C D E F : Nat → Nat → Nat → Int) (c d : Nat → Nat → Int) (a : Int) (n cap gs os : Nat) (z : Nat → Int) (w w0 : World) (h : Tri w0 N gm gz gy nb R C D E F c d) (hb : Below w0.heap.size w0 w) (h4 : 0 ≤ a) (h5 : a ≤ 4294967295) (hm : n ≤ maxLen) (hcap : n ≤ cap) (hcm : cap ≤ 9223372036854775807)
    (hS : Src w gs os n z) (hg : w0.heap.size ≤ gs) (hz : ∀ k, k < n → 0 ≤ z k ∧ z k ≤ 255) :
    Calls Try.prog 13 #[.pointer (some ⟨gm, 0, none⟩), .int .u32 a, .slice (some ⟨gs, os, none⟩) n cap] w fun e w' => ∃ k, e = .returned (.int .i64 k) ∧ (∃ C', Tri w' N gm gz gy nb R C' D E F c d) ∧ Below N w w' := by
  obtain ⟨A, M, Q, K, Y, V, h1, h2, h3, h4', h5', h6, h7, h8, h9, h10⟩ := h
  have hs := hb.size
  have g1 : Mm w (fun b => A b ∧ b < w0.heap.size) (fun b => M b ∧ b < w0.heap.size) gm nb R C D := h1.cut.next hb
  have hT : Tri w N gm gz gy nb R C D E F c d := Tri.next ⟨A, M, Q, K, Y, V, h1, h2, h3, h4', h5', h6, h7, h8, h9, h10⟩ hb
  refine (c_mFill _ _ gm nb R C D a (some ⟨gs, os, none⟩) n cap z w g1 h4 h5 hm hcap hcm (fun _ => ⟨gs, os, rfl, hS, fun hM => by have := hM.2; omega⟩) hz).mono ?_
  rintro e w' ⟨k, rfl, hS⟩
  refine ⟨k, rfl, ?_⟩
  rcases hS with ⟨h1, h2, hb'⟩ | ⟨h1, h2, hb'⟩ | ⟨h1, h2, h3, h4, hb'⟩ | ⟨q1, q2, q3, i, C', hi, hh, hp, hM, hf⟩
  · exact ⟨⟨C, hT.next hb'⟩, hb'.mono (by omega)⟩
  · exact ⟨⟨C, hT.next hb'⟩, hb'.mono (by omega)⟩
  · exact ⟨⟨C, hT.next hb'⟩, hb'.mono (by omega)⟩
  · have := Tri.step (A := fun b => A b ∧ b < w0.heap.size) (M := fun b => M b ∧ b < w0.heap.size) (h2.next hb) (h3.next hb) (fun b hb => by have := h5' b hb; omega) (fun b hb => by have := h6 b hb; omega) (fun b hb => h7 b hb.1) (fun b hb => ⟨(h8 b hb).1, (h8 b hb).2.1, by have := (h8 b hb).2.2; omega⟩) (fun b hb => ⟨(h9 b hb).1, (h9 b hb).2.1, by have := (h9 b hb).2.2; omega⟩) (by omega) hM hf
    exact ⟨⟨C', this.1⟩, this.2⟩
theorem t_Mark (N gm gz gy nb : Nat) (R : Nat → Rg) (C D E F : Nat → Nat → Nat → Int) (c d : Nat → Nat → Int) (w : World) (h : Tri w N gm gz gy nb R C D E F c d) :
    Calls Try.prog 14 #[.pointer (some ⟨gm, 0, none⟩)] w fun e w' => e = .returned (.tuple #[]) ∧ Du w' (fun _ => False) N gz gy nb R E F c d ∧ Below N w w' := by
  obtain ⟨A, M, Q, K, Y, V, h1, h2, h3, h4, h5, h6, h7, h8, h9, h10⟩ := h
  refine (c_mMark A M gm nb R C D w h1).mono ?_
  rintro e w' ⟨rfl, hM, hf⟩
  have := Tri.step (A := A) h2 h3 h5 h6 h7 h8 h9 h10 (hM.weak (fun b h => .inl h) (fun b h => .inl h)) hf
  exact ⟨rfl, this.1.go, this.2⟩
end Go.Proofs.Ytbfimedgichiiaa
namespace Go.Proofs.Ytbfimedgichiiaa
set_option linter.unusedVariables false
set_option linter.unusedSimpArgs false
set_option maxRecDepth 100000
open Go.ChangeShapes Go.WideShapes Go.ChangeAt Go.RowKit

theorem CvInv.parts {w w' : World} {G gm gb nb cap : Nat} {R : Nat → Rg} {gn gt np cn ct : Nat → Nat} {P Q : Nat → Nat → Nat} {C D : Nat → Nat → Nat → Int} (hM : MS w G gm gb nb cap R gn gt np cn ct P Q C D) (hnp : ∀ i, i < nb → np i = pgs (R i)) (hok : okTo R nb = true)
    (ht : ∀ i j k, i < nb → j < np i → k < 4096 → (R i).sz ≤ ((j * 4096 + k : Nat) : Int) → C i j k = D i j k) (h : CvInv w w' w.heap.size nb R P Q C D) :
    ∃ Bq K : Nat → Prop, Mm w' Bq K w.heap.size nb R C D ∧ (∀ b, Bq b → b < w'.heap.size) ∧ (∀ b, Mut nb gn gt np P Q b → ¬ Bq b) ∧ (∀ b, K b → w.heap.size ≤ b ∧ b < w'.heap.size) ∧ (∀ b, Bq b → Foot gm gb nb gn gt np P Q b ∨ w.heap.size ≤ b) ∧ Below w.heap.size w w' := by
  obtain ⟨v, gn', cn', gt', ct', F, hv, hf, hBks, hF, hQ, hI, hbl, hgl⟩ := h
  have hlt := hM.foot_lt
  have hrg := hM.1.2.2.2.1
  obtain ⟨gb', cap', hMS, hgb'⟩ := MS.of_bks hv hBks hM.1.2.2.1 hrg (fun i j hi hj hne i' j' hi' hj' => by
    have hnew : w.heap.size < F i j := by
      rcases hF i j hi hj with ⟨x1, x2, _⟩ | ⟨_, x2⟩
      · exact absurd (x1.trans x2) hne
      · exact x2
    refine ⟨by have := hQ i' j' hi' hj'; omega, fun e => ?_⟩
    have h1 := hI i j i' j' hi hj hi' hj' e.symm hnew
    exact ⟨h1.1.symm, h1.2.symm⟩)
  have hBA := fun i hi => hBks.2.1 i hi
  have hK : ∀ b, Mut nb gn' gt' (fun i => pgs (R i)) F Q b → w.heap.size ≤ b := fun b hb => by
    rcases hb with ⟨i, hi, e | e⟩ | ⟨i, j, hi, hj, hne, e⟩
    · have := (hBA i hi).1.1; omega
    · have := (hBA i hi).2.1.1; omega
    · rcases hF i j hi hj with ⟨x1, x2, _⟩ | ⟨_, x2⟩
      · exact absurd (x1.trans x2) hne
      · omega
  refine ⟨Foot w.heap.size gb' nb gn' gt' (fun i => pgs (R i)) F Q, Mut nb gn' gt' (fun i => pgs (R i)) F Q,
    ⟨_, gb', cap', gn', gt', _, cn', ct', F, Q, hMS, fun i hi => rfl, hok, fun b hb => hb, fun b hb => hb, fun i j k hi hj => ht i j k hi (by rw [hnp i hi]; exact hj)⟩,
    fun b hb => hMS.foot_lt b hb, fun b hb hB => ?_, fun b hb => ⟨hK b hb, hMS.foot_lt b hb.foot⟩, fun b hb => ?_, hbl⟩
  · have hbl' : b < w.heap.size := hlt b hb.foot
    have hq : ∀ i' j', i' < nb → j' < pgs (R i') → b ≠ Q i' j' := by
      intro i' j' hi' hj' e
      have hj2 : j' < np i' := by rw [hnp i' hi']; exact hj'
      obtain ⟨a0, a1, a2, a3, a4⟩ := hM.2.2.2
      rcases hb with ⟨i, hi, e1 | e1⟩ | ⟨i, j, hi, hj, hne, e1⟩
      · exact ((a3 i' j' hi' hj2).2 i hi).2.2.1 (e.symm.trans e1)
      · exact ((a3 i' j' hi' hj2).2 i hi).2.2.2 (e.symm.trans e1)
      · exact (a4 i j hi hj hne i' j' hi' hj2).1 (e.symm.trans e1)
    rcases hB with e | ⟨_, e⟩ | ⟨i, hi, e | e⟩ | ⟨i, j, hi, hj, e | e⟩
    · omega
    · omega
    · have := (hBA i hi).1.1; omega
    · have := (hBA i hi).2.1.1; omega
    · rcases hF i j hi hj with ⟨x1, x2, _⟩ | ⟨_, x2⟩
      · exact hq i j hi hj (e.trans (x1.trans x2))
      · omega
    · exact hq i j hi hj e
  · rcases hb with e | ⟨_, e⟩ | ⟨i, hi, e | e⟩ | ⟨i, j, hi, hj, e | e⟩
    · exact .inr (by omega)
    · exact .inr (by omega)
    · exact .inr (by have := (hBA i hi).1.1; omega)
    · exact .inr (by have := (hBA i hi).2.1.1; omega)
    · rcases hF i j hi hj with ⟨x1, x2, _⟩ | ⟨_, x2⟩
      · exact .inl (.inr (.inr (.inr ⟨i, j, hi, by rw [hnp i hi]; exact hj, .inl (e.trans x1)⟩)))
      · exact .inr (by omega)
    · exact .inl (.inr (.inr (.inr ⟨i, j, hi, by rw [hnp i hi]; exact hj, .inr e⟩)))
theorem d_Clone (S : Nat → Prop) (N gm gy nb : Nat) (R : Nat → Rg) (C D : Nat → Nat → Nat → Int) (c d : Nat → Nat → Int) (w : World) (h : Du w S N gm gy nb R C D c d) :
    Calls Try.prog 12 #[.pointer (some ⟨gm, 0, none⟩)] w fun e w' => e = .returned (.pointer (some ⟨w.heap.size, 0, none⟩)) ∧ Tri w' N gm w.heap.size gy nb R C D C D c d ∧ Below w.heap.size w w' := by
  obtain ⟨A, M, Y, V, ⟨G, gb, cap, gn, gt, np, cn, ct, P, Q, h1, h2, h3, h4, h5, h6⟩, k2, k3, k4, k5, k6, k7, k8⟩ := h
  refine (c_MClone G gm gb nb cap R gn gt np cn ct P Q C D w h1 h2).mono ?_
  rintro e w' ⟨rfl, hI⟩
  obtain ⟨Bq, K, q1, q2, q3, q4, q5, hb⟩ := CvInv.parts h1 h2 h3 h6 hI
  have hs := hb.size
  have hlt := h1.foot_lt
  refine ⟨rfl, ⟨Foot gm gb nb gn gt np P Q, Mut nb gn gt np P Q, Bq, K, Y, V, ⟨G, gb, cap, gn, gt, np, cn, ct, P, Q, h1.next hb, h2, h3, fun b hb => hb, fun b hb => hb, h6⟩, q1, k2.next hb, fun b hb => by have := hlt b hb; omega, q2, fun b hb => by have := (k4 b hb).2; omega, fun b hb => ⟨(k5 b (h4 b hb)).1, q3 b hb, (k5 b (h4 b hb)).2.1⟩, fun b hb => ?_, fun b hb => ?_, by omega⟩, hb⟩
  · have := q4 b hb
    exact ⟨fun hY => by have := (k4 b hY).2; omega, by omega, this.2⟩
  · obtain ⟨v1, v2, _, v3⟩ := k6 b hb
    refine ⟨fun hQ => ?_, v2, by omega⟩
    rcases q5 b hQ with hF | hF
    · exact v1 (h5 b hF)
    · omega
end Go.Proofs.Ytbfimedgichiiaa
namespace Go.Proofs.Ytbfimedgichiiaa
set_option linter.unusedVariables false
set_option linter.unusedSimpArgs false
set_option maxRecDepth 100000
open Go.ChangeShapes Go.WideShapes Go.ChangeAt Go.RowKit

def ReadNo (nb : Nat) (R : Nat → Rg) (a n e : Int) : Prop := (n < 0 ∧ e = 1) ∨ (16777216 < n ∧ e = 3) ∨ (n = 0 ∧ e = 0) ∨ (0 < n ∧ n ≤ 16777216 ∧ (∀ j, j < nb → holdB (R j) a n = false) ∧ e = 30)
theorem readNo_uniq {nb : Nat} {R : Nat → Rg} {a n k k' : Int} (h : ReadNo nb R a n k) (h' : ReadNo nb R a n k') : k = k' := by
  rcases h with ⟨h1, h2⟩ | ⟨h1, h2⟩ | ⟨h1, h2⟩ | ⟨h1, h2, h3, h4⟩ <;> rcases h' with ⟨q1, q2⟩ | ⟨q1, q2⟩ | ⟨q1, q2⟩ | ⟨q1, q2, q3, q4⟩ <;> omega
theorem readNo_not {nb : Nat} {R : Nat → Rg} {a n k : Int} {i : Nat} (h : ReadNo nb R a n k) (h1 : 0 < n) (h2 : n ≤ 16777216) (hi : i < nb) (hh : holdB (R i) a n = true) : False := by
  rcases h with ⟨q1, q2⟩ | ⟨q1, q2⟩ | ⟨q1, q2⟩ | ⟨q1, q2, q3, q4⟩
  · omega
  · omega
  · omega
  · rw [q3 i hi] at hh; cases hh
/-- A row of bytes that is the law's own. -/
def OwnB (w : World) (g n : Nat) (f : Nat → Int) : Prop := ∃ cur T, w.heap[g]? = some (.cells cur T (0, 0)) ∧ n ≤ cur.size ∧ ∀ y, y < n → cur[y]? = some (.int .u8 (f y))
theorem OwnB.cell {w : World} {g n : Nat} {f : Nat → Int} (h : OwnB w g n f) {y : Nat} (hy : y < n) : w.cell? ⟨g, y, none⟩ = some (.int .u8 (f y)) := by
  obtain ⟨cur, T, h1, h2, h3⟩ := h
  rw [cell_of_row w g y cur T (0, 0) h1]
  exact h3 y hy
theorem OwnB.fz {w : World} {g n : Nat} {f : Nat → Int} (h : OwnB w g n f) (y : Nat) : w.frozen? ⟨g, y, none⟩ = false := by
  obtain ⟨cur, T, h1, h2, h3⟩ := h
  unfold World.frozen?
  simp [h1]
theorem OwnB.u8s {w : World} {g n : Nat} {f : Nat → Int} (h : OwnB w g n f) : U8s w (some ⟨g, 0, none⟩) n f := .inr ⟨g, 0, rfl, fun y hy => by rw [Nat.zero_add]; exact h.cell hy⟩
theorem OwnB.next {w w' : World} {g n : Nat} {f : Nat → Int} (h : OwnB w g n f) (e : w'.heap[g]? = w.heap[g]?) : OwnB w' g n f := by
  obtain ⟨cur, T, h1, h2, h3⟩ := h
  exact ⟨cur, T, e.trans h1, h2, h3⟩
theorem OwnB.lt {w : World} {g n : Nat} {f : Nat → Int} (h : OwnB w g n f) : g < w.heap.size := by
  obtain ⟨cur, T, h1, h2, h3⟩ := h
  exact (Array.getElem?_eq_some_iff.1 h1).1
/-- A row that the law writes over: that it is there. -/
def OwnR (w : World) (g n : Nat) : Prop := ∃ cur T, w.heap[g]? = some (.cells cur T (0, 0)) ∧ n ≤ cur.size
theorem OwnB.row {w : World} {g n : Nat} {f : Nat → Int} (h : OwnB w g n f) : OwnR w g n := by
  obtain ⟨cur, T, h1, h2, h3⟩ := h
  exact ⟨cur, T, h1, h2⟩
theorem OwnR.next {w w' : World} {g n : Nat} (h : OwnR w g n) (e : w'.heap[g]? = w.heap[g]?) : OwnR w' g n := by
  obtain ⟨cur, T, h1, h2⟩ := h
  exact ⟨cur, T, e.trans h1, h2⟩
theorem OwnR.there {w : World} {g n : Nat} (h : OwnR w g n) {y : Nat} (hy : y < n) : ∃ v, w.cell? ⟨g, y, none⟩ = some v := by
  obtain ⟨cur, T, h1, h2⟩ := h
  refine ⟨cur[y]'(by omega), ?_⟩
  rw [cell_of_row w g y cur T (0, 0) h1]
  exact Array.getElem?_eq_getElem (by omega)
theorem OwnR.fz {w : World} {g n : Nat} (h : OwnR w g n) (y : Nat) : w.frozen? ⟨g, y, none⟩ = false := by
  obtain ⟨cur, T, h1, h2⟩ := h
  unfold World.frozen?
  simp [h1]
theorem OwnR.lt {w : World} {g n : Nat} (h : OwnR w g n) : g < w.heap.size := by
  obtain ⟨cur, T, h1, h2⟩ := h
  exact (Array.getElem?_eq_some_iff.1 h1).1
theorem OwnR.set {w : World} {g n : Nat} (h : OwnR w g n) (y : Nat) (v : Value) : OwnR (w.setCell ⟨g, y, none⟩ v) g n ∧ Fr (fun b => b = g) w (w.setCell ⟨g, y, none⟩ v) := by
  refine ⟨?_, fr_set w g y v⟩
  obtain ⟨cur, T, h1, h2⟩ := h
  unfold OwnR World.setCell
  simp only [h1]
  have hlt := (Array.getElem?_eq_some_iff.1 h1).1
  exact ⟨cur.setIfInBounds y v, T, by simp [Array.getElem?_modify, h1], by simpa using h2⟩
theorem own_b {w : World} {base g n cap : Nat} {f : Nat → Int} (h : w.ownsRow base 5 1 (.slice (some ⟨g, 0, none⟩) n cap) n (u8V f n)) : OwnB w g n f := by
  rcases h.2 with ⟨h', _⟩ | ⟨g', cap', cur, h', hb, hh, hle, hm, hs, ht⟩
  · cases h'
  · injection h' with h1 h2 h3
    injection h1 with h1
    injection h1 with h1
    subst h1 h3
    rw [Nat.mul_one] at hs ht
    refine ⟨cur, _, hh, by omega, fun y hy => ?_⟩
    have e := congrArg (fun l => l[y]?) ht
    simp only [u8V_at hy] at e
    rw [List.getElem?_take, if_pos hy] at e
    simpa using e
/-- What both reads answer. -/
theorem tie_read {w wx : World} {nb : Nat} {R : Nat → Rg} {C : Nat → Nat → Nat → Int} {c : Nat → Nat → Int} {a n e e' : Int} {v v' : Value} (hok : okTo R nb = true) (ht : TieB R nb C c) (h : ReadAns w nb R C a n v e) (hx : w.heap.size ≤ wx.heap.size)
    (h' : (v' = .slice none 0 0 ∧ ReadNo nb R a n e') ∨ (0 < n ∧ n ≤ 16777216 ∧ e' = 0 ∧ ∃ j, j < nb ∧ holdB (R j) a n = true ∧ wx.ownsRow w.heap.size 5 1 v' n.toNat (u8V (fun y => c j ((a - (R j).fr).toNat + y)) n.toNat))) (hk : ∀ b, b < w.heap.size → wx.heap[b]? = w.heap[b]?) :
    e = e' ∧ ((v = .slice none 0 0 ∧ v' = .slice none 0 0) ∨ ∃ (g g' m cap : Nat) (f : Nat → Int), 0 < m ∧ m ≤ 16777216 ∧ v = .slice (some ⟨g, 0, none⟩) m m ∧ v' = .slice (some ⟨g', 0, none⟩) m cap ∧ OwnB wx g m f ∧ OwnB wx g' m f ∧ g < w.heap.size) := by
  have no : ∀ {e}, v = .slice none 0 0 → ReadNo nb R a n e → e = e' ∧ ((v = .slice none 0 0 ∧ v' = .slice none 0 0) ∨ ∃ (g g' m cap : Nat) (f : Nat → Int), 0 < m ∧ m ≤ 16777216 ∧ v = .slice (some ⟨g, 0, none⟩) m m ∧ v' = .slice (some ⟨g', 0, none⟩) m cap ∧ OwnB wx g m f ∧ OwnB wx g' m f ∧ g < w.heap.size) := by
    intro e hv hn
    rcases h' with ⟨hv', hn'⟩ | ⟨q1, q2, q3, j, hj, hh, hr⟩
    · exact ⟨readNo_uniq hn hn', .inl ⟨hv, hv'⟩⟩
    · exact (readNo_not hn q1 q2 hj hh).elim
  rcases h with ⟨h1, h2, h3⟩ | ⟨h1, h2, h3⟩ | ⟨h1, h2, h3⟩ | ⟨h1, h2, h3, h4, h5⟩ | ⟨h1, h2, i, g, hi, hh, rfl, ⟨T, hr⟩, rfl⟩
  · exact no h2 (.inl ⟨h1, h3⟩)
  · exact no h2 (.inr (.inl ⟨h1, h3⟩))
  · exact no h2 (.inr (.inr (.inl ⟨h1, h3⟩)))
  · exact no h4 (.inr (.inr (.inr ⟨h1, h2, h3, h5⟩)))
  · rcases h' with ⟨hv', hn'⟩ | ⟨q1, q2, rfl, j, hj, qh, qr⟩
    · exact (readNo_not hn' h1 h2 hi hh).elim
    · obtain rfl := hold_1 hok hi hj hh qh (by omega)
      have hf := hold_of hh
      obtain ⟨m, rfl⟩ : ∃ m : Nat, n = m := ⟨n.toNat, by omega⟩
      simp only [Int.toNat_natCast] at qr hr ⊢
      have hrow := qr.2
      have hg : g < w.heap.size := (Array.getElem?_eq_some_iff.1 hr).1
      rcases hrow with ⟨_, h0⟩ | ⟨g', cap, cur, rfl, _⟩
      · omega
      · refine ⟨trivial, .inr ⟨g, g', m, cap, fun y => c i ((a - (R i).fr).toNat + y), by omega, by omega, rfl, rfl, ?_, own_b qr, hg⟩⟩
        refine ⟨_, T, (hk g hg).trans hr, by simp [bytesAt], fun y hy => ?_⟩
        have hb := ht i ((a - (R i).fr).toNat + y) hi (by omega)
        unfold byte at hb
        simp only [List.getElem?_toArray]
        unfold bytesAt
        rw [List.getElem?_map, List.getElem?_range hy, hb]
        rfl
end Go.Proofs.Ytbfimedgichiiaa
