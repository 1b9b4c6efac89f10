/-
  New makes a memory that is whole: of noughts, nothing changed.
-/
import Derived.Test.YtbfimedgichiiaaMemNew
import Derived.Deep.AppendLies
import Derived.Deep.RegionHeld3
import Derived.Deep.DrawnRows
namespace Go.Proofs.Ytbfimedgichiiaa
set_option linter.unusedVariables false
set_option linter.unusedSimpArgs false
set_option maxRecDepth 100000
open Go.ChangeShapes Go.WideShapes Go.ChangeAt Go.RowKit

/-- A row of so many elements of s cells each. -/
def fl (B : Nat → List Value) (k : Nat) : List Value := (List.range k).flatMap B
theorem fl_succ (B : Nat → List Value) (k : Nat) : fl B (k + 1) = fl B k ++ B k := by
  unfold fl
  rw [List.range_succ, List.flatMap_append]
  simp
theorem fl_len (B : Nat → List Value) (s : Nat) (h : ∀ i, (B i).length = s) : ∀ k, (fl B k).length = k * s
  | 0 => by simp [fl]
  | k + 1 => by rw [fl_succ, List.length_append, fl_len B s h k, h, Nat.add_mul, Nat.one_mul]
theorem fl_get (B : Nat → List Value) (s : Nat) (h : ∀ i, (B i).length = s) (c : Nat) (hc : c < s) : ∀ (k i : Nat), i < k → (fl B k)[i * s + c]? = (B i)[c]?
  | 0, i, hi => absurd hi (by omega)
  | k + 1, i, hi => by
    rw [fl_succ]
    have hl := fl_len B s h k
    by_cases e : i = k
    · subst e
      rw [List.getElem?_append_right (by omega), hl]
      congr 1
      omega
    · have hik : i < k := by omega
      have : i * s + c < k * s := by
        have : (i + 1) * s ≤ k * s := Nat.mul_le_mul_right s hik
        rw [Nat.add_mul, Nat.one_mul] at this
        omega
      rw [List.getElem?_append_left (by omega)]
      exact fl_get B s h c hc k i hik
theorem fl_congr {B B' : Nat → List Value} : ∀ {k : Nat}, (∀ i, i < k → B i = B' i) → fl B k = fl B' k
  | 0, _ => rfl
  | k + 1, h => by rw [fl_succ, fl_succ, fl_congr (fun i hi => h i (by omega)), h k (by omega)]
/-- The cells of a bank. -/
def bkC (r : Rg) (np gn cn gt ct : Nat) : List Value := [.string ⟨r.nm.toArray⟩, .int .i64 r.fr, .int .i64 r.sz, .bool r.wr, .bool r.ex, .slice (some ⟨gn, 0, none⟩) np cn, .slice (some ⟨gt, 0, none⟩) np ct]
theorem bkC_one (r : Rg) (np gn cn gt ct : Nat) : ∀ v ∈ bkC r np gn cn gt ct, v.oneCell' = true := by
  intro v hv
  unfold bkC at hv
  simp only [List.mem_cons, List.not_mem_nil, or_false] at hv
  rcases hv with rfl | rfl | rfl | rfl | rfl | rfl | rfl <;> rfl
def ins {A : Type} (f : Nat → A) (k : Nat) (x : A) : Nat → A := fun i => if i = k then x else f i
theorem ins_at {A : Type} (f : Nat → A) (k : Nat) (x : A) : ins f k x k = x := by unfold ins; rw [if_pos rfl]
theorem ins_off {A : Type} (f : Nat → A) (k i : Nat) (x : A) (h : i ≠ k) : ins f k x i = f i := by unfold ins; rw [if_neg h]
theorem BkAt.fr {M : Nat → Prop} {w w' : World} {H np gn gt : Nat} {P Q : Nat → Nat} {C D : Nat → Nat → Int} (h : BkAt w H np gn gt P Q C D) (hk : Fr M w w') (h1 : ¬ M gn) (h2 : ¬ M gt) (h3 : ∀ j, j < np → ¬ M (P j) ∧ ¬ M (Q j)) : BkAt w' H np gn gt P Q C D := by
  obtain ⟨a1, a2, a3, a4, a5⟩ := h
  have hs := hk.size
  refine ⟨⟨a1.1, by omega⟩, ⟨a2.1, by omega⟩, a3, fun k => ⟨(World.frozen?_of_block (a := ⟨gn, k, none⟩) (hk.block gn a1.2 h1)).trans (a4 k).1, (World.frozen?_of_block (a := ⟨gt, k, none⟩) (hk.block gt a2.2 h2)).trans (a4 k).2⟩, fun j hj => ?_⟩
  obtain ⟨k1, k2, k3, k4⟩ := a5 j hj
  exact ⟨(World.cell?_of_block (a := ⟨gn, j, none⟩) (hk.block gn a1.2 h1)).trans k1, (World.cell?_of_block (a := ⟨gt, j, none⟩) (hk.block gt a2.2 h2)).trans k2, k3.of_block (hk.block _ k3.lt (h3 j hj).1), k4.of_block (hk.block _ k4.lt (h3 j hj).2)⟩
/-- The banks made so far: in a row behind gm; each in blocks of its own. -/
def Bks (w : World) (gm k : Nat) (v : Value) (R : Nat → Rg) (gn cn gt ct : Nat → Nat) (P Q : Nat → Nat → Nat) (C D : Nat → Nat → Nat → Int) : Prop :=
  w.ownsRow (gm + 1) 69 7 v k (fl (fun i => bkC (R i) (pgs (R i)) (gn i) (cn i) (gt i) (ct i)) k) ∧
  (∀ i, i < k → BkAt w (gm + 1) (pgs (R i)) (gn i) (gt i) (P i) (Q i) (C i) (D i)) ∧
  (∀ i i', i < k → i' < k → gn i ≠ gt i' ∧ (i ≠ i' → gn i ≠ gn i' ∧ gt i ≠ gt i')) ∧
  (∀ g, v.ownBlock = some g → gm < g ∧ g < w.heap.size ∧ ∀ i, i < k → g ≠ gn i ∧ g ≠ gt i ∧ ∀ j, j < pgs (R i) → g ≠ P i j ∧ g ≠ Q i j) ∧
  (∀ i j, i < k → j < pgs (R i) → (P i j ≠ gm ∧ Q i j ≠ gm) ∧ ∀ i', i' < k → P i j ≠ gn i' ∧ P i j ≠ gt i' ∧ Q i j ≠ gn i' ∧ Q i j ≠ gt i')
theorem Bks.start {w : World} {gm : Nat} {R : Nat → Rg} : Bks w gm 0 (.slice none 0 0) R (fun _ => 0) (fun _ => 0) (fun _ => 0) (fun _ => 0) (fun _ _ => 0) (fun _ _ => 0) (fun _ _ _ => 0) (fun _ _ _ => 0) :=
  ⟨⟨rfl, .inl ⟨rfl, rfl⟩⟩, fun i hi => by omega, fun i i' hi => by omega, fun g hg => by simp [Value.ownBlock] at hg, fun i j hi => by omega⟩
theorem Bks.next {w w' : World} {gm k : Nat} {v : Value} {R : Nat → Rg} {gn cn gt ct : Nat → Nat} {P Q : Nat → Nat → Nat} {C D : Nat → Nat → Nat → Int} (h : Bks w gm k v R gn cn gt ct P Q C D) (hb : Below w.heap.size w w') : Bks w' gm k v R gn cn gt ct P Q C D := by
  obtain ⟨h1, h2, h3, h4, h5⟩ := h
  refine ⟨⟨h1.1, ?_⟩, fun i hi => (h2 i hi).next hb, h3, fun g hg => ⟨(h4 g hg).1, Nat.lt_of_lt_of_le (h4 g hg).2.1 hb.size, (h4 g hg).2.2⟩, h5⟩
  rcases h1.2 with h | ⟨g, cap, cur, a1, a2, a3, a4⟩
  · exact .inl h
  · exact .inr ⟨g, cap, cur, a1, a2, (hb.block g (Array.getElem?_eq_some_iff.1 a3).1).trans a3, a4⟩
theorem Bks.push {w w2 w3 : World} {gm k : Nat} {v v' : Value} {R : Nat → Rg} {gn cn gt ct : Nat → Nat} {P Q : Nat → Nat → Nat} {C D : Nat → Nat → Nat → Int} (h : Bks w gm k v R gn cn gt ct P Q C D)
    {g g' n n' : Nat} {p q : Nat → Nat} {c d : Nat → Nat → Int} (hgm : gm < w.heap.size) (hb : Below w.heap.size w w2) (hk : BkAt w2 w.heap.size (pgs (R k)) g g' p q c d)
    (hpq : ∀ j, j < pgs (R k) → (p j < gm ∨ w.heap.size ≤ p j ∧ p j ≠ g ∧ p j ≠ g') ∧ (q j < gm ∨ w.heap.size ≤ q j ∧ q j ≠ g ∧ q j ≠ g'))
    (hf : Fr (fun b => v.ownBlock = some b) w2 w3) (hv : v'.ownBlock = v.ownBlock ∨ ∃ b, v'.ownBlock = some b ∧ w2.heap.size ≤ b ∧ b < w3.heap.size)
    (hown : w3.ownsRow (gm + 1) 69 7 v' (k + 1) (fl (fun i => bkC (R i) (pgs (R i)) (gn i) (cn i) (gt i) (ct i)) k ++ bkC (R k) (pgs (R k)) g n g' n')) :
    Bks w3 gm (k + 1) v' R (ins gn k g) (ins cn k n) (ins gt k g') (ins ct k n') (ins P k p) (ins Q k q) (ins C k c) (ins D k d) := by
  obtain ⟨h1, h2, h3, h4, h5⟩ := h
  have hs := hb.size
  have hs3 := hf.size
  have old : ∀ i, i < k → BkAt w2 (gm + 1) (pgs (R i)) (gn i) (gt i) (P i) (Q i) (C i) (D i) := fun i hi => (h2 i hi).next hb
  have lts : ∀ i, i < k → (gm < gn i ∧ gn i < w.heap.size) ∧ (gm < gt i ∧ gt i < w.heap.size) ∧ ∀ j, j < pgs (R i) → P i j < w.heap.size ∧ Q i j < w.heap.size := fun i hi =>
    ⟨⟨(h2 i hi).1.1, (h2 i hi).1.2⟩, ⟨(h2 i hi).2.1.1, (h2 i hi).2.1.2⟩, fun j hj => ⟨((h2 i hi).2.2.2.2 j hj).2.2.1.lt, ((h2 i hi).2.2.2.2 j hj).2.2.2.lt⟩⟩
  have nb : ∀ b, v.ownBlock = some b → gm < b ∧ b < w.heap.size := fun b hb => ⟨(h4 b hb).1, (h4 b hb).2.1⟩
  have hkg : w.heap.size ≤ g ∧ g < w2.heap.size := hk.1
  have hkg' : w.heap.size ≤ g' ∧ g' < w2.heap.size := hk.2.1
  have hlt : ∀ j, j < pgs (R k) → p j < w2.heap.size ∧ q j < w2.heap.size := fun j hj => ⟨(hk.2.2.2.2 j hj).2.2.1.lt, (hk.2.2.2.2 j hj).2.2.2.lt⟩
  refine ⟨?_, fun i hi => ?_, fun i i' hi hi' => ?_, fun b hbl => ?_, fun i j hi hj => ?_⟩
  · rw [fl_succ]
    simp only [ins_at]
    rw [fl_congr (B' := fun i => bkC (R i) (pgs (R i)) (gn i) (cn i) (gt i) (ct i)) (fun i hi => by rw [ins_off _ _ _ _ (by omega), ins_off _ _ _ _ (by omega), ins_off _ _ _ _ (by omega), ins_off _ _ _ _ (by omega)])]
    exact hown
  · by_cases e : i = k
    · subst e
      simp only [ins_at]
      have := hk.fr hf (fun e => by have := nb _ e; omega) (fun e => by have := nb _ e; omega) (fun j hj => ⟨fun e => by have := nb _ e; have := (hpq j hj).1; omega, fun e => by have := nb _ e; have := (hpq j hj).2; omega⟩)
      obtain ⟨a1, a2, a3⟩ := this
      exact ⟨⟨by omega, a1.2⟩, ⟨by omega, a2.2⟩, a3⟩
    · have hik : i < k := by omega
      simp only [ins_off _ _ _ _ e]
      exact (old i hik).fr hf (fun e => ((h4 _ e).2.2 i hik).1 rfl) (fun e => ((h4 _ e).2.2 i hik).2.1 rfl) (fun j hj => ⟨fun e => (((h4 _ e).2.2 i hik).2.2 j hj).1 rfl, fun e => (((h4 _ e).2.2 i hik).2.2 j hj).2 rfl⟩)
  · have hne := hk.2.2.1
    by_cases e : i = k
    · subst e
      simp only [ins_at]
      by_cases e' : i' = i
      · subst e'
        simp only [ins_at]
        exact ⟨hne, fun h => absurd rfl h⟩
      · have := lts i' (by omega)
        simp only [ins_off _ _ _ _ e']
        exact ⟨by omega, fun _ => ⟨by omega, by omega⟩⟩
    · simp only [ins_off _ _ _ _ e]
      have := lts i (by omega)
      by_cases e' : i' = k
      · subst e'
        simp only [ins_at]
        exact ⟨by omega, fun _ => ⟨by omega, by omega⟩⟩
      · simp only [ins_off _ _ _ _ e']
        exact h3 i i' (by omega) (by omega)
  · rcases hv with hv | ⟨b', hv, hb1, hb2⟩
    · rw [hv] at hbl
      have h4' := h4 b hbl
      refine ⟨h4'.1, by omega, fun i hi => ?_⟩
      by_cases e : i = k
      · subst e
        simp only [ins_at]
        exact ⟨by omega, by omega, fun j hj => ⟨by have := (hpq j hj).1; omega, by have := (hpq j hj).2; omega⟩⟩
      · simp only [ins_off _ _ _ _ e]
        exact h4'.2.2 i (by omega)
    · rw [hv] at hbl
      obtain rfl := Option.some.inj hbl
      refine ⟨by omega, hb2, fun i hi => ?_⟩
      by_cases e : i = k
      · subst e
        simp only [ins_at]
        exact ⟨by omega, by omega, fun j hj => by have := hlt j hj; omega⟩
      · simp only [ins_off _ _ _ _ e]
        have := lts i (by omega)
        exact ⟨by omega, by omega, fun j hj => by have := this.2.2 j hj; omega⟩
  · by_cases e : i = k
    · subst e
      simp only [ins_at]
      have hp := hpq j hj
      refine ⟨by omega, fun i' hi' => ?_⟩
      by_cases e' : i' = i
      · subst e'
        simp only [ins_at]
        omega
      · simp only [ins_off _ _ _ _ e']
        have := lts i' (by omega)
        omega
    · simp only [ins_off _ _ _ _ e]
      have hik : i < k := by omega
      have h5' := h5 i j hik hj
      refine ⟨h5'.1, fun i' hi' => ?_⟩
      by_cases e' : i' = k
      · subst e'
        simp only [ins_at]
        have := (lts i hik).2.2 j hj
        omega
      · simp only [ins_off _ _ _ _ e']
        exact h5'.2 i' (by omega)
end Go.Proofs.Ytbfimedgichiiaa
namespace Go.Proofs.Ytbfimedgichiiaa
set_option linter.unusedVariables false
set_option linter.unusedSimpArgs false
set_option maxRecDepth 100000
open Go.ChangeShapes Go.WideShapes Go.ChangeAt Go.RowKit
attribute [local go_sem ↓] Go.wp_at_zero Go.wp_at_succ

theorem infoBk : (Try.prog.info? 69).map (fun i => (i.zero, i.size, i.bytes)) = some (some (.agg #[.string ⟨#[]⟩, .int .i64 0, .int .i64 0, .bool false, .bool false, .slice none 0 0, .slice none 0 0]), 7, 88) := by kernel_rfl
/-- A range in a block. -/
abbrev R5 (br : Nat) (r : Rg) (w' : World) : Prop := w'.cell? ⟨br, 0, none⟩ = some (.string ⟨r.nm.toArray⟩) ∧ w'.cell? ⟨br, 1, none⟩ = some (.int .i64 r.fr) ∧ w'.cell? ⟨br, 2, none⟩ = some (.int .i64 r.sz) ∧ w'.cell? ⟨br, 3, none⟩ = some (.bool r.wr) ∧ w'.cell? ⟨br, 4, none⟩ = some (.bool r.ex)
theorem R5.next {br : Nat} {r : Rg} {w w' : World} (h : R5 br r w) (hb : Below w.heap.size w w') : R5 br r w' := by
  obtain ⟨a2, a3, a4, a5, a6⟩ := h
  exact ⟨(hb.cell (cell_lt a2)).trans a2, (hb.cell (cell_lt a3)).trans a3, (hb.cell (cell_lt a4)).trans a4, (hb.cell (cell_lt a5)).trans a5, (hb.cell (cell_lt a6)).trans a6⟩
theorem R5.far {br : Nat} {r : Rg} {w w' : World} {row : Option Nat} (h : R5 br r w) (hg : w.grownBy w' row) (h2 : row ≠ some br) : R5 br r w' := by
  obtain ⟨a2, a3, a4, a5, a6⟩ := h
  have c1 := fun k => hg.cell_far ⟨br, k, none⟩ (show br < _ from cell_lt a2) (Ne.symm h2)
  exact ⟨(c1 _).trans a2, (c1 _).trans a3, (c1 _).trans a4, (c1 _).trans a5, (c1 _).trans a6⟩
theorem R5.set {br gm : Nat} {r : Rg} {w : World} (h : R5 br r w) (hne : gm ≠ br) (k : Nat) (u : Value) : R5 br r (w.setCell ⟨gm, k, none⟩ u) := by
  obtain ⟨a2, a3, a4, a5, a6⟩ := h
  have c1 : ∀ j, (w.setCell ⟨gm, k, none⟩ u).cell? ⟨br, j, none⟩ = w.cell? ⟨br, j, none⟩ := fun j => World.cell?_setCell_other _ _ _ _ (fun e => hne (by injection e))
  exact ⟨(c1 _).trans a2, (c1 _).trans a3, (c1 _).trans a4, (c1 _).trans a5, (c1 _).trans a6⟩
def NwInv (w wr : World) (gm k : Nat) (R : Nat → Rg) : Prop :=
  ∃ v gn cn gt ct P Q C D, wr.cell? ⟨gm, 0, none⟩ = some v ∧ wr.frozen? ⟨gm, 0, none⟩ = false ∧ Bks wr gm k v R gn cn gt ct P Q C D ∧ (∀ i j, i < k → P i j = Q i j ∧ gm ≤ P i j) ∧ (∀ i j c, C i j c = 0 ∧ D i j c = 0) ∧ Below gm w wr ∧ gm < wr.heap.size
theorem blk_set {w : World} {gm : Nat} {u : Value} : ∀ i, i ≠ gm → (w.setCell ⟨gm, 0, none⟩ u).heap[i]? = w.heap[i]? := fun i hi => Below.heap_setCell w ⟨gm, 0, none⟩ u i (fun e => hi e)
theorem Bks.set {w : World} {gm k : Nat} {v : Value} {R : Nat → Rg} {gn cn gt ct : Nat → Nat} {P Q : Nat → Nat → Nat} {C D : Nat → Nat → Nat → Int} (h : Bks w gm k v R gn cn gt ct P Q C D) (u : Value) : Bks (w.setCell ⟨gm, 0, none⟩ u) gm k v R gn cn gt ct P Q C D := by
  obtain ⟨h1, h2, h3, h4, h5⟩ := h
  have hs : (w.setCell ⟨gm, 0, none⟩ u).heap.size = w.heap.size := by simp [World.setCell]
  refine ⟨⟨h1.1, ?_⟩, fun i hi => ?_, h3, fun g hg => ⟨(h4 g hg).1, by rw [hs]; exact (h4 g hg).2.1, (h4 g hg).2.2⟩, h5⟩
  · rcases h1.2 with h | ⟨g, cap, cur, a1, a2, a3, a4⟩
    · exact .inl h
    · exact .inr ⟨g, cap, cur, a1, a2, (blk_set g (by omega)).trans a3, a4⟩
  · have hh := h2 i hi
    have := hh.1.1
    have := hh.2.1.1
    exact hh.keep (b := gm) blk_set (by rw [hs]; exact Nat.le_refl _) (by omega) (by omega) (fun j hj => (h5 i j hi hj).1)
theorem NwInv_push {w1 w4 w5 w9 : World} {gm k : Nat} {v : Value} {R : Nat → Rg} {gn cn gt ct : Nat → Nat} {P Q : Nat → Nat → Nat} {C D : Nat → Nat → Nat → Int} (hBks : Bks w4 gm k v R gn cn gt ct P Q C D)
    (hPQ : ∀ i j, i < k → P i j = Q i j ∧ gm ≤ P i j) (hCD : ∀ i j c, C i j c = 0 ∧ D i j c = 0) (hBL : Below gm w1 w4) (hgl : gm < w4.heap.size) {g g' n1 n1' p : Nat}
    (hk5 : BkAt w5 w4.heap.size (pgs (R k)) g g' (fun _ => p) (fun _ => p) (fun _ _ => 0) (fun _ _ => 0)) (e1 : p ≠ g) (e2 : p ≠ g') (e3 : w4.heap.size ≤ p) (hb5 : Below w4.heap.size w4.drew w5) {o : Obj} {g9 cap9 : Nat}
    (hown : w9.ownsRow (gm + 1) 69 7 (.slice (some ⟨g9, 0, none⟩) (k + 1) cap9) (k + 1) (fl (fun i => bkC (R i) (pgs (R i)) (gn i) (cn i) (gt i) (ct i)) k ++ bkC (R k) (pgs (R k)) g n1 g' n1'))
    (hgrow : (w5.alloc o).grownBy w9 v.ownBlock) (hat : v.ownBlock = some g9 ∨ g9 = w5.heap.size + 1) (hlt : g9 < w9.heap.size) (hv9 : w9.cell? ⟨gm, 0, none⟩ = some v) (hf9 : w9.frozen? ⟨gm, 0, none⟩ = false) :
    NwInv w1 (w9.setCell ⟨gm, 0, none⟩ (.slice (some ⟨g9, 0, none⟩) (k + 1) cap9)) gm (k + 1) R := by
  have hb : Below w4.heap.size w4 w5 := ((Below.refl w4.heap.size w4).drew).trans hb5
  have hfr : Fr (fun b => v.ownBlock = some b) w5 w9 := ⟨hgrow.os, hgrow.tape, hgrow.output, by have := hgrow.size; simp at this; omega, fun b hb hn => (hgrow.block b (Nat.lt_of_lt_of_le hb (by simp)) (fun e => hn e.symm)).trans (Below.heap_alloc _ _ _ hb)⟩
  have hpush := hBks.push (v' := .slice (some ⟨g9, 0, none⟩) (k + 1) cap9) (n := n1) (n' := n1') hgl hb hk5 (fun j hj => ⟨.inr ⟨e3, e1, e2⟩, .inr ⟨e3, e1, e2⟩⟩) hfr (by
    rcases hat with h | h
    · exact .inl (by rw [h]; rfl)
    · exact .inr ⟨g9, rfl, by omega, hlt⟩) hown
  have hsz : w5.heap.size ≤ w9.heap.size := hfr.size
  have hs5 := hb.size
  refine ⟨_, _, _, _, _, _, _, _, _, World.cell?_setCell_same _ _ _ hv9, by rw [World.frozen?_setCell]; exact hf9, hpush.set _, fun i j hi => ?_, fun i j c => ?_, ?_, ?_⟩
  · by_cases e : i = k
    · subst e; simp only [ins_at]; exact ⟨trivial, by omega⟩
    · simp only [ins_off _ _ _ _ e]; exact hPQ i j (by omega)
  · by_cases e : i = k
    · subst e; simp only [ins_at]; exact ⟨trivial, trivial⟩
    · simp only [ins_off _ _ _ _ e]; exact hCD i j c
  · refine (hBL.trans (hb.mono (Nat.le_of_lt hgl))).trans (Below.setCell (p := ⟨gm, 0, none⟩) ⟨hfr.os, hfr.tape, hfr.output, hfr.size, fun b hbb => by have hb3 : b < gm := hbb; exact hfr.block b (by omega) (fun e => by have := (hBks.2.2.2.1 b e).1; omega)⟩ (Nat.le_refl _) _)
  · simp [World.setCell]; omega
set_option maxHeartbeats 4000000 in
theorem c_New_ok (b off n cap : Nat) (R : Nat → Rg) (w : World) (hm : n ≤ maxLen) (hn16 : n ≤ 16) (hR : RS w b off n R) (hle : n ≤ cap) (hbd : RgBd R n) (hc : chkI R n = 0) :
    Calls Try.prog 8 #[.slice (some ⟨b, off, none⟩) n cap] w fun e w' => ∃ gm, e = .returned (.tuple #[.pointer (some ⟨gm, 0, none⟩), .int .i64 0]) ∧ w.heap.size ≤ gm ∧ ∃ w1, Below w.heap.size w w1 ∧ w1.heap.size = gm ∧ NwInv w1 w' gm n R := by
  have HR := Lib.hid hR
  have HCk := Lib.hid hc
  have HRO : Hid (RSO w (some ⟨b, off, none⟩) n cap R) := .inr ⟨b, off, rfl, hle, hR⟩
  have HBD := Lib.hid hbd
  have HLE := Lib.hid hle
  have HRg : Hid (∀ i, i < n → rgB (R i) = true) := by
    show ∀ _, _
    unfold chkI at hc
    rw [if_neg (by omega)] at hc
    have : okTo R n = true := by
      cases h : okTo R n
      · rw [h] at hc; simp at hc
      · rfl
    exact okTo_rg this
  clear hR hc hbd hle
  go_enter Try.func8, Try.ntmps8
  go_wp2_with fail
  refine (c_Check (some ⟨b, off, none⟩) n cap R _ hm HRO.out HBD.out).mono ?_
  rintro e w1 ⟨rfl, hb1⟩
  rw [HCk.out]
  have HB1 := Lib.hid hb1
  have HMl := Lib.hid hm
  clear hb1 hm
  go_wp2_with fail
  go_loopw [17] (fun i wr => ∃ k : Nat, k ≤ n ∧ i = .int .i64 k ∧ Hid (NwInv w1 wr w1.heap.size k R)) (fun i _ => n - (intOf i).toNat)
  case atStart =>
    refine ⟨0, Nat.zero_le _, rfl, .slice none 0 0, _, _, _, _, _, _, _, _, by simp [go_sem], by simp [go_sem], Bks.start, fun i j hi => by omega, fun i j c => ⟨rfl, rfl⟩, below_new w1 _, by simp⟩
  case round =>
    obtain ⟨k, hk, rfl, HI⟩ := hrel
    by_cases hlt : k < n
    · obtain ⟨v, gn, cn, gt, ct, P, Q, C, D, hv, hf, hBks, hPQ, hCD, hbl, hgl⟩ := HI.out
      have HBw : Hid (Below w.heap.size w wr) := HB1.out.trans (hbl.mono HB1.out.size)
      obtain ⟨x0, x1, x2, x3, x4⟩ := HR.out.next HBw.out k hlt
      have HBks := Lib.hid hBks
      have HPQ := Lib.hid hPQ
      have HCD := Lib.hid hCD
      have HBL := Lib.hid hbl
      have hml : n ≤ 16 := hn16
      have HVL : Hid (wr.cell? ⟨w1.heap.size, 0, none⟩ = some v) := hv
      have hmk : k ≤ cap := by have := HLE.out; omega
      clear hBks hPQ hCD hbl hmk
      go_wp2_with fail
      generalize hw4 : wr.alloc _ = w4
      have hb4 : Below wr.heap.size wr w4 := by rw [← hw4]; exact below_new wr _
      have hs4 : w4.heap.size = wr.heap.size + 1 := by rw [← hw4]; simp
      have hv4 : w4.cell? ⟨w1.heap.size, 0, none⟩ = some v := (hb4.cell (cell_lt hv)).trans hv
      have hf4 : w4.frozen? ⟨w1.heap.size, 0, none⟩ = false := (hb4.frozen (p := ⟨w1.heap.size, 0, none⟩) hgl).trans hf
      have hS4 : R5 wr.heap.size (R k) w4 := by
        refine ⟨?_, ?_, ?_, ?_, ?_⟩ <;> (rw [← hw4]; simp [go_sem])
      have HBks4 := Lib.hid (HBks.out.next hb4)
      have HBL4 : Hid (Below w1.heap.size w1 w4) := HBL.out.trans (hb4.mono (Nat.le_of_lt hgl))
      have HGL := Lib.hid hgl
      have HS4 := Lib.hid hs4
      have hrg := HRg.out k hlt
      have hfar : v.ownBlock ≠ some w1.heap.size ∧ v.ownBlock ≠ some wr.heap.size := ⟨fun e => by have := (HBks.out.2.2.2.1 _ e).1; omega, fun e => by have := (HBks.out.2.2.2.1 _ e).2.1; omega⟩
      have HFar := Lib.hid hfar
      have HOwn : Hid (∀ w6, Below w4.heap.size w4 w6 → w6.ownsRow (w1.heap.size + 1) 69 7 v k (fl (fun i => bkC (R i) (pgs (R i)) (gn i) (cn i) (gt i) (ct i)) k)) := fun w6 h6 => (HBks4.out.next h6).1
      obtain ⟨i0, hi, hz0, hz1, hz2⟩ := info_parts infoBk
      clear hw4 hb4 hv hf x0 x1 x2 x3 x4 hgl hs4 hfar
      have HOwn1 : Hid (∀ w5 o, Below w4.heap.size w4.drew w5 → (w5.alloc o).ownsRow (w1.heap.size + 1) 69 7 v k (fl (fun i => bkC (R i) (pgs (R i)) (gn i) (cn i) (gt i) (ct i)) k)) := fun w5 o h5 => HOwn.out _ ((((Below.refl w4.heap.size w4).drew).trans h5).alloc h5.size _)
      have hne : w1.heap.size ≠ wr.heap.size := by have := HGL.out; omega
      have hl4 : w1.heap.size < w4.heap.size := cell_lt hv4
      have HV4 := Lib.hid (And.intro hv4 (And.intro hf4 hl4))
      clear hl4
      obtain ⟨s0, s1, s2, s3, s4⟩ := hS4
      go_region_law
        (first
          | (go_simp; go_at_call 28; refine (c_newBank (R k) _ hrg).mono ?_; rintro e w5 ⟨g, g', n1, n1', p, rfl, hk5, e1, e2, e3, e4, hb5⟩
             have hv5 : w5.cell? ⟨w1.heap.size, 0, none⟩ = some v := (hb5.cell (p := ⟨w1.heap.size, 0, none⟩) HV4.out.2.2).trans HV4.out.1
             have hf5 : w5.frozen? ⟨w1.heap.size, 0, none⟩ = false := (hb5.frozen (p := ⟨w1.heap.size, 0, none⟩) HV4.out.2.2).trans HV4.out.2.1
             have HL5 : Hid (w1.heap.size < w5.heap.size) := cell_lt hv5
             have ha5 : ∀ o, (w5.alloc o).cell? ⟨w1.heap.size, 0, none⟩ = some v := fun o => ((below_new w5 o).cell (p := ⟨w1.heap.size, 0, none⟩) HL5.out).trans hv5)
          | (refine step_append_lies _ (by rfl) _ _ _ (by rfl) (w1.heap.size + 1) 69 i0 _ 7 88 Try.underlying64 hi hz0 hz1 hz2 rfl (by decide) v k _ (by rfl) (HOwn1.out _ _ (by exact hb5)) ⟨w5.heap.size, 0, none⟩ 1 1 (bkC (R k) (pgs (R k)) g n1 g' n1') (by rfl) rfl (World.news_of_block (heap_alloc_new w5 _)) (bkC_one _ _ _ _ _ _) (by decide) (by unfold maxLen; omega) (by omega) (by have := HL5.out; simp; omega) (w5.heap.size + 1) (by simp) ?_
             intro g9 cap9 w9 hown hgrow hat hlt9
             have hv9 : w9.cell? ⟨w1.heap.size, 0, none⟩ = some v := (hgrow.cell_far ⟨w1.heap.size, 0, none⟩ (by have := HL5.out; simp; omega) (Ne.symm HFar.out.1)).trans (((below_new w5 _).cell (p := ⟨w1.heap.size, 0, none⟩) HL5.out).trans hv5)
             have hf9 : w9.frozen? ⟨w1.heap.size, 0, none⟩ = false := (hgrow.frozen_far ⟨w1.heap.size, 0, none⟩ (by have := HL5.out; simp; omega) (Ne.symm HFar.out.1)).trans (((below_new w5 _).frozen (p := ⟨w1.heap.size, 0, none⟩) HL5.out).trans hf5)))
      all_goals
        have HN9 : Hid (NwInv w1 (w9.setCell ⟨w1.heap.size, 0, none⟩ (.slice (some ⟨g9, 0, none⟩) (k + 1) cap9)) w1.heap.size (k + 1) R) := NwInv_push HBks4.out HPQ.out HCD.out HBL4.out HV4.out.2.2 (by exact hk5) e1 e2 (by exact e3) (by exact hb5) hown hgrow hat hlt9 hv9 hf9
        clear hk5 e1 e2 e3 e4 hb5 hown hgrow hat hlt9 hv5 hf5 ha5 hv4 hf4 s0 s1 s2 s3 s4
        go_wp2_with fail
        go_roundw
        case rel => exact ⟨k + 1, by omega, by go_num, HN9⟩
        case measure => simp [intOf]; omega
    · have hge : decide (k < n) = false := by simp; omega
      obtain rfl : k = n := by omega
      clear hk hlt
      go_wp2_with fail
      go_ret2
      exact ⟨w1.heap.size, rfl, HB1.out.size, w1, HB1.out, rfl, HI.out⟩
end Go.Proofs.Ytbfimedgichiiaa
namespace Go.Proofs.Ytbfimedgichiiaa
set_option linter.unusedVariables false
set_option linter.unusedSimpArgs false
set_option maxRecDepth 100000
open Go.ChangeShapes Go.WideShapes Go.ChangeAt Go.RowKit

/-- A memory as the document has it: it stands in A, writes in M alone; now C, at the mark D. -/
def Mm (w : World) (A M : Nat → Prop) (gm nb : Nat) (R : Nat → Rg) (C D : Nat → Nat → Nat → Int) : Prop :=
  ∃ G gb cap gn gt np cn ct P Q, MS w G gm gb nb cap R gn gt np cn ct P Q C D ∧ (∀ i, i < nb → np i = pgs (R i)) ∧ okTo R nb = true ∧ (∀ b, Mut nb gn gt np P Q b → M b) ∧ (∀ b, Foot gm gb nb gn gt np P Q b → A b) ∧
    (∀ i j k, i < nb → j < np i → k < 4096 → (R i).sz ≤ ((j * 4096 + k : Nat) : Int) → C i j k = D i j k)
theorem MS.of_bks {w : World} {gm nb : Nat} {v : Value} {R : Nat → Rg} {gn cn gt ct : Nat → Nat} {P Q : Nat → Nat → Nat} {C D : Nat → Nat → Nat → Int} (hv : w.cell? ⟨gm, 0, none⟩ = some v) (h : Bks w gm nb v R gn cn gt ct P Q C D) (hn : nb ≤ 16)
    (hR : ∀ i, i < nb → rgB (R i) = true) (hpriv : ∀ i j, i < nb → j < pgs (R i) → P i j ≠ Q i j → ∀ i' j', i' < nb → j' < pgs (R i') → Q i' j' ≠ P i j ∧ (P i' j' = P i j → i' = i ∧ j' = j)) :
    ∃ gb cap, MS w w.heap.size gm gb nb cap R gn gt (fun i => pgs (R i)) cn ct P Q C D ∧ gm < gb := by
  obtain ⟨h1, h2, h3, h4, h5⟩ := h
  have hgm : gm < w.heap.size := cell_lt hv
  have hnp : ∀ i, i < nb → pgs (R i) ≤ 4096 ∧ (R i).sz ≤ (pgs (R i)) * 4096 := fun i hi => by
    have := rg_bd (hR i hi)
    unfold pgs
    omega
  have key : ∀ gb cap, v = .slice (some ⟨gb, 0, none⟩) nb cap → gm < gb → MS w w.heap.size gm gb nb cap R gn gt (fun i => pgs (R i)) cn ct P Q C D := by
    intro gb cap hvv hgb
    subst hvv
    have hblk := h4 gb rfl
    have cel : ∀ i c, i < nb → c < 7 → w.cell? ⟨gb, i * 7 + c, none⟩ = (bkC (R i) (pgs (R i)) (gn i) (cn i) (gt i) (ct i))[c]? := fun i c hi hc => by
      rw [h1.cellAt (i * 7 + c) (by omega)]
      exact fl_get (fun i => bkC (R i) (pgs (R i)) (gn i) (cn i) (gt i) (ct i)) 7 (fun i => rfl) c hc nb i hi
    have c0 := fun i (hi : i < nb) => cel i 0 hi (by decide)
    have c1 := fun i (hi : i < nb) => cel i 1 hi (by decide)
    have c2 := fun i (hi : i < nb) => cel i 2 hi (by decide)
    have c3 := fun i (hi : i < nb) => cel i 3 hi (by decide)
    have c4 := fun i (hi : i < nb) => cel i 4 hi (by decide)
    have c5 := fun i (hi : i < nb) => cel i 5 hi (by decide)
    have c6 := fun i (hi : i < nb) => cel i 6 hi (by decide)
    refine ⟨⟨⟨⟨_, hv, fun _ => rfl⟩, fun i hi => ⟨c0 i hi, c1 i hi, c2 i hi, c3 i hi, c4 i hi⟩⟩, hgm, hn, hR, fun i hi => ⟨⟨c0 i hi, c1 i hi, c2 i hi, c3 i hi, c4 i hi⟩, c5 i hi, hblk.2.1, (h2 i hi).1.2, (hnp i hi).1, (hnp i hi).2, fun j hj => ?_⟩, Nat.le_refl _⟩, fun i hi => ⟨c6 i hi, (h2 i hi).2.1.2, fun j hj => ?_⟩, fun i k hi => (h2 i hi).2.2.2.1 k, by omega, fun i hi => ?_, h3, fun i j hi hj => ?_, hpriv⟩
    · have := (h2 i hi).2.2.2.2 j hj
      exact ⟨this.1, this.2.2.1, this.2.2.1.lt⟩
    · have := (h2 i hi).2.2.2.2 j hj
      exact ⟨this.2.1, this.2.2.2, this.2.2.2.lt⟩
    · have a1 := (h2 i hi).1.1
      have a2 := (h2 i hi).2.1.1
      have a3 := hblk.2.2 i hi
      exact ⟨by omega, fun e => a3.1 e.symm, by omega, fun e => a3.2.1 e.symm⟩
    · have a3 := (hblk.2.2 i hi).2.2 j hj
      have a5 := h5 i j hi hj
      exact ⟨⟨a5.1.1, fun e => a3.1 e.symm, a5.1.2, fun e => a3.2 e.symm⟩, a5.2⟩
  rcases h1.2 with ⟨hv0, h0⟩ | ⟨g, cap, cur, hv0, hg, _⟩
  · subst h0
    refine ⟨gm + 1, 0, ⟨⟨⟨⟨_, by rw [hv, hv0], fun h => by omega⟩, fun i hi => by omega⟩, hgm, by omega, fun i hi => by omega, fun i hi => by omega, Nat.le_refl _⟩, fun i hi => by omega, fun i k hi => by omega, by omega, fun i hi => by omega, fun i i' hi => by omega, fun i j hi => by omega, fun i j hi => by omega⟩, by omega⟩
  · exact ⟨g, cap, key g cap hv0 (by omega), by omega⟩
/-- The bytes as none stands. -/
def zC : Nat → Nat → Nat → Int := fun _ _ _ => 0
theorem NwInv.mm {w w' : World} {gm n : Nat} {R : Nat → Rg} (h : NwInv w w' gm n R) (hn : n ≤ 16) (hok : okTo R n = true) : Mm w' (fun b => gm ≤ b) (fun b => gm ≤ b) gm n R zC zC := by
  obtain ⟨v, gn, cn, gt, ct, P, Q, C, D, hv, hf, hB, hPQ, hCD, hbl, hgl⟩ := h
  have hC : C = zC := by funext i j c; exact (hCD i j c).1
  have hD : D = zC := by funext i j c; exact (hCD i j c).2
  subst hC hD
  obtain ⟨gb, cap, hMS, hgb⟩ := MS.of_bks hv hB hn (okTo_rg hok) (fun i j hi hj hne => absurd (hPQ i j hi).1 hne)
  have hb2 := hB.2.1
  refine ⟨_, gb, cap, gn, gt, _, cn, ct, P, Q, hMS, fun i hi => rfl, hok, fun b hb => ?_, fun b hb => ?_, fun i j k _ _ _ _ => rfl⟩
  · rcases hb with ⟨i, hi, h⟩ | ⟨i, j, hi, hj, hne, h⟩
    · have a1 := (hb2 i hi).1.1
      have a2 := (hb2 i hi).2.1.1
      show gm ≤ b
      omega
    · exact absurd (hPQ i j hi).1 hne
  · rcases hb with h | ⟨_, h⟩ | ⟨i, hi, h⟩ | ⟨i, j, hi, hj, h⟩
    · show gm ≤ b
      omega
    · show gm ≤ b
      omega
    · have a1 := (hb2 i hi).1.1
      have a2 := (hb2 i hi).2.1.1
      show gm ≤ b
      omega
    · have := hPQ i j hi
      show gm ≤ b
      omega
/-- What New answers: nothing and what is wrong, or a memory of noughts, all of it new. -/
def NewAns (w w' : World) (n : Nat) (R : Nat → Rg) (e : Ending) : Prop :=
  (chkI R n ≠ 0 ∧ e = .returned (.tuple #[.pointer none, .int .i64 (chkI R n)]) ∧ Below w.heap.size w w') ∨
  (chkI R n = 0 ∧ ∃ gm, e = .returned (.tuple #[.pointer (some ⟨gm, 0, none⟩), .int .i64 0]) ∧ w.heap.size ≤ gm ∧ Mm w' (fun b => gm ≤ b) (fun b => gm ≤ b) gm n R zC zC ∧ Below w.heap.size w w')
theorem chk_ok {R : Nat → Rg} {n : Nat} (h : chkI R n = 0) : n ≤ 16 ∧ okTo R n = true := by
  unfold chkI at h
  by_cases hn : 16 < n
  · rw [if_pos hn] at h; simp at h
  · rw [if_neg hn] at h
    refine ⟨by omega, ?_⟩
    cases h' : okTo R n
    · rw [h'] at h; simp at h
    · rfl
theorem c_New_no (a : Option Addr) (n cap : Nat) (R : Nat → Rg) (w : World) (hm : n ≤ maxLen) (hR : RSO w a n cap R) (hbd : RgBd R n) (hc : chkI R n ≠ 0) :
    Calls Try.prog 8 #[.slice a n cap] w fun e w' => NewAns w w' n R e := by
  have hcd : (chkI R n == 0) = false := beq_no hc
  have HC : Hid ((chkI R n = 0) = False) := eq_false hc
  have HR := Lib.hid hR
  have HBD := Lib.hid hbd
  have HMl := Lib.hid hm
  clear hc hR hbd hm
  go_enter Try.func8, Try.ntmps8
  go_wp2_with fail
  refine (c_Check a n cap R _ HMl.out HR.out HBD.out).mono ?_
  rintro e w1 ⟨rfl, hb1⟩
  have HB1 := Lib.hid hb1
  clear hb1
  go_wp2_with fail
  go_ret2
  exact .inl ⟨of_eq_false HC.out, rfl, HB1.out⟩
theorem c_New_none (a : Option Addr) (cap : Nat) (R : Nat → Rg) (w : World) :
    Calls Try.prog 8 #[.slice a 0 cap] w fun e w' => NewAns w w' 0 R e := by
  have hc : chkI R 0 = 0 := by unfold chkI okTo; rfl
  have HC := Lib.hid hc
  go_enter Try.func8, Try.ntmps8
  go_wp2_with fail
  refine (c_Check a 0 cap R _ (Nat.zero_le _) (.inl rfl) (fun i hi => by omega)).mono ?_
  rintro e w1 ⟨rfl, hb1⟩
  rw [HC.out]
  have HB1 := Lib.hid hb1
  clear hb1 hc
  go_wp2_with fail
  go_rounds 1
  all_goals
    go_wp2_with fail
    go_ret2
    have hN : NwInv w1 (w1.alloc (.cells #[.slice none 0 0] 66)) w1.heap.size 0 R := ⟨.slice none 0 0, _, _, _, _, _, _, _, _, by simp [go_sem], by simp [go_sem], Bks.start, fun i j hi => by omega, fun i j c => ⟨rfl, rfl⟩, below_new w1 _, by simp⟩
    exact .inr ⟨HC.out, w1.heap.size, rfl, HB1.out.size, hN.mm (by omega) rfl, HB1.out.alloc HB1.out.size _⟩
theorem c_New (a : Option Addr) (n cap : Nat) (R : Nat → Rg) (w : World) (hm : n ≤ maxLen) (hR : RSO w a n cap R) (hbd : RgBd R n) :
    Calls Try.prog 8 #[.slice a n cap] w fun e w' => NewAns w w' n R e := by
  by_cases hc : chkI R n = 0
  · rcases hR with h0 | ⟨b, off, rfl, hle, hR⟩
    · subst h0
      exact c_New_none a cap R w
    · have hk := chk_ok hc
      refine (c_New_ok b off n cap R w hm hk.1 hR hle hbd hc).mono ?_
      rintro e w' ⟨gm, rfl, hg, w1, hb1, hw1, hN⟩
      have hb2 : Below gm w1 w' := by obtain ⟨v, gn, cn, gt, ct, P, Q, C, D, _, _, _, _, _, hbl, _⟩ := hN; exact hbl
      exact .inr ⟨hc, gm, rfl, hg, hN.mm hk.1 hk.2, hb1.trans (hb2.mono hg)⟩
  · exact c_New_no a n cap R w hm hR hbd hc
end Go.Proofs.Ytbfimedgichiiaa
