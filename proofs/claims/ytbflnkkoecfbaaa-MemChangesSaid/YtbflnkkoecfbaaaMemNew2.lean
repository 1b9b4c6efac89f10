/-
  The contract of New, in the code.
-/
import Derived.Test.YtbflnkkoecfbaaaMemNew
import Derived.Deep.AppendLies
import Derived.Deep.RegionHeld3
import Derived.Deep.DrawnRows
namespace Go.Proofs.Ytbflnkkoecfbaaa
set_option linter.unusedVariables false
set_option linter.unusedSimpArgs false
set_option maxRecDepth 100000
open Go.ChangeShapes Go.WideShapes Go.ChangeAt Go.RowKit

/-- A row of so many elements of s cells each. -/
def fl (B : Nat → List Value) (k : Nat) : List Value := (List.range k).flatMap B
theorem fl_succ (B : Nat → List Value) (k : Nat) : fl B (k + 1) = fl B k ++ B k := by
  unfold fl
  rw [List.range_succ, List.flatMap_append]
  simp
theorem fl_len (B : Nat → List Value) (s : Nat) (h : ∀ i, (B i).length = s) : ∀ k, (fl B k).length = k * s
  | 0 => by simp [fl]
  | k + 1 => by rw [fl_succ, List.length_append, fl_len B s h k, h, Nat.add_mul, Nat.one_mul]
theorem fl_get (B : Nat → List Value) (s : Nat) (h : ∀ i, (B i).length = s) (c : Nat) (hc : c < s) : ∀ (k i : Nat), i < k → (fl B k)[i * s + c]? = (B i)[c]?
  | 0, i, hi => absurd hi (by omega)
  | k + 1, i, hi => by
    rw [fl_succ]
    have hl := fl_len B s h k
    by_cases e : i = k
    · subst e
      rw [List.getElem?_append_right (by omega), hl]
      congr 1
      omega
    · have hik : i < k := by omega
      have : i * s + c < k * s := by
        have : (i + 1) * s ≤ k * s := Nat.mul_le_mul_right s hik
        rw [Nat.add_mul, Nat.one_mul] at this
        omega
      rw [List.getElem?_append_left (by omega)]
      exact fl_get B s h c hc k i hik
theorem fl_congr {B B' : Nat → List Value} : ∀ {k : Nat}, (∀ i, i < k → B i = B' i) → fl B k = fl B' k
  | 0, _ => rfl
  | k + 1, h => by rw [fl_succ, fl_succ, fl_congr (fun i hi => h i (by omega)), h k (by omega)]
/-- The cells of a bank. -/
def bkC (r : Rg) (np gn cn gt ct : Nat) : List Value := [.string ⟨r.nm.toArray⟩, .int .i64 r.fr, .int .i64 r.sz, .bool r.wr, .bool r.ex, .slice (some ⟨gn, 0, none⟩) np cn, .slice (some ⟨gt, 0, none⟩) np ct]
theorem bkC_one (r : Rg) (np gn cn gt ct : Nat) : ∀ v ∈ bkC r np gn cn gt ct, v.oneCell' = true := by
  intro v hv
  unfold bkC at hv
  simp only [List.mem_cons, List.not_mem_nil, or_false] at hv
  rcases hv with rfl | rfl | rfl | rfl | rfl | rfl | rfl <;> rfl
def ins {A : Type} (f : Nat → A) (k : Nat) (x : A) : Nat → A := fun i => if i = k then x else f i
theorem ins_at {A : Type} (f : Nat → A) (k : Nat) (x : A) : ins f k x k = x := by unfold ins; rw [if_pos rfl]
theorem ins_off {A : Type} (f : Nat → A) (k i : Nat) (x : A) (h : i ≠ k) : ins f k x i = f i := by unfold ins; rw [if_neg h]
theorem BkAt.fr {M : Nat → Prop} {w w' : World} {H np gn gt : Nat} {P Q : Nat → Nat} {C D : Nat → Nat → Int} (h : BkAt w H np gn gt P Q C D) (hk : Fr M w w') (h1 : ¬ M gn) (h2 : ¬ M gt) (h3 : ∀ j, j < np → ¬ M (P j) ∧ ¬ M (Q j)) : BkAt w' H np gn gt P Q C D := by
  obtain ⟨a1, a2, a3, a4, a5⟩ := h
  have hs := hk.size
  refine ⟨⟨a1.1, by omega⟩, ⟨a2.1, by omega⟩, a3, fun k => ⟨(World.frozen?_of_block (a := ⟨gn, k, none⟩) (hk.block gn a1.2 h1)).trans (a4 k).1, (World.frozen?_of_block (a := ⟨gt, k, none⟩) (hk.block gt a2.2 h2)).trans (a4 k).2⟩, fun j hj => ?_⟩
  obtain ⟨k1, k2, k3, k4⟩ := a5 j hj
  exact ⟨(World.cell?_of_block (a := ⟨gn, j, none⟩) (hk.block gn a1.2 h1)).trans k1, (World.cell?_of_block (a := ⟨gt, j, none⟩) (hk.block gt a2.2 h2)).trans k2, k3.of_block (hk.block _ k3.lt (h3 j hj).1), k4.of_block (hk.block _ k4.lt (h3 j hj).2)⟩
/-- The banks made so far: in a row behind gm; each in blocks of its own. -/
def Bks (w : World) (gm k : Nat) (v : Value) (R : Nat → Rg) (gn cn gt ct : Nat → Nat) (P Q : Nat → Nat → Nat) (C D : Nat → Nat → Nat → Int) : Prop :=
  w.ownsRow (gm + 1) 69 7 v k (fl (fun i => bkC (R i) (pgs (R i)) (gn i) (cn i) (gt i) (ct i)) k) ∧
  (∀ i, i < k → BkAt w (gm + 1) (pgs (R i)) (gn i) (gt i) (P i) (Q i) (C i) (D i)) ∧
  (∀ i i', i < k → i' < k → gn i ≠ gt i' ∧ (i ≠ i' → gn i ≠ gn i' ∧ gt i ≠ gt i')) ∧
  (∀ g, v.ownBlock = some g → gm < g ∧ g < w.heap.size ∧ ∀ i, i < k → g ≠ gn i ∧ g ≠ gt i ∧ ∀ j, j < pgs (R i) → g ≠ P i j ∧ g ≠ Q i j) ∧
  (∀ i j, i < k → j < pgs (R i) → (P i j ≠ gm ∧ Q i j ≠ gm) ∧ ∀ i', i' < k → P i j ≠ gn i' ∧ P i j ≠ gt i' ∧ Q i j ≠ gn i' ∧ Q i j ≠ gt i')
theorem Bks.start {w : World} {gm : Nat} {R : Nat → Rg} : Bks w gm 0 (.slice none 0 0) R (fun _ => 0) (fun _ => 0) (fun _ => 0) (fun _ => 0) (fun _ _ => 0) (fun _ _ => 0) (fun _ _ _ => 0) (fun _ _ _ => 0) :=
  ⟨⟨rfl, .inl ⟨rfl, rfl⟩⟩, fun i hi => by omega, fun i i' hi => by omega, fun g hg => by simp [Value.ownBlock] at hg, fun i j hi => by omega⟩
theorem Bks.next {w w' : World} {gm k : Nat} {v : Value} {R : Nat → Rg} {gn cn gt ct : Nat → Nat} {P Q : Nat → Nat → Nat} {C D : Nat → Nat → Nat → Int} (h : Bks w gm k v R gn cn gt ct P Q C D) (hb : Below w.heap.size w w') : Bks w' gm k v R gn cn gt ct P Q C D := by
  obtain ⟨h1, h2, h3, h4, h5⟩ := h
  refine ⟨⟨h1.1, ?_⟩, fun i hi => (h2 i hi).next hb, h3, fun g hg => ⟨(h4 g hg).1, Nat.lt_of_lt_of_le (h4 g hg).2.1 hb.size, (h4 g hg).2.2⟩, h5⟩
  rcases h1.2 with h | ⟨g, cap, cur, a1, a2, a3, a4⟩
  · exact .inl h
  · exact .inr ⟨g, cap, cur, a1, a2, (hb.block g (Array.getElem?_eq_some_iff.1 a3).1).trans a3, a4⟩
theorem Bks.push {w w2 w3 : World} {gm k : Nat} {v v' : Value} {R : Nat → Rg} {gn cn gt ct : Nat → Nat} {P Q : Nat → Nat → Nat} {C D : Nat → Nat → Nat → Int} (h : Bks w gm k v R gn cn gt ct P Q C D)
    {g g' n n' : Nat} {p q : Nat → Nat} {c d : Nat → Nat → Int} (hgm : gm < w.heap.size) (hb : Below w.heap.size w w2) (hk : BkAt w2 w.heap.size (pgs (R k)) g g' p q c d)
    (hpq : ∀ j, j < pgs (R k) → (p j < gm ∨ w.heap.size ≤ p j ∧ p j ≠ g ∧ p j ≠ g') ∧ (q j < gm ∨ w.heap.size ≤ q j ∧ q j ≠ g ∧ q j ≠ g'))
    (hf : Fr (fun b => v.ownBlock = some b) w2 w3) (hv : v'.ownBlock = v.ownBlock ∨ ∃ b, v'.ownBlock = some b ∧ w2.heap.size ≤ b ∧ b < w3.heap.size)
    (hown : w3.ownsRow (gm + 1) 69 7 v' (k + 1) (fl (fun i => bkC (R i) (pgs (R i)) (gn i) (cn i) (gt i) (ct i)) k ++ bkC (R k) (pgs (R k)) g n g' n')) :
    Bks w3 gm (k + 1) v' R (ins gn k g) (ins cn k n) (ins gt k g') (ins ct k n') (ins P k p) (ins Q k q) (ins C k c) (ins D k d) := by
  obtain ⟨h1, h2, h3, h4, h5⟩ := h
  have hs := hb.size
  have hs3 := hf.size
  have old : ∀ i, i < k → BkAt w2 (gm + 1) (pgs (R i)) (gn i) (gt i) (P i) (Q i) (C i) (D i) := fun i hi => (h2 i hi).next hb
  have lts : ∀ i, i < k → (gm < gn i ∧ gn i < w.heap.size) ∧ (gm < gt i ∧ gt i < w.heap.size) ∧ ∀ j, j < pgs (R i) → P i j < w.heap.size ∧ Q i j < w.heap.size := fun i hi =>
    ⟨⟨(h2 i hi).1.1, (h2 i hi).1.2⟩, ⟨(h2 i hi).2.1.1, (h2 i hi).2.1.2⟩, fun j hj => ⟨((h2 i hi).2.2.2.2 j hj).2.2.1.lt, ((h2 i hi).2.2.2.2 j hj).2.2.2.lt⟩⟩
  have nb : ∀ b, v.ownBlock = some b → gm < b ∧ b < w.heap.size := fun b hb => ⟨(h4 b hb).1, (h4 b hb).2.1⟩
  have hkg : w.heap.size ≤ g ∧ g < w2.heap.size := hk.1
  have hkg' : w.heap.size ≤ g' ∧ g' < w2.heap.size := hk.2.1
  have hlt : ∀ j, j < pgs (R k) → p j < w2.heap.size ∧ q j < w2.heap.size := fun j hj => ⟨(hk.2.2.2.2 j hj).2.2.1.lt, (hk.2.2.2.2 j hj).2.2.2.lt⟩
  refine ⟨?_, fun i hi => ?_, fun i i' hi hi' => ?_, fun b hbl => ?_, fun i j hi hj => ?_⟩
  · rw [fl_succ]
    simp only [ins_at]
    rw [fl_congr (B' := fun i => bkC (R i) (pgs (R i)) (gn i) (cn i) (gt i) (ct i)) (fun i hi => by rw [ins_off _ _ _ _ (by omega), ins_off _ _ _ _ (by omega), ins_off _ _ _ _ (by omega), ins_off _ _ _ _ (by omega)])]
    exact hown
  · by_cases e : i = k
    · subst e
      simp only [ins_at]
      have := hk.fr hf (fun e => by have := nb _ e; omega) (fun e => by have := nb _ e; omega) (fun j hj => ⟨fun e => by have := nb _ e; have := (hpq j hj).1; omega, fun e => by have := nb _ e; have := (hpq j hj).2; omega⟩)
      obtain ⟨a1, a2, a3⟩ := this
      exact ⟨⟨by omega, a1.2⟩, ⟨by omega, a2.2⟩, a3⟩
    · have hik : i < k := by omega
      simp only [ins_off _ _ _ _ e]
      exact (old i hik).fr hf (fun e => ((h4 _ e).2.2 i hik).1 rfl) (fun e => ((h4 _ e).2.2 i hik).2.1 rfl) (fun j hj => ⟨fun e => (((h4 _ e).2.2 i hik).2.2 j hj).1 rfl, fun e => (((h4 _ e).2.2 i hik).2.2 j hj).2 rfl⟩)
  · have hne := hk.2.2.1
    by_cases e : i = k
    · subst e
      simp only [ins_at]
      by_cases e' : i' = i
      · subst e'
        simp only [ins_at]
        exact ⟨hne, fun h => absurd rfl h⟩
      · have := lts i' (by omega)
        simp only [ins_off _ _ _ _ e']
        exact ⟨by omega, fun _ => ⟨by omega, by omega⟩⟩
    · simp only [ins_off _ _ _ _ e]
      have := lts i (by omega)
      by_cases e' : i' = k
      · subst e'
        simp only [ins_at]
        exact ⟨by omega, fun _ => ⟨by omega, by omega⟩⟩
      · simp only [ins_off _ _ _ _ e']
        exact h3 i i' (by omega) (by omega)
  · rcases hv with hv | ⟨b', hv, hb1, hb2⟩
    · rw [hv] at hbl
      have h4' := h4 b hbl
      refine ⟨h4'.1, by omega, fun i hi => ?_⟩
      by_cases e : i = k
      · subst e
        simp only [ins_at]
        exact ⟨by omega, by omega, fun j hj => ⟨by have := (hpq j hj).1; omega, by have := (hpq j hj).2; omega⟩⟩
      · simp only [ins_off _ _ _ _ e]
        exact h4'.2.2 i (by omega)
    · rw [hv] at hbl
      obtain rfl := Option.some.inj hbl
      refine ⟨by omega, hb2, fun i hi => ?_⟩
      by_cases e : i = k
      · subst e
        simp only [ins_at]
        exact ⟨by omega, by omega, fun j hj => by have := hlt j hj; omega⟩
      · simp only [ins_off _ _ _ _ e]
        have := lts i (by omega)
        exact ⟨by omega, by omega, fun j hj => by have := this.2.2 j hj; omega⟩
  · by_cases e : i = k
    · subst e
      simp only [ins_at]
      have hp := hpq j hj
      refine ⟨by omega, fun i' hi' => ?_⟩
      by_cases e' : i' = i
      · subst e'
        simp only [ins_at]
        omega
      · simp only [ins_off _ _ _ _ e']
        have := lts i' (by omega)
        omega
    · simp only [ins_off _ _ _ _ e]
      have hik : i < k := by omega
      have h5' := h5 i j hik hj
      refine ⟨h5'.1, fun i' hi' => ?_⟩
      by_cases e' : i' = k
      · subst e'
        simp only [ins_at]
        have := (lts i hik).2.2 j hj
        omega
      · simp only [ins_off _ _ _ _ e']
        exact h5'.2 i' (by omega)
end Go.Proofs.Ytbflnkkoecfbaaa
