
/-
  The contract of read, in the code: what stands while a text is read.
-/
import Derived.Test.YthekokjmdjokgaaDoorIsaNum
namespace Go.Proofs.YthekokjmdjokgaaDoor
set_option linter.unusedVariables false
set_option linter.unusedSimpArgs false
open Go.ChangeShapes Go.WideShapes Go.ChangeAt Go.RowKit

/-- A layout lies in a block of its own. -/
def LBox (w : World) (g : Nat) (d a b : Bool) (n l m : Int) : Prop :=
  w.cell? ⟨g, 0, none⟩ = some (.bool d) ∧ w.cell? ⟨g, 1, none⟩ = some (.bool a) ∧ w.cell? ⟨g, 2, none⟩ = some (.bool b) ∧ w.cell? ⟨g, 3, none⟩ = some (.int .i64 n) ∧ w.cell? ⟨g, 4, none⟩ = some (.int .i64 l) ∧ w.cell? ⟨g, 5, none⟩ = some (.int .i64 m)
theorem LBox.next {N : Nat} {w w2 : World} {g : Nat} {d a b : Bool} {n l m : Int} (h : LBox w g d a b n l m) (hb : Below N w w2) (hN : N = w.heap.size) : LBox w2 g d a b n l m := by
  obtain ⟨h0, h1, h2, h3, h4, h5⟩ := h
  exact ⟨kcell hb hN h0, kcell hb hN h1, kcell hb hN h2, kcell hb hN h3, kcell hb hN h4, kcell hb hN h5⟩
theorem LBox.new (w : World) (d a b : Bool) (n l m : Int) (T : TypeId) : LBox (w.alloc (.cells #[.bool d, .bool a, .bool b, .int .i64 n, .int .i64 l, .int .i64 m] T)) w.heap.size d a b n l m := by
  refine ⟨?_, ?_, ?_, ?_, ?_, ?_⟩ <;> simp [go_sem]
theorem cell_set_far {w : World} {g g' k k' : Nat} {v : Value} {x : Option Value} (h : w.cell? ⟨g, k, none⟩ = x) (hne : g' ≠ g ∨ k' ≠ k) : (w.setCell ⟨g', k', none⟩ v).cell? ⟨g, k, none⟩ = x := by
  rw [World.cell?_setCell_other _ _ _ _ (fun e => by cases e; omega)]
  exact h
theorem frozen_set {w : World} {a p : Addr} {v : Value} : (w.setCell a v).frozen? p = w.frozen? p := by simp [go_sem]
/-- What stands while a text is read: the instruction as far as it is read, its layout, the answer's place. -/
def RS (w0 w : World) (gX gL : Nat) (d a b : Bool) (n l m : Int) (x0 x1 x2 x3 x4 : Int) : Prop :=
  Box w gX x0 x1 x2 x3 x4 ∧ LBox w gL d a b n l m ∧ Box w w0.heap.size 0 0 0 0 0 ∧ Below w0.heap.size w0 w ∧ w0.heap.size < gX ∧ gX < gL
theorem RS.next {N : Nat} {w0 w w2 : World} {gX gL : Nat} {d a b : Bool} {n l m x0 x1 x2 x3 x4 : Int} (h : RS w0 w gX gL d a b n l m x0 x1 x2 x3 x4) (hb : Below N w w2) (hN : N = w.heap.size) : RS w0 w2 gX gL d a b n l m x0 x1 x2 x3 x4 := by
  obtain ⟨h0, h1, h2, h4, h5, h6⟩ := h
  exact ⟨h0.next hb hN, h1.next hb hN, h2.next hb hN, below_on h4 (hN ▸ hb) h4.size, h5, h6⟩
theorem RS.gw {w0 w : World} {gX gL : Nat} {d a b : Bool} {n l m x0 x1 x2 x3 x4 : Int} (h : RS w0 w gX gL d a b n l m x0 x1 x2 x3 x4) (hg : GW w0) : GW w := hg.next h.2.2.2.1 rfl
theorem RS.set1 {w0 w : World} {gX gL : Nat} {d a b : Bool} {n l m x0 x1 x2 x3 x4 : Int} (h : RS w0 w gX gL d a b n l m x0 x1 x2 x3 x4) (y : Int) : RS w0 (w.setCell ⟨gX, 1, none⟩ (.int .i64 y)) gX gL d a b n l m x0 y x2 x3 x4 := by
  obtain ⟨⟨a0, a1, a2, a3, a4, af⟩, ⟨b0, b1, b2, b3, b4, b5⟩, ⟨c0, c1, c2, c3, c4, cf⟩, h4, h5, h6⟩ := h
  refine ⟨⟨cell_set_far a0 (.inr (by decide)), World.cell?_setCell_same _ _ _ a1, cell_set_far a2 (.inr (by decide)), cell_set_far a3 (.inr (by decide)), cell_set_far a4 (.inr (by decide)), fun o => frozen_set.trans (af o)⟩, ⟨cell_set_far b0 (.inl (by omega)), cell_set_far b1 (.inl (by omega)), cell_set_far b2 (.inl (by omega)), cell_set_far b3 (.inl (by omega)), cell_set_far b4 (.inl (by omega)), cell_set_far b5 (.inl (by omega))⟩, ⟨cell_set_far c0 (.inl (by omega)), cell_set_far c1 (.inl (by omega)), cell_set_far c2 (.inl (by omega)), cell_set_far c3 (.inl (by omega)), cell_set_far c4 (.inl (by omega)), fun o => frozen_set.trans (cf o)⟩, h4.setCell (by show w0.heap.size ≤ gX; omega) _, h5, h6⟩
theorem RS.set2 {w0 w : World} {gX gL : Nat} {d a b : Bool} {n l m x0 x1 x2 x3 x4 : Int} (h : RS w0 w gX gL d a b n l m x0 x1 x2 x3 x4) (y : Int) : RS w0 (w.setCell ⟨gX, 2, none⟩ (.int .i64 y)) gX gL d a b n l m x0 x1 y x3 x4 := by
  obtain ⟨⟨a0, a1, a2, a3, a4, af⟩, ⟨b0, b1, b2, b3, b4, b5⟩, ⟨c0, c1, c2, c3, c4, cf⟩, h4, h5, h6⟩ := h
  refine ⟨⟨cell_set_far a0 (.inr (by decide)), cell_set_far a1 (.inr (by decide)), World.cell?_setCell_same _ _ _ a2, cell_set_far a3 (.inr (by decide)), cell_set_far a4 (.inr (by decide)), fun o => frozen_set.trans (af o)⟩, ⟨cell_set_far b0 (.inl (by omega)), cell_set_far b1 (.inl (by omega)), cell_set_far b2 (.inl (by omega)), cell_set_far b3 (.inl (by omega)), cell_set_far b4 (.inl (by omega)), cell_set_far b5 (.inl (by omega))⟩, ⟨cell_set_far c0 (.inl (by omega)), cell_set_far c1 (.inl (by omega)), cell_set_far c2 (.inl (by omega)), cell_set_far c3 (.inl (by omega)), cell_set_far c4 (.inl (by omega)), fun o => frozen_set.trans (cf o)⟩, h4.setCell (by show w0.heap.size ≤ gX; omega) _, h5, h6⟩
theorem RS.set3 {w0 w : World} {gX gL : Nat} {d a b : Bool} {n l m x0 x1 x2 x3 x4 : Int} (h : RS w0 w gX gL d a b n l m x0 x1 x2 x3 x4) (y : Int) : RS w0 (w.setCell ⟨gX, 3, none⟩ (.int .i64 y)) gX gL d a b n l m x0 x1 x2 y x4 := by
  obtain ⟨⟨a0, a1, a2, a3, a4, af⟩, ⟨b0, b1, b2, b3, b4, b5⟩, ⟨c0, c1, c2, c3, c4, cf⟩, h4, h5, h6⟩ := h
  refine ⟨⟨cell_set_far a0 (.inr (by decide)), cell_set_far a1 (.inr (by decide)), cell_set_far a2 (.inr (by decide)), World.cell?_setCell_same _ _ _ a3, cell_set_far a4 (.inr (by decide)), fun o => frozen_set.trans (af o)⟩, ⟨cell_set_far b0 (.inl (by omega)), cell_set_far b1 (.inl (by omega)), cell_set_far b2 (.inl (by omega)), cell_set_far b3 (.inl (by omega)), cell_set_far b4 (.inl (by omega)), cell_set_far b5 (.inl (by omega))⟩, ⟨cell_set_far c0 (.inl (by omega)), cell_set_far c1 (.inl (by omega)), cell_set_far c2 (.inl (by omega)), cell_set_far c3 (.inl (by omega)), cell_set_far c4 (.inl (by omega)), fun o => frozen_set.trans (cf o)⟩, h4.setCell (by show w0.heap.size ≤ gX; omega) _, h5, h6⟩
theorem RS.set4 {w0 w : World} {gX gL : Nat} {d a b : Bool} {n l m x0 x1 x2 x3 x4 : Int} (h : RS w0 w gX gL d a b n l m x0 x1 x2 x3 x4) (y : Int) : RS w0 (w.setCell ⟨gX, 4, none⟩ (.int .i64 y)) gX gL d a b n l m x0 x1 x2 x3 y := by
  obtain ⟨⟨a0, a1, a2, a3, a4, af⟩, ⟨b0, b1, b2, b3, b4, b5⟩, ⟨c0, c1, c2, c3, c4, cf⟩, h4, h5, h6⟩ := h
  refine ⟨⟨cell_set_far a0 (.inr (by decide)), cell_set_far a1 (.inr (by decide)), cell_set_far a2 (.inr (by decide)), cell_set_far a3 (.inr (by decide)), World.cell?_setCell_same _ _ _ a4, fun o => frozen_set.trans (af o)⟩, ⟨cell_set_far b0 (.inl (by omega)), cell_set_far b1 (.inl (by omega)), cell_set_far b2 (.inl (by omega)), cell_set_far b3 (.inl (by omega)), cell_set_far b4 (.inl (by omega)), cell_set_far b5 (.inl (by omega))⟩, ⟨cell_set_far c0 (.inl (by omega)), cell_set_far c1 (.inl (by omega)), cell_set_far c2 (.inl (by omega)), cell_set_far c3 (.inl (by omega)), cell_set_far c4 (.inl (by omega)), fun o => frozen_set.trans (cf o)⟩, h4.setCell (by show w0.heap.size ≤ gX; omega) _, h5, h6⟩
theorem numR_le (l : List UInt8) : (numR l).length ≤ l.length := cut_le2 l [32]
theorem opL_bd (l : List UInt8) : 0 ≤ opL l ∧ opL l ≤ 42 := by
  unfold opL
  cases h : ((List.range 43).drop 1).find? fun (k : Nat) => nm (k : Int) == l with
  | none => simp
  | some k =>
    have hm := List.mem_of_find?_eq_some h
    have h0 : ∀ y ∈ (List.range 43).drop 1, 1 ≤ y ∧ y < 43 := by decide
    have := h0 k hm
    simp
    omega
end Go.Proofs.YthekokjmdjokgaaDoor
