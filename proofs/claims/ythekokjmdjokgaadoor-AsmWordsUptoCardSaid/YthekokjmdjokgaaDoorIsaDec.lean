
/-
  The contract of Decode, in the code.
-/
import Derived.Test.YthekokjmdjokgaaDoorIsaEnc2
import Derived.Test.YthekokjmdjokgaaDoorIsaSplit
namespace Go.Proofs.YthekokjmdjokgaaDoor
set_option linter.unusedVariables false
open Go.ChangeShapes Go.WideShapes Go.ChangeAt Go.RowKit

/-- What a word is decoded to: the fields, where it is an instruction's word; else noughts. -/
@[irreducible] def rOp (x : Int) : Int := if decB x then sOp x else 0
@[irreducible] def rD (x : Int) : Int := if decB x then sD x else 0
@[irreducible] def rA (x : Int) : Int := if decB x then sA x else 0
@[irreducible] def rB (x : Int) : Int := if decB x then sB x else 0
@[irreducible] def rI (x : Int) : Int := if decB x then sI x else 0
theorem sD_bd (x : Int) : 0 ≤ sD x ∧ sD x ≤ 15 := by
  unfold sD
  split <;> omega
theorem sA_bd (x : Int) : 0 ≤ sA x ∧ sA x ≤ 15 := by
  unfold sA
  split <;> omega
theorem sB_bd (x : Int) : 0 ≤ sB x ∧ sB x ≤ 15 := by
  unfold sB
  split <;> omega
theorem sI_bd (x : Int) : -8388608 ≤ sI x ∧ sI x ≤ 8388607 := by
  have := immV_bd (formI (sOp x)) x
  unfold sI
  split <;> omega
theorem ret_ie {a b c d e a' b' c' d' e' k k' : Int} (h1 : a = a') (h2 : b = b') (h3 : c = c') (h4 : d = d') (h5 : e = e') (h6 : k = k') :
    Ending.returned (.tuple #[.agg #[.int .i64 a, .int .i64 b, .int .i64 c, .int .i64 d, .int .i64 e], .int .i64 k]) = .returned (.tuple #[.agg #[.int .i64 a', .int .i64 b', .int .i64 c', .int .i64 d', .int .i64 e'], .int .i64 k']) := by rw [h1, h2, h3, h4, h5, h6]
theorem dec_split (x : Int) : decB x = (chkB (sOp x) (sD x) (sA x) (sB x) (sI x) && decide (encR (sOp x) (sD x) (sA x) (sB x) (sI x) = x)) := by
  unfold decB encR
  cases h : chkB (sOp x) (sD x) (sA x) (sB x) (sI x) <;> rfl
/-- The three ways of Decode, in Bools as a walk meets them: the error, and the word that comes back. -/
theorem dec_ways (x : Int) : (decB x = true ∧ chkB (sOp x) (sD x) (sA x) (sB x) (sI x) = true ∧ encR (sOp x) (sD x) (sA x) (sB x) (sI x) = x) ∨
    (decB x = false ∧ chkB (sOp x) (sD x) (sA x) (sB x) (sI x) = false) ∨
    (decB x = false ∧ chkB (sOp x) (sD x) (sA x) (sB x) (sI x) = true ∧ ¬ encR (sOp x) (sD x) (sA x) (sB x) (sI x) = x) := by
  rw [dec_split]
  cases h : chkB (sOp x) (sD x) (sA x) (sB x) (sI x)
  · exact .inr (.inl ⟨rfl, rfl⟩)
  · by_cases he : encR (sOp x) (sD x) (sA x) (sB x) (sI x) = x
    · exact .inl ⟨by rw [he]; simp, rfl, he⟩
    · exact .inr (.inr ⟨by simp [he], rfl, he⟩)
/-- A struct of five numbers lies in a block of its own, and may be written. -/
def Box (w : World) (g : Nat) (x0 x1 x2 x3 x4 : Int) : Prop :=
  w.cell? ⟨g, 0, none⟩ = some (.int .i64 x0) ∧ w.cell? ⟨g, 1, none⟩ = some (.int .i64 x1) ∧ w.cell? ⟨g, 2, none⟩ = some (.int .i64 x2) ∧ w.cell? ⟨g, 3, none⟩ = some (.int .i64 x3) ∧ w.cell? ⟨g, 4, none⟩ = some (.int .i64 x4) ∧ ∀ o, w.frozen? ⟨g, o, none⟩ = false
theorem Box.next {N : Nat} {w w2 : World} {g : Nat} {x0 x1 x2 x3 x4 : Int} (h : Box w g x0 x1 x2 x3 x4) (hb0 : Below N w w2) (hN : N = w.heap.size) : Box w2 g x0 x1 x2 x3 x4 := by
  subst hN
  have hlt : g < w.heap.size := cell_lt h.1
  obtain ⟨hc, hf⟩ := bcell hb0
  obtain ⟨h0, h1, h2, h3, h4, h5⟩ := h
  exact ⟨(hc _ _ hlt).trans h0, (hc _ _ hlt).trans h1, (hc _ _ hlt).trans h2, (hc _ _ hlt).trans h3, (hc _ _ hlt).trans h4, fun o => (hf _ _ hlt).trans (h5 o)⟩
theorem Box.new (w : World) (x0 x1 x2 x3 x4 : Int) (T : TypeId) : Box (w.alloc (.cells #[.int .i64 x0, .int .i64 x1, .int .i64 x2, .int .i64 x3, .int .i64 x4] T)) w.heap.size x0 x1 x2 x3 x4 := by
  refine ⟨?_, ?_, ?_, ?_, ?_, fun o => ?_⟩ <;> simp [go_sem]
theorem below_new (w : World) (o : Obj) : Below w.heap.size w (w.alloc o) := (Below.refl _ _).alloc (Nat.le_refl _) _
end Go.Proofs.YthekokjmdjokgaaDoor
