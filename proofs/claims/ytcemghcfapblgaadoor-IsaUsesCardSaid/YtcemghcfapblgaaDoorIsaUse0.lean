/-
  Contracts of the small calls of Reads, Writes and Goes, in the code.
-/
import Derived.Test.YtcemghcfapblgaaDoorIsaEnc
namespace Go.Proofs.YtcemghcfapblgaaDoor
set_option linter.unusedVariables false
set_option linter.unusedSimpArgs false
open Go.ChangeShapes Go.WideShapes Go.ChangeAt Go.RowKit

@[irreducible] def storeB (op : Int) : Bool := decide (31 ≤ op ∧ op ≤ 33)
@[irreducible] def callB (op : Int) : Bool := decide (op = 38 ∨ op = 40)
@[irreducible] def askB (op i k : Int) : Bool := decide (op = 41 ∧ i = k)
@[irreducible] def sortL (a b : Int) : List Int := if a = b then [a] else if a < b then [a, b] else [b, a]
/-- The slice reads as these numbers, at most two. -/
def IL (w : World) (v : Value) : List Int → Prop
  | [] => ∃ p c, v = .slice p 0 c
  | [x] => ∃ b c, v = .slice (some ⟨b, 0, none⟩) 1 c ∧ w.cell? ⟨b, 0, none⟩ = some (.int .i64 x)
  | [x, y] => ∃ b c, v = .slice (some ⟨b, 0, none⟩) 2 c ∧ w.cell? ⟨b, 0, none⟩ = some (.int .i64 x) ∧ w.cell? ⟨b, 1, none⟩ = some (.int .i64 y)
  | _ => False
theorem IL.next {w w' : World} {v : Value} {l : List Int} (h : IL w v l) (k : Below w.heap.size w w') : IL w' v l := by
  match l, h with
  | [], h => exact h
  | [x], ⟨b, c, h, h1⟩ => exact ⟨b, c, h, (k.cell (cell_lt h1)).trans h1⟩
  | [x, y], ⟨b, c, h, h1, h2⟩ => exact ⟨b, c, h, (k.cell (cell_lt h1)).trans h1, (k.cell (cell_lt h2)).trans h2⟩
theorem c_isStore (op : Int) (w : World) :
    Calls Tryd.prog 36 #[.int .i64 op] w fun e w' => e = .returned (.bool (storeB op)) ∧ w' = w := by
  go_enter Tryd.func36, Tryd.ntmps36
  go_wp2
  all_goals
    go_returns
    refine ⟨ret_b ?_, rfl⟩
    unfold storeB
    rw [Bool.eq_iff_iff]
    simp only [beq_iff_eq, beq_eq_false_iff_ne, ne_eq, Bool.or_eq_true, decide_eq_true_eq, true_iff, false_iff, Bool.false_eq_true] at *
    try omega
theorem c_isCall (op : Int) (w : World) :
    Calls Tryd.prog 39 #[.int .i64 op] w fun e w' => e = .returned (.bool (callB op)) ∧ w' = w := by
  go_enter Tryd.func39, Tryd.ntmps39
  go_wp2
  all_goals
    go_returns
    refine ⟨ret_b ?_, rfl⟩
    unfold callB
    rw [Bool.eq_iff_iff]
    simp only [beq_iff_eq, beq_eq_false_iff_ne, ne_eq, Bool.or_eq_true, decide_eq_true_eq, true_iff, false_iff, Bool.false_eq_true] at *
    try omega
theorem c_asks (op d a b i k : Int) (w : World) :
    Calls Tryd.prog 37 #[.agg #[.int .i64 op, .int .i64 d, .int .i64 a, .int .i64 b, .int .i64 i], .int .i64 k] w fun e w' => e = .returned (.bool (askB op i k)) ∧ w' = w.alloc (.cells #[.int .i64 op, .int .i64 d, .int .i64 a, .int .i64 b, .int .i64 i] 23) := by
  go_enter Tryd.func37, Tryd.ntmps37
  go_wp2
  all_goals
    go_returns
    refine ⟨ret_b ?_, by simp_all⟩
    unfold askB
    rw [Bool.eq_iff_iff]
    simp only [beq_iff_eq, beq_eq_false_iff_ne, ne_eq, Bool.and_eq_true, decide_eq_true_eq, true_iff, false_iff, Bool.false_eq_true] at *
    try omega
theorem c_rising (a b : Int) (w : World) (h2 : -9223372036854775808 ≤ a) (h3 : a ≤ 9223372036854775807) (h4 : -9223372036854775808 ≤ b) (h5 : b ≤ 9223372036854775807) :
    Calls Tryd.prog 35 #[.int .i64 a, .int .i64 b] w fun e w' => ∃ v, e = .returned v ∧ IL w' v (sortL a b) ∧ Below w.heap.size w w' := by
  go_enter Tryd.func35, Tryd.ntmps35
  go_wp2
  all_goals
    try simp only [beq_iff_eq, beq_eq_false_iff_ne, ne_eq] at *
    go_returns
    refine ⟨_, rfl, ?_, by go_grown⟩
    unfold sortL
    first
      | (exfalso; omega)
      | (rw [if_pos (by omega)]; exact ⟨_, _, rfl, by simp [go_sem]⟩)
      | (rw [if_neg (by omega), if_pos (by omega)]; exact ⟨_, _, rfl, by simp [go_sem], by simp [go_sem]⟩)
      | (rw [if_neg (by omega), if_neg (by omega)]; exact ⟨_, _, rfl, by simp [go_sem], by simp [go_sem]⟩)
end Go.Proofs.YtcemghcfapblgaaDoor
