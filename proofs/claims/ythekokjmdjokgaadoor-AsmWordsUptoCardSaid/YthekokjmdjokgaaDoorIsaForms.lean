
/-
  Contracts of the calls that know forms and layouts, in the code.
-/
import Derived.Test.YthekokjmdjokgaaDoorIsaPure
import Derived.Test.YthekokjmdjokgaaDoorProg
import Derived.ProofKit
import Derived.OpenShut
import Derived.Lib.Hide
import Derived.Below
import Derived.Handy
namespace Go.Proofs.YthekokjmdjokgaaDoor
set_option linter.unusedVariables false
open Go.ChangeShapes Go.WideShapes Go.ChangeAt Go.RowKit

theorem ret_i {a b : Int} (h : a = b) : Ending.returned (.int .i64 a) = .returned (.int .i64 b) := by rw [h]
theorem ret_b {a b : Bool} (h : a = b) : Ending.returned (.bool a) = .returned (.bool b) := by rw [h]
theorem beq_no {a b : Int} (h : ¬ a = b) : (a == b) = false := by simp [h]
theorem beq_yes {a b : Int} (h : a = b) : (a == b) = true := by simp [h]

theorem c_formOf (op : Int) (w : World) (h2 : -9223372036854775808 ≤ op) (h3 : op ≤ 9223372036854775807) :
    Calls Tryd.prog 22 #[.int .i64 op] w fun e w' => e = .returned (.int .i64 (formI op)) ∧ w = w' := by
  go_enter Tryd.func22, Tryd.ntmps22
  go_wp2
  all_goals
    go_ret
    refine ⟨ret_i ?_, rfl⟩
    try simp only [beq_iff_eq, beq_eq_false_iff_ne, ne_eq] at *
    unfold formI
    repeat (first | rw [if_pos (by omega)] | rw [if_neg (by omega)])

def LayV (f : Int) : Value := .agg #[.bool (lD f), .bool (lA f), .bool (lB f), .int .i64 (lBits f), .int .i64 (lLeast f), .int .i64 (lMost f)]
theorem layV_eq (f : Int) (d a b : Bool) (n l m : Int) (h1 : lD f = d) (h2 : lA f = a) (h3 : lB f = b) (h4 : lBits f = n) (h5 : lLeast f = l) (h6 : lMost f = m) :
    Ending.returned (.agg #[.bool d, .bool a, .bool b, .int .i64 n, .int .i64 l, .int .i64 m]) = .returned (.agg #[.bool (lD f), .bool (lA f), .bool (lB f), .int .i64 (lBits f), .int .i64 (lLeast f), .int .i64 (lMost f)]) := by rw [h1, h2, h3, h4, h5, h6]
set_option maxHeartbeats 1000000 in
theorem c_layoutX (f : Int) (w : World) (h2 : 0 ≤ f) (h3 : f ≤ 12) :
    Calls Tryd.prog 23 #[.int .i64 f] w fun e w' => e = .returned (.agg #[.bool (lD f), .bool (lA f), .bool (lB f), .int .i64 (lBits f), .int .i64 (lLeast f), .int .i64 (lMost f)]) ∧ w' = w.alloc (.cells #[.bool (lD f), .bool (lA f), .bool (lB f), .int .i64 (lBits f), .int .i64 (lLeast f), .int .i64 (lMost f)] 45) := by
  go_enter Tryd.func23, Tryd.ntmps23
  go_wp2
  all_goals
    try simp only [beq_iff_eq, beq_eq_false_iff_ne, ne_eq] at *
    go_returns
    refine ⟨?_, ?_⟩
    all_goals first
      | rw [(by omega : f = 1)] | rw [(by omega : f = 2)] | rw [(by omega : f = 3)] | rw [(by omega : f = 4)] | rw [(by omega : f = 5)] | rw [(by omega : f = 6)] | rw [(by omega : f = 7)] | rw [(by omega : f = 8)] | rw [(by omega : f = 9)] | rw [(by omega : f = 10)] | rw [(by omega : f = 11)] | rw [(by omega : f = 12)] | rw [(by omega : f = 0)]
    all_goals (unfold lD lA lB lBits lLeast lMost; rfl)
theorem c_layoutOf (f : Int) (w : World) (h2 : 0 ≤ f) (h3 : f ≤ 12) :
    Calls Tryd.prog 23 #[.int .i64 f] w fun e w' => e = .returned (.agg #[.bool (lD f), .bool (lA f), .bool (lB f), .int .i64 (lBits f), .int .i64 (lLeast f), .int .i64 (lMost f)]) ∧ Below w.heap.size w w' :=
  (c_layoutX f w h2 h3).mono fun e w' h => ⟨h.1, by rw [h.2]; exact (Below.refl _ _).alloc (Nat.le_refl _) _⟩
theorem regB_yes (n : Int) (h : 0 ≤ n ∧ n < 16) : regB true n = true := by unfold regB; simp [h]
theorem regB_no (n : Int) (h : ¬ (0 ≤ n ∧ n < 16)) : regB true n = false := by unfold regB; simp; omega
theorem regB_off (n : Int) : regB false n = decide (n = 0) := by unfold regB; simp
theorem c_isRegister (h : Bool) (n : Int) (w : World) (h2 : -9223372036854775808 ≤ n) (h3 : n ≤ 9223372036854775807) :
    Calls Tryd.prog 24 #[.bool h, .int .i64 n] w fun e w' => e = .returned (.bool (regB h n)) ∧ w = w' := by
  cases h
  · go_enter Tryd.func24, Tryd.ntmps24
    go_wp2
    go_returns
    exact ⟨ret_b (by rw [regB_off]; rfl), rfl⟩
  · go_enter Tryd.func24, Tryd.ntmps24
    go_wp2
    all_goals
      go_returns
      refine ⟨ret_b ?_, rfl⟩
      first
        | (rw [regB_no _ (by omega)]; try (symm; simp; omega))
        | (rw [regB_yes _ (by omega)]; try (symm; simp; omega))
        | (unfold regB; simp; omega)
end Go.Proofs.YthekokjmdjokgaaDoor
