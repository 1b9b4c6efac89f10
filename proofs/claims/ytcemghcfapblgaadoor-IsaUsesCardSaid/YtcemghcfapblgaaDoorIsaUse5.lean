/-
  Contracts of Rising on what reads as at most two numbers, of Reads in the document's answers, and of SameInts.
-/
import Derived.Test.YtcemghcfapblgaaDoorIsaUse3
import Derived.Test.YtcemghcfapblgaaDoorIsaUse4
namespace Go.Proofs.YtcemghcfapblgaaDoor
set_option linter.unusedVariables false
set_option linter.unusedSimpArgs false
open Go.ChangeShapes Go.WideShapes Go.ChangeAt Go.RowKit

def riseL : List Int → List Int
  | [x, y] => sortL x y
  | l => l
theorem c_Rising (l : List Int) (v : Value) (w : World) (h : IL w v l) (hb : ∀ x ∈ l, -9223372036854775808 ≤ x ∧ x ≤ 9223372036854775807) :
    Calls Tryd.prog 38 #[v] w fun e w' => ∃ v, e = .returned v ∧ IL w' v (riseL l) ∧ Below w.heap.size w w' := by
  match l, h with
  | [], ⟨p, c, h⟩ =>
    subst h
    exact c_Rising0 p c w
  | [x], ⟨b, c, h, h1⟩ =>
    subst h
    exact c_Rising1 b c x w h1 (hb x (by simp)).1 (hb x (by simp)).2
  | [x, y], ⟨b, c, h, h1, h2⟩ =>
    subst h
    show Calls _ _ _ _ fun e w' => ∃ v, e = .returned v ∧ IL w' v (sortL x y) ∧ Below w.heap.size w w'
    have hx := hb x (by simp)
    have hy := hb y (by simp)
    unfold sortL
    by_cases e : x = y
    · rw [if_pos e]
      subst e
      exact c_Rising2eq b c x w h1 h2 hx.1 hx.2
    · rw [if_neg e]
      by_cases g : x < y
      · rw [if_pos g]
        exact c_Rising2lt b c x y w h1 h2 hx.1 hx.2 hy.1 hy.2 g
      · rw [if_neg g]
        exact c_Rising2gt b c x y w h1 h2 hx.1 hx.2 hy.1 hy.2 (by omega)
/-- SameInts of two slices that read as the same numbers. -/
theorem c_Same (l : List Int) (u v : Value) (w : World) (hu : IL w u l) (hv : IL w v l) :
    Calls Tryd.prog 17 #[u, v] w fun e w' => e = .returned (.bool true) ∧ Below w.heap.size w w' := by
  match l, hu, hv with
  | [], ⟨p, c, h⟩, ⟨q, d, k⟩ =>
    subst h k
    go_enter Tryd.func17, Tryd.ntmps17
    go_wp2
    go_rounds 3
    all_goals
      go_returns
      exact ⟨rfl, by go_grown⟩
  | [x], ⟨p, c, h, h1⟩, ⟨q, d, k, k1⟩ =>
    subst h k
    go_enter Tryd.func17, Tryd.ntmps17
    go_wp2
    refine wp_loop_rounds 3 ?_
    rw [rounds_succ]
    go_wp2
    go_quiet (fail)
    go_wp2
    rw [rounds_succ]
    go_wp2
    go_returns
    exact ⟨rfl, by first | exact below_drewN (Below.refl _ _) _ | exact below_drewN (below_drewN (Below.refl _ _) _) _⟩
  | [x, y], ⟨p, c, h, h1, h2⟩, ⟨q, d, k, k1, k2⟩ =>
    subst h k
    go_enter Tryd.func17, Tryd.ntmps17
    go_wp2
    refine wp_loop_rounds 3 ?_
    rw [rounds_succ]
    go_wp2
    go_quiet (fail)
    go_wp2
    rw [rounds_succ]
    go_wp2
    go_quiet (fail)
    go_wp2
    rw [rounds_succ]
    go_wp2
    go_returns
    exact ⟨rfl, by first | exact below_drewN (Below.refl _ _) _ | exact below_drewN (below_drewN (Below.refl _ _) _) _⟩
theorem sortL_comm (a b : Int) : sortL a b = sortL b a := by
  unfold sortL
  by_cases h : a = b
  · subst h; rfl
  · have h' : ¬ b = a := fun e => h e.symm
    rw [if_neg h, if_neg h']
    by_cases g : a < b
    · rw [if_pos g, if_neg (by omega)]
    · rw [if_neg g, if_pos (by omega)]
end Go.Proofs.YtcemghcfapblgaaDoor
