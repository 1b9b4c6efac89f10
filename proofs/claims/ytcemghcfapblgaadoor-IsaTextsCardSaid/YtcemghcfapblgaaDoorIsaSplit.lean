/-
  The contract of split, and of the calls of words that it makes, in the code.
-/
import Derived.Test.YtcemghcfapblgaaDoorIsaEnc
namespace Go.Proofs.YtcemghcfapblgaaDoor
set_option linter.unusedVariables false
open Go.ChangeShapes Go.WideShapes Go.ChangeAt Go.RowKit

theorem c_isWidth (n : Int) (w : World) (h0 : 1 ≤ n) (h1 : n ≤ 32) :
    Calls Tryd.prog 85 #[.int .i64 n] w fun e w' => e = .returned (.bool true) ∧ w = w' := by
  go_enter Tryd.func85, Tryd.ntmps85
  go_wp2
  go_ret
  exact ⟨rfl, rfl⟩
theorem c_Ext16 (x : Int) (w : World) (h0 : 0 ≤ x) (h1 : x ≤ 4294967295) :
    Calls Tryd.prog 67 #[.int .u32 x, .int .i64 16] w fun e w' => e = .returned (.tuple #[.int .u32 (sx 65536 x % 4294967296), .int .i64 0]) ∧ w = w' := by
  go_enter Tryd.func67, Tryd.ntmps67
  go_wp2_with (go_at_call 85; refine (c_isWidth _ _ (by omega) (by omega)).mono ?_; rintro e w' ⟨rfl, rfl⟩)
  go_ret2
  refine ⟨ret_ue ?_ rfl, rfl⟩
  unfold sx
  split <;> (simp only [wrap32]; omega)
theorem c_Ext24 (x : Int) (w : World) (h0 : 0 ≤ x) (h1 : x ≤ 4294967295) :
    Calls Tryd.prog 67 #[.int .u32 x, .int .i64 24] w fun e w' => e = .returned (.tuple #[.int .u32 (sx 16777216 x % 4294967296), .int .i64 0]) ∧ w = w' := by
  go_enter Tryd.func67, Tryd.ntmps67
  go_wp2_with (go_at_call 85; refine (c_isWidth _ _ (by omega) (by omega)).mono ?_; rintro e w' ⟨rfl, rfl⟩)
  go_ret2
  refine ⟨ret_ue ?_ rfl, rfl⟩
  unfold sx
  split <;> (simp only [wrap32]; omega)
theorem c_Zext16 (x : Int) (w : World) (h0 : 0 ≤ x) (h1 : x ≤ 4294967295) :
    Calls Tryd.prog 69 #[.int .u32 x, .int .i64 16] w fun e w' => e = .returned (.tuple #[.int .u32 (x % 65536), .int .i64 0]) ∧ w = w' := by
  go_enter Tryd.func69, Tryd.ntmps69
  go_wp2_with (go_at_call 85; refine (c_isWidth _ _ (by omega) (by omega)).mono ?_; rintro e w' ⟨rfl, rfl⟩)
  go_ret2
  refine ⟨ret_ue ?_ rfl, rfl⟩
  omega
theorem c_Signed (x : Int) (w : World) (h0 : -2147483648 ≤ x) (h1 : x ≤ 2147483647) :
    Calls Tryd.prog 68 #[.int .u32 (x % 4294967296)] w fun e w' => e = .returned (.int .i64 x) ∧ w = w' := by
  have y0 : 0 ≤ x % 4294967296 := by omega
  have y1 : x % 4294967296 ≤ 4294967295 := by omega
  have hy : x = if x % 4294967296 < 2147483648 then x % 4294967296 else x % 4294967296 - 4294967296 := by split <;> omega
  have HY := Lib.hid hy
  clear hy h0 h1
  go_enter Tryd.func68, Tryd.ntmps68
  go_wp2
  go_ret
  refine ⟨ret_i ?_, rfl⟩
  have := HY.out
  simp only [wrap32, wrap64]
  split at this <;> omega
@[irreducible] def regAt (x n : Int) : Int := if n = 20 then x / 1048576 % 16 else if n = 16 then x / 65536 % 16 else x / 4096 % 16
theorem regAt_bd (x n : Int) : 0 ≤ regAt x n ∧ regAt x n ≤ 15 := by
  unfold regAt
  (repeat' split) <;> omega
theorem c_registerAt (x n : Int) (w : World) (h0 : 0 ≤ x) (h1 : x ≤ 4294967295) (h2 : n = 20 ∨ n = 16 ∨ n = 12) :
    Calls Tryd.prog 57 #[.int .u32 x, .int .i64 n] w fun e w' => e = .returned (.int .i64 (regAt x n)) ∧ w = w' := by
  rcases h2 with rfl | rfl | rfl
  all_goals
    go_enter Tryd.func57, Tryd.ntmps57
    go_wp2
    go_ret
    exact ⟨ret_i (by unfold regAt; rfl), rfl⟩
theorem c_immOf_s16 (x : Int) (p q r : Bool) (l m : Int) (w : World) (h0 : 0 ≤ x) (h1 : x ≤ 4294967295) (hl : l < 0) :
    Calls Tryd.prog 58 #[.int .u32 x, .agg #[.bool p, .bool q, .bool r, .int .i64 16, .int .i64 l, .int .i64 m]] w fun e w' => e = .returned (.int .i64 (sx 65536 x)) ∧ w' = w.alloc (.cells #[.bool p, .bool q, .bool r, .int .i64 16, .int .i64 l, .int .i64 m] 48) := by
  have hs := sx_bd16 x
  have s0 := hs.1
  have s1 := hs.2
  clear hs
  go_enter Tryd.func58, Tryd.ntmps58
  go_wp2_with (first | (go_at_call 67; refine (c_Ext16 x _ h0 h1).mono ?_; rintro e w' ⟨rfl, rfl⟩) | (go_at_call 68; refine (c_Signed (sx 65536 x) _ (by omega) (by omega)).mono ?_; rintro e w' ⟨rfl, rfl⟩))
  go_ret
  exact ⟨rfl, rfl⟩
theorem c_immOf_s24 (x : Int) (p q r : Bool) (l m : Int) (w : World) (h0 : 0 ≤ x) (h1 : x ≤ 4294967295) (hl : l < 0) :
    Calls Tryd.prog 58 #[.int .u32 x, .agg #[.bool p, .bool q, .bool r, .int .i64 24, .int .i64 l, .int .i64 m]] w fun e w' => e = .returned (.int .i64 (sx 16777216 x)) ∧ w' = w.alloc (.cells #[.bool p, .bool q, .bool r, .int .i64 24, .int .i64 l, .int .i64 m] 48) := by
  have hs := sx_bd24 x
  have s0 := hs.1
  have s1 := hs.2
  clear hs
  go_enter Tryd.func58, Tryd.ntmps58
  go_wp2_with (first | (go_at_call 67; refine (c_Ext24 x _ h0 h1).mono ?_; rintro e w' ⟨rfl, rfl⟩) | (go_at_call 68; refine (c_Signed (sx 16777216 x) _ (by omega) (by omega)).mono ?_; rintro e w' ⟨rfl, rfl⟩))
  go_ret
  exact ⟨rfl, rfl⟩
theorem c_immOf_u16 (x : Int) (p q r : Bool) (l m : Int) (w : World) (h0 : 0 ≤ x) (h1 : x ≤ 4294967295) (hl : 0 ≤ l) :
    Calls Tryd.prog 58 #[.int .u32 x, .agg #[.bool p, .bool q, .bool r, .int .i64 16, .int .i64 l, .int .i64 m]] w fun e w' => e = .returned (.int .i64 (x % 65536)) ∧ w' = w.alloc (.cells #[.bool p, .bool q, .bool r, .int .i64 16, .int .i64 l, .int .i64 m] 48) := by
  go_enter Tryd.func58, Tryd.ntmps58
  go_wp2_with (go_at_call 69; refine (c_Zext16 x _ h0 h1).mono ?_; rintro e w' ⟨rfl, rfl⟩)
  go_ret
  exact ⟨rfl, rfl⟩
/-- The number of a word's Imm, of a form that has one. -/
theorem c_immOf (x f : Int) (p q r : Bool) (w : World) (h0 : 0 ≤ x) (h1 : x ≤ 4294967295) (f0 : 0 ≤ f) (f1 : f ≤ 12) (hb : 0 < lBits f) :
    Calls Tryd.prog 58 #[.int .u32 x, .agg #[.bool p, .bool q, .bool r, .int .i64 (lBits f), .int .i64 (lLeast f), .int .i64 (lMost f)]] w fun e w' => e = .returned (.int .i64 (immV f x)) ∧ w' = w.alloc (.cells #[.bool p, .bool q, .bool r, .int .i64 (lBits f), .int .i64 (lLeast f), .int .i64 (lMost f)] 48) := by
  rcases form_cases f f0 f1 with rfl | rfl | rfl | rfl | rfl | rfl | rfl | rfl | rfl | rfl | rfl | rfl | rfl
  all_goals
    unfold lBits at hb ⊢
    unfold lLeast immV
    simp only [Int.reduceEq, reduceIte, or_true, true_or, or_self] at hb ⊢
    first
      | (exfalso; omega)
      | exact c_immOf_s16 x _ _ _ _ _ w h0 h1 (by decide)
      | exact c_immOf_u16 x _ _ _ _ _ w h0 h1 (by decide)
      | exact c_immOf_s24 x _ _ _ _ _ w h0 h1 (by decide)
theorem sOp_bd (x : Int) (h0 : 0 ≤ x) (h1 : x ≤ 4294967295) : 0 ≤ sOp x ∧ sOp x ≤ 255 := by unfold sOp; omega
theorem if_yes {c : Bool} {x y : Int} (h : c = true) : (if c then x else y) = x := by rw [h]; rfl
theorem if_no {c : Bool} {x y : Int} (h : c = false) : (if c then x else y) = y := by rw [h]; rfl
theorem ret_instr {a b c d e a' b' c' d' e' : Int} (h1 : a = a') (h2 : b = b') (h3 : c = c') (h4 : d = d') (h5 : e = e') :
    Ending.returned (.agg #[.int .i64 a, .int .i64 b, .int .i64 c, .int .i64 d, .int .i64 e]) = .returned (.agg #[.int .i64 a', .int .i64 b', .int .i64 c', .int .i64 d', .int .i64 e']) := by rw [h1, h2, h3, h4, h5]
set_option maxHeartbeats 4000000 in
theorem c_split (x : Int) (w : World) (h0 : 0 ≤ x) (h1 : x ≤ 4294967295) :
    Calls Tryd.prog 51 #[.int .u32 x] w fun e w' => e = .returned (.agg #[.int .i64 (sOp x), .int .i64 (sD x), .int .i64 (sA x), .int .i64 (sB x), .int .i64 (sI x)]) ∧ Below w.heap.size w w' := by
  have hs : x / 16777216 = sOp x := by unfold sOp; rfl
  have ⟨s0, s1⟩ := sOp_bd x h0 h1
  have ⟨f0, f1⟩ := formI_bd (sOp x)
  have HS := Lib.hid hs
  clear hs
  go_enter Tryd.func51, Tryd.ntmps51
  go_wp2_with fail
  rw [HS.out]
  refine (c_formOf (sOp x) _ (by omega) (by omega)).mono ?_
  rintro e w1 ⟨rfl, rfl⟩
  go_wp2_with fail
  refine (c_layoutX (formI (sOp x)) _ f0 f1).mono ?_
  rintro e w2 ⟨rfl, rfl⟩
  go_wp2_with (first | (go_at_call 57; refine (c_registerAt x _ _ h0 h1 (by decide)).mono ?_; rintro e w' ⟨rfl, rfl⟩) | (go_at_call 58; refine (c_immOf x (formI (sOp x)) _ _ _ _ h0 h1 f0 f1 (by assumption)).mono ?_; rintro e w' ⟨rfl, rfl⟩))
  all_goals
    go_returns
    refine ⟨ret_instr rfl ?_ ?_ ?_ ?_, by go_grown⟩
    · unfold sD
      try unfold regAt
      simp [*]
    · unfold sA
      try unfold regAt
      simp [*]
    · unfold sB
      try unfold regAt
      simp [*]
    · unfold sI
      simp [*]
      try omega
end Go.Proofs.YtcemghcfapblgaaDoor
