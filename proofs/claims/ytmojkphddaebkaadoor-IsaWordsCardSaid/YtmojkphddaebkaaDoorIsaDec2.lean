/-
  The contract of Decode, in the document's answers.
-/
import Derived.Test.YtmojkphddaebkaaDoorIsaDec
namespace Go.Proofs.YtmojkphddaebkaaDoor
set_option linter.unusedVariables false
open Go.ChangeShapes Go.WideShapes Go.ChangeAt Go.RowKit

theorem c_signed16 (x : Int) (w : World) :
    Calls Tryd.prog 35 #[.int .i64 (x % 65536), .int .i64 16] w fun e w' => e = .returned (.int .i64 (sx 65536 x)) ∧ w = w' := by
  have h0 : 0 ≤ x % 65536 := by omega
  have h1 : x % 65536 < 65536 := by omega
  have hs : sx 65536 x = if x % 65536 < 32768 then x % 65536 else x % 65536 - 65536 := by unfold sx; rfl
  generalize x % 65536 = y at *
  have HS := Lib.hid hs
  clear hs
  go_enter Tryd.func35, Tryd.ntmps35
  go_wp2
  all_goals
    go_returns
    refine ⟨ret_i ?_, rfl⟩
    rw [HS.out]
    split <;> omega
theorem c_signed24 (x : Int) (w : World) :
    Calls Tryd.prog 35 #[.int .i64 (x % 16777216), .int .i64 24] w fun e w' => e = .returned (.int .i64 (sx 16777216 x)) ∧ w = w' := by
  have h0 : 0 ≤ x % 16777216 := by omega
  have h1 : x % 16777216 < 16777216 := by omega
  have hs : sx 16777216 x = if x % 16777216 < 8388608 then x % 16777216 else x % 16777216 - 16777216 := by unfold sx; rfl
  generalize x % 16777216 = y at *
  have HS := Lib.hid hs
  clear hs
  go_enter Tryd.func35, Tryd.ntmps35
  go_wp2
  all_goals
    go_returns
    refine ⟨ret_i ?_, rfl⟩
    rw [HS.out]
    split <;> omega
theorem i64_and15 (n : Int) : bits .and .i64 n 15 = n % 16 := by
  have hm : (BitVec.ofInt 64 15).toNat = 2 ^ 4 - 1 := by decide
  have key : (BitVec.ofInt 64 n &&& BitVec.ofInt 64 15).toNat = (n % ((2 ^ 64 : Nat) : Int)).toNat % 2 ^ 4 := by
    rw [BitVec.toNat_and, BitVec.toNat_ofInt, hm, Nat.and_two_pow_sub_one_eq_mod]
  show IntKind.i64.wrap ((BitVec.ofInt 64 n &&& BitVec.ofInt 64 15).toNat : Nat) = n % 16
  rw [key, IntKind.wrap_i64]
  omega
theorem i64_and65535 (n : Int) : bits .and .i64 n 65535 = n % 65536 := by
  have hm : (BitVec.ofInt 64 65535).toNat = 2 ^ 16 - 1 := by decide
  have key : (BitVec.ofInt 64 n &&& BitVec.ofInt 64 65535).toNat = (n % ((2 ^ 64 : Nat) : Int)).toNat % 2 ^ 16 := by
    rw [BitVec.toNat_and, BitVec.toNat_ofInt, hm, Nat.and_two_pow_sub_one_eq_mod]
  show IntKind.i64.wrap ((BitVec.ofInt 64 n &&& BitVec.ofInt 64 65535).toNat : Nat) = n % 65536
  rw [key, IntKind.wrap_i64]
  omega
theorem i64_and16777215 (n : Int) : bits .and .i64 n 16777215 = n % 16777216 := by
  have hm : (BitVec.ofInt 64 16777215).toNat = 2 ^ 24 - 1 := by decide
  have key : (BitVec.ofInt 64 n &&& BitVec.ofInt 64 16777215).toNat = (n % ((2 ^ 64 : Nat) : Int)).toNat % 2 ^ 24 := by
    rw [BitVec.toNat_and, BitVec.toNat_ofInt, hm, Nat.and_two_pow_sub_one_eq_mod]
  show IntKind.i64.wrap ((BitVec.ofInt 64 n &&& BitVec.ofInt 64 16777215).toNat : Nat) = n % 16777216
  rw [key, IntKind.wrap_i64]
  omega

/-- Which letters a form's letter is: J 74, S 83, L 76, B 66, T 84. -/
theorem ltr_facts (f : Int) (h2 : 0 ≤ f) (h3 : f ≤ 12) : (ltr f == 74) = decide (f = 10) ∧ (ltr f == 83) = decide (f = 2) ∧ (ltr f == 76) = decide (f = 5) ∧ (ltr f == 66) = decide (f = 8) ∧ (ltr f == 84) = decide (f = 9) := by
  rcases form_cases f h2 h3 with rfl | rfl | rfl | rfl | rfl | rfl | rfl | rfl | rfl | rfl | rfl | rfl | rfl <;> unfold ltr <;> decide
theorem dec_ways' (x d a b i : Int) (h1 : sD x = d) (h2 : sA x = a) (h3 : sB x = b) (h4 : sI x = i) : (decB x = true ∧ chkB (sOp x) d a b i = true ∧ encR (sOp x) d a b i = x) ∨
    (decB x = false ∧ chkB (sOp x) d a b i = false) ∨ (decB x = false ∧ chkB (sOp x) d a b i = true ∧ ¬ encR (sOp x) d a b i = x) := by
  subst h1 h2 h3 h4
  exact dec_ways x
theorem dec_res (x d a b i : Int) (h1 : sD x = d) (h2 : sA x = a) (h3 : sB x = b) (h4 : sI x = i) (k : Bool) (hb : decB x = k) :
    rOp x = (if k then sOp x else 0) ∧ rD x = (if k then d else 0) ∧ rA x = (if k then a else 0) ∧ rB x = (if k then b else 0) ∧ rI x = (if k then i else 0) := by
  subst h1 h2 h3 h4
  unfold rOp rD rA rB rI
  rw [hb]
  exact ⟨rfl, rfl, rfl, rfl, rfl⟩
end Go.Proofs.YtmojkphddaebkaaDoor
