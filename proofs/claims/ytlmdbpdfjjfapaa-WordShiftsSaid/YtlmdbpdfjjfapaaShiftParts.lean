/-
  Contracts of the calls that the statement on shifts, rotations, extensions and counts makes: each code function and each reference function returns the same plain number, for every argument of its kinds.
-/
import Derived.Test.YtlmdbpdfjjfapaaRows
import Derived.WalkKit
import Derived.ProofKit
import Derived.OpenShut
import Derived.Lib.Hide
namespace Go.Proofs.Ytlmdbpdfjjfapaa
set_option linter.unusedVariables false
open Go.ChangeShapes Go.WideShapes Go.ChangeAt Go.RowKit

theorem ret_u32 {a b : Int} (h : a = b) : Ending.returned (.int .u32 a) = .returned (.int .u32 b) := by rw [h]
theorem ret_u32e {a b c d : Int} (h : a = b) (g : c = d) : Ending.returned (.tuple #[.int .u32 a, .int .i64 c]) = .returned (.tuple #[.int .u32 b, .int .i64 d]) := by rw [h, g]
theorem ret_b {a b : Bool} (h : a = b) : Ending.returned (.bool a) = .returned (.bool b) := by rw [h]

@[irreducible] def shlF (a n : Int) : Int := a * 2 ^ (n % 32).toNat % 4294967296
@[irreducible] def shrF (a n : Int) : Int := wrap32 a / 2 ^ (n % 32).toNat % 4294967296
@[irreducible] def shruF (a n : Int) : Int := a / 2 ^ (n % 32).toNat
@[irreducible] def rotF (a n : Int) : Int := bits BinOp.or IntKind.u32 (a * 2 ^ (n % 32).toNat % 4294967296) (a / 2 ^ (32 - n % 32).toNat)

theorem c5 (a n : Int) (w : World) (h0 : 0 ≤ a) (h1 : a ≤ 4294967295) (h2 : 0 ≤ n) (h3 : n ≤ 4294967295) :
    Calls Try.prog 5 #[.int .u32 a, .int .u32 n] w fun e w' => e = .returned (.int .u32 (shlF a n)) ∧ w = w' := by
  go_enter Try.func5, Try.ntmps5
  go_wp2
  go_ret
  exact ⟨ret_u32 (by unfold shlF; rfl), rfl⟩
theorem c6 (a n : Int) (w : World) (h0 : 0 ≤ a) (h1 : a ≤ 4294967295) (h2 : 0 ≤ n) (h3 : n ≤ 4294967295) :
    Calls Try.prog 6 #[.int .u32 a, .int .u32 n] w fun e w' => e = .returned (.int .u32 (shlF a n)) ∧ w = w' := by
  go_enter Try.func6, Try.ntmps6
  go_wp2
  go_ret
  exact ⟨ret_u32 (by unfold shlF; rfl), rfl⟩
theorem c7 (a n : Int) (w : World) (h0 : 0 ≤ a) (h1 : a ≤ 4294967295) (h2 : 0 ≤ n) (h3 : n ≤ 4294967295) :
    Calls Try.prog 7 #[.int .u32 a, .int .u32 n] w fun e w' => e = .returned (.int .u32 (shrF a n)) ∧ w = w' := by
  go_enter Try.func7, Try.ntmps7
  go_wp2
  go_ret
  exact ⟨ret_u32 (by unfold shrF; rfl), rfl⟩
theorem wrap32_low (a : Int) (h0 : 0 ≤ a) (h1 : a < 2147483648) : wrap32 a = a := by unfold wrap32; omega
theorem wrap32_high (a : Int) (h0 : 2147483648 ≤ a) (h1 : a ≤ 4294967295) : wrap32 a = a - 4294967296 := by unfold wrap32; omega
theorem c8 (a n : Int) (w : World) (h0 : 0 ≤ a) (h1 : a ≤ 4294967295) (h2 : 0 ≤ n) (h3 : n ≤ 4294967295) :
    Calls Try.prog 8 #[.int .u32 a, .int .u32 n] w fun e w' => e = .returned (.int .u32 (shrF a n)) ∧ w = w' := by
  by_cases h : a < 2147483648
  · go_enter Try.func8, Try.ntmps8
    go_wp2
    go_ret
    exact ⟨ret_u32 (by unfold shrF; rw [wrap32_low a h0 h]), rfl⟩
  · go_enter Try.func8, Try.ntmps8
    go_wp2
    go_ret
    exact ⟨ret_u32 (by unfold shrF; rw [wrap32_high a (by omega) h1]), rfl⟩
theorem c9 (a n : Int) (w : World) (h0 : 0 ≤ a) (h1 : a ≤ 4294967295) (h2 : 0 ≤ n) (h3 : n ≤ 4294967295) :
    Calls Try.prog 9 #[.int .u32 a, .int .u32 n] w fun e w' => e = .returned (.int .u32 (shruF a n)) ∧ w = w' := by
  go_enter Try.func9, Try.ntmps9
  go_wp2
  go_ret
  exact ⟨ret_u32 (by unfold shruF; rfl), rfl⟩
theorem c10 (a n : Int) (w : World) (h0 : 0 ≤ a) (h1 : a ≤ 4294967295) (h2 : 0 ≤ n) (h3 : n ≤ 4294967295) :
    Calls Try.prog 10 #[.int .u32 a, .int .u32 n] w fun e w' => e = .returned (.int .u32 (shruF a n)) ∧ w = w' := by
  go_enter Try.func10, Try.ntmps10
  go_wp2
  go_ret
  exact ⟨ret_u32 (by unfold shruF; rfl), rfl⟩
theorem c11 (a n : Int) (w : World) (h0 : 0 ≤ a) (h1 : a ≤ 4294967295) (h2 : 0 ≤ n) (h3 : n ≤ 4294967295) :
    Calls Try.prog 11 #[.int .u32 a, .int .u32 n] w fun e w' => e = .returned (.int .u32 (rotF a n)) ∧ w = w' := by
  go_enter Try.func11, Try.ntmps11
  go_wp2
  go_ret
  exact ⟨ret_u32 (by unfold rotF; rfl), rfl⟩
theorem rot_none (a n : Int) (h0 : 0 ≤ a) (h1 : a ≤ 4294967295) (h : n % 32 = 0) : rotF a n = a := by
  have e1 : a * 2 ^ (0 : Int).toNat % 4294967296 = a := by
    show a * 1 % 4294967296 = a
    omega
  have e2 : a / 2 ^ ((32 : Int) - 0).toNat = 0 := by
    show a / 4294967296 = 0
    omega
  unfold rotF
  rw [h, e1, e2]
  rw [u32_or _ _ h0 (by omega) (by omega) (by omega)]
  show (((a.toNat ||| 0 : Nat)) : Int) = a
  rw [Nat.or_zero]
  omega
theorem c12 (a n : Int) (w : World) (h0 : 0 ≤ a) (h1 : a ≤ 4294967295) (h2 : 0 ≤ n) (h3 : n ≤ 4294967295) :
    Calls Try.prog 12 #[.int .u32 a, .int .u32 n] w fun e w' => e = .returned (.int .u32 (rotF a n)) ∧ w = w' := by
  by_cases h : n % 32 = 0
  · have h' : (n % 32 == 0) = true := by simp [h]
    have H := rot_none a n h0 h1 h
    have H2 := Lib.hid H
    clear H h
    go_enter Try.func12, Try.ntmps12
    go_wp2
    go_ret
    exact ⟨ret_u32 H2.out.symm, rfl⟩
  · have h' : (n % 32 == 0) = false := by simp [h]
    go_enter Try.func12, Try.ntmps12
    go_wp2
    go_ret
    exact ⟨ret_u32 (by unfold rotF; rfl), rfl⟩

/-! ### Fits -/
theorem pow_cases (b : Int) (h0 : 1 ≤ b) (h1 : b ≤ 32) : b = 1 ∨ b = 2 ∨ b = 3 ∨ b = 4 ∨ b = 5 ∨ b = 6 ∨ b = 7 ∨ b = 8 ∨ b = 9 ∨ b = 10 ∨ b = 11 ∨ b = 12 ∨ b = 13 ∨ b = 14 ∨ b = 15 ∨ b = 16 ∨ b = 17 ∨ b = 18 ∨ b = 19 ∨ b = 20 ∨ b = 21 ∨ b = 22 ∨ b = 23 ∨ b = 24 ∨ b = 25 ∨ b = 26 ∨ b = 27 ∨ b = 28 ∨ b = 29 ∨ b = 30 ∨ b = 31 ∨ b = 32 := by omega
theorem pow_bd (b : Int) (h0 : 1 ≤ b) (h1 : b ≤ 32) : 1 ≤ (2 : Int) ^ (b.toNat - 1) ∧ (2 : Int) ^ (b.toNat - 1) ≤ 2147483648 := by
  rcases pow_cases b h0 h1 with rfl | rfl | rfl | rfl | rfl | rfl | rfl | rfl | rfl | rfl | rfl | rfl | rfl | rfl | rfl | rfl | rfl | rfl | rfl | rfl | rfl | rfl | rfl | rfl | rfl | rfl | rfl | rfl | rfl | rfl | rfl | rfl <;> decide
@[irreducible] def fitsB (n b : Int) : Bool := decide (1 ≤ b) && decide (b ≤ 32) && decide (-(2 : Int) ^ (b.toNat - 1) ≤ n) && decide (n < (2 : Int) ^ (b.toNat - 1))
theorem fits_out (n b : Int) (h : ¬ (1 ≤ b ∧ b ≤ 32)) : fitsB n b = false := by
  unfold fitsB
  by_cases h1 : 1 ≤ b
  · have : ¬ b ≤ 32 := by omega
    simp [this]
  · simp [h1]
theorem fits_in (n b : Int) (h0 : 1 ≤ b) (h1 : b ≤ 32) : fitsB n b = (decide (-(2 : Int) ^ (b.toNat - 1) ≤ n) && decide (n < (2 : Int) ^ (b.toNat - 1))) := by
  unfold fitsB
  simp [h0, h1]
theorem c13 (n b : Int) (w : World) (h0 : -9223372036854775808 ≤ n) (h1 : n ≤ 9223372036854775807) (h2 : -9223372036854775808 ≤ b) (h3 : b ≤ 9223372036854775807) :
    Calls Try.prog 13 #[.int .i64 n, .int .i64 b] w fun e w' => e = .returned (.bool (fitsB n b)) ∧ w = w' := by
  by_cases hb : 1 ≤ b
  · by_cases hc : b ≤ 32
    · have hp := (pow_bd b hb hc).1
      have hq := (pow_bd b hb hc).2
      have HF := Lib.hid (fits_in n b hb hc)
      go_enter Try.func13, Try.ntmps13
      go_wp2
      all_goals go_ret
      all_goals exact ⟨ret_b (by rw [HF.out, Bool.eq_iff_iff]; simp; omega), rfl⟩
    · have HF := Lib.hid (fits_out n b (by omega))
      go_enter Try.func13, Try.ntmps13
      go_wp2
      all_goals go_ret
      all_goals exact ⟨ret_b HF.out.symm, rfl⟩
  · have HF := Lib.hid (fits_out n b (by omega))
    go_enter Try.func13, Try.ntmps13
    go_wp2
    all_goals go_ret
    all_goals exact ⟨ret_b HF.out.symm, rfl⟩
theorem c14 (n b : Int) (w : World) (h0 : -9223372036854775808 ≤ n) (h1 : n ≤ 9223372036854775807) (h2 : -9223372036854775808 ≤ b) (h3 : b ≤ 9223372036854775807) :
    Calls Try.prog 14 #[.int .i64 n, .int .i64 b] w fun e w' => e = .returned (.bool (fitsB n b)) ∧ w = w' := by
  by_cases hb : 1 ≤ b
  · by_cases hc : b ≤ 32
    · have hp := (pow_bd b hb hc).1
      have hq := (pow_bd b hb hc).2
      have HF := Lib.hid (fits_in n b hb hc)
      go_enter Try.func14, Try.ntmps14
      go_wp2
      all_goals go_ret
      all_goals exact ⟨ret_b (by rw [HF.out, Bool.eq_iff_iff]; simp; omega), rfl⟩
    · have HF := Lib.hid (fits_out n b (by omega))
      go_enter Try.func14, Try.ntmps14
      go_wp2
      all_goals go_ret
      all_goals exact ⟨ret_b HF.out.symm, rfl⟩
  · have HF := Lib.hid (fits_out n b (by omega))
    go_enter Try.func14, Try.ntmps14
    go_wp2
    all_goals go_ret
    all_goals exact ⟨ret_b HF.out.symm, rfl⟩

/-! ### Zext, Ext -/
@[irreducible] def zextV (a b : Int) : Int := if 1 ≤ b ∧ b ≤ 32 then a % 2 ^ b.toNat else 0
@[irreducible] def extE (b : Int) : Int := if 1 ≤ b ∧ b ≤ 32 then 0 else 1
@[irreducible] def extV (a b : Int) : Int := if 1 ≤ b ∧ b ≤ 32 then (if a % 2 ^ b.toNat < 2 ^ (b.toNat - 1) then a % 2 ^ b.toNat else (a % 2 ^ b.toNat - 2 ^ b.toNat) % 4294967296) else 0
theorem extE_in (b : Int) (h0 : 1 ≤ b) (h1 : b ≤ 32) : extE b = 0 := by unfold extE; rw [if_pos ⟨h0, h1⟩]
theorem extE_out (b : Int) (h : ¬ (1 ≤ b ∧ b ≤ 32)) : extE b = 1 := by unfold extE; rw [if_neg h]
theorem zextV_in (a b : Int) (h0 : 1 ≤ b) (h1 : b ≤ 32) : zextV a b = a % 2 ^ b.toNat := by unfold zextV; rw [if_pos ⟨h0, h1⟩]
theorem zextV_out (a b : Int) (h : ¬ (1 ≤ b ∧ b ≤ 32)) : zextV a b = 0 := by unfold zextV; rw [if_neg h]
theorem extV_in (a b : Int) (h0 : 1 ≤ b) (h1 : b ≤ 32) : extV a b = (if a % 2 ^ b.toNat < 2 ^ (b.toNat - 1) then a % 2 ^ b.toNat else (a % 2 ^ b.toNat - 2 ^ b.toNat) % 4294967296) := by unfold extV; rw [if_pos ⟨h0, h1⟩]
theorem extV_out (a b : Int) (h : ¬ (1 ≤ b ∧ b ≤ 32)) : extV a b = 0 := by unfold extV; rw [if_neg h]
theorem zext_shift (a b : Int) (h0 : 0 ≤ a) (h1 : a ≤ 4294967295) (h2 : 1 ≤ b) (h3 : b ≤ 32) : a * 2 ^ (32 - b).toNat % 4294967296 / 2 ^ (32 - b).toNat = a % 2 ^ b.toNat := by
  rcases pow_cases b h2 h3 with rfl | rfl | rfl | rfl | rfl | rfl | rfl | rfl | rfl | rfl | rfl | rfl | rfl | rfl | rfl | rfl | rfl | rfl | rfl | rfl | rfl | rfl | rfl | rfl | rfl | rfl | rfl | rfl | rfl | rfl | rfl | rfl <;> simp <;> omega
theorem ext_shift (a b : Int) (h0 : 0 ≤ a) (h1 : a ≤ 4294967295) (h2 : 1 ≤ b) (h3 : b ≤ 32) : wrap32 (a * 2 ^ (32 - b).toNat % 4294967296) / 2 ^ (32 - b).toNat % 4294967296 = (if a % 2 ^ b.toNat < 2 ^ (b.toNat - 1) then a % 2 ^ b.toNat else (a % 2 ^ b.toNat - 2 ^ b.toNat) % 4294967296) := by
  unfold wrap32
  rcases pow_cases b h2 h3 with rfl | rfl | rfl | rfl | rfl | rfl | rfl | rfl | rfl | rfl | rfl | rfl | rfl | rfl | rfl | rfl | rfl | rfl | rfl | rfl | rfl | rfl | rfl | rfl | rfl | rfl | rfl | rfl | rfl | rfl | rfl | rfl <;> simp <;> split <;> omega

theorem pow_bd2 (b : Int) (h0 : 1 ≤ b) (h1 : b < 32) : 2 ≤ (2 : Int) ^ b.toNat ∧ (2 : Int) ^ b.toNat ≤ 2147483648 ∧ (2 : Int) ^ b.toNat = 2 * 2 ^ (b.toNat - 1) := by
  rcases pow_cases b h0 (by omega) with rfl | rfl | rfl | rfl | rfl | rfl | rfl | rfl | rfl | rfl | rfl | rfl | rfl | rfl | rfl | rfl | rfl | rfl | rfl | rfl | rfl | rfl | rfl | rfl | rfl | rfl | rfl | rfl | rfl | rfl | rfl | rfl <;> first | omega | decide
theorem c17_in (a b : Int) (w : World) (h0 : 0 ≤ a) (h1 : a ≤ 4294967295) (h2 : 1 ≤ b) (h3 : b ≤ 32) :
    Calls Try.prog 17 #[.int .u32 a, .int .i64 b] w fun e w' => e = .returned (.tuple #[.int .u32 (zextV a b), .int .i64 (extE b)]) ∧ w = w' := by
  have HF := Lib.hid ((zextV_in a b h2 h3).trans (zext_shift a b h0 h1 h2 h3).symm)
  have HE := Lib.hid (extE_in b h2 h3)
  go_enter Try.func17, Try.ntmps17
  go_wp2
  go_ret2
  exact ⟨ret_u32e HF.out.symm HE.out.symm, rfl⟩
theorem c17 (a b : Int) (w : World) (h0 : 0 ≤ a) (h1 : a ≤ 4294967295) (h2 : -9223372036854775808 ≤ b) (h3 : b ≤ 9223372036854775807) :
    Calls Try.prog 17 #[.int .u32 a, .int .i64 b] w fun e w' => e = .returned (.tuple #[.int .u32 (zextV a b), .int .i64 (extE b)]) ∧ w = w' := by
  by_cases hb : 1 ≤ b
  · by_cases hc : b ≤ 32
    · exact c17_in a b w h0 h1 hb hc
    · have HF := Lib.hid (zextV_out a b (by omega))
      have HE := Lib.hid (extE_out b (by omega))
      go_enter Try.func17, Try.ntmps17
      go_wp2
      go_ret2
      exact ⟨ret_u32e HF.out.symm HE.out.symm, rfl⟩
  · have HF := Lib.hid (zextV_out a b (by omega))
    have HE := Lib.hid (extE_out b (by omega))
    go_enter Try.func17, Try.ntmps17
    go_wp2
    go_ret2
    exact ⟨ret_u32e HF.out.symm HE.out.symm, rfl⟩
theorem c15 (a b : Int) (w : World) (h0 : 0 ≤ a) (h1 : a ≤ 4294967295) (h2 : -9223372036854775808 ≤ b) (h3 : b ≤ 9223372036854775807) :
    Calls Try.prog 15 #[.int .u32 a, .int .i64 b] w fun e w' => e = .returned (.tuple #[.int .u32 (extV a b), .int .i64 (extE b)]) ∧ w = w' := by
  by_cases hb : 1 ≤ b
  · by_cases hc : b ≤ 32
    · have HF := Lib.hid ((extV_in a b hb hc).trans (ext_shift a b h0 h1 hb hc).symm)
      have HE := Lib.hid (extE_in b hb hc)
      go_enter Try.func15, Try.ntmps15
      go_wp2
      go_ret2
      exact ⟨ret_u32e HF.out.symm HE.out.symm, rfl⟩
    · have HF := Lib.hid (extV_out a b (by omega))
      have HE := Lib.hid (extE_out b (by omega))
      go_enter Try.func15, Try.ntmps15
      go_wp2
      go_ret2
      exact ⟨ret_u32e HF.out.symm HE.out.symm, rfl⟩
  · have HF := Lib.hid (extV_out a b (by omega))
    have HE := Lib.hid (extE_out b (by omega))
    go_enter Try.func15, Try.ntmps15
    go_wp2
    go_ret2
    exact ⟨ret_u32e HF.out.symm HE.out.symm, rfl⟩
theorem c18_out (a b : Int) (w : World) (h0 : 0 ≤ a) (h1 : a ≤ 4294967295) (h2 : -9223372036854775808 ≤ b) (h3 : b ≤ 9223372036854775807) (h : ¬ (1 ≤ b ∧ b ≤ 32)) :
    Calls Try.prog 18 #[.int .u32 a, .int .i64 b] w fun e w' => e = .returned (.tuple #[.int .u32 0, .int .i64 1]) ∧ w = w' := by
  by_cases hb : 1 ≤ b
  · have hc : 32 < b := by omega
    go_enter Try.func18, Try.ntmps18
    go_wp2
    go_ret2
    exact ⟨rfl, rfl⟩
  · have hc : b < 1 := by omega
    go_enter Try.func18, Try.ntmps18
    go_wp2
    go_ret2
    exact ⟨rfl, rfl⟩
theorem c18_all (a : Int) (w : World) (h0 : 0 ≤ a) (h1 : a ≤ 4294967295) :
    Calls Try.prog 18 #[.int .u32 a, .int .i64 32] w fun e w' => e = .returned (.tuple #[.int .u32 a, .int .i64 0]) ∧ w = w' := by
  go_enter Try.func18, Try.ntmps18
  go_wp2
  go_ret2
  exact ⟨rfl, rfl⟩
theorem c18_in (a b : Int) (w : World) (h0 : 0 ≤ a) (h1 : a ≤ 4294967295) (h2 : 1 ≤ b) (h3 : b < 32) :
    Calls Try.prog 18 #[.int .u32 a, .int .i64 b] w fun e w' => e = .returned (.tuple #[.int .u32 (a % 2 ^ b.toNat), .int .i64 0]) ∧ w = w' := by
  have hp := (pow_bd2 b h2 h3).1
  have hq := (pow_bd2 b h2 h3).2.1
  have hm : (2 : Int) ^ b.toNat % 4294967296 = 2 ^ b.toNat := by omega
  have g1 : ¬ b < 1 := by omega
  have g2 : ¬ 32 < b := by omega
  have g3 : ¬ (2 : Int) ^ b.toNat = 0 := by omega
  go_enter Try.func18, Try.ntmps18
  go_wp2
  all_goals go_ret2
  all_goals exact ⟨rfl, rfl⟩
theorem c18 (a b : Int) (w : World) (h0 : 0 ≤ a) (h1 : a ≤ 4294967295) (h2 : -9223372036854775808 ≤ b) (h3 : b ≤ 9223372036854775807) :
    Calls Try.prog 18 #[.int .u32 a, .int .i64 b] w fun e w' => e = .returned (.tuple #[.int .u32 (zextV a b), .int .i64 (extE b)]) ∧ w = w' := by
  by_cases h : 1 ≤ b ∧ b ≤ 32
  · by_cases hc : b = 32
    · subst hc
      rw [zextV_in a 32 (by omega) (by omega), extE_in 32 (by omega) (by omega)]
      have e : a % 2 ^ (32 : Int).toNat = a := by show a % 4294967296 = a; omega
      rw [e]
      exact c18_all a w h0 h1
    · rw [zextV_in a b h.1 h.2, extE_in b h.1 h.2]
      exact c18_in a b w h0 h1 h.1 (by omega)
  · rw [zextV_out a b h, extE_out b h]
    exact c18_out a b w h0 h1 h2 h3 h
theorem c31 (n : Int) (w : World) (h0 : -9223372036854775808 ≤ n) (h1 : n ≤ 9223372036854775807) :
    Calls Try.prog 31 #[.int .i64 n] w fun e w' => e = .returned (.int .u32 (n % 4294967296)) ∧ w = w' := by
  go_enter Try.func31, Try.ntmps31
  go_wp2
  go_ret
  exact ⟨rfl, rfl⟩
theorem c16_low (a b : Int) (w : World) (h0 : 0 ≤ a) (h1 : a ≤ 4294967295) (h2 : 1 ≤ b) (h3 : b < 32) (h4 : a % 2 ^ b.toNat < 2 ^ (b.toNat - 1)) :
    Calls Try.prog 16 #[.int .u32 a, .int .i64 b] w fun e w' => e = .returned (.tuple #[.int .u32 (a % 2 ^ b.toNat), .int .i64 0]) ∧ w = w' := by
  have hp := (pow_bd2 b h2 h3).1
  have hq := (pow_bd2 b h2 h3).2.1
  have hr := (pow_bd b h2 (by omega)).1
  have hs := (pow_bd b h2 (by omega)).2
  have g1 : (b == 32) = false := by simp; omega
  have g2 : 0 ≤ a % 2 ^ b.toNat := Int.emod_nonneg _ (by omega)
  go_enter Try.func16, Try.ntmps16
  go_wp2_with (go_at_call 18; refine (c18_in a b _ h0 h1 h2 h3).mono ?_; rintro e w' ⟨rfl, rfl⟩)
  all_goals go_ret2
  all_goals exact ⟨rfl, rfl⟩
theorem c16_high (a b : Int) (w : World) (h0 : 0 ≤ a) (h1 : a ≤ 4294967295) (h2 : 1 ≤ b) (h3 : b < 32) (h4 : ¬ a % 2 ^ b.toNat < 2 ^ (b.toNat - 1)) :
    Calls Try.prog 16 #[.int .u32 a, .int .i64 b] w fun e w' => e = .returned (.tuple #[.int .u32 ((a % 2 ^ b.toNat - 2 ^ b.toNat) % 4294967296), .int .i64 0]) ∧ w = w' := by
  have hp := (pow_bd2 b h2 h3).1
  have hq := (pow_bd2 b h2 h3).2.1
  have hr := (pow_bd b h2 (by omega)).1
  have hs := (pow_bd b h2 (by omega)).2
  have g1 : (b == 32) = false := by simp; omega
  have g2 : 0 ≤ a % 2 ^ b.toNat := Int.emod_nonneg _ (by omega)
  have g3 : a % 2 ^ b.toNat < 2 ^ b.toNat := Int.emod_lt_of_pos _ (by omega)
  go_enter Try.func16, Try.ntmps16
  go_wp2_with (first | (go_at_call 18; refine (c18_in a b _ h0 h1 h2 h3).mono ?_; rintro e w' ⟨rfl, rfl⟩) | (go_at_call 31; refine (c31 _ _ (by omega) (by omega)).mono ?_; rintro e w' ⟨rfl, rfl⟩))
  all_goals go_ret2
  all_goals exact ⟨rfl, rfl⟩
theorem c16_all (a : Int) (w : World) (h0 : 0 ≤ a) (h1 : a ≤ 4294967295) :
    Calls Try.prog 16 #[.int .u32 a, .int .i64 32] w fun e w' => e = .returned (.tuple #[.int .u32 a, .int .i64 0]) ∧ w = w' := by
  go_enter Try.func16, Try.ntmps16
  go_wp2_with (go_at_call 18; refine (c18_all a _ h0 h1).mono ?_; rintro e w' ⟨rfl, rfl⟩)
  go_ret2
  exact ⟨rfl, rfl⟩
theorem c16_out (a b : Int) (w : World) (h0 : 0 ≤ a) (h1 : a ≤ 4294967295) (h2 : -9223372036854775808 ≤ b) (h3 : b ≤ 9223372036854775807) (h : ¬ (1 ≤ b ∧ b ≤ 32)) :
    Calls Try.prog 16 #[.int .u32 a, .int .i64 b] w fun e w' => e = .returned (.tuple #[.int .u32 0, .int .i64 1]) ∧ w = w' := by
  have H := Lib.hid h
  clear h
  go_enter Try.func16, Try.ntmps16
  go_wp2_with (go_at_call 18; refine (c18_out a b _ h0 h1 h2 h3 H.out).mono ?_; rintro e w' ⟨rfl, rfl⟩)
  go_ret2
  exact ⟨rfl, rfl⟩
theorem c16 (a b : Int) (w : World) (h0 : 0 ≤ a) (h1 : a ≤ 4294967295) (h2 : -9223372036854775808 ≤ b) (h3 : b ≤ 9223372036854775807) :
    Calls Try.prog 16 #[.int .u32 a, .int .i64 b] w fun e w' => e = .returned (.tuple #[.int .u32 (extV a b), .int .i64 (extE b)]) ∧ w = w' := by
  by_cases h : 1 ≤ b ∧ b ≤ 32
  · rw [extV_in a b h.1 h.2, extE_in b h.1 h.2]
    by_cases hc : b = 32
    · subst hc
      have e : a % 2 ^ (32 : Int).toNat = a := by show a % 4294967296 = a; omega
      have e2 : (2 : Int) ^ (32 : Int).toNat = 4294967296 := by decide
      rw [e, e2]
      have e3 : (if a < 2 ^ ((32 : Int).toNat - 1) then a else (a - 4294967296) % 4294967296) = a := by split <;> omega
      rw [e3]
      exact c16_all a w h0 h1
    · by_cases hd : a % 2 ^ b.toNat < 2 ^ (b.toNat - 1)
      · rw [if_pos hd]
        exact c16_low a b w h0 h1 h.1 (by omega) hd
      · rw [if_neg hd]
        exact c16_high a b w h0 h1 h.1 (by omega) hd
  · rw [extV_out a b h, extE_out b h]
    exact c16_out a b w h0 h1 h2 h3 h

/-! ### Count -/
def cSet (a : Int) : Nat → Int
  | 0 => 0
  | k + 1 => if a / 2 ^ k % 2 = 1 then cSet a k + 1 else cSet a k
def cHigh (a : Int) : Nat → Int
  | 0 => 32
  | k + 1 => if a / 2 ^ k % 2 = 1 then 31 - (k : Int) else cHigh a k
def cLow (a : Int) : Nat → Int
  | 0 => 32
  | k + 1 => if a / 2 ^ k % 2 = 1 then (if cLow a k = 32 then (k : Int) else cLow a k) else cLow a k
theorem cset_bd (a : Int) (k : Nat) : 0 ≤ cSet a k ∧ cSet a k ≤ k := by
  induction k with
  | zero => simp [cSet]
  | succ k ih => unfold cSet; split <;> omega
theorem clow_set (a : Int) (k : Nat) (hk : k ≤ 32) : (cSet a k = 0 ∧ cLow a k = 32) ∨ (0 < cSet a k ∧ cLow a k < k) := by
  induction k with
  | zero => simp [cSet, cLow]
  | succ k ih =>
    have := ih (by omega)
    unfold cSet cLow
    split
    · split <;> omega
    · omega
theorem and_one (x : Int) (h0 : 0 ≤ x) (h1 : x ≤ 4294967295) : bits BinOp.and IntKind.u32 x 1 = x % 2 := by
  have h := u32_and_nat x.toNat 1 (by omega) (by omega)
  have e : (x.toNat : Int) = x := Int.toNat_of_nonneg h0
  rw [e] at h
  have h2 : bits BinOp.and IntKind.u32 x 1 = ((x.toNat &&& 1 : Nat) : Int) := h
  rw [h2, Nat.and_one_is_mod]
  omega
theorem div_bd (a : Int) (k : Nat) (h0 : 0 ≤ a) (h1 : a ≤ 4294967295) : 0 ≤ a / 2 ^ k ∧ a / 2 ^ k ≤ 4294967295 :=
  ⟨Int.ediv_nonneg h0 (Int.pow_nonneg (by decide)), Int.le_trans (Int.ediv_le_self _ h0) h1⟩
theorem cSet_one (a : Int) (k : Nat) (h : a / 2 ^ k % 2 = 1) : cSet a (k + 1) = cSet a k + 1 := by rw [cSet, if_pos h]
theorem cSet_no (a : Int) (k : Nat) (h : ¬ a / 2 ^ k % 2 = 1) : cSet a (k + 1) = cSet a k := by rw [cSet, if_neg h]
theorem cHigh_one (a : Int) (k : Nat) (h : a / 2 ^ k % 2 = 1) : cHigh a (k + 1) = 31 - (k : Int) := by rw [cHigh, if_pos h]
theorem cHigh_no (a : Int) (k : Nat) (h : ¬ a / 2 ^ k % 2 = 1) : cHigh a (k + 1) = cHigh a k := by rw [cHigh, if_neg h]
theorem cLow_first (a : Int) (k : Nat) (h : a / 2 ^ k % 2 = 1) (g : cLow a k = 32) : cLow a (k + 1) = k := by rw [cLow, if_pos h, if_pos g]
theorem cLow_more (a : Int) (k : Nat) (h : a / 2 ^ k % 2 = 1) (g : ¬ cLow a k = 32) : cLow a (k + 1) = cLow a k := by rw [cLow, if_pos h, if_neg g]
theorem cLow_no (a : Int) (k : Nat) (h : ¬ a / 2 ^ k % 2 = 1) : cLow a (k + 1) = cLow a k := by rw [cLow, if_neg h]
theorem int_eq {a b : Int} (h : a = b) : Value.int .i64 a = .int .i64 b := by rw [h]
theorem ret_three {a b c d e f : Int} (h : a = b) (g : c = d) (i : e = f) : Ending.returned (.tuple #[.int .i64 a, .int .i64 c, .int .i64 e]) = .returned (.tuple #[.int .i64 b, .int .i64 d, .int .i64 f]) := by rw [h, g, i]
theorem c20 (a : Int) (w : World) (h0 : 0 ≤ a) (h1 : a ≤ 4294967295) :
    Calls Try.prog 20 #[.int .u32 a] w fun e w' => e = .returned (.tuple #[.int .i64 (cSet a 32), .int .i64 (cHigh a 32), .int .i64 (cLow a 32)]) ∧ w = w' := by
  go_enter Try.func20, Try.ntmps20
  go_wp2
  go_loop [5, 6, 7, 8] (fun s h l i => ∃ k : Nat, k ≤ 32 ∧ i = .int .i64 k ∧ s = .int .i64 (cSet a k) ∧ h = .int .i64 (cHigh a k) ∧ l = .int .i64 (cLow a k)) (fun _ _ _ i => 32 - (intOf i).toNat)
  case atStart => exact ⟨0, by omega, rfl, rfl, rfl, rfl⟩
  case round =>
    obtain ⟨k, hk, rfl, rfl, rfl, rfl⟩ := hrel
    have hd := div_bd a k h0 h1
    have hd0 := hd.1
    have hs := cset_bd a k
    have hs0 := hs.1
    have hs1 := hs.2
    have hl := clow_set a k hk
    by_cases hlt : k < 32
    · by_cases hb : a / 2 ^ k % 2 = 1
      · have S1 := Lib.hid (cSet_one a k hb)
        have H1 := Lib.hid (cHigh_one a k hb)
        by_cases hf : cLow a k = 32
        · have L1 := Lib.hid (cLow_first a k hb hf)
          have t1 : ((a / 2 ^ k) % 2 == 1) = true := by simp; omega
          have t2 : (cLow a k == 32) = true := by simp; omega
          clear hb hf hl
          go_wp2
          all_goals
            go_round
            case rel => exact ⟨k + 1, by omega, by go_num, int_eq S1.out.symm, int_eq H1.out.symm, int_eq L1.out.symm⟩
            case measure => simp [intOf]; omega
        · have L1 := Lib.hid (cLow_more a k hb hf)
          have t1 : ((a / 2 ^ k) % 2 == 1) = true := by simp; omega
          have t2 : (cLow a k == 32) = false := by simp; omega
          clear hb hf hl
          go_wp2
          all_goals
            go_round
            case rel => exact ⟨k + 1, by omega, by go_num, int_eq S1.out.symm, int_eq H1.out.symm, int_eq L1.out.symm⟩
            case measure => simp [intOf]; omega
      · have S1 := Lib.hid (cSet_no a k hb)
        have H1 := Lib.hid (cHigh_no a k hb)
        have L1 := Lib.hid (cLow_no a k hb)
        have t1 : ((a / 2 ^ k) % 2 == 1) = false := by simp; omega
        clear hb hl
        go_wp2
        all_goals
          go_round
          case rel => exact ⟨k + 1, by omega, by go_num, int_eq S1.out.symm, int_eq H1.out.symm, int_eq L1.out.symm⟩
          case measure => simp [intOf]; omega
    · obtain rfl : k = 32 := by omega
      clear hl
      go_wp2
      go_ret3
      exact ⟨rfl, rfl⟩
theorem c19 (a : Int) (w : World) (h0 : 0 ≤ a) (h1 : a ≤ 4294967295) :
    Calls Try.prog 19 #[.int .u32 a] w fun e w' => e = .returned (.tuple #[.int .i64 (cSet a 32), .int .i64 (cHigh a 32), .int .i64 (cLow a 32)]) ∧ w = w' := by
  go_enter Try.func19, Try.ntmps19
  go_wp2
  go_loop [5, 6, 7, 9] (fun s h l i => ∃ k : Nat, k ≤ 32 ∧ i = .int .i64 k ∧ s = .int .i64 (cSet a k) ∧ h = .int .i64 (cHigh a k) ∧ l = .int .i64 (cLow a k)) (fun _ _ _ i => 32 - (intOf i).toNat)
  case atStart => exact ⟨0, by omega, rfl, rfl, rfl, rfl⟩
  case round =>
    obtain ⟨k, hk, rfl, rfl, rfl, rfl⟩ := hrel
    have hd := div_bd a k h0 h1
    have hd0 := hd.1
    have hs := cset_bd a k
    have hs0 := hs.1
    have hs1 := hs.2
    have hl := clow_set a k hk
    by_cases hlt : k < 32
    · by_cases hb : a / 2 ^ k % 2 = 1
      · have S1 := Lib.hid (cSet_one a k hb)
        have H1 := Lib.hid (cHigh_one a k hb)
        by_cases hf : cLow a k = 32
        · have L1 := Lib.hid (cLow_first a k hb hf)
          have t1 : (bits BinOp.and IntKind.u32 (a / 2 ^ k) 1 == 0) = false := by rw [and_one _ hd.1 hd.2]; simp; omega
          have t2 : (cSet a k == 0) = true := by simp; omega
          clear hb hf hl
          go_wp2
          all_goals
            go_round
            case rel => exact ⟨k + 1, by omega, by go_num, int_eq S1.out.symm, int_eq H1.out.symm, int_eq L1.out.symm⟩
            case measure => simp [intOf]; omega
        · have L1 := Lib.hid (cLow_more a k hb hf)
          have t1 : (bits BinOp.and IntKind.u32 (a / 2 ^ k) 1 == 0) = false := by rw [and_one _ hd.1 hd.2]; simp; omega
          have t2 : (cSet a k == 0) = false := by simp; omega
          clear hb hf hl
          go_wp2
          all_goals
            go_round
            case rel => exact ⟨k + 1, by omega, by go_num, int_eq S1.out.symm, int_eq H1.out.symm, int_eq L1.out.symm⟩
            case measure => simp [intOf]; omega
      · have S1 := Lib.hid (cSet_no a k hb)
        have H1 := Lib.hid (cHigh_no a k hb)
        have L1 := Lib.hid (cLow_no a k hb)
        have t1 : (bits BinOp.and IntKind.u32 (a / 2 ^ k) 1 == 0) = true := by rw [and_one _ hd.1 hd.2]; simp; omega
        clear hb hl
        go_wp2
        all_goals
          go_round
          case rel => exact ⟨k + 1, by omega, by go_num, int_eq S1.out.symm, int_eq H1.out.symm, int_eq L1.out.symm⟩
          case measure => simp [intOf]; omega
    · obtain rfl : k = 32 := by omega
      clear hl
      go_wp2
      go_ret3
      exact ⟨rfl, rfl⟩
end Go.Proofs.Ytlmdbpdfjjfapaa
