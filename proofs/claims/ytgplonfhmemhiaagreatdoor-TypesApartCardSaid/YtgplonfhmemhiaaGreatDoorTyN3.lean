/-
  Plain: a number below a thousand by its three digits.
-/
import Derived.Test.YtgplonfhmemhiaaGreatDoorTyPu
import Derived.RowKit
import Derived.IntWalk
namespace Go.Proofs.YtgplonfhmemhiaaGreatDoor
set_option linter.unusedVariables false
set_option linter.unusedSimpArgs false
open Go.RowKit

/-- Three digits of a number, as they are reckoned. -/
structure Dg3 (n : Int) (k : Nat) (kI a1 b0 b1 c1 A Bb Cc : Int) (x y z : UInt8) : Prop where
  lt : k < 1000
  ki : (k : Int) = kI
  e1 : wrap64 ((IntKind.u64.wrap n).tmod 1000) = kI
  f1 : wrap64 (kI.tdiv 100) = a1
  f2 : wrap64 (48 + a1) = A
  f3 : A % 256 = A
  g1 : wrap64 (kI.tdiv 10) = b0
  g2 : b0.tmod 10 = b1
  g3 : wrap64 (48 + b1) = Bb
  g4 : Bb % 256 = Bb
  h2 : kI.tmod 10 = c1
  h3 : wrap64 (48 + c1) = Cc
  h4 : Cc % 256 = Cc
  xA : (x.toNat : Int) = A
  yB : (y.toNat : Int) = Bb
  zC : (z.toNat : Int) = Cc
  x_ : x = UInt8.ofNat (48 + k / 100)
  y_ : y = UInt8.ofNat (48 + k / 10 % 10)
  z_ : z = UInt8.ofNat (48 + k % 10)
theorem of8 (m : Nat) (h : m < 256) : ((UInt8.ofNat m).toNat : Int) = m := by
  have : (UInt8.ofNat m).toNat = m := by simp; omega
  rw [this]
theorem dig3 (n : Int) : ∃ (k : Nat) (kI a1 b0 b1 c1 A Bb Cc : Int) (x y z : UInt8), Dg3 n k kI a1 b0 b1 c1 A Bb Cc x y z := by
  have hk : ∃ k : Nat, k < 1000 ∧ wrap64 ((IntKind.u64.wrap n).tmod 1000) = (k : Int) := by
    rw [IntKind.wrap_u64, Int.tmod_eq_emod_of_nonneg (by omega)]
    refine ⟨((n % 18446744073709551616) % 1000).toNat, by omega, ?_⟩
    unfold wrap64
    omega
  obtain ⟨k, hk, e1⟩ := hk
  have t1 : (k : Int).tdiv 100 = ((k / 100 : Nat) : Int) := by rw [Int.tdiv_eq_ediv_of_nonneg (by omega)]; omega
  have t2 : (k : Int).tdiv 10 = ((k / 10 : Nat) : Int) := by rw [Int.tdiv_eq_ediv_of_nonneg (by omega)]; omega
  have t3 : ((k / 10 : Nat) : Int).tmod 10 = ((k / 10 % 10 : Nat) : Int) := by rw [Int.tmod_eq_emod_of_nonneg (by omega)]; omega
  have t4 : (k : Int).tmod 10 = ((k % 10 : Nat) : Int) := by rw [Int.tmod_eq_emod_of_nonneg (by omega)]; omega
  refine ⟨k, k, ((k / 100 : Nat) : Int), ((k / 10 : Nat) : Int), ((k / 10 % 10 : Nat) : Int), ((k % 10 : Nat) : Int), ((48 + k / 100 : Nat) : Int), ((48 + k / 10 % 10 : Nat) : Int), ((48 + k % 10 : Nat) : Int), UInt8.ofNat (48 + k / 100), UInt8.ofNat (48 + k / 10 % 10), UInt8.ofNat (48 + k % 10), ?_⟩
  exact ⟨hk, rfl, e1, by rw [t1]; unfold wrap64; omega, by unfold wrap64; omega, by omega, by rw [t2]; unfold wrap64; omega, t3, by unfold wrap64; omega, by omega, t4, by unfold wrap64; omega, by omega, of8 _ (by omega), of8 _ (by omega), of8 _ (by omega), rfl, rfl, rfl⟩
theorem dd1 {k : Nat} (h : k < 10) : Lib.decDigits k = [UInt8.ofNat (48 + k % 10)] := by
  rw [Lib.decDigits, dif_pos h, show k % 10 = k by omega]
theorem dd2 {k : Nat} (h : ¬ k < 10) (h2 : k < 100) : Lib.decDigits k = [UInt8.ofNat (48 + k / 10 % 10), UInt8.ofNat (48 + k % 10)] := by
  rw [Lib.decDigits, dif_neg h, dd1 (by omega)]
  rfl
theorem dd3 {k : Nat} (h : ¬ k < 100) (h2 : k < 1000) : Lib.decDigits k = [UInt8.ofNat (48 + k / 100), UInt8.ofNat (48 + k / 10 % 10), UInt8.ofNat (48 + k % 10)] := by
  rw [Lib.decDigits, dif_neg (by omega), dd2 (by omega) (by omega), show k / 10 / 10 % 10 = k / 100 by omega]
  rfl
end Go.Proofs.YtgplonfhmemhiaaGreatDoor
