/-
  The law's help: which of m acts.
-/
import Derived.Test.YtbfimedgichiiaaMemRef10
import Derived.Test.YtbfimedgichiiaaMemRanges
import Derived.Test.YtbfimedgichiiaaMemTwo
import Derived.Deep.QuietTactic
import Derived.BigQuiet
namespace Go.Proofs.Ytbfimedgichiiaa
set_option linter.unusedVariables false
set_option linter.unusedSimpArgs false
set_option maxRecDepth 100000
open Go.ChangeShapes Go.WideShapes Go.ChangeAt Go.RowKit

theorem neq_range (r : Rg) (w : World) : (binOp .neq 34 (.agg #[.string ⟨r.nm.toArray⟩, .int .i64 r.fr, .int .i64 r.sz, .bool r.wr, .bool r.ex]) (.agg #[.string ⟨r.nm.toArray⟩, .int .i64 r.fr, .int .i64 r.sz, .bool r.wr, .bool r.ex])).run Try.prog w = .ok (.bool false) w := by
  have u3 := Try.underlying3
  have a3 := Try.isAgg3
  have z3 := Try.sizeOf3
  have u4 := Try.underlying4
  have a4 := Try.isAgg4
  have z4 := Try.sizeOf4
  have u5 := Try.underlying9
  have a5 := Try.isAgg9
  have z5 := Try.sizeOf9
  have hS : Try.prog.underlying 34 = some (.struct (Try.prog.fieldsOf 34)) := by kernel_rfl
  have hp : Try.prog.stoodInHeld 34 = false := by kernel_rfl
  rw [run_neq_struct, show (10000 : Nat) = 9999 + 1 from rfl, run_equalIn_agg w 9999 34 _ _ hS hp]
  simp only [Program.fieldsOf, Try.underlying34]
  go_simp
set_option maxHeartbeats 2000000 in
theorem c_lranges_some (b1 o1 b2 o2 n c1 c2 : Nat) (R : Nat → Rg) (w : World) (hn : n ≤ 281474976710656) (hc : n ≤ c1) (hd : n ≤ c2) (hA : RS w b1 o1 n R) (hB : RS w b2 o2 n R) :
    Calls Try.prog 10 #[.slice (some ⟨b1, o1, none⟩) n c1, .slice (some ⟨b2, o2, none⟩) n c2] w fun e w' => e = .returned (.bool true) ∧ Below w.heap.size w w' := by
  have HA := Lib.hid hA
  have HB := Lib.hid hB
  have hne := neq_range
  clear hA hB
  go_enter Try.func10, Try.ntmps10
  go_wp2_with fail
  go_loopw [5] (fun i wr => ∃ k : Nat, k ≤ n ∧ i = .int .i64 k ∧ Hid (Below w.heap.size w wr)) (fun i _ => n - (intOf i).toNat)
  case atStart => exact ⟨0, Nat.zero_le _, rfl, Below.refl _ _⟩
  case round =>
    obtain ⟨k, hk, rfl, HBl⟩ := hrel
    by_cases hlt : k < n
    · obtain ⟨x0, x1, x2, x3, x4⟩ := HA.out.next HBl.out k hlt
      obtain ⟨y0, y1, y2, y3, y4⟩ := HB.out.next HBl.out k hlt
      have hr := hne (R k)
      clear hne
      go_wp2_with fail
      go_quiet (fail)
      go_wp2_with fail
      go_roundw
      case rel => exact ⟨k + 1, by omega, by go_num, below_drewN HBl.out _⟩
      case measure => simp [intOf]; omega
    · have hge : decide (k < n) = false := by simp; omega
      clear hk hlt
      go_wp2_with fail
      go_ret
      exact ⟨rfl, HBl.out⟩
theorem c_lranges_none (a a2 : Option Addr) (c1 c2 : Nat) (w : World) :
    Calls Try.prog 10 #[.slice a 0 c1, .slice a2 0 c2] w fun e w' => e = .returned (.bool true) ∧ Below w.heap.size w w' := by
  go_enter Try.func10, Try.ntmps10
  go_wp2_with fail
  go_rounds 1
  go_wp2_with fail
  go_ret
  exact ⟨rfl, Below.refl _ _⟩
end Go.Proofs.Ytbfimedgichiiaa
namespace Go.Proofs.Ytbfimedgichiiaa
set_option linter.unusedVariables false
set_option linter.unusedSimpArgs false
set_option maxRecDepth 100000
open Go.ChangeShapes Go.WideShapes Go.ChangeAt Go.RowKit

@[irreducible] def amP (n m : Int) : Int := n % 18446744073709551616 % m
theorem amP_bd (n m : Int) (h : 0 < m) : 0 ≤ amP n m ∧ amP n m < m := by
  unfold amP
  exact ⟨Int.emod_nonneg _ (by omega), Int.emod_lt_of_pos _ h⟩
theorem c_among (n m : Int) (w : World) (h0 : -9223372036854775808 ≤ n) (h1 : n ≤ 9223372036854775807) (m0 : 0 < m) (m1 : m ≤ 1000) :
    Calls Try.prog 11 #[.int .i64 n, .int .i64 m] w fun e w' => e = .returned (.int .i64 (amP n m)) ∧ w = w' := by
  have hm : IntKind.u64.wrap m = m := by simp [IntKind.wrap, IntKind.signed, IntKind.bits]; omega
  obtain ⟨u, hu⟩ : ∃ u, IntKind.u64.wrap n = u := ⟨_, rfl⟩
  have hu2 : u = n % 18446744073709551616 := by rw [← hu]; simp [IntKind.wrap, IntKind.signed, IntKind.bits]
  have hub : 0 ≤ u ∧ u < 18446744073709551616 := by omega
  have HA : Hid (amP n m = u % m) := by show _ = _; unfold amP; rw [hu2]
  have hr0 : 0 ≤ u % m := Int.emod_nonneg _ (by omega)
  have hr1 : u % m < m := Int.emod_lt_of_pos _ m0
  clear hu2
  go_enter Try.func11, Try.ntmps11
  go_wp2_with fail
  go_ret
  exact ⟨ret_i HA.out.symm, rfl⟩
end Go.Proofs.Ytbfimedgichiiaa
