/-
  The contracts of Repeat and Clone at pages, in the code.
-/
import Derived.Test.YtbflnkkoecfbaaaMemMStore
import Derived.Laws.MakeOwn
import Derived.Lib.LazyBuf
namespace Go.Proofs.Ytbflnkkoecfbaaa
set_option linter.unusedVariables false
set_option linter.unusedSimpArgs false
open Go.ChangeShapes Go.WideShapes Go.ChangeAt Go.RowKit

theorem and_lo (y : Int) (h0 : 0 ≤ y) (h1 : y ≤ 4096) : bits BinOp.and IntKind.u64 y 4294967295 = y := by
  have h := u64_and y 4294967295 h0 (by omega) (by omega) (by omega)
  rw [h]
  show ((y.toNat &&& (2 ^ 32 - 1) : Nat) : Int) = y
  rw [Nat.and_two_pow_sub_one_eq_mod y.toNat 32]
  omega
theorem c_Mul64 (y : Int) (w : World) (h0 : 0 ≤ y) (h1 : y ≤ 4096) :
    Calls Try.prog 86 #[.int .u64 1, .int .u64 y] w fun e w' => e = .returned (.tuple #[.int .u64 0, .int .u64 y]) ∧ w = w' := by
  have a1 := and_lo 1 (by decide) (by decide)
  have a2 := and_lo y h0 h1
  have a3 := and_lo 0 (by decide) (by decide)
  have d1 : y / 4294967296 = 0 := by omega
  go_enter Try.func86, Try.ntmps86
  go_wp2
  go_ret2
  exact ⟨rfl, rfl⟩
theorem c_Mul (y : Int) (w : World) (h0 : 0 ≤ y) (h1 : y ≤ 4096) :
    Calls Try.prog 72 #[.int .u64 1, .int .u64 y] w fun e w' => e = .returned (.tuple #[.int .u64 0, .int .u64 y]) ∧ w = w' := by
  go_enter Try.func72, Try.ntmps72
  go_wp2_with (go_at_call 86; refine (c_Mul64 y _ h0 h1).mono ?_; rintro e w' ⟨rfl, rfl⟩)
  go_ret2
  exact ⟨rfl, rfl⟩
theorem infoPP : (Try.prog.info? 95).map (fun i => (i.zero, i.size, i.bytes)) = some (some (.pointer none), 1, 8) := by kernel_rfl
/-- A row of pages, as pointers. -/
def prow (P : Nat → Nat) (n : Nat) : List Value := (List.range n).map fun j => Value.pointer (some ⟨P j, 0, none⟩)
theorem prow_len (P : Nat → Nat) (n : Nat) : (prow P n).length = n := by unfold prow; simp
theorem prow_one (P : Nat → Nat) (n : Nat) : ∀ u ∈ prow P n, u.oneCell' = true := by
  intro u hu
  unfold prow at hu
  obtain ⟨j, _, rfl⟩ := List.mem_map.1 hu
  rfl
theorem prow_get (P : Nat → Nat) (n j : Nat) (v : Value) (h : (prow P n)[j]? = some v) : j < n ∧ v = .pointer (some ⟨P j, 0, none⟩) := by
  have hj : j < n := by
    have := (List.getElem?_eq_some_iff.1 h).1
    rw [prow_len] at this
    exact this
  refine ⟨hj, ?_⟩
  unfold prow at h
  rw [List.getElem?_map, List.getElem?_range hj] at h
  exact (Option.some.inj h).symm
theorem prow_at (P : Nat → Nat) (n j : Nat) (h : j < n) : (prow P n)[j]? = some (.pointer (some ⟨P j, 0, none⟩)) := by
  unfold prow
  rw [List.getElem?_map, List.getElem?_range h]
  rfl
set_option maxHeartbeats 1000000 in
theorem c_ClonePages (g n cap : Nat) (P : Nat → Nat) (w : World) (hn : n ≤ 4096) (hc : ∀ j, j < n → w.cell? ⟨g, j, none⟩ = some (.pointer (some ⟨P j, 0, none⟩))) :
    Calls Try.prog 58 #[.slice (some ⟨g, 0, none⟩) n cap] w fun e w' => ∃ v, e = .returned v ∧ w'.ownsRow w.heap.size 95 1 v n (prow P n) ∧ v ≠ .slice none 0 0 ∧ Below w.heap.size w w' := by
  obtain ⟨i0, hi, hz0, hz1, hz2⟩ := info_parts infoPP
  have HC := Lib.hid hc
  have HN := Lib.hid hn
  have hnil : ∀ w' : World, (binOp .eql 67 (.slice (some ⟨g, 0, none⟩) n cap) (.slice none 0 0)).run Try.prog w' = .ok (.bool false) w' := fun w' => Go.run_eql_slice_nil w' 67 95 _ _ _ Try.underlying67
  clear hc
  go_enter Try.func58, Try.ntmps58
  go_wp2_with (at_builtin; refine wpList_append_own _ rfl _ _ 67 rfl w.heap.size 95 i0 (.pointer none) 1 8 Try.underlying67 hi hz0 hz1 hz2 rfl (by decide) _ 0 [] rfl (World.ownsRow_made w #[] 0 (Nat.le_refl _) (by decide) rfl) ⟨g, 0, none⟩ n cap (prow P n) rfl (by rw [prow_len, Nat.mul_one]) ?c2 (prow_one P n) ?c3 ?c4 (by simp) ?_)
  case c2 =>
    intro j u hu
    obtain ⟨hj, rfl⟩ := prow_get _ _ _ _ hu
    have hadd : (⟨g, 0, none⟩ : Addr).add j = ⟨g, j, none⟩ := by unfold Addr.add; split <;> simp_all
    rw [hadd]
    exact ((below_new w _).cell (cell_lt (HC.out j hj))).trans (HC.out j hj)
  case c3 => unfold maxLen; omega
  case c4 => omega
  intro v' w1 hown hgrow hnn
  have HNN : Hid ((v' = .slice none 0 0) = False) := eq_false hnn
  clear hnn
  have HO : Hid (w1.ownsRow w.heap.size 95 1 v' n (prow P n)) := by
    show World.ownsRow _ _ _ _ _ _ _
    simpa using hown
  have HB : Hid (Below w.heap.size w w1) := (below_new w _).grown hgrow (by simp) (fun k hk => by simp [Value.ownBlock] at hk; omega)
  clear hown hgrow
  go_wp2
  go_ret
  exact ⟨_, rfl, HO.out, of_eq_false HNN.out, HB.out⟩
end Go.Proofs.Ytbflnkkoecfbaaa
