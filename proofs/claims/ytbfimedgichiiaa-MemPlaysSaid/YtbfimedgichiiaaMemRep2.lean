/-
  The contract of Repeat at pages, in the code.
-/
import Derived.Test.YtbfimedgichiiaaMemMStore
import Derived.Laws.MakeOwn
import Derived.Lib.LazyBuf
import Derived.Laws.CopyOwn
import Derived.Deep.RegionLaw
import Derived.Deep.OwnRows
import Derived.Laws.OwnMore
namespace Go.Proofs.Ytbfimedgichiiaa
set_option linter.unusedVariables false
set_option linter.unusedSimpArgs false
open Go.ChangeShapes Go.WideShapes Go.ChangeAt Go.RowKit

theorem and_lo (y : Int) (h0 : 0 ≤ y) (h1 : y ≤ 4096) : bits BinOp.and IntKind.u64 y 4294967295 = y := by
  have h := u64_and y 4294967295 h0 (by omega) (by omega) (by omega)
  rw [h]
  show ((y.toNat &&& (2 ^ 32 - 1) : Nat) : Int) = y
  rw [Nat.and_two_pow_sub_one_eq_mod y.toNat 32]
  omega
theorem c_Mul64 (y : Int) (w : World) (h0 : 0 ≤ y) (h1 : y ≤ 4096) :
    Calls Try.prog 86 #[.int .u64 1, .int .u64 y] w fun e w' => e = .returned (.tuple #[.int .u64 0, .int .u64 y]) ∧ w = w' := by
  have a1 := and_lo 1 (by decide) (by decide)
  have a2 := and_lo y h0 h1
  have a3 := and_lo 0 (by decide) (by decide)
  have d1 : y / 4294967296 = 0 := by omega
  go_enter Try.func86, Try.ntmps86
  go_wp2
  go_ret2
  exact ⟨rfl, rfl⟩
theorem c_Mul (y : Int) (w : World) (h0 : 0 ≤ y) (h1 : y ≤ 4096) :
    Calls Try.prog 72 #[.int .u64 1, .int .u64 y] w fun e w' => e = .returned (.tuple #[.int .u64 0, .int .u64 y]) ∧ w = w' := by
  go_enter Try.func72, Try.ntmps72
  go_wp2_with (go_at_call 86; refine (c_Mul64 y _ h0 h1).mono ?_; rintro e w' ⟨rfl, rfl⟩)
  go_ret2
  exact ⟨rfl, rfl⟩
theorem infoPP : (Try.prog.info? 95).map (fun i => (i.zero, i.size, i.bytes)) = some (some (.pointer none), 1, 8) := by kernel_rfl
/-- A row of pages, as pointers. -/
def prow (P : Nat → Nat) (n : Nat) : List Value := (List.range n).map fun j => Value.pointer (some ⟨P j, 0, none⟩)
theorem prow_len (P : Nat → Nat) (n : Nat) : (prow P n).length = n := by unfold prow; simp
theorem prow_one (P : Nat → Nat) (n : Nat) : ∀ u ∈ prow P n, u.oneCell' = true := by
  intro u hu
  unfold prow at hu
  obtain ⟨j, _, rfl⟩ := List.mem_map.1 hu
  rfl
theorem prow_get (P : Nat → Nat) (n j : Nat) (v : Value) (h : (prow P n)[j]? = some v) : j < n ∧ v = .pointer (some ⟨P j, 0, none⟩) := by
  have hj : j < n := by
    have := (List.getElem?_eq_some_iff.1 h).1
    rw [prow_len] at this
    exact this
  refine ⟨hj, ?_⟩
  unfold prow at h
  rw [List.getElem?_map, List.getElem?_range hj] at h
  exact (Option.some.inj h).symm
theorem prow_at (P : Nat → Nat) (n j : Nat) (h : j < n) : (prow P n)[j]? = some (.pointer (some ⟨P j, 0, none⟩)) := by
  unfold prow
  rw [List.getElem?_map, List.getElem?_range h]
  rfl
set_option maxHeartbeats 1000000 in
theorem c_ClonePages (g n cap : Nat) (P : Nat → Nat) (w : World) (hn : n ≤ 4096) (hc : ∀ j, j < n → w.cell? ⟨g, j, none⟩ = some (.pointer (some ⟨P j, 0, none⟩))) :
    Calls Try.prog 58 #[.slice (some ⟨g, 0, none⟩) n cap] w fun e w' => ∃ v, e = .returned v ∧ w'.ownsRow w.heap.size 95 1 v n (prow P n) ∧ v ≠ .slice none 0 0 ∧ Below w.heap.size w w' := by
  obtain ⟨i0, hi, hz0, hz1, hz2⟩ := info_parts infoPP
  have HC := Lib.hid hc
  have HN := Lib.hid hn
  have hnil : ∀ w' : World, (binOp .eql 67 (.slice (some ⟨g, 0, none⟩) n cap) (.slice none 0 0)).run Try.prog w' = .ok (.bool false) w' := fun w' => Go.run_eql_slice_nil w' 67 95 _ _ _ Try.underlying67
  clear hc
  go_enter Try.func58, Try.ntmps58
  go_wp2_with (at_builtin; refine wpList_append_own _ rfl _ _ 67 rfl w.heap.size 95 i0 (.pointer none) 1 8 Try.underlying67 hi hz0 hz1 hz2 rfl (by decide) _ 0 [] rfl (World.ownsRow_made w #[] 0 (Nat.le_refl _) (by decide) rfl) ⟨g, 0, none⟩ n cap (prow P n) rfl (by rw [prow_len, Nat.mul_one]) ?c2 (prow_one P n) ?c3 ?c4 (by simp) ?_)
  case c2 =>
    intro j u hu
    obtain ⟨hj, rfl⟩ := prow_get _ _ _ _ hu
    have hadd : (⟨g, 0, none⟩ : Addr).add j = ⟨g, j, none⟩ := by unfold Addr.add; split <;> simp_all
    rw [hadd]
    exact ((below_new w _).cell (cell_lt (HC.out j hj))).trans (HC.out j hj)
  case c3 => unfold maxLen; omega
  case c4 => omega
  intro v' w1 hown hgrow hnn
  have HNN : Hid ((v' = .slice none 0 0) = False) := eq_false hnn
  clear hnn
  have HO : Hid (w1.ownsRow w.heap.size 95 1 v' n (prow P n)) := by
    show World.ownsRow _ _ _ _ _ _ _
    simpa using hown
  have HB : Hid (Below w.heap.size w w1) := (below_new w _).grown hgrow (by simp) (fun k hk => by simp [Value.ownBlock] at hk; omega)
  clear hown hgrow
  go_wp2
  go_ret
  exact ⟨_, rfl, HO.out, of_eq_false HNN.out, HB.out⟩
end Go.Proofs.Ytbfimedgichiiaa
namespace Go.Proofs.Ytbfimedgichiiaa
set_option linter.unusedVariables false
set_option linter.unusedSimpArgs false
set_option maxRecDepth 100000
open Go.ChangeShapes Go.WideShapes Go.ChangeAt Go.RowKit

theorem infoSz : (Try.prog.info? 95).map (·.size) = some 1 := by kernel_rfl
theorem rep_get {v u : Value} {k j : Nat} (h : (List.replicate k v)[j]? = some u) : j < k ∧ u = v := by
  have h1 : j < k := by
    have := (List.getElem?_eq_some_iff.1 h).1
    simpa using this
  rw [List.getElem?_replicate, if_pos h1] at h
  exact ⟨h1, (Option.some.inj h).symm⟩
/-- The row of Repeat: m cells drawn, the others none. -/
def repRow (v : Value) (n m : Nat) : List Value := List.replicate m v ++ List.replicate (n - m) (.pointer none)
theorem repRow_len (v : Value) (n m : Nat) (h : m ≤ n) : (repRow v n m).length = n := by unfold repRow; simp; omega
theorem repRow_splice (v : Value) (n m k : Nat) (h : m + k ≤ n) : splice (repRow v n m) m (List.replicate k v) = repRow v n (m + k) := by
  unfold splice repRow
  rw [List.take_append_of_le_length (by simp), List.take_of_length_le (by simp), List.drop_append]
  simp only [List.length_replicate, List.drop_replicate]
  rw [show m - (m + k) = 0 by omega, show m + k - m = k by omega, ← List.append_assoc, List.replicate_append_replicate, Nat.sub_sub]
  simp
theorem repRow_at (v : Value) (n m j : Nat) (h : j < m) : (repRow v n m)[j]? = some v := by
  unfold repRow
  rw [List.getElem?_append_left (by simpa using h), List.getElem?_replicate, if_pos h]
theorem repRow_cell (w : World) (G : Nat) (v : Value) (n m j : Nat) (t : TypeId) (hG : w.heap[G]? = some (.cells (repRow v n m).toArray t (0, 0))) (h : j < m) : w.cell? ⟨G, j, none⟩ = some v := by
  unfold World.cell?
  simp [hG, repRow_at v n m j h]
theorem slicep_from (g f len cap k : Nat) (hk : k ≤ len) (hc : len ≤ cap) : ∃ A : Option Addr, (k < len → A = some ⟨g, f + k, none⟩) ∧ ∀ w : World, (Instr.sliceAt 67 (.slice (some ⟨g, f, none⟩) len cap) (some (.int .i64 (k : Int))) none none).run Try.prog w = .ok (.slice A (len - k) (cap - k)) w := by
  refine ⟨if cap = k then some ⟨g, f, none⟩ else some ((⟨g, f, none⟩ : Addr).add k), fun h => ?_, fun w => ?_⟩
  · rw [if_neg (by omega)]
    unfold Addr.add
    by_cases h0 : k = 0
    · subst h0; rfl
    · simp [h0]
  · have hE : Try.prog.elem 67 = 95 := by kernel_rfl
    have ht : Try.prog.underlying 67 = some (.slice (Try.prog.elem 67)) := by kernel_rfl
    rw [run_sliceAt_slice w 67 _ _ _ _ ht, run_slice_l w 67 _ len cap ht .i64 k (by omega) (by omega), hE, Try.sizeOf95]
    show Result.ok (sliced (some ⟨g, f, none⟩) ((k : Int)).toNat len cap 1) w = _
    unfold sliced
    rw [Int.toNat_natCast, Nat.mul_one]
    by_cases h : cap = k <;> simp [h]
theorem slicep_to (g f len cap k : Nat) (hk : k ≤ len) (hc : len ≤ cap) (w : World) : (Instr.sliceAt 67 (.slice (some ⟨g, f, none⟩) len cap) none (some (.int .i64 (k : Int))) none).run Try.prog w = .ok (.slice (some ⟨g, f, none⟩) k cap) w := by
  have hE : Try.prog.elem 67 = 95 := by kernel_rfl
  have ht : Try.prog.underlying 67 = some (.slice (Try.prog.elem 67)) := by kernel_rfl
  rw [run_sliceAt_slice w 67 _ _ _ _ ht, run_slice_h w 67 _ len cap ht .i64 k (by omega) (by omega), hE, Try.sizeOf95]
  show Result.ok (sliced (some ⟨g, f, none⟩) 0 ((k : Int)).toNat cap 1) w = _
  unfold sliced Addr.add
  rw [Int.toNat_natCast]
  simp
set_option maxHeartbeats 1000000 in
theorem c_Repeat (g n : Nat) (v : Value) (w : World) (h1v : v.oneCell' = true) (hn1 : 1 ≤ n) (hn : n ≤ 4096) (hc : w.cell? ⟨g, 0, none⟩ = some v) :
    Calls Try.prog 57 #[.slice (some ⟨g, 0, none⟩) 1 1, .int .i64 n] w fun e w' =>
      e = .returned (.slice (some ⟨w.heap.size, 0, none⟩) n n) ∧ w'.heap[w.heap.size]? = some (.cells (List.replicate n v).toArray 95 (0, 0)) ∧ Below w.heap.size w w' := by
  obtain ⟨i0, hi, hz0, hz1, hz2⟩ := info_parts infoPP
  have HC := Lib.hid hc
  clear hc
  go_enter Try.func57, Try.ntmps57
  go_wp2_with first
    | (go_at_call 72; refine (c_Mul n _ (by omega) (by omega)).mono ?_; rintro e w' ⟨rfl, rfl⟩)
    | (refine wpList_make_row _ rfl _ _ 67 rfl 95 i0 (.pointer none) Try.underlying67 hi hz0 hz1 rfl .i64 .i64 n rfl rfl (by rw [hz2]; omega) (by omega) ?_)
    | (with_reducible refine wpList_copy_splice rfl (.tmp 31) (.tmp 32) 67 67 rfl 95 Try.underlying67 infoSz (some ⟨w.heap.size, 0, none⟩) (some ⟨g, 0, none⟩) n n 1 1 rfl rfl w.heap.size 0 (repRow v n 0) 95 ?e1 [v] ?e2 ?e3 ?e4 ?e5 w.heap.size w ?e6 (Nat.le_refl _) ?_)
  case e1 =>
    rw [heap_alloc_new]
    congr 2
    apply Array.ext'
    rw [toList_madeCells_one]
    simp [repRow]
  case e2 => show 1 = min 1 n; omega
  case e3 =>
    intro j u hu
    obtain ⟨hj, rfl⟩ := rep_get (k := 1) hu
    obtain rfl : j = 0 := by omega
    exact ((below_new w _).cell (cell_lt HC.out)).trans HC.out
  case e4 => rw [repRow_len _ _ _ (by omega)]; simp; omega
  case e5 =>
    intro u hu
    obtain rfl := List.mem_singleton.1 hu
    exact h1v
  case e6 => exact below_new w _
  intro w1 HG1 HB1
  have HG : Hid (w1.heap[w.heap.size]? = some (.cells (repRow v n 1).toArray 95 (0, 0))) := by
    show _ = _
    rw [HG1.out, show [v] = List.replicate 1 v from rfl, repRow_splice v n 0 1 (by omega)]
  have HB := Lib.hid HB1
  clear HB1 HG1
  go_wp2_with fail
  go_loopw [8] (fun l wr => ∃ m : Nat, 1 ≤ m ∧ m ≤ n ∧ l = .int .i64 m ∧ Hid (wr.heap[w.heap.size]? = some (.cells (repRow v n m).toArray 95 (0, 0))) ∧ Hid (Below w.heap.size w wr)) (fun l _ => n - (intOf l).toNat)
  case atStart => exact ⟨1, by omega, hn1, rfl, HG, HB⟩
  case round =>
    obtain ⟨m, hm1, hm, rfl, HGr, HBr⟩ := hrel
    by_cases hlt : m < n
    · go_wp2_with fail
      obtain ⟨A3, hA3, hs3⟩ := slicep_from w.heap.size 0 n n m hm (Nat.le_refl _)
      obtain rfl := hA3 hlt
      have hs4 := slicep_to w.heap.size 0 n n m hm (Nat.le_refl _)
      obtain ⟨k, hk⟩ : ∃ k, k = Nat.min m (n - m) := ⟨_, rfl⟩
      have hk1 : k ≤ m := by rw [hk]; exact Nat.min_le_left _ _
      have hk2 : k ≤ n - m := by rw [hk]; exact Nat.min_le_right _ _
      have f1 : (List.replicate k v).length = Nat.min m (n - m) := by rw [List.length_replicate, hk]
      have f2 : m + (List.replicate k v).length ≤ (repRow v n m).length := by
        rw [List.length_replicate, repRow_len _ _ _ hm]
        omega
      have f3 : ∀ u ∈ List.replicate k v, u.oneCell' = true := by
        intro u hu
        obtain rfl := List.eq_of_mem_replicate hu
        exact h1v
      have f4 : ∀ j u, (List.replicate k v)[j]? = some u → wr.cell? ((⟨w.heap.size, 0, none⟩ : Addr).add j) = some u := by
        intro j u hu
        obtain ⟨hj, rfl⟩ := rep_get hu
        have hadd : (⟨w.heap.size, 0, none⟩ : Addr).add j = ⟨w.heap.size, j, none⟩ := by unfold Addr.add; split <;> simp_all
        rw [hadd]
        exact repRow_cell _ _ _ _ _ _ _ HGr.out (by omega)
      have F1 := Lib.hid f1
      have F2 := Lib.hid f2
      have hk0 : 1 ≤ k := by rw [hk]; show 1 ≤ min m (n - m); omega
      have hfw : IntKind.i64.wrap ((m : Int) + (k : Int)) = m + k := by simp only [IntKind.wrap, IntKind.bits, IntKind.signed]; simp; omega
      clear f1 f2 hk
      go_region_law (refine step_copy_splice rfl (.tmp 41) (.tmp 44) 67 67 rfl 95 Try.underlying67 infoSz (some ⟨w.heap.size, 0 + m, none⟩) (some ⟨w.heap.size, 0, none⟩) (n - m) (n - m) m n (by simp [Act.eval, Act.put]) (by simp [Act.eval, Act.put]) w.heap.size m (repRow v n m) 95 HGr.out (List.replicate k v) F1.out (fun _ => ⟨by rw [Nat.zero_add], _, rfl, f4⟩) F2.out f3 w.heap.size w HBr.out.drew (Nat.le_refl _) ?_; rw [List.length_replicate]; intro w4 HG4 hb4)
      all_goals
        have HB4 := Lib.hid hb4
        clear hb4
        go_wp2_with fail
        go_roundw
        case rel =>
          refine ⟨m + k, by omega, by omega, by omega, ?_⟩
          show _ = _
          rw [HG4.out, repRow_splice v n m k (by omega)]
        case measure => show n - ((m : Int) + (k : Int)).toNat < n - ((m : Int)).toNat; omega
    · obtain rfl : m = n := by omega
      clear hlt hm
      go_wp2_with fail
      go_ret
      refine ⟨rfl, ?_, HBr.out⟩
      rw [HGr.out]
      unfold repRow
      simp
set_option maxHeartbeats 1000000 in
theorem c_Repeat0 (g : Nat) (w : World) :
    Calls Try.prog 57 #[.slice (some ⟨g, 0, none⟩) 1 1, .int .i64 0] w fun e w' =>
      e = .returned (.slice (some ⟨w.heap.size, 0, none⟩) 0 0) ∧ w'.heap[w.heap.size]? = some (.cells ([] : List Value).toArray 95 (0, 0)) ∧ Below w.heap.size w w' := by
  obtain ⟨i0, hi, hz0, hz1, hz2⟩ := info_parts infoPP
  go_enter Try.func57, Try.ntmps57
  go_wp2_with first
    | (go_at_call 72; refine (c_Mul 0 _ (by omega) (by omega)).mono ?_; rintro e w' ⟨rfl, rfl⟩)
    | (refine wpList_make_row _ rfl _ _ 67 rfl 95 i0 (.pointer none) Try.underlying67 hi hz0 hz1 rfl .i64 .i64 0 rfl rfl (by omega) (by omega) ?_)
    | (with_reducible refine wpList_copy_nothing rfl (.tmp 31) (.tmp 32) 67 67 rfl 95 Try.underlying67 infoSz (some ⟨w.heap.size, 0, none⟩) (some ⟨g, 0, none⟩) 0 0 1 1 rfl rfl rfl ?_)
  go_rounds 1
  go_ret
  refine ⟨rfl, ?_, below_new w _⟩
  rw [heap_alloc_new]
  congr 2
  apply Array.ext'
  rw [toList_madeCells_one]
  rfl
/-- Repeat at pages, whatever their number. -/
theorem c_RepeatAll (g n : Nat) (v : Value) (w : World) (h1v : v.oneCell' = true) (hn : n ≤ 4096) (hc : w.cell? ⟨g, 0, none⟩ = some v) :
    Calls Try.prog 57 #[.slice (some ⟨g, 0, none⟩) 1 1, .int .i64 n] w fun e w' =>
      e = .returned (.slice (some ⟨w.heap.size, 0, none⟩) n n) ∧ w'.heap[w.heap.size]? = some (.cells (List.replicate n v).toArray 95 (0, 0)) ∧ Below w.heap.size w w' := by
  by_cases h : 1 ≤ n
  · exact c_Repeat g n v w h1v h hn hc
  · obtain rfl : n = 0 := by omega
    exact c_Repeat0 g w
end Go.Proofs.Ytbfimedgichiiaa
