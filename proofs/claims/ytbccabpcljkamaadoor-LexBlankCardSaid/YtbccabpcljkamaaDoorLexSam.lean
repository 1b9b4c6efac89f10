/-
  Tokens held against each other, with their places and without.
-/
import Derived.Test.YtbccabpcljkamaaDoorLexLay
import Derived.Laws.StructEq
namespace Go.Proofs.YtbccabpcljkamaaDoor
set_option linter.unusedVariables false
set_option linter.unusedSimpArgs false
set_option maxRecDepth 100000
open Go.RowKit

theorem eq_tok (k a n : Int) (s : ByteArray) (w : World) : (binOp .eql 33 (.agg #[.int .i64 k, .int .i64 a, .int .i64 n, .string s]) (.agg #[.int .i64 k, .int .i64 a, .int .i64 n, .string s])).run Tryd.prog w = .ok (.bool true) w := by
  have u3 := Tryd.underlying3
  have a3 := Tryd.isAgg3
  have z3 := Tryd.sizeOf3
  have u9 := Tryd.underlying9
  have a9 := Tryd.isAgg9
  have z9 := Tryd.sizeOf9
  have hS : Tryd.prog.underlying 33 = some (.struct (Tryd.prog.fieldsOf 33)) := by kernel_rfl
  have hp : Tryd.prog.stoodInHeld 33 = false := by kernel_rfl
  rw [run_eql_struct, show (10000 : Nat) = 9999 + 1 from rfl, run_equalIn_agg w 9999 33 _ _ hS hp]
  simp only [Program.fieldsOf, Tryd.underlying33]
  go_simp
theorem neq_tok (k a n : Int) (s : ByteArray) (w : World) : (binOp .neq 33 (.agg #[.int .i64 k, .int .i64 a, .int .i64 n, .string s]) (.agg #[.int .i64 k, .int .i64 a, .int .i64 n, .string s])).run Tryd.prog w = .ok (.bool false) w := by
  have h := eq_tok k a n s w
  rw [run_eql_struct] at h
  rw [run_neq_struct]
  cases hc : (Op.equalIn 10000 33 (.agg #[.int .i64 k, .int .i64 a, .int .i64 n, .string s]) (.agg #[.int .i64 k, .int .i64 a, .int .i64 n, .string s])).run Tryd.prog w with
  | ok r w2 =>
    rw [hc] at h
    simp only [Result.andThen_ok, Result.ok.injEq, Value.bool.injEq] at h ⊢
    exact ⟨by rw [h.1]; rfl, h.2⟩
  | halt r w2 =>
    rw [hc] at h
    cases h
theorem TksIn.next {w w' : World} {a : Option Addr} {L : List Tk} (h : TksIn w a L) (hb : Below w.heap.size w w') : TksIn w' a L := fun h0 => by
  obtain ⟨b, off, e, hc⟩ := h h0
  refine ⟨b, off, e, fun k t ht => ?_⟩
  obtain ⟨c0, c1, c2, c3⟩ := hc k t ht
  exact ⟨(hb.cell (cell_lt c0)).trans c0, (hb.cell (cell_lt c1)).trans c1, (hb.cell (cell_lt c2)).trans c2, (hb.cell (cell_lt c3)).trans c3⟩
set_option maxHeartbeats 2000000 in
theorem c_same (a a2 : Option Addr) (n cap cap2 : Nat) (L : List Tk) (w : World) (hn : L.length = n) (hc : n ≤ cap) (hc2 : n ≤ cap2) (hm : n ≤ 140737488355328) (hS : TksIn w a L) (hS2 : TksIn w a2 L) :
    Calls Tryd.prog 9 #[.slice a n cap, .slice a2 n cap2, .bool true] w fun e w' => e = .returned (.bool true) ∧ Below w.heap.size w w' := by
  have HS := Lib.hid hS
  have HS2 := Lib.hid hS2
  have HN := Lib.hid hn
  clear hS hS2 hn
  have hneq := neq_tok
  go_enter Tryd.func9, Tryd.ntmps9
  go_wp2_with fail
  go_loopw [7] (fun i wr => ∃ k : Nat, k ≤ n ∧ i = .int .i64 k ∧ Hid (Below w.heap.size w wr)) (fun i _ => n - (intOf i).toNat)
  case atStart => exact ⟨0, Nat.zero_le _, rfl, Below.refl _ _⟩
  case round =>
    obtain ⟨k, hk, rfl, HB⟩ := hrel
    by_cases hlt : k < n
    · obtain ⟨t, ht⟩ : ∃ t, L[k]? = some t := ⟨_, List.getElem?_eq_getElem (by rw [HN.out]; exact hlt)⟩
      obtain ⟨b, off, rfl, hcell⟩ := (HS.out.next HB.out) (by rw [HN.out]; omega)
      obtain ⟨b2, off2, rfl, hcell2⟩ := (HS2.out.next HB.out) (by rw [HN.out]; omega)
      obtain ⟨c0, c1, c2, c3⟩ := hcell k t ht
      obtain ⟨d0, d1, d2, d3⟩ := hcell2 k t ht
      obtain ⟨tk, ta, ti, tl⟩ := t
      simp only at c0 c1 c2 c3 d0 d1 d2 d3
      have hk0 : (0 : Int) ≤ (k : Int) := by omega
      have hk1 : (k : Int) < (n : Int) := by omega
      have c01 : ∀ o, (wr.alloc o).cell? ⟨b, off + k * 4, none⟩ = some (.int .i64 tk) := fun o => (World.cell?_alloc_lt _ o ⟨b, off + k * 4, none⟩ (cell_lt c0)).trans c0
      have c02 : ∀ o o', ((wr.alloc o).alloc o').cell? ⟨b, off + k * 4, none⟩ = some (.int .i64 tk) := fun o o' => (World.cell?_alloc_lt _ o' ⟨b, off + k * 4, none⟩ (cell_lt (c01 o))).trans (c01 o)
      have c11 : ∀ o, (wr.alloc o).cell? ⟨b, off + k * 4 + 1, none⟩ = some (.int .i64 ta) := fun o => (World.cell?_alloc_lt _ o ⟨b, off + k * 4 + 1, none⟩ (cell_lt c1)).trans c1
      have c12 : ∀ o o', ((wr.alloc o).alloc o').cell? ⟨b, off + k * 4 + 1, none⟩ = some (.int .i64 ta) := fun o o' => (World.cell?_alloc_lt _ o' ⟨b, off + k * 4 + 1, none⟩ (cell_lt (c11 o))).trans (c11 o)
      have c21 : ∀ o, (wr.alloc o).cell? ⟨b, off + k * 4 + 2, none⟩ = some (.int .i64 ti) := fun o => (World.cell?_alloc_lt _ o ⟨b, off + k * 4 + 2, none⟩ (cell_lt c2)).trans c2
      have c22 : ∀ o o', ((wr.alloc o).alloc o').cell? ⟨b, off + k * 4 + 2, none⟩ = some (.int .i64 ti) := fun o o' => (World.cell?_alloc_lt _ o' ⟨b, off + k * 4 + 2, none⟩ (cell_lt (c21 o))).trans (c21 o)
      have c31 : ∀ o, (wr.alloc o).cell? ⟨b, off + k * 4 + 3, none⟩ = some (.string ⟨tl.toArray⟩) := fun o => (World.cell?_alloc_lt _ o ⟨b, off + k * 4 + 3, none⟩ (cell_lt c3)).trans c3
      have c32 : ∀ o o', ((wr.alloc o).alloc o').cell? ⟨b, off + k * 4 + 3, none⟩ = some (.string ⟨tl.toArray⟩) := fun o o' => (World.cell?_alloc_lt _ o' ⟨b, off + k * 4 + 3, none⟩ (cell_lt (c31 o))).trans (c31 o)
      have d01 : ∀ o, (wr.alloc o).cell? ⟨b2, off2 + k * 4, none⟩ = some (.int .i64 tk) := fun o => (World.cell?_alloc_lt _ o ⟨b2, off2 + k * 4, none⟩ (cell_lt d0)).trans d0
      have d02 : ∀ o o', ((wr.alloc o).alloc o').cell? ⟨b2, off2 + k * 4, none⟩ = some (.int .i64 tk) := fun o o' => (World.cell?_alloc_lt _ o' ⟨b2, off2 + k * 4, none⟩ (cell_lt (d01 o))).trans (d01 o)
      have d11 : ∀ o, (wr.alloc o).cell? ⟨b2, off2 + k * 4 + 1, none⟩ = some (.int .i64 ta) := fun o => (World.cell?_alloc_lt _ o ⟨b2, off2 + k * 4 + 1, none⟩ (cell_lt d1)).trans d1
      have d12 : ∀ o o', ((wr.alloc o).alloc o').cell? ⟨b2, off2 + k * 4 + 1, none⟩ = some (.int .i64 ta) := fun o o' => (World.cell?_alloc_lt _ o' ⟨b2, off2 + k * 4 + 1, none⟩ (cell_lt (d11 o))).trans (d11 o)
      have d21 : ∀ o, (wr.alloc o).cell? ⟨b2, off2 + k * 4 + 2, none⟩ = some (.int .i64 ti) := fun o => (World.cell?_alloc_lt _ o ⟨b2, off2 + k * 4 + 2, none⟩ (cell_lt d2)).trans d2
      have d22 : ∀ o o', ((wr.alloc o).alloc o').cell? ⟨b2, off2 + k * 4 + 2, none⟩ = some (.int .i64 ti) := fun o o' => (World.cell?_alloc_lt _ o' ⟨b2, off2 + k * 4 + 2, none⟩ (cell_lt (d21 o))).trans (d21 o)
      have d31 : ∀ o, (wr.alloc o).cell? ⟨b2, off2 + k * 4 + 3, none⟩ = some (.string ⟨tl.toArray⟩) := fun o => (World.cell?_alloc_lt _ o ⟨b2, off2 + k * 4 + 3, none⟩ (cell_lt d3)).trans d3
      have d32 : ∀ o o', ((wr.alloc o).alloc o').cell? ⟨b2, off2 + k * 4 + 3, none⟩ = some (.string ⟨tl.toArray⟩) := fun o o' => (World.cell?_alloc_lt _ o' ⟨b2, off2 + k * 4 + 3, none⟩ (cell_lt (d31 o))).trans (d31 o)
      have HN0 : Hid (w.heap.size ≤ wr.heap.size) := HB.out.size
      clear hcell hcell2 ht
      go_wp2_with fail
      go_region
      all_goals
        go_wp2_with fail
        refine ⟨⟨k + 1, by omega, by simp, ((HB.out.alloc HN0.out _).alloc (Nat.le_trans HN0.out (bel_new wr _).size) _).drew⟩, ?_⟩
        simp [intOf]
        omega
    · have hge : decide (k < n) = false := by simp; omega
      obtain rfl : k = n := by omega
      clear hk hlt
      go_wp2_with fail
      go_ret
      exact ⟨rfl, HB.out⟩
set_option maxHeartbeats 2000000 in
theorem c_sameF (a a2 : Option Addr) (n cap cap2 : Nat) (L M : List Tk) (hLM : ∀ (k : Nat) t, L[k]? = some t → ∃ t', M[k]? = some t' ∧ t'.kind = t.kind ∧ t'.int = t.int ∧ t'.text = t.text) (w : World) (hn : L.length = n) (hc : n ≤ cap) (hc2 : n ≤ cap2) (hm : n ≤ 140737488355328) (hS : TksIn w a L) (hS2 : TksIn w a2 M) (hnM : M.length = n) :
    Calls Tryd.prog 9 #[.slice a n cap, .slice a2 n cap2, .bool false] w fun e w' => e = .returned (.bool true) ∧ Below w.heap.size w w' := by
  have HS := Lib.hid hS
  have HS2 := Lib.hid hS2
  have HN := Lib.hid hn
  have HNM := Lib.hid hnM
  have HLM := Lib.hid hLM
  clear hS hS2 hn hnM hLM
  have hneq := neq_tok
  go_enter Tryd.func9, Tryd.ntmps9
  go_wp2_with fail
  go_loopw [7] (fun i wr => ∃ k : Nat, k ≤ n ∧ i = .int .i64 k ∧ Hid (Below w.heap.size w wr)) (fun i _ => n - (intOf i).toNat)
  case atStart => exact ⟨0, Nat.zero_le _, rfl, Below.refl _ _⟩
  case round =>
    obtain ⟨k, hk, rfl, HB⟩ := hrel
    by_cases hlt : k < n
    · obtain ⟨t, ht⟩ : ∃ t, L[k]? = some t := ⟨_, List.getElem?_eq_getElem (by rw [HN.out]; exact hlt)⟩
      obtain ⟨b, off, rfl, hcell⟩ := (HS.out.next HB.out) (by rw [HN.out]; omega)
      obtain ⟨b2, off2, rfl, hcell2⟩ := (HS2.out.next HB.out) (by rw [HNM.out]; omega)
      obtain ⟨t', ht', e1, e2, e3⟩ := HLM.out k t ht
      obtain ⟨c0, c1, c2, c3⟩ := hcell k t ht
      obtain ⟨d0, d1, d2, d3⟩ := hcell2 k t' ht'
      rw [e1] at d0
      rw [e2] at d2
      rw [e3] at d3
      obtain ⟨tb, htb⟩ : ∃ tb, t'.at' = tb := ⟨_, rfl⟩
      rw [htb] at d1
      clear htb e1 e2 e3
      obtain ⟨tk, ta, ti, tl⟩ := t
      simp only at c0 c1 c2 c3 d0 d1 d2 d3
      have hk0 : (0 : Int) ≤ (k : Int) := by omega
      have hk1 : (k : Int) < (n : Int) := by omega
      have c01 : ∀ o, (wr.alloc o).cell? ⟨b, off + k * 4, none⟩ = some (.int .i64 tk) := fun o => (World.cell?_alloc_lt _ o ⟨b, off + k * 4, none⟩ (cell_lt c0)).trans c0
      have c02 : ∀ o o', ((wr.alloc o).alloc o').cell? ⟨b, off + k * 4, none⟩ = some (.int .i64 tk) := fun o o' => (World.cell?_alloc_lt _ o' ⟨b, off + k * 4, none⟩ (cell_lt (c01 o))).trans (c01 o)
      have c11 : ∀ o, (wr.alloc o).cell? ⟨b, off + k * 4 + 1, none⟩ = some (.int .i64 ta) := fun o => (World.cell?_alloc_lt _ o ⟨b, off + k * 4 + 1, none⟩ (cell_lt c1)).trans c1
      have c12 : ∀ o o', ((wr.alloc o).alloc o').cell? ⟨b, off + k * 4 + 1, none⟩ = some (.int .i64 ta) := fun o o' => (World.cell?_alloc_lt _ o' ⟨b, off + k * 4 + 1, none⟩ (cell_lt (c11 o))).trans (c11 o)
      have c21 : ∀ o, (wr.alloc o).cell? ⟨b, off + k * 4 + 2, none⟩ = some (.int .i64 ti) := fun o => (World.cell?_alloc_lt _ o ⟨b, off + k * 4 + 2, none⟩ (cell_lt c2)).trans c2
      have c22 : ∀ o o', ((wr.alloc o).alloc o').cell? ⟨b, off + k * 4 + 2, none⟩ = some (.int .i64 ti) := fun o o' => (World.cell?_alloc_lt _ o' ⟨b, off + k * 4 + 2, none⟩ (cell_lt (c21 o))).trans (c21 o)
      have c31 : ∀ o, (wr.alloc o).cell? ⟨b, off + k * 4 + 3, none⟩ = some (.string ⟨tl.toArray⟩) := fun o => (World.cell?_alloc_lt _ o ⟨b, off + k * 4 + 3, none⟩ (cell_lt c3)).trans c3
      have c32 : ∀ o o', ((wr.alloc o).alloc o').cell? ⟨b, off + k * 4 + 3, none⟩ = some (.string ⟨tl.toArray⟩) := fun o o' => (World.cell?_alloc_lt _ o' ⟨b, off + k * 4 + 3, none⟩ (cell_lt (c31 o))).trans (c31 o)
      have d01 : ∀ o, (wr.alloc o).cell? ⟨b2, off2 + k * 4, none⟩ = some (.int .i64 tk) := fun o => (World.cell?_alloc_lt _ o ⟨b2, off2 + k * 4, none⟩ (cell_lt d0)).trans d0
      have d02 : ∀ o o', ((wr.alloc o).alloc o').cell? ⟨b2, off2 + k * 4, none⟩ = some (.int .i64 tk) := fun o o' => (World.cell?_alloc_lt _ o' ⟨b2, off2 + k * 4, none⟩ (cell_lt (d01 o))).trans (d01 o)
      have d11 : ∀ o, (wr.alloc o).cell? ⟨b2, off2 + k * 4 + 1, none⟩ = some (.int .i64 tb) := fun o => (World.cell?_alloc_lt _ o ⟨b2, off2 + k * 4 + 1, none⟩ (cell_lt d1)).trans d1
      have d12 : ∀ o o', ((wr.alloc o).alloc o').cell? ⟨b2, off2 + k * 4 + 1, none⟩ = some (.int .i64 tb) := fun o o' => (World.cell?_alloc_lt _ o' ⟨b2, off2 + k * 4 + 1, none⟩ (cell_lt (d11 o))).trans (d11 o)
      have d21 : ∀ o, (wr.alloc o).cell? ⟨b2, off2 + k * 4 + 2, none⟩ = some (.int .i64 ti) := fun o => (World.cell?_alloc_lt _ o ⟨b2, off2 + k * 4 + 2, none⟩ (cell_lt d2)).trans d2
      have d22 : ∀ o o', ((wr.alloc o).alloc o').cell? ⟨b2, off2 + k * 4 + 2, none⟩ = some (.int .i64 ti) := fun o o' => (World.cell?_alloc_lt _ o' ⟨b2, off2 + k * 4 + 2, none⟩ (cell_lt (d21 o))).trans (d21 o)
      have d31 : ∀ o, (wr.alloc o).cell? ⟨b2, off2 + k * 4 + 3, none⟩ = some (.string ⟨tl.toArray⟩) := fun o => (World.cell?_alloc_lt _ o ⟨b2, off2 + k * 4 + 3, none⟩ (cell_lt d3)).trans d3
      have d32 : ∀ o o', ((wr.alloc o).alloc o').cell? ⟨b2, off2 + k * 4 + 3, none⟩ = some (.string ⟨tl.toArray⟩) := fun o o' => (World.cell?_alloc_lt _ o' ⟨b2, off2 + k * 4 + 3, none⟩ (cell_lt (d31 o))).trans (d31 o)
      have HN0 : Hid (w.heap.size ≤ wr.heap.size) := HB.out.size
      clear hcell hcell2 ht ht'
      go_wp2_with fail
      go_region
      all_goals
        go_wp2_with fail
        refine ⟨⟨k + 1, by omega, by simp, ((HB.out.alloc HN0.out _).alloc (Nat.le_trans HN0.out (bel_new wr _).size) _).drew⟩, ?_⟩
        simp [intOf]
        omega
    · have hge : decide (k < n) = false := by simp; omega
      obtain rfl : k = n := by omega
      clear hk hlt
      go_wp2_with fail
      go_ret
      exact ⟨rfl, HB.out⟩
end Go.Proofs.YtbccabpcljkamaaDoor
