/-
  Copies of tokens, and tokens held against each other.
-/
import Derived.Test.YtnenhehnoolhlaaDoorLexRLay
import Derived.Laws.StructEq
import Derived.Laws.AppendOwnNone
namespace Go.Proofs.YtnenhehnoolhlaaDoor
set_option linter.unusedVariables false
set_option linter.unusedSimpArgs false
set_option maxRecDepth 100000
open Go.RowKit

theorem eq_tok (k a n : Int) (s : ByteArray) (w : World) : (binOp .eql 35 (.agg #[.int .i64 k, .int .i64 a, .int .i64 n, .string s]) (.agg #[.int .i64 k, .int .i64 a, .int .i64 n, .string s])).run Tryd.prog w = .ok (.bool true) w := by
  have u3 := Tryd.underlying3
  have a3 := Tryd.isAgg3
  have z3 := Tryd.sizeOf3
  have u9 := Tryd.underlying9
  have a9 := Tryd.isAgg9
  have z9 := Tryd.sizeOf9
  have hS : Tryd.prog.underlying 35 = some (.struct (Tryd.prog.fieldsOf 35)) := by kernel_rfl
  have hp : Tryd.prog.stoodInHeld 35 = false := by kernel_rfl
  rw [run_eql_struct, show (10000 : Nat) = 9999 + 1 from rfl, run_equalIn_agg w 9999 35 _ _ hS hp]
  simp only [Program.fieldsOf, Tryd.underlying35]
  go_simp
theorem neq_tok (k a n : Int) (s : ByteArray) (w : World) : (binOp .neq 35 (.agg #[.int .i64 k, .int .i64 a, .int .i64 n, .string s]) (.agg #[.int .i64 k, .int .i64 a, .int .i64 n, .string s])).run Tryd.prog w = .ok (.bool false) w := by
  have h := eq_tok k a n s w
  rw [run_eql_struct] at h
  rw [run_neq_struct]
  cases hc : (Op.equalIn 10000 35 (.agg #[.int .i64 k, .int .i64 a, .int .i64 n, .string s]) (.agg #[.int .i64 k, .int .i64 a, .int .i64 n, .string s])).run Tryd.prog w with
  | ok r w2 =>
    rw [hc] at h
    simp only [Result.andThen_ok, Result.ok.injEq, Value.bool.injEq] at h ⊢
    exact ⟨by rw [h.1]; rfl, h.2⟩
  | halt r w2 =>
    rw [hc] at h
    cases h
theorem TksIn.next {w w' : World} {a : Option Addr} {L : List Tk} (h : TksIn w a L) (hb : Below w.heap.size w w') : TksIn w' a L := fun h0 => by
  obtain ⟨b, off, e, hc⟩ := h h0
  refine ⟨b, off, e, fun k t ht => ?_⟩
  obtain ⟨c0, c1, c2, c3⟩ := hc k t ht
  exact ⟨(hb.cell (cell_lt c0)).trans c0, (hb.cell (cell_lt c1)).trans c1, (hb.cell (cell_lt c2)).trans c2, (hb.cell (cell_lt c3)).trans c3⟩
def tkVal (t : Tk) (j : Nat) : Value := if j = 0 then .int .i64 t.kind else if j = 1 then .int .i64 t.at' else if j = 2 then .int .i64 t.int else .string ⟨t.text.toArray⟩
def tkAt (L : List Tk) (i : Nat) : Tk := L[i]?.getD ⟨0, 0, 0, []⟩
def rowT (L : List Tk) : List Value := (List.range (L.length * 4)).map fun q => tkVal (tkAt L (q / 4)) (q % 4)
theorem rowT_len (L : List Tk) : (rowT L).length = L.length * 4 := by unfold rowT; simp
theorem rowT_at (L : List Tk) (q : Nat) (h : q < L.length * 4) : (rowT L)[q]? = some (tkVal (tkAt L (q / 4)) (q % 4)) := by
  unfold rowT
  rw [List.getElem?_map, List.getElem?_range h]
  rfl
theorem tkVal_one (t : Tk) (j : Nat) : (tkVal t j).oneCell' = true := by
  unfold tkVal
  (repeat' split) <;> rfl
theorem rowT_one (L : List Tk) : ∀ u ∈ rowT L, u.oneCell' = true := by
  intro u hu
  unfold rowT at hu
  obtain ⟨q, _, rfl⟩ := List.mem_map.1 hu
  exact tkVal_one _ _
theorem tks_at {w : World} {b off : Nat} {L : List Tk} (h : ∀ (k : Nat) t, L[k]? = some t →
  w.cell? ⟨b, off + k * 4, none⟩ = some (.int .i64 t.kind) ∧ w.cell? ⟨b, off + k * 4 + 1, none⟩ = some (.int .i64 t.at') ∧ w.cell? ⟨b, off + k * 4 + 2, none⟩ = some (.int .i64 t.int) ∧ w.cell? ⟨b, off + k * 4 + 3, none⟩ = some (.string ⟨t.text.toArray⟩)) (i j : Nat) (hi : i < L.length) (hj : j < 4) : w.cell? ⟨b, off + i * 4 + j, none⟩ = some (tkVal (tkAt L i) j) := by
  have ht : L[i]? = some (tkAt L i) := by unfold tkAt; rw [List.getElem?_eq_getElem hi]; rfl
  obtain ⟨c0, c1, c2, c3⟩ := h i _ ht
  have : j = 0 ∨ j = 1 ∨ j = 2 ∨ j = 3 := by omega
  rcases this with rfl | rfl | rfl | rfl
  · exact c0
  · exact c1
  · exact c2
  · exact c3
theorem rowT_in {w : World} {b off : Nat} {L : List Tk} (h : ∀ (k : Nat) t, L[k]? = some t →
  w.cell? ⟨b, off + k * 4, none⟩ = some (.int .i64 t.kind) ∧ w.cell? ⟨b, off + k * 4 + 1, none⟩ = some (.int .i64 t.at') ∧ w.cell? ⟨b, off + k * 4 + 2, none⟩ = some (.int .i64 t.int) ∧ w.cell? ⟨b, off + k * 4 + 3, none⟩ = some (.string ⟨t.text.toArray⟩)) : ∀ (j : Nat) (u : Value), (rowT L)[j]? = some u → w.cell? ((⟨b, off, none⟩ : Addr).add j) = some u := by
  intro q u hu
  have hq : q < L.length * 4 := by
    rcases Nat.lt_or_ge q (L.length * 4) with h | h
    · exact h
    · rw [List.getElem?_eq_none (by rw [rowT_len]; exact h)] at hu
      cases hu
  rw [rowT_at L q hq] at hu
  cases hu
  have hadd : (⟨b, off, none⟩ : Addr).add q = ⟨b, off + q / 4 * 4 + q % 4, none⟩ := by
    have e : off + q / 4 * 4 + q % 4 = off + q := by omega
    rw [e]
    unfold Addr.add
    split <;> simp_all
  rw [hadd]
  exact tks_at h (q / 4) (q % 4) (by omega) (by omega)
theorem tks_of_row {w : World} {base : Nat} {v : Value} {L : List Tk} (h : w.ownsRow base 35 4 v L.length (rowT L)) : ∃ a cap, v = .slice a L.length cap ∧ L.length ≤ cap ∧ TksIn w a L := by
  have h0 := h
  rcases h.2 with ⟨rfl, hn⟩ | ⟨g, cap, cur, rfl, hg, hh, hle, hcap, hsz, htake⟩
  · exact ⟨none, 0, by rw [hn], by omega, fun h => by omega⟩
  · refine ⟨_, cap, rfl, hle, fun _ => ⟨g, 0, rfl, fun k t ht => ?_⟩⟩
    have hk : k < L.length := (List.getElem?_eq_some_iff.1 ht).1
    have htk : tkAt L k = t := by unfold tkAt; rw [ht]; rfl
    have key : ∀ j, j < 4 → w.cell? ⟨g, 0 + k * 4 + j, none⟩ = some (tkVal t j) := by
      intro j hj
      have e : 0 + k * 4 + j = k * 4 + j := by omega
      rw [e, h0.cellAt (k * 4 + j) (by omega), rowT_at L _ (by omega), ← htk]
      rw [show (k * 4 + j) / 4 = k by omega, show (k * 4 + j) % 4 = j by omega]
    exact ⟨key 0 (by decide), key 1 (by decide), key 2 (by decide), key 3 (by decide)⟩
theorem infoTk : (Tryd.prog.info? 35).map (fun i => (i.zero, i.size, i.bytes)) = some (some (.agg #[.int .i64 0, .int .i64 0, .int .i64 0, .string ByteArray.empty]), 4, 40) := by kernel_rfl
theorem wp_copyT {w : World} {ops : Array Oper} {rest : List Oper} {o : Oper} {ac : Act} {Q : Exit → Act → World → Prop} (hgd : o.guard = none) (s x : Operand)
    (ho : o.op = .call { callee := .builtin .append, args := #[s, x], argTypes := #[22, 22] })
    (base : Nat) (v : Value) (hs : ac.eval s = v) (hown : w.ownsRow base 35 4 v 0 [])
    (a : Option Addr) (n c : Nat) (L : List Tk) (hn : L.length = n) (hx : ac.eval x = .slice a n c) (hX : TksIn w a L) (hnil : a = none → n = 0 ∧ c = 0) (hr : n * 40 ≤ 140737488355328) (hbase : base ≤ w.heap.size)
    (h : ∀ a' cap' w', n ≤ cap' → TksIn w' a' L → w.grownBy w' v.ownBlock → wpList Tryd.prog ops Q rest (ac.put o.dst (.slice a' n cap')) w') : wpList Tryd.prog ops Q (o :: rest) ac w := by
  obtain ⟨i0, hi, hz0, hz1, hz2⟩ := info_parts infoTk
  subst hn
  cases a with
  | none =>
    obtain ⟨h0, rfl⟩ := hnil rfl
    obtain rfl : L = [] := List.eq_nil_of_length_eq_zero h0
    obtain ⟨a', cap', hv, hc, hI⟩ := tks_of_row (L := []) (v := v) (by rw [show rowT [] = [] from rfl]; exact hown)
    subst hv
    exact wpList_append_own_none hgd s x 22 ho base 35 i0 4 Tryd.underlying22 hi _ 0 [] hs hown hx (h _ _ _ hc hI (World.grownBy.refl _ _))
  | some ad =>
    refine wpList_append_own w hgd s x 22 ho base 35 i0 _ 4 40 Tryd.underlying22 hi hz0 hz1 hz2 rfl (by decide) v 0 [] hs hown ad L.length c (rowT L) hx (rowT_len L) ?_ (rowT_one L) (by unfold maxLen; omega) (by omega) hbase ?_
    · by_cases h0 : 0 < L.length
      · obtain ⟨b, off, he, hX2⟩ := hX h0
        cases he
        exact rowT_in hX2
      · intro j u hu
        rw [List.getElem?_eq_none (by rw [rowT_len]; omega)] at hu
        cases hu
    · intro v' w' hown' hg _
      rw [Nat.zero_add, List.nil_append] at hown'
      obtain ⟨a', cap', hv, hc, hI⟩ := tks_of_row hown'
      subst hv
      exact h _ _ _ hc hI hg
set_option maxHeartbeats 2000000 in
theorem c_same (a a2 : Option Addr) (n cap cap2 : Nat) (L : List Tk) (w : World) (hn : L.length = n) (hc : n ≤ cap) (hc2 : n ≤ cap2) (hm : n ≤ 140737488355328) (hS : TksIn w a L) (hS2 : TksIn w a2 L) :
    Calls Tryd.prog 6 #[.slice a n cap, .slice a2 n cap2, .bool true] w fun e w' => e = .returned (.bool true) ∧ Below w.heap.size w w' := by
  have HS := Lib.hid hS
  have HS2 := Lib.hid hS2
  have HN := Lib.hid hn
  clear hS hS2 hn
  have hneq := neq_tok
  go_enter Tryd.func6, Tryd.ntmps6
  go_wp2_with fail
  go_loopw [7] (fun i wr => ∃ k : Nat, k ≤ n ∧ i = .int .i64 k ∧ Hid (Below w.heap.size w wr)) (fun i _ => n - (intOf i).toNat)
  case atStart => exact ⟨0, Nat.zero_le _, rfl, Below.refl _ _⟩
  case round =>
    obtain ⟨k, hk, rfl, HB⟩ := hrel
    by_cases hlt : k < n
    · obtain ⟨t, ht⟩ : ∃ t, L[k]? = some t := ⟨_, List.getElem?_eq_getElem (by rw [HN.out]; exact hlt)⟩
      obtain ⟨b, off, rfl, hcell⟩ := (HS.out.next HB.out) (by rw [HN.out]; omega)
      obtain ⟨b2, off2, rfl, hcell2⟩ := (HS2.out.next HB.out) (by rw [HN.out]; omega)
      obtain ⟨c0, c1, c2, c3⟩ := hcell k t ht
      obtain ⟨d0, d1, d2, d3⟩ := hcell2 k t ht
      obtain ⟨tk, ta, ti, tl⟩ := t
      simp only at c0 c1 c2 c3 d0 d1 d2 d3
      have hk0 : (0 : Int) ≤ (k : Int) := by omega
      have hk1 : (k : Int) < (n : Int) := by omega
      have c01 : ∀ o, (wr.alloc o).cell? ⟨b, off + k * 4, none⟩ = some (.int .i64 tk) := fun o => (World.cell?_alloc_lt _ o ⟨b, off + k * 4, none⟩ (cell_lt c0)).trans c0
      have c02 : ∀ o o', ((wr.alloc o).alloc o').cell? ⟨b, off + k * 4, none⟩ = some (.int .i64 tk) := fun o o' => (World.cell?_alloc_lt _ o' ⟨b, off + k * 4, none⟩ (cell_lt (c01 o))).trans (c01 o)
      have c11 : ∀ o, (wr.alloc o).cell? ⟨b, off + k * 4 + 1, none⟩ = some (.int .i64 ta) := fun o => (World.cell?_alloc_lt _ o ⟨b, off + k * 4 + 1, none⟩ (cell_lt c1)).trans c1
      have c12 : ∀ o o', ((wr.alloc o).alloc o').cell? ⟨b, off + k * 4 + 1, none⟩ = some (.int .i64 ta) := fun o o' => (World.cell?_alloc_lt _ o' ⟨b, off + k * 4 + 1, none⟩ (cell_lt (c11 o))).trans (c11 o)
      have c21 : ∀ o, (wr.alloc o).cell? ⟨b, off + k * 4 + 2, none⟩ = some (.int .i64 ti) := fun o => (World.cell?_alloc_lt _ o ⟨b, off + k * 4 + 2, none⟩ (cell_lt c2)).trans c2
      have c22 : ∀ o o', ((wr.alloc o).alloc o').cell? ⟨b, off + k * 4 + 2, none⟩ = some (.int .i64 ti) := fun o o' => (World.cell?_alloc_lt _ o' ⟨b, off + k * 4 + 2, none⟩ (cell_lt (c21 o))).trans (c21 o)
      have c31 : ∀ o, (wr.alloc o).cell? ⟨b, off + k * 4 + 3, none⟩ = some (.string ⟨tl.toArray⟩) := fun o => (World.cell?_alloc_lt _ o ⟨b, off + k * 4 + 3, none⟩ (cell_lt c3)).trans c3
      have c32 : ∀ o o', ((wr.alloc o).alloc o').cell? ⟨b, off + k * 4 + 3, none⟩ = some (.string ⟨tl.toArray⟩) := fun o o' => (World.cell?_alloc_lt _ o' ⟨b, off + k * 4 + 3, none⟩ (cell_lt (c31 o))).trans (c31 o)
      have d01 : ∀ o, (wr.alloc o).cell? ⟨b2, off2 + k * 4, none⟩ = some (.int .i64 tk) := fun o => (World.cell?_alloc_lt _ o ⟨b2, off2 + k * 4, none⟩ (cell_lt d0)).trans d0
      have d02 : ∀ o o', ((wr.alloc o).alloc o').cell? ⟨b2, off2 + k * 4, none⟩ = some (.int .i64 tk) := fun o o' => (World.cell?_alloc_lt _ o' ⟨b2, off2 + k * 4, none⟩ (cell_lt (d01 o))).trans (d01 o)
      have d11 : ∀ o, (wr.alloc o).cell? ⟨b2, off2 + k * 4 + 1, none⟩ = some (.int .i64 ta) := fun o => (World.cell?_alloc_lt _ o ⟨b2, off2 + k * 4 + 1, none⟩ (cell_lt d1)).trans d1
      have d12 : ∀ o o', ((wr.alloc o).alloc o').cell? ⟨b2, off2 + k * 4 + 1, none⟩ = some (.int .i64 ta) := fun o o' => (World.cell?_alloc_lt _ o' ⟨b2, off2 + k * 4 + 1, none⟩ (cell_lt (d11 o))).trans (d11 o)
      have d21 : ∀ o, (wr.alloc o).cell? ⟨b2, off2 + k * 4 + 2, none⟩ = some (.int .i64 ti) := fun o => (World.cell?_alloc_lt _ o ⟨b2, off2 + k * 4 + 2, none⟩ (cell_lt d2)).trans d2
      have d22 : ∀ o o', ((wr.alloc o).alloc o').cell? ⟨b2, off2 + k * 4 + 2, none⟩ = some (.int .i64 ti) := fun o o' => (World.cell?_alloc_lt _ o' ⟨b2, off2 + k * 4 + 2, none⟩ (cell_lt (d21 o))).trans (d21 o)
      have d31 : ∀ o, (wr.alloc o).cell? ⟨b2, off2 + k * 4 + 3, none⟩ = some (.string ⟨tl.toArray⟩) := fun o => (World.cell?_alloc_lt _ o ⟨b2, off2 + k * 4 + 3, none⟩ (cell_lt d3)).trans d3
      have d32 : ∀ o o', ((wr.alloc o).alloc o').cell? ⟨b2, off2 + k * 4 + 3, none⟩ = some (.string ⟨tl.toArray⟩) := fun o o' => (World.cell?_alloc_lt _ o' ⟨b2, off2 + k * 4 + 3, none⟩ (cell_lt (d31 o))).trans (d31 o)
      have HN0 : Hid (w.heap.size ≤ wr.heap.size) := HB.out.size
      clear hcell hcell2 ht
      go_wp2_with fail
      go_region
      all_goals
        go_wp2_with fail
        refine ⟨⟨k + 1, by omega, by simp, ((HB.out.alloc HN0.out _).alloc (Nat.le_trans HN0.out (bel_new wr _).size) _).drew⟩, ?_⟩
        simp [intOf]
        omega
    · have hge : decide (k < n) = false := by simp; omega
      obtain rfl : k = n := by omega
      clear hk hlt
      go_wp2_with fail
      go_ret
      exact ⟨rfl, HB.out⟩
end Go.Proofs.YtnenhehnoolhlaaDoor
