/-
  The contract of fits.
-/
import Derived.Test.YtjadckhngalmlaaGreatDoorZTrPo
import Derived.Test.YtjadckhngalmlaaGreatDoorShelf
import Derived.Deep.OwnRows
import Derived.Shelf.Slices.Clone
import Derived.Shelf.Slices.Turned
import Derived.Deep.RegionHeld3
import Derived.Deep.RegionWith
namespace Go.Proofs.YtjadckhngalmlaaGreatDoor
set_option linter.unusedVariables false
set_option linter.unusedSimpArgs false
set_option maxRecDepth 100000
open Go.RowKit

theorem infoIs : (Tryz.prog.info? 131).map (fun i => (i.zero, i.size, i.bytes)) = some (some (.slice none 0 0), 1, 24) := by kernel_rfl
theorem infoI : (Tryz.prog.info? 3).map (fun i => (i.zero, i.size, i.bytes)) = some (some (.int .i64 0), 1, 8) := by kernel_rfl
theorem int_of_row {w : World} {base : Nat} {v' : Value} {p : List Nat} (ho : w.ownsRow base 3 1 v' p.length (nuC p)) : ∃ a' c', v' = .slice a' p.length c' ∧ p.length ≤ c' ∧ IntIn (fun b => base ≤ b) p a' w := by
  obtain ⟨a', c', h1, h2, h3, h4⟩ := int_of_own ho
  exact ⟨a', c', h1, h2, h4.mono (Nat.le_refl _) fun b hb _ => ⟨hb.1, rfl⟩⟩
/-- One number is put behind a row of the call's own. -/
theorem wp_pushI {w : World} {ops : Array Oper} {rest : List Oper} {o : Oper} {ac : Act} {Q : Exit → Act → World → Prop} (hgd : o.guard = none) (s x : Operand)
    (ho : o.op = .call { callee := .builtin .append, args := #[s, x], argTypes := #[131, 131] })
    (base : Nat) (fa : Option Addr) (k fc : Nat) (xs : List Value) (hs : ac.eval s = .slice fa k fc) (hown : w.ownsRow base 3 1 (.slice fa k fc) k xs) (B : Nat) (u : Int) (hx : ac.eval x = .slice (some ⟨B, 0, none⟩) 1 1) (hc : w.cell? ⟨B, 0, none⟩ = some (.int .i64 u))
    (hk : k ≤ 1048576) (hbase : base ≤ w.heap.size)
    (h : ∀ g cap w', w'.ownsRow base 3 1 (.slice (some ⟨g, 0, none⟩) (k + 1) cap) (k + 1) (xs ++ [.int .i64 u]) → w.grownBy w' (Value.slice fa k fc).ownBlock → ((Value.slice fa k fc).ownBlock = some g ∨ g = w.heap.size) → g < w'.heap.size → wpList Tryz.prog ops Q rest (ac.put o.dst (.slice (some ⟨g, 0, none⟩) (k + 1) cap)) w') : wpList Tryz.prog ops Q (o :: rest) ac w := by
  obtain ⟨i0, hi, hz0, hz1, hz2⟩ := info_parts infoI
  refine wpList_append_lies w hgd s x 131 ho base 3 i0 (.int .i64 0) 1 8 Tryz.underlying131 hi hz0 hz1 hz2 rfl (by decide) _ k xs hs hown ⟨B, 0, none⟩ 1 1 [.int .i64 u] hx rfl ?_ ?_ (by decide) (by unfold maxLen; omega) (by omega) hbase _ rfl h
  · intro j v hv
    cases j with
    | zero => cases hv; exact hc
    | succ j => cases hv
  · intro v hv
    rw [List.mem_singleton] at hv
    subst hv
    rfl
theorem c_cloneI (S : Nat → Prop) (p : List Nat) (a : Option Addr) (c : Nat) (hp : p.length ≤ 1048576) (w : World) (h : IntIn S p a w) :
    Calls Tryz.prog 72 #[.slice a p.length c] w fun e w' => (∃ a' c', e = .returned (.slice a' p.length c') ∧ p.length ≤ c' ∧ IntIn (fun b => w.heap.size ≤ b) p a' w') ∧ Below w.heap.size w w' := by
  by_cases h0 : p.length = 0
  · have hpn : p = [] := List.eq_nil_of_length_eq_zero h0
    rw [h0]
    cases a with
    | none => exact (Any.slices_Clone_int_nil Tryz.laysNm215 0 c w).mono fun e w' ⟨he, hw⟩ => ⟨⟨none, 0, he, Nat.le_refl _, by rw [hpn]; exact IntIn.nil _ _ _⟩, by rw [hw]; exact Below.refl _ _⟩
    | some ad => exact (Any.slices_Clone_int_zero Tryz.laysNm215 ad c w).mono fun e w' ⟨v', he, ho, _, hb⟩ => ⟨by
        have ho2 : w'.ownsRow w.heap.size 3 1 v' p.length (nuC p) := by rw [hpn]; exact ho
        obtain ⟨a', c', h1, h2, h3⟩ := int_of_row ho2
        exact ⟨a', c', by rw [he, h1, h0], by omega, h3⟩, hb⟩
  · obtain ⟨b, off, ha, _, hlt, hc⟩ := h (by omega)
    subst ha
    refine (Any.slices_Clone_int Tryz.laysNm215 b off p.length c (p.map fun (q : Nat) => (q : Int)) w (by simp) (by omega) ?_).mono fun e w' ⟨v', he, ho, _, hb⟩ => ⟨?_, hb⟩
    · intro j hj
      rw [List.length_map] at hj
      have := hc j p[j] (List.getElem?_eq_getElem hj)
      rw [this]
      simp [List.getD_eq_getElem?_getD, List.getElem?_eq_getElem hj]
    · have hmm : (List.take p.length (p.map fun (q : Nat) => (q : Int))).map (Value.int .i64) = nuC p := by
        rw [List.take_of_length_le (by simp), List.map_map]
        rfl
      rw [hmm] at ho
      have ho2 : w'.ownsRow w.heap.size 3 1 v' p.length (nuC p) := ho
      obtain ⟨a', c', h1, h2, h3⟩ := int_of_row ho2
      exact ⟨a', c', by rw [he, h1], h2, h3⟩
theorem foldl_max {d : Int} : ∀ (zs : List Int) (e : Int), (∀ x ∈ zs, x ≤ d) → e ≤ d → (e = d ∨ d ∈ zs) → zs.foldl max e = d
  | [], e, _, _, h => by
    rcases h with h | h
    · exact h
    · cases h
  | z :: zs, e, h1, h2, h3 => by
    have hz := h1 z (by simp)
    show zs.foldl max (max e z) = d
    refine foldl_max zs _ (fun x hx => h1 x (by simp [hx])) (by omega) ?_
    rcases h3 with h | h
    · left; omega
    · rcases List.mem_cons.1 h with h | h
      · left; omega
      · exact .inr h
theorem c_max (l : List Nat) (a : Option Addr) (c d : Nat) (S : Nat → Prop) (w : World) (h : IntIn S l a w) (hd : d ∈ l) (hm : ∀ x ∈ l, x ≤ d) (hl : l.length ≤ 1048576) :
    Calls Tryz.prog 57 #[.slice a l.length c] w fun e w' => e = .returned (.int .i64 (d : Int)) ∧ w' = w := by
  have h0 : 0 < l.length := List.length_pos_of_mem hd
  obtain ⟨b, off, ha, _, hlt, hc⟩ := h h0
  subst ha
  refine (Any.slices_Max_int Tryz.lays113 b off l.length c (l.map fun (q : Nat) => (q : Int)) w (by omega) (by simp) (by omega) ?_).mono fun e w' ⟨he, hw⟩ => ⟨?_, hw⟩
  · intro j hj
    rw [List.length_map] at hj
    have := hc j l[j] (List.getElem?_eq_getElem hj)
    rw [this]
    simp [List.getD_eq_getElem?_getD, List.getElem?_eq_getElem hj]
  · rw [he]
    congr 2
    rw [List.take_of_length_le (by simp)]
    cases l with
    | nil => cases hd
    | cons y l =>
      unfold Lib.maxOf
      refine foldl_max _ _ (fun x hx => ?_) ?_ (.inr (List.mem_map.2 ⟨d, hd, rfl⟩))
      · obtain ⟨q, hq, rfl⟩ := List.mem_map.1 hx
        have := hm q hq
        omega
      · have := hm y (by simp)
        show (y : Int) ≤ (d : Int)
        omega
end Go.Proofs.YtjadckhngalmlaaGreatDoor
namespace Go.Proofs.YtjadckhngalmlaaGreatDoor
set_option linter.unusedVariables false
set_option linter.unusedSimpArgs false
set_option maxRecDepth 100000
open Go.RowKit

abbrev gwV (a : Option Addr) (n c P : Nat) : Value := .agg #[.slice a n c, .slice (some ⟨P, 0, none⟩) n n]
/-- Where the loop of grow stands. -/
structure GwI (t : List NdT) (a : Option Addr) (c : Nat) (w : World) (q : Nat) (v : Value) (wr : World) : Prop where
  below : Below w.heap.size w wr
  size : w.heap.size + 3 ≤ wr.heap.size
  row : ∃ cur, wr.heap[w.heap.size + 1]? = some (.cells cur 131 (0, 0)) ∧ cur.size = t.length
  g : wr.heap[w.heap.size + 1 + 1]? = some (.cells #[.slice a t.length c, .slice (some ⟨w.heap.size + 1, 0, none⟩) t.length t.length] 119 (0, 0))
  r : wr.heap[w.heap.size]? = some (.cells #[.slice none 0 0, .slice none 0 0] 119 (0, 0))
structure GwJ (t : List NdT) (w : World) (q : Nat) (free : List Nat) (ps : List (List Nat)) (v : Value) (wr : World) : Prop where
  st : grF (t.drop q) q free ps = grF t 0 [] []
  pl : ps.length = q
  fl : free.length ≤ q
  own : wr.ownsRow (w.heap.size + 3) 3 1 v free.length (nuC free)
  pt : PtIn (fun b => w.heap.size + 3 ≤ b ∧ v.ownBlock ≠ some b) ps (w.heap.size + 1) wr
/-- What grow answers. -/
def GwR (t : List NdT) (a : Option Addr) (c : Nat) (w : World) (e : Ending) (w' : World) : Prop :=
  ((∃ ps, grow t = some ps ∧ e = .returned (.tuple #[gwV a t.length c (w.heap.size + 1), .bool true]) ∧ PtIn (fun b => w.heap.size ≤ b) ps (w.heap.size + 1) w') ∨ (grow t = none ∧ ∃ a0 n0 c0 a1 n1 c1, e = .returned (.tuple #[.agg #[.slice a0 n0 c0, .slice a1 n1 c1], .bool false]))) ∧ Below w.heap.size w w'
theorem gr_step {t : List NdT} {q : Nat} {x : NdT} (h : t[q]? = some x) (free : List Nat) (ps : List (List Nat)) : grF (t.drop q) q free ps = if hpB x.kind x.n = true ∧ x.n.toNat ≤ free.length then grF (t.drop (q + 1)) (q + 1) (free.take (free.length - x.n.toNat) ++ [q]) (ps ++ [lastN free x.n.toNat]) else none := by
  obtain ⟨hlt, hx⟩ := List.getElem?_eq_some_iff.1 h
  rw [List.drop_eq_getElem_cons hlt, hx]
  rfl
theorem row_set {w : World} {g n : Nat} {T : TypeId} (h : ∃ cur, w.heap[g]? = some (.cells cur T) ∧ cur.size = n) (k : Nat) (u : Value) : ∃ cur, (w.setCell ⟨g, k, none⟩ u).heap[g]? = some (.cells cur T) ∧ cur.size = n := by
  obtain ⟨cur, h1, h2⟩ := h
  exact ⟨_, heap_setCell_same _ g k _ _ u h1, by simpa using h2⟩
theorem row_got {w : World} {g n : Nat} {T : TypeId} (h : ∃ cur, w.heap[g]? = some (.cells cur T) ∧ cur.size = n) {k : Nat} (hk : k < n) (u : Value) : (w.setCell ⟨g, k, none⟩ u).cell? ⟨g, k, none⟩ = some u := by
  obtain ⟨cur, h1, h2⟩ := h
  rw [Lib.cell_of_heap (heap_setCell_same _ g k _ _ u h1)]
  show (cur.setIfInBounds k u)[k]? = some u
  rw [Array.getElem?_setIfInBounds, if_pos rfl, if_pos (by omega)]
theorem row_kept {w : World} {g n : Nat} {T : TypeId} (h : ∃ cur, w.heap[g]? = some (.cells cur T) ∧ cur.size = n) {k j : Nat} (hk : k ≠ j) (u : Value) : (w.setCell ⟨g, k, none⟩ u).cell? ⟨g, j, none⟩ = w.cell? ⟨g, j, none⟩ := by
  obtain ⟨cur, h1, h2⟩ := h
  rw [Lib.cell_of_heap (heap_setCell_same _ g k _ _ u h1), Lib.cell_of_heap h1]
  show (cur.setIfInBounds k u)[j]? = cur[j]?
  rw [Array.getElem?_setIfInBounds, if_neg hk]
/-- Behind a round of grow: the parts of the node are cut off the ends, the node's own end is put there. -/
theorem gw_own {t : List NdT} {a : Option Addr} {c : Nat} {w wr W2 : World} {q : Nat} {free : List Nat} {ps : List (List Nat)} {fa : Option Addr} {fl fc k : Nat} (hJ : GwJ t w q free ps (.slice fa fl fc) wr) (hI : GwI t a c w q (.slice fa fl fc) wr) (hfl : free.length = fl) (hfa : fa = none → fc = 0) (hk : k ≤ fl) (hb : Below wr.heap.size wr W2) (u : Value) :
    (W2.setCell ⟨w.heap.size + 1, q, none⟩ u).ownsRow (w.heap.size + 3) 3 1 (.slice fa k fc) k (nuC (free.take k)) := by
  have h1 := own_on hJ.own hb
  rw [hfl] at h1
  have h2 := own_take h1 hk hfa
  rw [← nuC_take] at h2
  refine ownsRow_setCell_other h2 (fun h3 => ?_) u
  have := h2.lt _ h3
  have h4 : w.heap.size + 3 ≤ w.heap.size + 1 := this.1
  omega
theorem gw_next {t : List NdT} {a : Option Addr} {c : Nat} {w wr W2 : World} {q : Nat} {free : List Nat} {ps : List (List Nat)} {fa : Option Addr} {fl fc k m : Nat} {x : NdT} (hJ : GwJ t w q free ps (.slice fa fl fc) wr) (hI : GwI t a c w q (.slice fa fl fc) wr) (hfl : free.length = fl) (hx : t[q]? = some x) (hp : hpB x.kind x.n = true) (hm : x.n = (m : Int)) (hk : m + k = fl) (hb : Below wr.heap.size wr W2)
    {pa : Option Addr} {pc : Nat} (hpc : fl - k ≤ pc) (hpI : IntIn (fun b => wr.heap.size ≤ b) (free.drop k) pa W2) {o : Obj} {g cap : Nat} {w4 : World} (hown : w4.ownsRow (w.heap.size + 3) 3 1 (.slice (some ⟨g, 0, none⟩) (k + 1) cap) (k + 1) (nuC (free.take k) ++ [.int .i64 (q : Int)]))
    (hgr : ((W2.setCell ⟨w.heap.size + 1, q, none⟩ (.slice pa (fl - k) pc)).alloc o).grownBy w4 (Value.slice fa k fc).ownBlock) (hg : (Value.slice fa k fc).ownBlock = some g ∨ g = ((W2.setCell ⟨w.heap.size + 1, q, none⟩ (.slice pa (fl - k) pc)).alloc o).heap.size) :
    GwI t a c w (q + 1) (.slice (some ⟨g, 0, none⟩) (k + 1) cap) w4 ∧ ∃ free' ps', GwJ t w (q + 1) free' ps' (.slice (some ⟨g, 0, none⟩) (k + 1) cap) w4 := by
  have hq : q < t.length := (List.getElem?_eq_some_iff.1 hx).1
  have hs := hI.size
  have hs2 := hb.size
  obtain ⟨W3, hW3⟩ : ∃ W3, W2.setCell ⟨w.heap.size + 1, q, none⟩ (.slice pa (fl - k) pc) = W3 := ⟨_, rfl⟩
  have hrow2 : ∃ cur, W2.heap[w.heap.size + 1]? = some (.cells cur 131) ∧ cur.size = t.length := by
    obtain ⟨cur, h1, h2⟩ := hI.row
    exact ⟨cur, (hb.block _ (by omega)).trans h1, h2⟩
  have hrow3 := row_set hrow2 q (.slice pa (fl - k) pc)
  have hgot := row_got hrow2 hq (.slice pa (fl - k) pc)
  have hkept : ∀ j, q ≠ j → W3.cell? ⟨w.heap.size + 1, j, none⟩ = W2.cell? ⟨w.heap.size + 1, j, none⟩ := fun j hj => by rw [← hW3]; exact row_kept hrow2 hj _
  have h23 : ∀ j, j ≠ w.heap.size + 1 → W3.heap[j]? = W2.heap[j]? := fun j hj => by rw [← hW3]; exact Below.heap_setCell _ _ _ _ hj
  have hz3 : W3.heap.size = W2.heap.size := by rw [← hW3]; simp
  have hb3 : Below w.heap.size w W3 := by rw [← hW3]; exact (below_t hI.below hb (by omega)).setCell (p := ⟨w.heap.size + 1, q, none⟩) (by show w.heap.size ≤ w.heap.size + 1; omega) _
  rw [hW3] at hrow3 hgot hgr hg
  have ho : ∀ j, (Value.slice fa k fc).ownBlock = some j → w.heap.size + 3 ≤ j ∧ j < wr.heap.size := fun j hj => hJ.own.lt j (by rw [ob_len fa fl k fc fc]; exact hj)
  have hz4 : (W3.alloc o).heap.size = W3.heap.size + 1 := by simp
  have hgs := hgr.size
  have hblk : ∀ j, j < W3.heap.size → (Value.slice fa k fc).ownBlock ≠ some j → w4.heap[j]? = W3.heap[j]? := fun j hj hne => (hgr.block j (by omega) (fun e => hne e.symm)).trans (Below.heap_alloc _ _ _ hj)
  have hlow : ∀ j, j < w.heap.size + 3 → w4.heap[j]? = W3.heap[j]? := fun j hj => hblk j (by omega) (fun e => by have := (ho j e).1; omega)
  have hold : ∀ j, j < wr.heap.size → j ≠ w.heap.size + 1 → W3.heap[j]? = wr.heap[j]? := fun j hj hne => (h23 j hne).trans (hb.block j hj)
  refine ⟨⟨?_, by omega, ?_, ?_, ?_⟩, free.take k ++ [q], ps ++ [free.drop k], ?_, ?_, ?_, ?_, ?_⟩
  · exact ⟨hgr.os.trans hb3.os, hgr.tape.trans hb3.tape, hgr.output.trans hb3.output, by have := hb3.size; omega, fun j hj => (hlow j (by omega)).trans (hb3.block j hj)⟩
  · obtain ⟨cur, h1, h2⟩ := hrow3
    exact ⟨cur, (hlow _ (by omega)).trans h1, h2⟩
  · exact (hlow _ (by omega)).trans ((hold _ (by omega) (by omega)).trans hI.g)
  · exact (hlow _ (by omega)).trans ((hold _ (by omega) (by omega)).trans hI.r)
  · rw [← hJ.st, gr_step hx, if_pos ⟨hp, by omega⟩]
    unfold lastN
    rw [show x.n.toNat = m by omega, show free.length - m = k by omega]
  · rw [List.length_append, hJ.pl]; rfl
  · have := hJ.fl
    rw [List.length_append, List.length_take, List.length_singleton]; omega
  · have e1 : (free.take k ++ [q]).length = k + 1 := by rw [List.length_append, List.length_take, List.length_singleton]; omega
    rw [e1, nuC_app]
    exact hown
  · have hgn : ∀ b, b < W3.heap.size → (Value.slice fa k fc).ownBlock ≠ some b → (Value.slice (some ⟨g, 0, none⟩) (k + 1) cap).ownBlock ≠ some b := fun b hb h1 h2 => by
      have h2 : some g = some b := h2
      cases h2
      rcases hg with h3 | h3
      · exact h1 h3
      · omega
    refine ⟨by omega, fun j p hj => ?_⟩
    by_cases hjq : j < q
    · rw [List.getElem?_append_left (by rw [hJ.pl]; exact hjq)] at hj
      obtain ⟨ra, rc, c1, c2, c3⟩ := hJ.pt.row j p hj
      refine ⟨ra, rc, ?_, c2, ?_⟩
      · rw [blk_cell (hlow _ (by omega)), hkept j (by omega), hb.cell (p := ⟨w.heap.size + 1, j, none⟩) (by show w.heap.size + 1 < _; omega)]
        exact c1
      · refine c3.mono (by omega) fun b hS hlt => ?_
        have hne : (Value.slice fa k fc).ownBlock ≠ some b := by rw [ob_len fa k fl fc fc]; exact hS.2
        exact ⟨⟨hS.1, hgn b (by omega) hne⟩, (hblk b (by omega) hne).trans (hold b hlt (by have := hS.1; omega))⟩
    · have hlj := (List.getElem?_eq_some_iff.1 hj).1
      rw [List.length_append, hJ.pl, List.length_singleton] at hlj
      obtain rfl : j = q := by omega
      rw [List.getElem?_append_right (by rw [hJ.pl]; exact Nat.le_refl _), hJ.pl, Nat.sub_self] at hj
      cases hj
      have el : (free.drop k).length = fl - k := by rw [List.length_drop]; omega
      refine ⟨pa, pc, ?_, by omega, ?_⟩
      · rw [blk_cell (hlow _ (by omega)), el]
        exact hgot
      · refine hpI.mono (by omega) fun b hS hlt => ?_
        have hne : (Value.slice fa k fc).ownBlock ≠ some b := fun e => by have := (ho b e).2; omega
        exact ⟨⟨by omega, hgn b (by omega) hne⟩, (hblk b (by omega) hne).trans (h23 b (by omega))⟩
theorem gr_none {t : List NdT} (h : grF t 0 [] [] = none) : grow t = none := by unfold grow; rw [h]
set_option maxHeartbeats 4000000 in
theorem c_grow (t : List NdT) (a : Option Addr) (c : Nat) (w : World) (hl : t.length ≤ 4096) (ht : TrIn t a w) :
    Calls Tryz.prog 53 #[.slice a t.length c] w fun e w' => GwR t a c w e w' := by
  obtain ⟨N, hN⟩ : ∃ N, t.length = N := ⟨_, rfl⟩
  have hmk : ∀ w' : World, (Instr.makeSlice 117 (.int .i64 (N : Int)) (.int .i64 (N : Int))).run Tryz.prog w' = .ok (.slice (some ⟨w'.heap.size, 0, none⟩) N N) (w'.alloc (.cells (madeCells #[.slice none 0 0] N) 131)) := fun w' => run_make_row' 117 131 (.slice none 0 0) 24 Tryz.underlying117 infoIs rfl .i64 .i64 N (by omega) (by omega) w'
  have HT := Lib.hid ht
  have HN := Lib.hid hN
  have HL := Lib.hid hl
  rw [hN]
  clear ht hl hN
  go_enter Tryz.func53, Tryz.ntmps53
  go_wp2_with fail
  clear hmk
  go_loopg [5, 16] N (fun m v5 v16 wr => ∃ q : Nat, q + m = N ∧ v16 = .int .i64 (q : Int) ∧ Hid (GwI t a c w q v5 wr ∧ ∃ free ps, GwJ t w q free ps v5 wr))
  case atStart =>
    refine ⟨0, by omega, rfl, ⟨?_, by simp, ?_, ?_, ?_⟩, [], [], ?_, rfl, Nat.le_refl _, World.ownsRow_nil _ _ _ _, ?_⟩
    · exact ((below_o w _).alloc (by simp) _).alloc (by simp; omega) _
    · refine ⟨madeCells #[.slice none 0 0] N, ?_, by rw [HN.out]; simp [madeCells]⟩
      rw [Below.heap_alloc _ _ _ (by simp)]
      exact heap_alloc_at _ _ (by simp)
    · rw [HN.out]
      exact heap_alloc_at _ _ (by simp)
    · rw [Below.heap_alloc _ _ _ (by simp; omega), Below.heap_alloc _ _ _ (by simp)]
      exact heap_alloc_at _ _ rfl
    · rfl
    · exact ⟨by simp, fun k p hk => by cases hk⟩
  case round =>
    obtain ⟨q, hq, rfl, HH⟩ := hrel
    obtain ⟨hI, free, ps, hJ⟩ := HH.out
    obtain ⟨fa, fc, hv5, hfc, hfa, hfi⟩ := int_of_own hJ.own
    subst hv5
    obtain ⟨fl, hfl⟩ : ∃ fl, free.length = fl := ⟨_, rfl⟩
    have HFL := Lib.hid hfl
    rw [hfl] at hfc ⊢
    have HFC := Lib.hid (And.intro hfc hfa)
    obtain ⟨hg0, hg1, hgf⟩ := two_cells hI.g
    obtain ⟨hr0, hr1, hrf⟩ := two_cells hI.r
    have hrf0 := hrf 0
    have hrf1 := hrf 1
    have hs0 : w.heap.size < wr.heap.size := by have := hI.size; omega
    have hs1 : w.heap.size + 1 < wr.heap.size := by have := hI.size; omega
    have hs2 : w.heap.size + 1 + 1 < wr.heap.size := by have := hI.size; omega
    rw [HN.out] at hg0 hg1
    by_cases hlt : q < N
    · have hd : decide ((q : Int) < (N : Int)) = true := by simp; omega
      obtain ⟨b, off, ha, hb, hx⟩ := HT.out (by have := HN.out; omega)
      subst ha
      obtain ⟨x, hxq⟩ : ∃ x, t[q]? = some x := ⟨_, List.getElem?_eq_getElem (by have := HN.out; omega)⟩
      have hy := fun i v hi => (hI.below.cell (p := ⟨b, off + q * 6 + i, none⟩) hb).trans (hx q x hxq i v hi)
      have y0 := hy 0 _ rfl
      have y1 := hy 1 _ rfl
      have y2 := hy 2 _ rfl
      have y3 := hy 3 _ rfl
      have y4 := hy 4 _ rfl
      have y5 := hy 5 _ rfl
      rw [Nat.add_zero] at y0
      have hq0 : (0 : Int) ≤ (q : Int) := by omega
      have hqN : (q : Int) < (N : Int) := by omega
      have HP := Lib.hid (c_hasParts x.kind x.n)
      obtain ⟨hp, hhp⟩ : ∃ hp, hpB x.kind x.n = hp := ⟨_, rfl⟩
      rw [hhp] at HP
      have HX := Lib.hid (And.intro hxq hhp)
      have HY := Lib.hid hy
      have hJ_fl : Hid (fl ≤ 4096) := by have h1 := hJ.fl; have h2 := HL.out; have h3 := HN.out; show fl ≤ 4096; omega
      have HFI := Lib.hid hfi
      have HI := Lib.hid hI
      have HJ := Lib.hid hJ
      clear hy hx hxq hhp hI hJ hfi hfc hfa hgf hrf hfl
      obtain ⟨kd, hkd⟩ : ∃ kd, x.kind = kd := ⟨_, rfl⟩
      obtain ⟨nn, hnn⟩ : ∃ nn, x.n = nn := ⟨_, rfl⟩
      rw [hkd] at y0 HP
      rw [hnn] at y1 HP
      have HK := Lib.hid (And.intro hkd hnn)
      clear hkd hnn
      go_wp2_with fail
      refine (HP.out _).mono ?_
      rintro e w1 ⟨rfl, rfl⟩
      cases hp
      · go_wp2_with fail
        obtain ⟨NB, hNB⟩ : ∃ NB, (Obj.cells #[.int .i64 kd, .int .i64 nn, .int .i64 x.at', .int .i64 x.int, .string ⟨x.text.toArray⟩, .string ⟨x.type.toArray⟩] 47) = NB := ⟨_, rfl⟩
        rw [hNB]
        have hz := blk_on (two_put HI.out.r (.slice none 0 0) (.slice none 0 0)) (below_o _ NB)
        have hb9 := (two_below HI.out.below (Nat.le_refl _) (.slice none 0 0) (.slice none 0 0)).alloc (by simpa using HI.out.below.size) NB
        generalize ((wr.setCell ⟨w.heap.size, 0, none⟩ (.slice none 0 0)).setCell ⟨w.heap.size, 1, none⟩ (.slice none 0 0)).alloc NB = w9 at hz hb9 ⊢
        obtain ⟨p0, p1, _⟩ := two_cells hz
        refine bodyPost_ret (v := .tuple #[.agg #[.slice none 0 0, .slice none 0 0], .bool false]) (by simp [results, Tryz.results53, go_sem, p0, p1]) rfl ?_
        refine ⟨.inr ⟨gr_none ?_, _, _, _, _, _, _, rfl⟩, hb9⟩
        rw [← HJ.out.st, gr_step HX.out.1, if_neg]
        exact fun h => by rw [HX.out.2] at h; cases h.1
      · have HNn : Hid (0 ≤ nn) := by
          have := hp_nn HX.out.2
          rw [HK.out.2] at this
          exact this
        by_cases hgt : nn ≤ (fl : Int)
        · have hdg : decide ((fl : Int) < nn) = false := by simp; omega
          obtain ⟨m, rfl⟩ : ∃ m : Nat, nn = (m : Int) := ⟨nn.toNat, by have := HNn.out; omega⟩
          have HM : Hid (m ≤ fl) := by show m ≤ fl; omega
          obtain ⟨k, hk⟩ : ∃ k, fl - m = k := ⟨_, rfl⟩
          have HKk : Hid (m + k = fl) := by have := HM.out; show m + k = fl; omega
          have hwr : IntKind.i64.wrap ((fl : Int) - (m : Int)) = (k : Int) := by
            have h1 := HM.out
            have h2 := hJ_fl.out
            rw [IntKind.wrap_i64]
            omega
          have hk0 : (0 : Int) ≤ (k : Int) := by omega
          have hkf2 : Hid (k ≤ fl) := by have h1 := HKk.out; show k ≤ fl; omega
          have HI2 : Hid (GwI t (some ⟨b, off, none⟩) c w q (.slice fa fl fc) wr) := by have h1 := HI.out; rw [HFL.out] at h1; exact h1
          have HJ2 : Hid (GwJ t w q free ps (.slice fa fl fc) wr) := by have h1 := HJ.out; rw [HFL.out] at h1; exact h1
          have hkc : k ≤ fc := by have h1 := HKk.out; have h2 := HFC.out.1; omega
          have hwq : IntKind.i64.wrap ((q : Int) + 1) = ((q + 1 : Nat) : Int) := by
            have h1 := HN.out
            have h2 := HL.out
            rw [IntKind.wrap_i64]
            omega
          have HMs : Hid (N - (q + 1) < gk ∧ q + 1 + (N - (q + 1)) = N) := ⟨by omega, by omega⟩
          have hkf : (k : Int) ≤ (fl : Int) := by have := HKk.out; omega
          have hdg2 : decide (fl < m) = false := by have := HM.out; simp; omega
          obtain ⟨uq, huc, huf⟩ := row_cells HI.out.row (k := q) (by have := HN.out; omega)
          have hlen : (free.drop k).length = fl - k := by rw [List.length_drop, HFL.out]
          have HC : Hid (∀ W, Below wr.heap.size wr W → Calls Tryz.prog 72 #[.slice (if fc = k then fa else Option.map (fun x => x.add k) fa) (fl - k) (fc - k)] W fun e w' => (∃ a' c', e = .returned (.slice a' (fl - k) c') ∧ fl - k ≤ c' ∧ IntIn (fun b => W.heap.size ≤ b) (free.drop k) a' w') ∧ Below W.heap.size W w') := fun W hW => by
            have h1 := c_cloneI _ (free.drop k) (if fc = k then fa else Option.map (fun x => x.add k) fa) (fc - k) (by rw [hlen]; have := hJ_fl.out; omega) W (int_sub (HFI.out.next hW) (by have h1 := HKk.out; have h2 := HFL.out; omega) (by have h1 := HFC.out.1; have h2 := HFL.out; omega))
            rw [hlen] at h1
            exact h1
          clear hk hgt hlen
          go_wp2_with fail
          go_region_law (first | (go_simp; go_at_call 72; refine (HC.out _ ?hbx).mono ?_; (case hbx => exact (below_o wr _).drew); rintro e w2 ⟨⟨pa, pc, rfl, hpc, hpI⟩, hb2⟩; have hwb := below_t (below_o wr _).drew hb2 (below_o wr _).drew.size; have g1 := (hwb.cell (p := ⟨w.heap.size + 1 + 1, 1, none⟩) hs2).trans hg1; have u1 := (hwb.cell (p := ⟨w.heap.size + 1, q, none⟩) hs1).trans huc; have u2 := (hwb.frozen (p := ⟨w.heap.size + 1, q, none⟩) hs1).trans huf; have HPI := Lib.hid hpI; have HPC := Lib.hid hpc; have HWB := Lib.hid hwb; have HB2 := Lib.hid hb2; clear hpI hpc hwb hb2))
          all_goals
            generalize (if fc = k then fa else Option.map (fun x => x.add k) fa) = fA
            go_wp2_with (at_builtin; go_loud (refine wp_pushI rfl _ _ rfl (w.heap.size + 3) fa k fc (nuC (free.take k)) rfl ?own _ (q : Int) rfl ?hc ?hk ?hb ?_))
            case own => exact (gw_own HJ2.out HI2.out HFL.out HFC.out.2 hkf2.out HWB.out _).alloc _
            case hc => exact (World.cell?_alloc_at _ _ _ _ (by simp)).trans rfl
            case hk => have h1 := HKk.out; have h2 := hJ_fl.out; omega
            case hb => have h1 := HWB.out.size; simp; omega
            intro g cap w4 hown hgr hg hglt
            go_wp2_with fail
            go_roundg (N - (q + 1))
            case measure => exact HMs.out.1
            case rel =>
              refine ⟨q + 1, HMs.out.2, rfl, ?_⟩
              exact gw_next HJ2.out HI2.out HFL.out HX.out.1 HX.out.2 HK.out.2 HKk.out HWB.out HPC.out (HPI.out.mono (Nat.le_refl _) fun b hb _ => ⟨Nat.le_trans (below_o wr _).size hb, rfl⟩) hown hgr (hg.elim (fun h1 => .inl h1) fun h1 => .inr (by rw [h1]; simp))
        · have hdg : decide ((fl : Int) < nn) = true := by simp; omega
          go_wp2_with fail
          obtain ⟨NB, hNB⟩ : ∃ NB, (Obj.cells #[.int .i64 kd, .int .i64 nn, .int .i64 x.at', .int .i64 x.int, .string ⟨x.text.toArray⟩, .string ⟨x.type.toArray⟩] 47) = NB := ⟨_, rfl⟩
          rw [hNB]
          have hz := blk_on (two_put HI.out.r (.slice none 0 0) (.slice none 0 0)) (below_o _ NB)
          have hb9 := (two_below HI.out.below (Nat.le_refl _) (.slice none 0 0) (.slice none 0 0)).alloc (by simpa using HI.out.below.size) NB
          generalize ((wr.setCell ⟨w.heap.size, 0, none⟩ (.slice none 0 0)).setCell ⟨w.heap.size, 1, none⟩ (.slice none 0 0)).alloc NB = w9 at hz hb9 ⊢
          obtain ⟨p0, p1, _⟩ := two_cells hz
          refine bodyPost_ret (v := .tuple #[.agg #[.slice none 0 0, .slice none 0 0], .bool false]) (by simp [results, Tryz.results53, go_sem, p0, p1]) rfl ?_
          refine ⟨.inr ⟨gr_none ?_, _, _, _, _, _, _, rfl⟩, hb9⟩
          rw [← HJ.out.st, gr_step HX.out.1, if_neg]
          exact fun h => by have h1 := h.2; have h2 := HK.out.2; have h3 := HFL.out; have h4 := HNn.out; omega
    · have hd : decide ((q : Int) < (N : Int)) = false := by simp; omega
      by_cases h1 : fl = 1
      · have hd1 : ((fl : Int) == 1) = true := by simp [h1]
        go_wp2_with fail
        have hz := two_put hI.r (.slice a N c) (.slice (some ⟨w.heap.size + 1, 0, none⟩) N N)
        have hb9 := two_below hI.below (Nat.le_refl _) (.slice a N c) (.slice (some ⟨w.heap.size + 1, 0, none⟩) N N)
        have hbl : ∀ j, j ≠ w.heap.size → ((wr.setCell ⟨w.heap.size, 0, none⟩ (.slice a N c)).setCell ⟨w.heap.size, 1, none⟩ (.slice (some ⟨w.heap.size + 1, 0, none⟩) N N)).heap[j]? = wr.heap[j]? := fun j hj => (Below.heap_setCell _ _ _ _ hj).trans (Below.heap_setCell _ _ _ _ hj)
        have hsz : ((wr.setCell ⟨w.heap.size, 0, none⟩ (.slice a N c)).setCell ⟨w.heap.size, 1, none⟩ (.slice (some ⟨w.heap.size + 1, 0, none⟩) N N)).heap.size = wr.heap.size := by simp
        generalize (wr.setCell ⟨w.heap.size, 0, none⟩ (.slice a N c)).setCell ⟨w.heap.size, 1, none⟩ (.slice (some ⟨w.heap.size + 1, 0, none⟩) N N) = w9 at hz hb9 hbl hsz ⊢
        obtain ⟨p0, p1, _⟩ := two_cells hz
        refine bodyPost_ret (v := .tuple #[gwV a N c (w.heap.size + 1), .bool true]) (by simp [results, Tryz.results53, go_sem, p0, p1]) rfl ?_
        obtain rfl : q = N := by omega
        have hg := hJ.st
        have hN := HN.out
        rw [← hN, List.drop_length] at hg
        have hg : some (free, ps) = grF t 0 [] [] := hg
        have hgr : grow t = if free.length = 1 then some ps else none := by unfold grow; rw [← hg]
        rw [HFL.out, if_pos h1] at hgr
        refine ⟨.inl ⟨ps, hgr, by rw [hN], ?_⟩, hb9⟩
        exact hJ.pt.mono (by omega) (hbl _ (by omega)) fun b hb _ => ⟨by have := hb.1; omega, hbl _ (by have := hb.1; omega)⟩
      · have hd1 : ((fl : Int) == 1) = false := by simp; omega
        go_wp2_with fail
        have hz := two_put hI.r (.slice a N c) (.slice (some ⟨w.heap.size + 1, 0, none⟩) N N)
        have hb9 := two_below hI.below (Nat.le_refl _) (.slice a N c) (.slice (some ⟨w.heap.size + 1, 0, none⟩) N N)
        have hbl : ∀ j, j ≠ w.heap.size → ((wr.setCell ⟨w.heap.size, 0, none⟩ (.slice a N c)).setCell ⟨w.heap.size, 1, none⟩ (.slice (some ⟨w.heap.size + 1, 0, none⟩) N N)).heap[j]? = wr.heap[j]? := fun j hj => (Below.heap_setCell _ _ _ _ hj).trans (Below.heap_setCell _ _ _ _ hj)
        have hsz : ((wr.setCell ⟨w.heap.size, 0, none⟩ (.slice a N c)).setCell ⟨w.heap.size, 1, none⟩ (.slice (some ⟨w.heap.size + 1, 0, none⟩) N N)).heap.size = wr.heap.size := by simp
        generalize (wr.setCell ⟨w.heap.size, 0, none⟩ (.slice a N c)).setCell ⟨w.heap.size, 1, none⟩ (.slice (some ⟨w.heap.size + 1, 0, none⟩) N N) = w9 at hz hb9 hbl hsz ⊢
        obtain ⟨p0, p1, _⟩ := two_cells hz
        refine bodyPost_ret (v := .tuple #[gwV a N c (w.heap.size + 1), .bool false]) (by simp [results, Tryz.results53, go_sem, p0, p1]) rfl ?_
        obtain rfl : q = N := by omega
        have hg := hJ.st
        have hN := HN.out
        rw [← hN, List.drop_length] at hg
        have hg : some (free, ps) = grF t 0 [] [] := hg
        have hgr : grow t = if free.length = 1 then some ps else none := by unfold grow; rw [← hg]
        rw [HFL.out, if_neg h1] at hgr
        exact ⟨.inr ⟨hgr, _, _, _, _, _, _, rfl⟩, hb9⟩
end Go.Proofs.YtjadckhngalmlaaGreatDoor
namespace Go.Proofs.YtjadckhngalmlaaGreatDoor
set_option linter.unusedVariables false
set_option linter.unusedSimpArgs false
set_option maxRecDepth 100000
open Go.RowKit

theorem infoB : (Tryz.prog.info? 4).map (fun i => (i.zero, i.size, i.bytes)) = some (some (.bool false), 1, 1) := by kernel_rfl
/-- One cell of a row is written; all else that lay there stays. -/
structure Put1 (B q : Nat) (u : Value) (wr w4 : World) : Prop where
  oth : ∀ j, j < wr.heap.size → j ≠ B → w4.heap[j]? = wr.heap[j]?
  row : w4.heap[B]? = (wr.setCell ⟨B, q, none⟩ u).heap[B]?
  size : wr.heap.size ≤ w4.heap.size
  os : w4.os = wr.os
  tape : w4.tape = wr.tape
  output : w4.output = wr.output
theorem Put1.set (B q : Nat) (u : Value) (wr : World) : Put1 B q u wr (wr.setCell ⟨B, q, none⟩ u) :=
  ⟨fun j hj hne => Below.heap_setCell _ _ _ _ hne, rfl, by simp, rfl, rfl, rfl⟩
theorem Put1.alloc {B q : Nat} {u : Value} {wr w4 : World} (h : Put1 B q u wr w4) (hB : B < w4.heap.size) (o : Obj) : Put1 B q u wr (w4.alloc o) :=
  ⟨fun j hj hne => (Below.heap_alloc _ _ _ (Nat.lt_of_lt_of_le hj h.size)).trans (h.oth j hj hne), (Below.heap_alloc _ _ _ hB).trans h.row, by have := h.size; simp; omega, h.os, h.tape, h.output⟩
theorem Put1.drew {B q : Nat} {u : Value} {wr w4 : World} (h : Put1 B q u wr w4) : Put1 B q u wr w4.drew := ⟨h.oth, h.row, h.size, h.os, h.tape, h.output⟩
theorem Put1.below {B q : Nat} {u : Value} {w wr w4 : World} (h : Put1 B q u wr w4) (hb : Below w.heap.size w wr) (hB : w.heap.size ≤ B) : Below w.heap.size w w4 :=
  ⟨h.os.trans hb.os, h.tape.trans hb.tape, h.output.trans hb.output, Nat.le_trans hb.size h.size, fun j hj => (h.oth j (by have := hb.size; omega) (by omega)).trans (hb.block j hj)⟩
theorem Put1.got {B q n : Nat} {u : Value} {T : TypeId} {wr w4 : World} (h : Put1 B q u wr w4) (hr : ∃ cur, wr.heap[B]? = some (.cells cur T) ∧ cur.size = n) (hq : q < n) : w4.cell? ⟨B, q, none⟩ = some u :=
  (blk_cell h.row q).trans (row_got hr hq u)
theorem Put1.kept {B q n j : Nat} {u : Value} {T : TypeId} {wr w4 : World} (h : Put1 B q u wr w4) (hr : ∃ cur, wr.heap[B]? = some (.cells cur T) ∧ cur.size = n) (hj : q ≠ j) : w4.cell? ⟨B, j, none⟩ = wr.cell? ⟨B, j, none⟩ :=
  (blk_cell h.row j).trans (row_kept hr hj u)
theorem Put1.rows {B q n : Nat} {u : Value} {T : TypeId} {wr w4 : World} (h : Put1 B q u wr w4) (hr : ∃ cur, wr.heap[B]? = some (.cells cur T) ∧ cur.size = n) : ∃ cur, w4.heap[B]? = some (.cells cur T) ∧ cur.size = n := by
  rw [h.row]
  exact row_set hr q u
/-- Truths lie in a row. -/
structure BoIn (L : List Bool) (B : Nat) (w : World) : Prop where
  lt : B < w.heap.size
  row : ∀ (k : Nat) (x : Bool), L[k]? = some x → w.cell? ⟨B, k, none⟩ = some (.bool x)
theorem BoIn.next {L : List Bool} {B : Nat} {w w' : World} (h : BoIn L B w) (hb : Below w.heap.size w w') : BoIn L B w' :=
  ⟨Nat.lt_of_lt_of_le h.lt hb.size, fun k x hk => (blk_cell (hb.block B h.lt) _).trans (h.row k x hk)⟩
structure OpI (t : List NdT) (ps : List (List Nat)) (a : Option Addr) (c P : Nat) (w : World) (q : Nat) (L : List Bool) (wr : World) : Prop where
  below : Below w.heap.size w wr
  size : w.heap.size + 1 < wr.heap.size
  box : wr.heap[w.heap.size]? = some (.cells #[.slice a t.length c, .slice (some ⟨P, 0, none⟩) t.length t.length] 119)
  row : ∃ cur, wr.heap[w.heap.size + 1]? = some (.cells cur 4) ∧ cur.size = t.length
  st : opF (t.drop q) (ps.drop q) L = opF t ps []
  ll : L.length = q
  vs : ∀ k, k < t.length → wr.cell? ⟨w.heap.size + 1, k, none⟩ = some (.bool (L.getD k false))
theorem op_step {t : List NdT} {ps : List (List Nat)} {q : Nat} {x : NdT} {p : List Nat} (hx : t[q]? = some x) (hp : ps[q]? = some p) (L : List Bool) : opF (t.drop q) (ps.drop q) L = opF (t.drop (q + 1)) (ps.drop (q + 1)) (L ++ [opN x p L]) := by
  obtain ⟨h1, h2⟩ := List.getElem?_eq_some_iff.1 hx
  obtain ⟨h3, h4⟩ := List.getElem?_eq_some_iff.1 hp
  rw [List.drop_eq_getElem_cons h1, List.drop_eq_getElem_cons h3, h2, h4]
  rfl
theorem getD_snoc {L : List Bool} {b : Bool} {k : Nat} : (L ++ [b]).getD k false = if k = L.length then b else L.getD k false := by
  rw [List.getD_eq_getElem?_getD, List.getD_eq_getElem?_getD]
  by_cases h : k < L.length
  · rw [List.getElem?_append_left h, if_neg (by omega)]
  · rw [List.getElem?_append_right (by omega)]
    by_cases h2 : k = L.length
    · rw [if_pos h2, h2, Nat.sub_self]
      rfl
    · rw [if_neg h2, List.getElem?_eq_none (by simp; omega), List.getElem?_eq_none (by omega)]
theorem OpI.next {t : List NdT} {ps : List (List Nat)} {a : Option Addr} {c P : Nat} {w wr w4 : World} {q : Nat} {L : List Bool} (h : OpI t ps a c P w q L wr) {x : NdT} {p : List Nat} (hx : t[q]? = some x) (hp : ps[q]? = some p) {v : Bool} (hv : v = opN x p L) (hw : Put1 (w.heap.size + 1) q (.bool v) wr w4) : OpI t ps a c P w (q + 1) (L ++ [opN x p L]) w4 := by
  have hq := (List.getElem?_eq_some_iff.1 hx).1
  refine ⟨hw.below h.below (by omega), Nat.lt_of_lt_of_le h.size hw.size, (hw.oth _ (by have := h.size; omega) (by omega)).trans h.box, hw.rows h.row, ?_, by rw [List.length_append, h.ll]; rfl, fun k hk => ?_⟩
  · rw [← h.st, op_step hx hp]
  · rw [getD_snoc, h.ll]
    by_cases hkq : k = q
    · subst hkq
      rw [if_pos rfl, ← hv]
      exact hw.got h.row hq
    · rw [if_neg hkq, hw.kept h.row (fun e => hkq e.symm)]
      exact h.vs k hk
theorem OpI.same {t : List NdT} {ps : List (List Nat)} {a : Option Addr} {c P : Nat} {w wr w4 : World} {q : Nat} {L : List Bool} (h : OpI t ps a c P w q L wr) {x : NdT} {p : List Nat} (hx : t[q]? = some x) (hp : ps[q]? = some p) (hv : opN x p L = false) (hw : Below wr.heap.size wr w4) : OpI t ps a c P w (q + 1) (L ++ [opN x p L]) w4 := by
  have hz := h.size
  refine ⟨below_t h.below hw h.below.size, Nat.lt_of_lt_of_le h.size hw.size, blk_on h.box hw, ?_, ?_, by rw [List.length_append, h.ll]; rfl, fun k hk => ?_⟩
  · obtain ⟨cur, h1, h2⟩ := h.row
    exact ⟨cur, blk_on h1 hw, h2⟩
  · rw [← h.st, op_step hx hp]
  · rw [getD_snoc, h.ll, hv, blk_cell (hw.block _ hz), h.vs k hk]
    by_cases hkq : k = q
    · rw [if_pos hkq, List.getD_eq_getElem?_getD, List.getElem?_eq_none (by rw [h.ll]; omega)]
      rfl
    · rw [if_neg hkq]
theorem op_small {k n : Int} (h : hpB k n = true) (hk : opK k = true) : n ≤ 4 := by
  unfold opK at hk
  simp at hk
  unfold hpB at h
  (repeat' split at h) <;> simp at h <;> omega
set_option maxHeartbeats 8000000 in
theorem c_openIfs (t : List NdT) (ps : List (List Nat)) (a : Option Addr) (c P : Nat) (w : World) (hl : t.length ≤ 4096) (hT : TrIn t a w) (hP : PtIn any_ ps P w) (hw : PsWf t ps) :
    Calls Tryz.prog 75 #[gwV a t.length c P] w fun e w' => (e = .returned (.slice (some ⟨w.heap.size + 1, 0, none⟩) t.length t.length) ∧ BoIn (opF t ps []) (w.heap.size + 1) w') ∧ Below w.heap.size w w' := by
  obtain ⟨N, hN⟩ : ∃ N, t.length = N := ⟨_, rfl⟩
  have hmk : ∀ w' : World, (Instr.makeSlice 144 (.int .i64 (N : Int)) (.int .i64 (N : Int))).run Tryz.prog w' = .ok (.slice (some ⟨w'.heap.size, 0, none⟩) N N) (w'.alloc (.cells (madeCells #[.bool false] N) 4)) := fun w' => run_make_row' 144 4 (.bool false) 1 Tryz.underlying144 infoB rfl .i64 .i64 N (by omega) (by omega) w'
  have HT := Lib.hid hT
  have HP := Lib.hid hP
  have HW := Lib.hid hw
  have HN := Lib.hid hN
  have HL := Lib.hid hl
  rw [hN]
  clear hT hl hN hP hw
  go_enter Tryz.func75, Tryz.ntmps75
  go_wp2_with fail
  clear hmk
  go_loopg [13] N (fun m v13 wr => ∃ q : Nat, q + m = N ∧ v13 = .int .i64 (q : Int) ∧ Hid (∃ L, OpI t ps a c P w q L wr))
  case atStart =>
    refine ⟨0, by omega, rfl, [], ?_, by simp, ?_, ?_, rfl, rfl, fun k hk => ?_⟩
    · exact (below_o w _).alloc (by simp) _
    · rw [HN.out, Below.heap_alloc _ _ _ (by simp)]
      exact heap_alloc_at _ _ rfl
    · exact ⟨madeCells #[.bool false] N, heap_alloc_at _ _ (by simp), by rw [HN.out]; simp [madeCells]⟩
    · rw [Lib.cell_of_heap (heap_alloc_at _ _ (by simp))]
      rw [HN.out] at hk
      simp [madeCells, hk, Nat.mod_one]
  case round =>
    obtain ⟨q, hq, rfl, HH⟩ := hrel
    obtain ⟨L, hI⟩ := HH.out
    obtain ⟨hg0, hg1, hgf⟩ := two_cells hI.box
    rw [HN.out] at hg0 hg1
    have hs0 : w.heap.size < wr.heap.size := by have := hI.size; omega
    have hs1 := hI.size
    by_cases hlt : q < N
    · have hd : decide ((q : Int) < (N : Int)) = true := by simp; omega
      obtain ⟨b, off, ha, hb, hx⟩ := HT.out (by have := HN.out; omega)
      subst ha
      obtain ⟨x, hxq⟩ : ∃ x, t[q]? = some x := ⟨_, List.getElem?_eq_getElem (by have := HN.out; omega)⟩
      obtain ⟨p, hpq⟩ : ∃ p, ps[q]? = some p := ⟨_, List.getElem?_eq_getElem (by rw [HW.out.1]; have := HN.out; omega)⟩
      obtain ⟨e1, e2, e3⟩ := HW.out.2 q x p hxq hpq
      have hy := fun i v hi => (hI.below.cell (p := ⟨b, off + q * 6 + i, none⟩) hb).trans (hx q x hxq i v hi)
      have y0 := hy 0 _ rfl
      have y1 := hy 1 _ rfl
      have y2 := hy 2 _ rfl
      have y3 := hy 3 _ rfl
      have y4 := hy 4 _ rfl
      have y5 := hy 5 _ rfl
      rw [Nat.add_zero] at y0
      have hq0 : (0 : Int) ≤ (q : Int) := by omega
      have hqN : (q : Int) < (N : Int) := by omega
      obtain ⟨uq, huc, huf⟩ := row_cells hI.row (k := q) (by have := HN.out; omega)
      have HMs : Hid (N - (q + 1) < gk ∧ q + 1 + (N - (q + 1)) = N) := ⟨by omega, by omega⟩
      have hwq : IntKind.i64.wrap ((q : Int) + 1) = ((q + 1 : Nat) : Int) := by
        have h2 := HL.out
        have h1 := HN.out
        rw [IntKind.wrap_i64]
        omega
      obtain ⟨kd, hkd⟩ : ∃ kd, x.kind = kd := ⟨_, rfl⟩
      have HX := Lib.hid (And.intro hxq hpq)
      have HI := Lib.hid hI
      rw [hkd] at y0
      by_cases hop : opK kd = true
      · obtain ⟨pa, pc, z1, hpc, hpi⟩ := HP.out.row q p hpq
        have hpos := op_pos e1 (by rw [hkd]; exact hop)
        obtain ⟨m1, hm1⟩ : ∃ m1, p.length = m1 + 1 := ⟨p.length - 1, by omega⟩
        have hnn : x.n = ((m1 + 1 : Nat) : Int) := by have := hp_nn e1; omega
        obtain ⟨rb, ro, hpa, _, hrb, hri⟩ := hpi (by omega)
        subst hpa
        obtain ⟨r, hr⟩ : ∃ r, p[m1]? = some r := ⟨_, List.getElem?_eq_getElem (by omega)⟩
        have hrq := e3 r (List.mem_of_getElem? hr)
        have z1' := (hI.below.cell (p := ⟨P, q, none⟩) HP.out.lt).trans z1
        have z2 := (hI.below.cell (p := ⟨rb, ro + m1, none⟩) hrb).trans (hri m1 r hr)
        have z3 := hI.vs r (by have := HN.out; omega)
        obtain ⟨ob, hob⟩ : ∃ ob, L.getD r false = ob := ⟨_, rfl⟩
        rw [hob] at z3
        rw [hm1] at z1' hpc
        rw [hnn] at y1
        have hv : opN x p L = ((kd == 23 && ((m1 + 1 : Nat) : Int) == 2) || ob) := by
          unfold opN
          rw [hkd, hop, Bool.true_and, hnn, show (((m1 + 1 : Nat) : Int)).toNat - 1 = m1 by omega, List.getD_eq_getElem?_getD (l := p), hr]
          rw [Option.getD_some, hob]
        have HV := Lib.hid hv
        have hPw : P < wr.heap.size := Nat.lt_of_lt_of_le HP.out.lt hI.below.size
        have hrbw : rb < wr.heap.size := Nat.lt_of_lt_of_le hrb hI.below.size
        have hm0 : (0 : Int) ≤ (m1 : Int) := by omega
        have hmm : (m1 : Int) < ((m1 + 1 : Nat) : Int) := by omega
        have hml : m1 < m1 + 1 := by omega
        have hr0 : (0 : Int) ≤ (r : Int) := by omega
        have hrN : (r : Int) < (N : Int) := by omega
        have hwm : IntKind.i64.wrap (((m1 + 1 : Nat) : Int) - 1) = (m1 : Int) := by
          have h3 := op_small e1 (by rw [hkd]; exact hop)
          rw [IntKind.wrap_i64]
          omega
        obtain ⟨nI, hnI⟩ : ∃ nI : Int, ((m1 + 1 : Nat) : Int) = nI := ⟨_, rfl⟩
        obtain ⟨ml, hmle⟩ : ∃ ml, m1 + 1 = ml := ⟨_, rfl⟩
        rw [hnI] at HV hwm y1
        rw [hmle] at z1' hml hpc
        obtain ⟨b2, hb2⟩ : ∃ b2, (nI == 2) = b2 := ⟨_, rfl⟩
        rw [hb2] at HV
        have hk6 : kd = 23 ∨ kd = 24 ∨ kd = 26 ∨ kd = 27 ∨ kd = 28 ∨ kd = 29 := by
          unfold opK at hop
          simp at hop
          omega
        have hmlI : (m1 : Int) < (ml : Int) := by omega
        clear hy hx hxq hpq hI hgf hop e1 e2 e3 hkd hv hob hr hri hrq z1 hpi hpos hnn hrb hm1 hmm hnI hmle
        rcases hk6 with rfl | rfl | rfl | rfl | rfl | rfl
        · cases b2
          · go_wp2_with fail
            go_region
            all_goals
              go_wp2_with fail
              go_roundg (N - (q + 1))
              case measure => exact HMs.out.1
              case rel =>
                refine ⟨q + 1, HMs.out.2, rfl, _, OpI.next HI.out HX.out.1 HX.out.2 ?_ (((Put1.set _ _ _ _).alloc (by simpa using hs1) _)).drew⟩
                rw [HV.out]
                first | rfl | simp
          · go_wp2_with fail
            go_region
            all_goals
              go_wp2_with fail
              go_roundg (N - (q + 1))
              case measure => exact HMs.out.1
              case rel =>
                refine ⟨q + 1, HMs.out.2, rfl, _, OpI.next HI.out HX.out.1 HX.out.2 ?_ (((Put1.set _ _ _ _).alloc (by simpa using hs1) _)).drew⟩
                rw [HV.out]
                first | rfl | simp
        all_goals
            go_wp2_with fail
            go_region
            all_goals
              go_wp2_with fail
              go_roundg (N - (q + 1))
              case measure => exact HMs.out.1
              case rel =>
                refine ⟨q + 1, HMs.out.2, rfl, _, OpI.next HI.out HX.out.1 HX.out.2 ?_ (((Put1.set _ _ _ _).alloc (by simpa using hs1) _)).drew⟩
                rw [HV.out]
                first | rfl | simp
      · have hf : opK kd = false := by simpa using hop
        have hop2 : opN x p L = false := by unfold opN; rw [hkd, hf]; rfl
        have HO := Lib.hid hop2
        unfold opK at hf
        simp only [Bool.or_eq_false_iff] at hf
        obtain ⟨⟨⟨⟨⟨f0, f1⟩, f2⟩, f3⟩, f4⟩, f5⟩ := hf
        clear hy hx hxq hpq hI hgf hop hop2 e1 e2 e3 hkd
        go_wp2_with fail
        go_roundg (N - (q + 1))
        case measure => exact HMs.out.1
        case rel => exact ⟨q + 1, HMs.out.2, rfl, _, HI.out.same HX.out.1 HX.out.2 HO.out (below_o _ _)⟩
    · have hd : decide ((q : Int) < (N : Int)) = false := by simp; omega
      obtain rfl : q = N := by omega
      have hst := hI.st
      rw [← HN.out, List.drop_length] at hst
      have hLe : L = opF t ps [] := by rw [← hst]; cases (List.drop t.length ps) <;> rfl
      have HI := Lib.hid hI
      have HE := Lib.hid hLe
      clear hI hst hgf hLe
      go_wp2_with fail
      go_ret
      refine ⟨⟨rfl, hs1, fun k y hk => ?_⟩, HI.out.below⟩
      rw [← HE.out] at hk
      have hkl := (List.getElem?_eq_some_iff.1 hk).1
      rw [HI.out.ll] at hkl
      rw [HI.out.vs k (by have := HN.out; omega), List.getD_eq_getElem?_getD, hk]
      rfl
end Go.Proofs.YtjadckhngalmlaaGreatDoor
namespace Go.Proofs.YtjadckhngalmlaaGreatDoor
set_option linter.unusedVariables false
set_option linter.unusedSimpArgs false
set_option maxRecDepth 100000
open Go.RowKit

/-- What lies while the parts of all nodes are looked at. -/
structure FiI (t : List NdT) (ps : List (List Nat)) (a : Option Addr) (c P : Nat) (w wr : World) : Prop where
  below : Below w.heap.size w wr
  size : w.heap.size + 2 < wr.heap.size
  box : wr.heap[w.heap.size]? = some (.cells #[.slice a t.length c, .slice (some ⟨P, 0, none⟩) t.length t.length] 119)
  op : BoIn (opF t ps []) (w.heap.size + 1 + 1) wr
theorem FiI.next {t : List NdT} {ps : List (List Nat)} {a : Option Addr} {c P : Nat} {w wr w4 : World} (h : FiI t ps a c P w wr) (hb : Below wr.heap.size wr w4) : FiI t ps a c P w w4 :=
  ⟨below_t h.below hb h.below.size, Nat.lt_of_lt_of_le h.size hb.size, blk_on h.box hb, h.op.next hb⟩
theorem fit_def {t : List NdT} {ps : List (List Nat)} {j : Nat} {x : NdT} {p : List Nat} (hx : t[j]? = some x) (hp : ps[j]? = some p) : fitB t ps j = ((List.range p.length).all (fun i => mayB (kdA t (p.getD i 0)) (poB x.kind i)) && !(x.kind == 23 && x.n == 3 && (opF t ps []).getD (p.getD 1 0) false)) := by
  unfold fitB
  rw [hx, hp]
theorem kd_at {t : List NdT} {q : Nat} {x : NdT} (h : t[q]? = some x) : kdA t q = x.kind := by unfold kdA; rw [h]
theorem getD_of {p : List Nat} {i r : Nat} (h : p[i]? = some r) : p.getD i 0 = r := by rw [List.getD_eq_getElem?_getD, h]; rfl
theorem opF_len : ∀ (t : List NdT) (ps : List (List Nat)) (L : List Bool), ps.length = t.length → (opF t ps L).length = L.length + t.length
  | [], ps, L, h => by cases ps <;> simp [opF]
  | x :: t, [], L, h => by simp at h
  | x :: t, p :: ps, L, h => by
    show (opF t ps (L ++ [opN x p L])).length = _
    rw [opF_len t ps _ (by simpa using h), List.length_append, List.length_singleton, List.length_cons]
    omega
set_option maxHeartbeats 8000000 in
theorem c_fits (t : List NdT) (ps : List (List Nat)) (a : Option Addr) (c P : Nat) (w : World) (hl : t.length ≤ 4096) (hT : TrIn t a w) (hP : PtIn any_ ps P w) (hw : PsWf t ps) (hps : ∀ p ∈ ps, p.length ≤ 4096) :
    Calls Tryz.prog 56 #[gwV a t.length c P] w fun e w' => e = .returned (.bool ((List.range t.length).all (fitB t ps))) ∧ Below w.heap.size w w' := by
  obtain ⟨R, hR⟩ : ∃ R, (List.range t.length).all (fitB t ps) = R := ⟨_, rfl⟩
  have HR := Lib.hid hR
  rw [hR]
  have HO := Lib.hid (fun w' (hb : Below w.heap.size w w') => c_openIfs t ps a c P w' hl (hT.next hb) (hP.next hb) hw)
  obtain ⟨N, hN⟩ : ∃ N, t.length = N := ⟨_, rfl⟩
  rw [hN] at HO
  have HT := Lib.hid hT
  have HP := Lib.hid hP
  have HW := Lib.hid hw
  have HN := Lib.hid hN
  have HL := Lib.hid hl
  have HS := Lib.hid hps
  rw [hN]
  clear hT hl hN hP hw hR hps
  go_enter Tryz.func56, Tryz.ntmps56
  go_wp2_with fail
  refine (HO.out _ (below_o w _)).mono ?_
  rintro e w1 ⟨⟨rfl, hbo⟩, hb⟩
  have hI : FiI t ps a c P w w1 := ⟨below_t (below_o w _) hb (below_o w _).size, by have := hbo.lt; simp at this; omega, by rw [HN.out]; exact blk_on (heap_alloc_at _ _ rfl) hb, by simpa using hbo⟩
  have HI := Lib.hid hI
  obtain ⟨hg0, hg1, _⟩ := two_cells hI.box
  rw [HN.out] at hg0 hg1
  clear hb hI hbo HO
  go_wp2_with fail
  go_loopg [14] N (fun m v14 wr => ∃ q : Nat, q + m = N ∧ v14 = .int .i64 (q : Int) ∧ Hid (FiI t ps a c P w wr ∧ ∀ j, j < q → fitB t ps j = true))
  case atStart => exact ⟨0, by omega, rfl, HI.out, fun j hj => by omega⟩
  case round =>
    obtain ⟨q, hq, rfl, HH⟩ := hrel
    obtain ⟨hI, hall⟩ := HH.out
    have hs0 : w.heap.size < wr.heap.size := by have := hI.size; omega
    clear hg0 hg1
    obtain ⟨hg0, hg1, _⟩ := two_cells hI.box
    rw [HN.out] at hg0 hg1
    by_cases hlt : q < N
    · have hd : decide ((q : Int) < (N : Int)) = true := by simp; omega
      obtain ⟨b, off, ha, hb, hx⟩ := HT.out (by have := HN.out; omega)
      subst ha
      obtain ⟨x, hxq⟩ : ∃ x, t[q]? = some x := ⟨_, List.getElem?_eq_getElem (by have := HN.out; omega)⟩
      obtain ⟨p, hpq⟩ : ∃ p, ps[q]? = some p := ⟨_, List.getElem?_eq_getElem (by rw [HW.out.1]; have := HN.out; omega)⟩
      obtain ⟨e1, e2, e3⟩ := HW.out.2 q x p hxq hpq
      have hplen := HS.out p (List.mem_of_getElem? hpq)
      obtain ⟨pa, pc, z1, hpc, hpi⟩ := HP.out.row q p hpq
      have z1' := (hI.below.cell (p := ⟨P, q, none⟩) HP.out.lt).trans z1
      have hPw : P < wr.heap.size := Nat.lt_of_lt_of_le HP.out.lt hI.below.size
      have hy := fun i v hi => (hI.below.cell (p := ⟨b, off + q * 6 + i, none⟩) hb).trans (hx q x hxq i v hi)
      have y0 := hy 0 _ rfl
      have y1 := hy 1 _ rfl
      have y2 := hy 2 _ rfl
      have y3 := hy 3 _ rfl
      have y4 := hy 4 _ rfl
      have y5 := hy 5 _ rfl
      rw [Nat.add_zero] at y0
      have hq0 : (0 : Int) ≤ (q : Int) := by omega
      have hqN : (q : Int) < (N : Int) := by omega
      have HMs : Hid (N - (q + 1) < gk ∧ q + 1 + (N - (q + 1)) = N) := ⟨by omega, by omega⟩
      have hwq : IntKind.i64.wrap ((q : Int) + 1) = ((q + 1 : Nat) : Int) := by
        have h2 := HL.out
        have h1 := HN.out
        rw [IntKind.wrap_i64]
        omega
      obtain ⟨kd, hkd⟩ : ∃ kd, x.kind = kd := ⟨_, rfl⟩
      obtain ⟨nn, hnn⟩ : ∃ nn, x.n = nn := ⟨_, rfl⟩
      obtain ⟨ml, hml⟩ : ∃ ml, p.length = ml := ⟨_, rfl⟩
      rw [hkd] at y0
      rw [hnn] at y1
      rw [hml] at z1'
      have HX := Lib.hid (And.intro hxq hpq)
      have HI := Lib.hid hI
      have HK := Lib.hid (And.intro hkd (And.intro hnn hml))
      have HE := Lib.hid (And.intro e1 (And.intro e2 e3))
      have HPI := Lib.hid hpi
      have HPL := Lib.hid hplen
      have HTx := Lib.hid hx
      have Hb := Lib.hid hb
      have HALL := Lib.hid hall
      clear hy hxq hpq hI e1 e2 e3 hkd hnn hml z1 hpc hpi hplen hx hb hall HH
      go_wp2_with fail
      have hz0 := heap_alloc_at (w := wr) (.cells #[.int .i64 kd, .int .i64 nn, .int .i64 x.at', .int .i64 x.int, .string ⟨x.text.toArray⟩, .string ⟨x.type.toArray⟩] 47) _ rfl
      have hb1 := below_o wr (.cells #[.int .i64 kd, .int .i64 nn, .int .i64 x.at', .int .i64 x.int, .string ⟨x.text.toArray⟩, .string ⟨x.type.toArray⟩] 47)
      generalize wr.alloc (.cells #[.int .i64 kd, .int .i64 nn, .int .i64 x.at', .int .i64 x.int, .string ⟨x.text.toArray⟩, .string ⟨x.type.toArray⟩] 47) = w1 at hz0 hb1 ⊢
      have HI1 := Lib.hid (HI.out.next hb1)
      have hn1 := hb1.size
      have hn2 : wr.heap.size < w1.heap.size := (Array.getElem?_eq_some_iff.1 hz0).1
      clear HI
      generalize wr.heap.size = nB at hz0 hn2 ⊢
      have HZ := Lib.hid hz0
      have HN2 := Lib.hid hn2
      clear hz0 hb1 y0 y1 y2 y3 y4 y5 z1' hg0 hg1 hn1 hn2
      go_loopg [26] ml (fun m v26 w2 => ∃ i : Nat, i + m = ml ∧ v26 = .int .i64 (i : Int) ∧ Hid (Below w1.heap.size w1 w2 ∧ ∀ j, j < i → mayB (kdA t (p.getD j 0)) (poB x.kind j) = true))
      case atStart => exact ⟨0, by omega, rfl, Below.refl _ _, fun j hj => by omega⟩
      case round =>
        obtain ⟨i, hi, rfl, HH⟩ := hrel
        obtain ⟨hbw, hal⟩ := HH.out
        have hI2 := HI1.out.next hbw
        have hs0 : w.heap.size < wr.heap.size := by have := hI2.size; omega
        have hnb : nB < wr.heap.size := Nat.lt_of_lt_of_le HN2.out hbw.size
        obtain ⟨hg0, hg1, _⟩ := two_cells hI2.box
        rw [HN.out] at hg0 hg1
        obtain ⟨c0, c1, c2, c3, c4, c5, _⟩ := six_cells (blk_on HZ.out hbw)
        by_cases hil : i < ml
        · have hdi : decide ((i : Int) < (ml : Int)) = true := by simp; omega
          obtain ⟨rb, ro, hpa, _, hrb, hri⟩ := HPI.out (by have := HK.out.2.2; omega)
          subst hpa
          obtain ⟨r, hr⟩ : ∃ r, p[i]? = some r := ⟨_, List.getElem?_eq_getElem (by have := HK.out.2.2; omega)⟩
          have hrq := HE.out.2.2 r (List.mem_of_getElem? hr)
          have z2 := (hI2.below.cell (p := ⟨rb, ro + i, none⟩) hrb).trans (hri i r hr)
          obtain ⟨xr, hxr⟩ : ∃ xr, t[r]? = some xr := ⟨_, List.getElem?_eq_getElem (by have := HN.out; omega)⟩
          have z3 := (hI2.below.cell (p := ⟨b, off + r * 6, none⟩) Hb.out).trans (HTx.out r xr hxr 0 _ rfl)
          obtain ⟨kr, hkr⟩ : ∃ kr, xr.kind = kr := ⟨_, rfl⟩
          rw [hkr] at z3
          have hi0 : (0 : Int) ≤ (i : Int) := by omega
          have himl : (i : Int) < (ml : Int) := by omega
          have hr0 : (0 : Int) ≤ (r : Int) := by omega
          have hrN : (r : Int) < (N : Int) := by omega
          have hwi : IntKind.i64.wrap ((i : Int) + 1) = ((i + 1 : Nat) : Int) := by
            have h2 := HPL.out
            have h1 := HK.out.2.2
            rw [IntKind.wrap_i64]
            omega
          have HMi : Hid (ml - (i + 1) < gk ∧ i + 1 + (ml - (i + 1)) = ml) := ⟨by omega, by omega⟩
          obtain ⟨po, hpo⟩ : ∃ po, poB x.kind i = po := ⟨_, rfl⟩
          obtain ⟨v, hv⟩ : ∃ v, mayB kr po = v := ⟨_, rfl⟩
          have HV : Hid (mayB (kdA t (p.getD i 0)) (poB x.kind i) = v) := by rw [getD_of hr, kd_at hxr, hkr, hpo]; exact hv
          have HCp : Hid (∀ W, Calls Tryz.prog 77 #[.int .i64 kd, .int .i64 i] W fun e w' => e = .returned (.int .i64 po) ∧ Below W.heap.size W w') := fun W => by
            have h1 := c_partOf kd i W
            rw [← HK.out.1, hpo, HK.out.1] at h1
            exact h1
          have HCm : Hid (∀ W, Calls Tryz.prog 76 #[.int .i64 kr, .int .i64 po] W fun e w' => e = .returned (.bool v) ∧ w' = W) := fun W => by
            have h1 := c_may kr po W
            rw [hv] at h1
            exact h1
          have HBW := Lib.hid hbw
          have HAL := Lib.hid hal
          have HI2 := Lib.hid hI2
          have HF : Hid (∀ W, Below wr.heap.size wr W → W.cell? ⟨w.heap.size, 0, none⟩ = some (.slice (some ⟨b, off, none⟩) N c) ∧ W.cell? ⟨b, off + r * 6, none⟩ = some (.int .i64 kr) ∧ W.cell? ⟨nB, 0, none⟩ = some (.int .i64 kd)) := fun W hW => ⟨(hW.cell (p := ⟨w.heap.size, 0, none⟩) hs0).trans hg0, (hW.cell (p := ⟨b, off + r * 6, none⟩) (Nat.lt_of_lt_of_le Hb.out hI2.below.size)).trans z3, (hW.cell (p := ⟨nB, 0, none⟩) hnb).trans c0⟩
          clear hbw hal hI2 hri hr hrq hxr hkr hpo hv c1 c2 c3 c4 c5 hg1 HH
          go_wp2_with fail
          go_region_with (first | (go_at_call 77; refine (HCp.out _).mono ?_; rintro e w3 ⟨rfl, hb3⟩; have hb4 := below_t (Below.refl wr.heap.size wr).drew hb3 (Nat.le_refl _); obtain ⟨f1, f2, f3⟩ := HF.out _ hb4; have HB4 := Lib.hid hb4; clear hb3 hb4) | (go_at_call 76; refine (HCm.out _).mono ?_; rintro e w4 ⟨rfl, rfl⟩))
          all_goals
            cases v
            · go_wp2_with fail
              go_ret
              refine ⟨ret_b ?_, below_t HI2.out.below HB4.out HI2.out.below.size⟩
              rw [← HR.out]
              refine (all_no (i := q) (by have := HN.out; omega) ?_).symm
              rw [fit_def HX.out.1 HX.out.2, all_no (i := i) (by have := HK.out.2.2; omega) HV.out]
              rfl
            · go_wp2_with fail
              go_roundg (ml - (i + 1))
              case measure => exact HMi.out.1
              case rel =>
                refine ⟨i + 1, HMi.out.2, rfl, below_t HBW.out HB4.out HBW.out.size, fun j hj => ?_⟩
                by_cases hji : j = i
                · rw [hji]; exact HV.out
                · exact HAL.out j (by omega)
        · have hdi : decide ((i : Int) < (ml : Int)) = false := by simp; omega
          obtain rfl : i = ml := by omega
          have HALL2 : Hid ((List.range p.length).all (fun j => mayB (kdA t (p.getD j 0)) (poB x.kind j)) = true) := all_yes (fun j hj => hal j (by have := HK.out.2.2; omega))
          have HI2 := Lib.hid hI2
          have HBW := Lib.hid hbw
          by_cases h23 : kd = 23 ∧ nn = 3
          · obtain ⟨rfl, rfl⟩ := h23
            have hi3 : i = 3 := by have h1 := HE.out.2.1; have h2 := HK.out; omega
            subst hi3
            obtain ⟨rb, ro, hpa, _, hrb, hri⟩ := HPI.out (by have := HK.out.2.2; omega)
            subst hpa
            obtain ⟨r, hr⟩ : ∃ r, p[1]? = some r := ⟨_, List.getElem?_eq_getElem (by have := HK.out.2.2; omega)⟩
            have hrq := HE.out.2.2 r (List.mem_of_getElem? hr)
            have z2 := (hI2.below.cell (p := ⟨rb, ro + 1, none⟩) hrb).trans (hri 1 r hr)
            obtain ⟨ob, hob⟩ : ∃ ob, (opF t ps [])[r]? = some ob := ⟨_, List.getElem?_eq_getElem (by rw [opF_len t ps [] HW.out.1]; simp; have := HN.out; omega)⟩
            have z3 := hI2.op.row r ob hob
            have hr0 : (0 : Int) ≤ (r : Int) := by omega
            have hrN : (r : Int) < (N : Int) := by omega
            have hs2 : w.heap.size + 1 + 1 < wr.heap.size := hI2.op.lt
            have HFb : Hid (fitB t ps q = !ob) := by
              rw [fit_def HX.out.1 HX.out.2, HALL2.out, Bool.true_and, HK.out.1, HK.out.2.1, getD_of hr, List.getD_eq_getElem?_getD, hob]
              exact rfl
            clear hbw hal hI2 hri hr hrq hob c2 c3 c4 c5 hg1 HH
            cases ob
            · go_wp2_with fail
              go_roundg (N - (q + 1))
              case measure => exact HMs.out.1
              case rel =>
                refine ⟨q + 1, HMs.out.2, rfl, HI2.out, fun j hj => ?_⟩
                by_cases hjq : j = q
                · rw [hjq]; exact HFb.out
                · exact HALL.out j (by omega)
            · go_wp2_with fail
              go_ret
              refine ⟨ret_b ?_, HI2.out.below⟩
              rw [← HR.out]
              exact (all_no (i := q) (by have := HN.out; omega) HFb.out).symm
          · have HFb : Hid (fitB t ps q = true) := by
              rw [fit_def HX.out.1 HX.out.2, HALL2.out, Bool.true_and, HK.out.1, HK.out.2.1]
              have : (kd == 23 && nn == 3) = false := by
                rw [Bool.eq_false_iff]
                intro h
                simp at h
                exact h23 h
              rw [this]
              exact rfl
            clear hbw hal hI2 c2 c3 c4 c5 hg1 HH
            by_cases hk23 : kd = 23
            · subst hk23
              have hn3 : (nn == 3) = false := by
                rw [Bool.eq_false_iff]
                intro h
                exact h23 ⟨rfl, by simpa using h⟩
              clear h23
              go_wp2_with fail
              go_roundg (N - (q + 1))
              case measure => exact HMs.out.1
              case rel =>
                refine ⟨q + 1, HMs.out.2, rfl, HI2.out, fun j hj => ?_⟩
                by_cases hjq : j = q
                · rw [hjq]; exact HFb.out
                · exact HALL.out j (by omega)
            · have hk3 : (kd == 23) = false := by simpa using hk23
              clear h23 hk23
              go_wp2_with fail
              go_roundg (N - (q + 1))
              case measure => exact HMs.out.1
              case rel =>
                refine ⟨q + 1, HMs.out.2, rfl, HI2.out, fun j hj => ?_⟩
                by_cases hjq : j = q
                · rw [hjq]; exact HFb.out
                · exact HALL.out j (by omega)
    · have hd : decide ((q : Int) < (N : Int)) = false := by simp; omega
      obtain rfl : q = N := by omega
      have hv : R = true := by rw [← HR.out]; exact all_yes (fun j hj => hall j (by have := HN.out; omega))
      subst hv
      have HB := Lib.hid hI.below
      clear hI hall hg0 hg1 HH
      go_wp2_with fail
      go_ret
      exact ⟨rfl, HB.out⟩
end Go.Proofs.YtjadckhngalmlaaGreatDoor
