/-
  The law's fixed texts, in the code.
-/
import Derived.Test.YtbccabpcljkamaaDoorLexRdA
import Derived.Test.YtbccabpcljkamaaDoorLexCut
import Derived.Laws.StructEq
namespace Go.Proofs.YtbccabpcljkamaaDoor
set_option linter.unusedVariables false
set_option linter.unusedSimpArgs false
set_option maxRecDepth 100000
open Go.RowKit

theorem eq_fault (a c : Int) (w : World) : (binOp .eql 26 (.agg #[.int .i64 a, .int .i64 c]) (.agg #[.int .i64 a, .int .i64 c])).run Tryd.prog w = .ok (.bool true) w := by
  have u3 := Tryd.underlying3
  have a3 := Tryd.isAgg3
  have z3 := Tryd.sizeOf3
  have ue := Tryd.underlying24
  have ae := Tryd.isAgg24
  have ze := Tryd.sizeOf24
  have hS : Tryd.prog.underlying 26 = some (.struct (Tryd.prog.fieldsOf 26)) := by kernel_rfl
  have hp : Tryd.prog.stoodInHeld 26 = false := by kernel_rfl
  rw [run_eql_struct, show (10000 : Nat) = 9999 + 1 from rfl, run_equalIn_agg w 9999 26 _ _ hS hp]
  simp only [Program.fieldsOf, Tryd.underlying26]
  go_simp
/-- What Tokens answers of a text that is right. -/
theorem c_TokOk (l : List UInt8) (L : List Pt) (w : World) (hE : Env w.heap.size w) (hl : l.length ≤ 65536) (h : tksR [] l = .ok L) :
    Calls Tryd.prog 7 #[.string ⟨l.toArray⟩] w fun e w' => (∃ v, e = .returned (.tuple #[v, .agg #[.int .i64 0, .int .i64 0]]) ∧ w'.ownsRow w.heap.size 33 4 v L.length (tCells l.length L) ∧ L.length ≤ 16384) ∧ Below w.heap.size w w' := by
  refine (c_Tokens l w hE (by omega)).mono fun e w' hh => ⟨?_, hh.2⟩
  rcases hh.1 with ⟨L2, v, _, h2, h3, h4, h5⟩ | ⟨p, c, _, _, _, h6 | ⟨r, h7, _⟩⟩
  · rw [h] at h2
    injection h2 with h2
    subst h2
    exact ⟨v, h3, h4, h5⟩
  · omega
  · rw [h] at h7; cases h7
theorem c_TokBad (l r : List UInt8) (c : Int) (w : World) (hE : Env w.heap.size w) (hl : l.length ≤ 65536) (h : tksR [] l = .bad c r) :
    Calls Tryd.prog 7 #[.string ⟨l.toArray⟩] w fun e w' => e = .returned (.tuple #[.slice none 0 0, .agg #[.int .i64 ((plc l r : Nat) : Int), .int .i64 c]]) ∧ Below w.heap.size w w' := by
  refine (c_Tokens l w hE (by omega)).mono fun e w' hh => ⟨?_, hh.2⟩
  rcases hh.1 with ⟨L2, v, _, h2, h3, h4, h5⟩ | ⟨p, c', h8, _, _, h6 | ⟨r', h7, h9⟩⟩
  · rw [h] at h2; cases h2
  · omega
  · rw [h] at h7
    injection h7 with a1 a2
    rw [h8, h9, a1, a2]
theorem tc_at {N : Nat} : ∀ {L : List Pt} {k : Nat} {t : Pt}, L[k]? = some t → (tCells N L)[k * 4]? = some (.int .i64 t.kind) ∧ (tCells N L)[k * 4 + 1]? = some (.int .i64 ((N - t.rest : Nat) : Int)) ∧ (tCells N L)[k * 4 + 2]? = some (.int .i64 t.int) ∧ (tCells N L)[k * 4 + 3]? = some (.string ⟨t.text.toArray⟩)
  | [], k, t, h => by cases h
  | a :: L, 0, t, h => by
    injection h with h
    subst h
    exact ⟨rfl, rfl, rfl, rfl⟩
  | a :: L, k + 1, t, h => by
    have ih := tc_at (N := N) (L := L) (k := k) (t := t) h
    have e : ∀ j, (tCells N (a :: L))[(k + 1) * 4 + j]? = (tCells N L)[k * 4 + j]? := fun j => by
      have : tCells N (a :: L) = [.int .i64 a.kind, .int .i64 ((N - a.rest : Nat) : Int), .int .i64 a.int, .string ⟨a.text.toArray⟩] ++ tCells N L := rfl
      rw [this, List.getElem?_append_right (by simp; omega)]
      congr 1
      simp
      omega
    have e0 := e 0
    rw [Nat.add_zero, Nat.add_zero] at e0
    rw [e0, e 1, e 2, e 3]
    exact ih
/-- A row of tokens: a slice; where its cells lie. -/
theorem row_at {w : World} {base N : Nat} {v : Value} {L : List Pt} (h : w.ownsRow base 33 4 v L.length (tCells N L)) (h0 : 0 < L.length) : ∃ g cap, v = .slice (some ⟨g, 0, none⟩) L.length cap ∧ L.length ≤ cap ∧ base ≤ g ∧ g < w.heap.size ∧ ∀ (k : Nat) (t : Pt), L[k]? = some t →
    w.cell? ⟨g, k * 4, none⟩ = some (.int .i64 t.kind) ∧ w.cell? ⟨g, k * 4 + 1, none⟩ = some (.int .i64 ((N - t.rest : Nat) : Int)) ∧ w.cell? ⟨g, k * 4 + 2, none⟩ = some (.int .i64 t.int) ∧ w.cell? ⟨g, k * 4 + 3, none⟩ = some (.string ⟨t.text.toArray⟩) := by
  obtain ⟨g, cap, cur, rfl, hg, hh, hc, r⟩ : ∃ g cap cur, v = .slice (some ⟨g, 0, none⟩) L.length cap ∧ base ≤ g ∧ w.heap[g]? = some (.cells cur 33 (0, 0)) ∧ L.length ≤ cap ∧ True := by
    rcases h.2 with ⟨_, hz⟩ | ⟨g, cap, cur, hv, hg, hh, hc, _⟩
    · omega
    · exact ⟨g, cap, cur, hv, hg, hh, hc, trivial⟩
  refine ⟨g, cap, rfl, hc, hg, (Array.getElem?_eq_some_iff.1 hh).1, fun k t hk => ?_⟩
  obtain ⟨a0, a1, a2, a3⟩ := tc_at (N := N) hk
  have e : ∀ j, (⟨g, 0, none⟩ : Addr).add j = ⟨g, j, none⟩ := fun j => by simp [Addr.add]; omega
  have b0 := h.cells (g := g) rfl _ _ a0
  have b1 := h.cells (g := g) rfl _ _ a1
  have b2 := h.cells (g := g) rfl _ _ a2
  have b3 := h.cells (g := g) rfl _ _ a3
  rw [e] at b0 b1 b2 b3
  exact ⟨b0, b1, b2, b3⟩
theorem cell_blt {w : World} {p : Addr} {v : Value} (h : w.cell? p = some v) : p.block < w.heap.size := by
  unfold World.cell? at h
  cases hb : w.heap[p.block]? with
  | none => rw [hb] at h; cases h
  | some o => exact (Array.getElem?_eq_some_iff.1 hb).1
theorem Env.grow {w w' : World} (h : Env w.heap.size w) (hb : Below w.heap.size w w') : Env w'.heap.size w' := by
  have h2 := h.next hb
  have hs := hb.size
  obtain ⟨l1, l2, l3, l4⟩ := h.lt
  exact ⟨⟨by omega, by omega, by omega, by omega⟩, h2.ml, h2.es, h2.er, h2.mrk⟩
theorem bel_al (w : World) (o : Obj) : Below w.heap.size w (w.alloc o) := (Below.refl _ _).alloc (Nat.le_refl _) _
set_option maxHeartbeats 4000000 in
theorem c_works (w : World) (hE : Env w.heap.size w) : Calls Tryd.prog 6 #[] w fun e w' => e = .returned (.bool true) ∧ Below w.heap.size w w' := by
  have HE := Lib.hid hE
  clear hE
  go_enter Tryd.func6, Tryd.ntmps6
  go_wp2_with fail
  refine (c_TokOk _ _ w HE.out (by simp) T_w1).mono ?_
  rintro e w1 ⟨⟨v1, rfl, ho1, _⟩, hb1⟩
  obtain ⟨g1, cap1, rfl, hc1, hg1, hl1, hk1⟩ := row_at ho1 (by simp)
  obtain ⟨x11, x12, x13, x14⟩ := hk1 1 _ rfl
  obtain ⟨x41, x42, x43, x44⟩ := hk1 4 _ rfl
  obtain ⟨x51, x52, x53, x54⟩ := hk1 5 _ rfl
  have HB1 := Lib.hid hb1
  have HE1 := Lib.hid ((HE.out.grow hb1).grow (bel_al w1 (fOb 0 0)))
  have hF1 := heap_alloc_new w1 (fOb 0 0)
  obtain ⟨f0, f1, _⟩ := fob_cells hF1
  have HX1 : Hid (∀ w2, Below (w1.alloc (fOb 0 0)).heap.size (w1.alloc (fOb 0 0)) w2 → (∀ (i : Nat) (u : Value), w1.cell? ⟨g1, i, none⟩ = some u → w2.cell? ⟨g1, i, none⟩ = some u) ∧ (∀ (i : Nat) (u : Value), (w1.alloc (fOb 0 0)).cell? ⟨w1.heap.size, i, none⟩ = some u → w2.cell? ⟨w1.heap.size, i, none⟩ = some u) ∧ Below w.heap.size w w2) := fun w2 hb =>
    ⟨fun i u hu => (hb.cell (p := ⟨g1, i, none⟩) (show g1 < _ by simp; omega)).trans (((bel_al w1 (fOb 0 0)).cell (p := ⟨g1, i, none⟩) hl1).trans hu), fun i u hu => (hb.cell (p := ⟨w1.heap.size, i, none⟩) (show w1.heap.size < _ by simp)).trans hu, HB1.out.trans (((bel_al w1 (fOb 0 0)).mono HB1.out.size).trans (hb.mono (Nat.le_trans HB1.out.size (bel_al w1 _).size)))⟩
  clear ho1 hb1 hk1 hg1 hl1 x11 x12 x13 x41 x42 x51 x52 x54 hF1
  go_wp2_with fail
  refine (c_TokBad _ _ _ (w1.alloc (fOb 0 0)) HE1.out (by simp) T_w2).mono ?_
  rintro e w2 ⟨rfl, hb2⟩
  obtain ⟨y1, y2, HB2⟩ := HX1.out w2 hb2
  replace x14 := y1 _ _ x14
  replace x43 := y1 _ _ x43
  replace x44 := y1 _ _ x44
  replace x53 := y1 _ _ x53
  replace f0 := y2 _ _ f0
  replace f1 := y2 _ _ f1
  have hg1b : g1 < w2.heap.size := cell_blt x14
  have hn1b : w1.heap.size < w2.heap.size := cell_blt f0
  have HE2 := Lib.hid ((HE1.out.grow hb2).grow (bel_al w2 (fOb 0 73)))
  have hF2 := heap_alloc_new w2 (fOb 0 73)
  obtain ⟨q0, q1, _⟩ := fob_cells hF2
  have HX2 : Hid (∀ w3, Below (w2.alloc (fOb 0 73)).heap.size (w2.alloc (fOb 0 73)) w3 → (∀ (a : Addr) (u : Value), a.block < w2.heap.size → w2.cell? a = some u → w3.cell? a = some u) ∧ (∀ (i : Nat) (u : Value), (w2.alloc (fOb 0 73)).cell? ⟨w2.heap.size, i, none⟩ = some u → w3.cell? ⟨w2.heap.size, i, none⟩ = some u) ∧ Below w.heap.size w w3) := fun w3 hb =>
    ⟨fun a u ha hu => (hb.cell (p := a) (by simp; omega)).trans (((bel_al w2 (fOb 0 73)).cell (p := a) ha).trans hu), fun i u hu => (hb.cell (p := ⟨w2.heap.size, i, none⟩) (show w2.heap.size < _ by simp)).trans hu, HB2.trans (((bel_al w2 (fOb 0 73)).mono HB2.size).trans (hb.mono (Nat.le_trans HB2.size (bel_al w2 _).size)))⟩
  clear hb2 y1 y2 HX1 HB2 hF2
  have e73 : (((plc [48, 56] [48, 56] : Nat) : Int)) = 0 := rfl
  rw [e73]
  go_wp2_with fail
  refine (c_TokOk _ _ (w2.alloc (fOb 0 73)) HE2.out (by simp) T_w3).mono ?_
  rintro e w3 ⟨⟨v3, rfl, ho3, _⟩, hb3⟩
  obtain ⟨g3, cap3, rfl, hc3, hg3, hl3, hk3⟩ := row_at ho3 (by simp)
  obtain ⟨x01, x02, x03, x04⟩ := hk3 0 _ rfl
  obtain ⟨y1, y2, HB3⟩ := HX2.out w3 hb3
  replace x14 := y1 ⟨g1, _, none⟩ _ hg1b x14
  replace x43 := y1 ⟨g1, _, none⟩ _ hg1b x43
  replace x44 := y1 ⟨g1, _, none⟩ _ hg1b x44
  replace x53 := y1 ⟨g1, _, none⟩ _ hg1b x53
  replace f0 := y1 ⟨w1.heap.size, _, none⟩ _ hn1b f0
  replace f1 := y1 ⟨w1.heap.size, _, none⟩ _ hn1b f1
  replace q0 := y2 _ _ q0
  replace q1 := y2 _ _ q1
  have hef := eq_fault
  have HBz := Lib.hid HB3
  have al : ∀ (p : Addr) (u : Value), w3.cell? p = some u → ∀ o, (w3.alloc o).cell? p = some u := fun p u h o => (World.cell?_alloc_lt _ o p (cell_blt h)).trans h
  replace x04 := al ⟨g3, 3, none⟩ _ x04
  replace x14 := al ⟨g1, 7, none⟩ _ x14
  replace x43 := al ⟨g1, 18, none⟩ _ x43
  replace x44 := al ⟨g1, 19, none⟩ _ x44
  replace x53 := al ⟨g1, 22, none⟩ _ x53
  replace f0 := al _ _ f0
  replace f1 := al _ _ f1
  replace q0 := al _ _ q0
  replace q1 := al _ _ q1
  have HSz := Lib.hid HBz.out.size
  clear al
  clear ho3 hb3 hk3 hg3 x01 x02 x03 y1 y2 HX2 HE2 HE1 HB3
  go_wp2_with fail
  go_ret
  exact ⟨rfl, HBz.out.alloc HSz.out _⟩
end Go.Proofs.YtbccabpcljkamaaDoor
