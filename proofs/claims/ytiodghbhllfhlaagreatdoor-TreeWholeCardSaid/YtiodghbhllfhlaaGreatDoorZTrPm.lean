/-
  A tree of names and binary operations is printed: its nodes, and the whole.
-/
import Derived.Test.YtiodghbhllfhlaaGreatDoorZTrPo
import Derived.Shelf.Strings.Builder1
import Derived.Lib.OthersKept
import Derived.Lib.OwnKind
import Derived.Laws.AppendOwn
import Derived.Test.YtiodghbhllfhlaaGreatDoorZTrDp
import Derived.StillTailTactics
namespace Go.Proofs.YtiodghbhllfhlaaGreatDoor
set_option linter.unusedVariables false
set_option linter.unusedSimpArgs false
set_option maxRecDepth 100000
open Go.RowKit

theorem infoByteT : (Tryz.prog.info? 5).map (fun i => (i.zero, i.size, i.bytes)) = some (some (.int .u8 0), 1, 1) := by kernel_rfl
theorem sizeBuilderT : (Tryz.prog.info? 64).map (·.size) = some 2 := by kernel_rfl
theorem liesText : liesAt Tryz.prog Tryz.prog.depth 66 (3 / Tryz.prog.cellsOf 66) 0 64 1 = true := by kernel_rfl
theorem cellsByteT : Tryz.prog.cellsOf 5 = 1 := by kernel_rfl
/-- A text in block b that holds these bytes, in a row from B on. -/
def TxAt (B b : Nat) (l : List UInt8) (bg : Bool) (p : Value) (w : World) : Prop :=
  b < B ∧ B ≤ w.heap.size ∧ ∃ v, w.heap[b]? = some (.cells #[p, v, .bool bg] 66 (0, 0)) ∧ w.ownsRow B 5 1 v (Lib.byteCells l).length (Lib.byteCells l)
def IsTx (B b : Nat) (l : List UInt8) (bg : Bool) (w : World) : Prop := TxAt B b l bg (.pointer none) w ∨ TxAt B b l bg (.pointer (some ⟨b, 0, none⟩)) w
/-- What lies below B stays, but for the block b; so does every other block that is no row of bytes. -/
structure FrT (B b : Nat) (w w' : World) : Prop where
  bel : Below b w w'
  low : ∀ k, k < B → k ≠ b → w'.heap[k]? = w.heap[k]?
  oth : Lib.OthersKept 5 (some b) w w'
theorem FrT.refl (B b : Nat) (w : World) : FrT B b w w := ⟨Below.refl _ _, fun _ _ _ => rfl, Lib.OthersKept.refl _ _ _⟩
theorem FrT.trans {B b : Nat} {a c d : World} (h : FrT B b a c) (k : FrT B b c d) : FrT B b a d := ⟨h.1.trans k.1, fun j hj hn => (k.2 j hj hn).trans (h.2 j hj hn), h.3.trans k.3⟩
theorem FrT.drew {B b : Nat} {a c : World} (h : FrT B b a c) : FrT B b a c.drew := ⟨h.1.drew, h.2, h.3⟩
theorem FrT.alloc {B b : Nat} {a c : World} (h : FrT B b a c) (hb : b < B) (hB : B ≤ c.heap.size) (o : Obj) : FrT B b a (c.alloc o) := ⟨h.1.alloc (by omega) o, fun j hj hn => (Below.heap_alloc _ _ _ (by omega)).trans (h.2 j hj hn), h.3.alloc o⟩
theorem FrT.setCell {B b : Nat} {a c : World} (h : FrT B b a c) (i : Nat) (u : Value) : FrT B b a (c.setCell ⟨b, i, none⟩ u) := ⟨h.1.setCell (p := ⟨b, i, none⟩) (Nat.le_refl _) u, fun j hj hn => (Below.heap_setCell _ _ _ _ hn).trans (h.2 j hj hn), h.3.setCell ⟨b, i, none⟩ rfl u⟩
theorem FrT.grown {B b n : Nat} {a c d : World} {v : Value} {xs : List Value} (h : FrT B b a c) (hown : c.ownsRow B 5 1 v n xs) (hg : c.grownBy d v.ownBlock) (hb : b < B) (hB : B ≤ c.heap.size) : FrT B b a d :=
  ⟨h.1.grown hg (by omega) (fun k e => by have := (hown.lt k e).1; omega), fun j hj hn => (hg.block j (by omega) (fun e => by have := (hown.lt j e.symm).1; omega)).trans (h.2 j hj hn), h.3.grown hg (Lib.ownsRow_kind hown)⟩
theorem FrT.of {B b : Nat} {w w' : World} (h : Below w.heap.size w w') (hb : b < B) (hB : B ≤ w.heap.size) : FrT B b w w' := ⟨h.mono (by omega), fun j hj _ => h.block j (by omega), fun k o hk _ _ => (h.block k (Array.getElem?_eq_some_iff.1 hk).1).trans hk⟩
theorem FrT.keep {B b : Nat} {w w' : World} (h : FrT B b w w') {k : Nat} {c : Array Value} {T : TypeId} {fz : Nat × Nat} (hk : w.heap[k]? = some (.cells c T fz)) (hb : k ≠ b) (hT : T ≠ 5) : w'.heap[k]? = some (.cells c T fz) :=
  h.oth k _ hk (fun e => hb (by simpa using e)) (fun c' fz' e => by injection e with _ e2 _; exact hT e2)
theorem FrT.size {B b : Nat} {w w' : World} (h : FrT B b w w') : w.heap.size ≤ w'.heap.size := h.1.size
theorem TxAt.next {B b : Nat} {l : List UInt8} {bg : Bool} {p : Value} {w w' : World} (h : TxAt B b l bg p w) (hb : Below w.heap.size w w') : TxAt B b l bg p w' := by
  obtain ⟨h1, h2, v, h3, h4⟩ := h
  exact ⟨h1, Nat.le_trans h2 hb.size, v, blk_on h3 hb, own_on h4 hb⟩
theorem IsTx.next {B b : Nat} {l : List UInt8} {bg : Bool} {w w' : World} (h : IsTx B b l bg w) (hb : Below w.heap.size w w') : IsTx B b l bg w' := h.elim (fun h => .inl (h.next hb)) (fun h => .inr (h.next hb))
theorem tx_own_ne {B b : Nat} {e : TypeId} {w : World} {v : Value} {n : Nat} {xs : List Value} (hown : w.ownsRow B e 1 v n xs) (hb : b < B) : v.ownBlock ≠ some b := fun e => by have := (hown.lt b e).1; omega
theorem tx_set3 {w : World} {b i : Nat} {c0 c1 c2 : Value} {T : TypeId} (h : w.heap[b]? = some (.cells #[c0, c1, c2] T (0, 0))) (u : Value) : (w.setCell ⟨b, i, none⟩ u).heap[b]? = some (.cells (#[c0, c1, c2].setIfInBounds i u) T (0, 0)) := heap_setCell_same w b i _ _ u h
theorem tx_own_set {B b i : Nat} {e : TypeId} {w : World} {v : Value} {n : Nat} {xs : List Value} (hown : w.ownsRow B e 1 v n xs) (hb : b < B) (u : Value) : (w.setCell ⟨b, i, none⟩ u).ownsRow B e 1 v n xs :=
  hown.kept (row := some b) ⟨rfl, rfl, rfl, by simp [World.setCell], fun k _ hk => Below.heap_setCell _ _ _ _ (fun e => hk (by simp [e]))⟩ (.inr (tx_own_ne hown hb))
theorem TxAt.used {B b : Nat} {l : List UInt8} {bg : Bool} {p : Value} {w : World} (h : TxAt B b l bg p w) (q : Value) : TxAt B b l bg q (w.setCell ⟨b, 0, none⟩ q) := by
  obtain ⟨h1, h2, v, h3, h4⟩ := h
  exact ⟨h1, by simpa using h2, v, tx_set3 h3 q, tx_own_set h4 h1 q⟩
theorem TxAt.put {B b : Nat} {l m : List UInt8} {bg : Bool} {p v v' : Value} {w : World} (hb : b < B) (hB : B ≤ w.heap.size) (h : w.heap[b]? = some (.cells #[p, v, .bool bg] 66 (0, 0))) (hown : w.ownsRow B 5 1 v' (Lib.byteCells m).length (Lib.byteCells m)) : TxAt B b m bg p (w.setCell ⟨b, 1, none⟩ v') :=
  ⟨hb, by simpa using hB, v', tx_set3 h v', tx_own_set hown hb v'⟩
theorem TxAt.begun {B b : Nat} {l : List UInt8} {bg : Bool} {p : Value} {w : World} (h : TxAt B b l bg p w) (c : Bool) : TxAt B b l c p (w.setCell ⟨b, 2, none⟩ (.bool c)) := by
  obtain ⟨h1, h2, v, h3, h4⟩ := h
  exact ⟨h1, by simpa using h2, v, tx_set3 h3 _, tx_own_set h4 h1 _⟩
theorem IsTx.begun {B b : Nat} {l : List UInt8} {bg : Bool} {w : World} (h : IsTx B b l bg w) (c : Bool) : IsTx B b l c (w.setCell ⟨b, 2, none⟩ (.bool c)) := h.elim (fun h => .inl (h.begun c)) (fun h => .inr (h.begun c))
theorem IsTx.cells {B b : Nat} {l : List UInt8} {bg : Bool} {w : World} (h : IsTx B b l bg w) : b < B ∧ B ≤ w.heap.size ∧ ∃ a c, w.cell? ⟨b, 1, none⟩ = some (.slice a l.length c) ∧ w.cell? ⟨b, 2, none⟩ = some (.bool bg) ∧ (∀ i, w.frozen? ⟨b, i, none⟩ = false) := by
  have : ∀ p, TxAt B b l bg p w → b < B ∧ B ≤ w.heap.size ∧ ∃ a c, w.cell? ⟨b, 1, none⟩ = some (.slice a l.length c) ∧ w.cell? ⟨b, 2, none⟩ = some (.bool bg) ∧ (∀ i, w.frozen? ⟨b, i, none⟩ = false) := by
    rintro p ⟨h1, h2, v, h3, h4⟩
    have h5 : ∃ a c, v = .slice a l.length c := by
      have hl := Lib.byteCells_length l
      rcases h4.2 with ⟨hv, hz⟩ | ⟨g, cap, cur, hv, _⟩
      · exact ⟨none, 0, by rw [hv]; congr 1; omega⟩
      · exact ⟨_, _, by rw [hv, hl]⟩
    obtain ⟨a, c, rfl⟩ := h5
    exact ⟨h1, h2, a, c, by rw [Lib.cell_of_heap h3]; rfl, by rw [Lib.cell_of_heap h3]; rfl, fun i => Lib.frozen_of_heap h3 i⟩
  rcases h with h | h
  · exact this _ h
  · exact this _ h
set_option maxHeartbeats 1000000 in
theorem c_copyCheckT (B b : Nat) (l : List UInt8) (bg : Bool) (w : World) (h : IsTx B b l bg w) :
    Calls Tryz.prog 79 #[.pointer (some ⟨b, 0, none⟩)] w fun e w' => e = .returned (.tuple #[]) ∧ (TxAt B b l bg (.pointer (some ⟨b, 0, none⟩)) w' ∧ FrT B b w w') := by
  obtain ⟨j, hj, hjs⟩ := Option.map_eq_some_iff.1 sizeBuilderT
  rcases h with h | h
  · obtain ⟨h1, h2, v, h3, h4⟩ := h
    have h0 : w.cell? ⟨b, 0, none⟩ = some (.pointer none) := by rw [Lib.cell_of_heap h3]; rfl
    have hsh : w.shape? b = some (66, 3) := by simp [World.shape?, h3]
    have hfz : w.frozen? ⟨b, 0, none⟩ = false := Lib.frozen_of_heap h3 0
    have HH : Hid (TxAt B b l bg (.pointer none) w) := ⟨h1, h2, v, h3, h4⟩
    clear h1 h2 h3 h4
    go_enter Tryz.func79, Tryz.ntmps79
    go_wp2
    rw [Lib.run_to_unsafe w ⟨b, 0, none⟩ Tryz.underlying61 Tryz.underlying148 hj (by rw [hjs]; decide) hsh (Nat.zero_lt_succ 2)]
    simp only [Result.andThen]
    rw [Oper.upon_value]
    go_wp2
    rw [run_callFunc_extern Tryz.func89 (by kernel_rfl) (by kernel_rfl) (by kernel_rfl) (e := Extern.AbiNoEscape.same) (by kernel_rfl)]
    rw [Lib.run_noEscape]
    simp only [Result.andThen]
    rw [Oper.upon_value]
    go_wp2
    rw [Lib.run_from_unsafe w ⟨b, 0, none⟩ Tryz.underlying148 Tryz.underlying61 hj hsh liesText]
    simp only [Result.andThen]
    rw [Oper.upon_value]
    go_wp2
    go_end0
    exact ⟨rfl, HH.out.used _, (FrT.refl B b w).setCell 0 _⟩
  · have h0 : w.cell? ⟨b, 0, none⟩ = some (.pointer (some ⟨b, 0, none⟩)) := by obtain ⟨h1, h2, v, h3, h4⟩ := h; rw [Lib.cell_of_heap h3]; rfl
    have HH := Lib.hid h
    clear h
    go_enter Tryz.func79, Tryz.ntmps79
    go_wp2
    rw [Lib.run_neq_ptr_same w _ Tryz.underlying61 hj]
    go_wp2
    go_end0
    exact ⟨rfl, HH.out, FrT.refl _ _ _⟩
set_option maxHeartbeats 2000000 in
theorem c_WriteByteT (B b : Nat) (l : List UInt8) (bg : Bool) (c : UInt8) (cI : Int) (hcI : (c.toNat : Int) = cI) (w : World) (h : IsTx B b l bg w) (hlen : l.length + 1 ≤ 140737488355328) :
    Calls Tryz.prog 69 #[.pointer (some ⟨b, 0, none⟩), .int .u8 cI] w fun e w' => e = .returned .nilIface ∧ IsTx B b (l ++ [c]) bg w' ∧ FrT B b w w' := by
  obtain ⟨i0, hi, hz0, hz1, hz2⟩ := info_parts infoByteT
  have HC := Lib.hid hcI
  clear hcI
  have HL : Hid ((Lib.byteCells l).length = l.length) := Lib.byteCells_length l
  go_enter Tryz.func69, Tryz.ntmps69
  go_wp2_with (go_at_call 79; refine (c_copyCheckT B b _ _ _ h).mono ?_)
  rintro e w1 ⟨rfl, ⟨hb1, hB1, v, hbk, hown⟩, hfr⟩
  have c0 : w1.cell? ⟨b, 0, none⟩ = some (.pointer (some ⟨b, 0, none⟩)) := by rw [Lib.cell_of_heap hbk]; rfl
  have c1 : w1.cell? ⟨b, 1, none⟩ = some v := by rw [Lib.cell_of_heap hbk]; rfl
  go_wp2_with (at_builtin; refine wpList_append_own _ rfl _ _ 62 rfl B 5 i0 (.int .u8 0) 1 1 Tryz.underlying62 hi hz0 hz1 hz2 rfl (by decide) _ _ _ rfl (hown.alloc _) ⟨w1.heap.size, 0, none⟩ 1 1 [.int .u8 cI] rfl rfl ?c1 ?c2 ?c3 ?c4 ?c5 ?_)
  case c1 =>
    intro j u hj
    match j, hj with
    | 0, hj => simp at hj; subst hj; simp [Addr.add]
  case c2 => intro u hu; simp at hu; subst hu; rfl
  case c3 => rw [HL.out]; unfold maxLen; omega
  case c4 => rw [HL.out]; omega
  case c5 => simp; omega
  intro v' w2 hown' hgrow _
  have hlt : b < w1.heap.size := by omega
  have hb2 : w2.heap[b]? = some (.cells #[.pointer (some ⟨b, 0, none⟩), v, .bool bg] 66 (0, 0)) := by
    rw [hgrow.block b (by simp; omega) (fun e => tx_own_ne hown hb1 e.symm), Lib.alloc_old w1 _ b hlt]
    exact hbk
  have d0 : w2.cell? ⟨b, 0, none⟩ = some (.pointer (some ⟨b, 0, none⟩)) := by rw [Lib.cell_of_heap hb2]; rfl
  have d1 : w2.cell? ⟨b, 1, none⟩ = some v := by rw [Lib.cell_of_heap hb2]; rfl
  have f1 : w2.frozen? ⟨b, 1, none⟩ = false := Lib.frozen_of_heap hb2 1
  obtain ⟨g, cap, rfl⟩ : ∃ g cap, v' = .slice (some ⟨g, 0, none⟩) ((Lib.byteCells l).length + 1) cap := by
    rcases hown'.2 with ⟨_, h0⟩ | ⟨g, cap, cur, hv, _⟩
    · omega
    · exact ⟨g, cap, hv⟩
  go_wp2
  go_ret
  have hfr2 := (hfr.alloc hb1 hB1 _).grown (hown.alloc _) hgrow hb1 (by simp; omega)
  refine ⟨rfl, .inr (TxAt.put (l := l) hb1 (Nat.le_trans hB1 (Nat.le_trans (by simp) hgrow.size)) hb2 ?_), hfr2.setCell 1 _⟩
  have e : Lib.byteCells (l ++ [c]) = Lib.byteCells l ++ [.int .u8 cI] := by rw [Lib.byteCells_append, ← HC.out]; rfl
  rw [e]
  simpa using hown'
set_option maxHeartbeats 2000000 in
theorem c_WriteStringT (B b : Nat) (l s : List UInt8) (bg : Bool) (w : World) (h : IsTx B b l bg w) (hlen : l.length + s.length ≤ 140737488355328) :
    Calls Tryz.prog 70 #[.pointer (some ⟨b, 0, none⟩), .string ⟨s.toArray⟩] w fun e w' => e = .returned (.tuple #[.int .i64 s.length, .nilIface]) ∧ IsTx B b (l ++ s) bg w' ∧ FrT B b w w' := by
  obtain ⟨i0, hi, hz0, hz1, hz2⟩ := info_parts infoByteT
  have HL : Hid ((Lib.byteCells l).length = l.length) := Lib.byteCells_length l
  go_enter Tryz.func70, Tryz.ntmps70
  go_wp2_with (go_at_call 79; refine (c_copyCheckT B b _ _ _ h).mono ?_)
  rintro e w1 ⟨rfl, ⟨hb1, hB1, v, hbk, hown⟩, hfr⟩
  have c0 : w1.cell? ⟨b, 0, none⟩ = some (.pointer (some ⟨b, 0, none⟩)) := by rw [Lib.cell_of_heap hbk]; rfl
  have c1 : w1.cell? ⟨b, 1, none⟩ = some v := by rw [Lib.cell_of_heap hbk]; rfl
  have HS : Hid ((⟨s.toArray⟩ : ByteArray).size = s.length) := by show s.toArray.size = _; simp
  go_wp2_with (at_builtin; refine Lib.wpList_append_own_string _ rfl _ _ 62 9 rfl B 5 i0 Tryz.underlying62 Tryz.underlying9 hi hz0 hz1 hz2 _ _ _ rfl hown ⟨s.toArray⟩ rfl ?c3 ?c4 ?c5 ?_)
  case c3 => rw [HL.out, HS.out]; unfold maxLen; omega
  case c4 => rw [HL.out, HS.out]; omega
  case c5 => exact hB1
  intro v' w2 hown' hgrow _
  have hlt : b < w1.heap.size := by omega
  have hb2 : w2.heap[b]? = some (.cells #[.pointer (some ⟨b, 0, none⟩), v, .bool bg] 66 (0, 0)) := by
    rw [hgrow.block b hlt (fun e => tx_own_ne hown hb1 e.symm)]
    exact hbk
  have d0 : w2.cell? ⟨b, 0, none⟩ = some (.pointer (some ⟨b, 0, none⟩)) := by rw [Lib.cell_of_heap hb2]; rfl
  have d1 : w2.cell? ⟨b, 1, none⟩ = some v := by rw [Lib.cell_of_heap hb2]; rfl
  have f1 : w2.frozen? ⟨b, 1, none⟩ = false := Lib.frozen_of_heap hb2 1
  obtain ⟨ao, n', cap, rfl⟩ : ∃ ao n' cap, v' = .slice ao n' cap := by
    rcases hown'.2 with ⟨hv, _⟩ | ⟨g, cap, cur, hv, _⟩
    · exact ⟨_, _, _, hv⟩
    · exact ⟨_, _, _, hv⟩
  go_wp2
  go_ret2
  have hfr2 := hfr.grown hown hgrow hb1 hB1
  refine ⟨rfl, .inr (TxAt.put (l := l) hb1 (Nat.le_trans hB1 hgrow.size) hb2 ?_), hfr2.setCell 1 _⟩
  have e : Lib.byteCells (l ++ s) = Lib.byteCells l ++ Lib.strCells ⟨s.toArray⟩ := by rw [Lib.byteCells_append]; rfl
  rw [e]
  have e2 : (Lib.byteCells l ++ Lib.strCells ⟨s.toArray⟩).length = (Lib.byteCells l).length + (⟨s.toArray⟩ : ByteArray).size := by rw [List.length_append, Lib.strCells_length]
  rw [e2]
  exact hown'
set_option maxHeartbeats 1000000 in
theorem c_LenT (B b : Nat) (l : List UInt8) (bg : Bool) (w : World) (h : IsTx B b l bg w) :
    Calls Tryz.prog 39 #[.pointer (some ⟨b, 0, none⟩)] w fun e w' => e = .returned (.int .i64 (l.length : Nat)) ∧ w' = w := by
  obtain ⟨_, _, a, c, h1, _, _⟩ := h.cells
  obtain ⟨n, hn⟩ : ∃ n, l.length = n := ⟨_, rfl⟩
  rw [hn] at h1 ⊢
  clear h hn
  go_enter Tryz.func39, Tryz.ntmps39
  go_wp2
  go_ret
  exact ⟨rfl, rfl⟩
set_option maxHeartbeats 1000000 in
theorem c_isLong (B b : Nat) (l : List UInt8) (bg : Bool) (w : World) (h : IsTx B b l bg w) (hl : l.length ≤ 1000) :
    Calls Tryz.prog 25 #[.pointer (some ⟨b, 0, none⟩)] w fun e w' => e = .returned (.bool false) ∧ w' = w := by
  have HC := Lib.hid (c_LenT B b l bg w h)
  obtain ⟨n, hn⟩ : ∃ n, l.length = n := ⟨_, rfl⟩
  rw [hn] at HC hl
  clear h hn
  go_enter Tryz.func25, Tryz.ntmps25
  have hd : decide ((65536 : Int) < (n : Int)) = false := by simp; omega
  go_wp2_with (refine HC.out.mono ?_; clear HC; rintro e w' ⟨rfl, rfl⟩)
  go_ret
  exact ⟨rfl, rfl⟩
/-- A word behind the others of its line. -/
def wdT (l : List UInt8) (bg : Bool) (s : List UInt8) : List UInt8 := if bg then (l ++ [32]) ++ s else l ++ s
set_option maxHeartbeats 4000000 in
theorem c_pWords (B b r : Nat) (l s : List UInt8) (bg : Bool) (w : World) (h : IsTx B b l bg w) (hr : w.cell? ⟨r, 0, none⟩ = some (.string ⟨s.toArray⟩)) (hl : l.length + 1 + s.length ≤ 1000) :
    Calls Tryz.prog 57 #[.pointer (some ⟨b, 0, none⟩), .slice (some ⟨r, 0, none⟩) 1 1] w fun e w' => e = .returned (.tuple #[]) ∧ IsTx B b (wdT l bg s) true w' ∧ FrT B b w w' := by
  have HL := Lib.hid (c_isLong B b l bg w h (by omega))
  have HH := Lib.hid h
  have HN := Lib.hid hl
  obtain ⟨_, _, _, _, _, c2, fz⟩ := h.cells
  clear h hl
  go_enter Tryz.func57, Tryz.ntmps57
  go_wp2_with fail
  go_loopg [8] 1 (fun m v8 wr => (m = 1 ∧ v8 = .int .i64 0 ∧ wr = w) ∨ (m = 0 ∧ v8 = .int .i64 1 ∧ Hid (IsTx B b (wdT l bg s) true wr ∧ FrT B b w wr)))
  case atStart => exact .inl ⟨rfl, rfl, rfl⟩
  case round =>
    rcases hrel with ⟨rfl, rfl, rfl⟩ | ⟨rfl, rfl, HD⟩
    · cases bg
      · go_wp2_with (first
          | (go_at_call 25; refine HL.out.mono ?_; clear HL; rintro e w1 ⟨rfl, rfl⟩)
          | (go_at_call 70; refine (c_WriteStringT B b l s false _ HH.out (by have := HN.out; omega)).mono ?_; rintro e w2 ⟨rfl, h2, f2⟩; obtain ⟨_, _, _, _, _, d2, gz⟩ := h2.cells; have H2 := Lib.hid (And.intro h2 f2); clear h2 f2))
        go_roundg 0
        case measure => omega
        case rel => exact .inr ⟨rfl, rfl, by exact H2.out.1.begun true, H2.out.2.setCell 2 _⟩
      · go_wp2_with (first
          | (go_at_call 25; refine HL.out.mono ?_; clear HL; rintro e w1 ⟨rfl, rfl⟩)
          | (go_at_call 69; refine (c_WriteByteT B b l true 32 32 rfl _ HH.out (by have := HN.out; omega)).mono ?_; rintro e w2 ⟨rfl, h2, f2⟩; have H2 := Lib.hid (And.intro h2 f2); clear h2 f2)
          | (go_at_call 70; refine (c_WriteStringT B b (l ++ [32]) s true _ H2.out.1 (by have := HN.out; simp; omega)).mono ?_; rintro e w3 ⟨rfl, h3, f3⟩; obtain ⟨_, _, _, _, _, d2, gz⟩ := h3.cells; have H3 := Lib.hid (And.intro h3 f3); clear h3 f3))
        go_roundg 0
        case measure => omega
        case rel => exact .inr ⟨rfl, rfl, by exact H3.out.1.begun true, (H2.out.2.trans H3.out.2).setCell 2 _⟩
    · go_wp2_with fail
      go_end0
      exact ⟨rfl, HD.out.1, HD.out.2⟩
end Go.Proofs.YtiodghbhllfhlaaGreatDoor
namespace Go.Proofs.YtiodghbhllfhlaaGreatDoor
set_option linter.unusedVariables false
set_option linter.unusedSimpArgs false
set_option maxRecDepth 100000
open Go.RowKit

/-- A printer as a value. -/
abbrev pV (b : Nat) (a : Option Addr) (n c P : Nat) : Value := .agg #[.pointer (some ⟨b, 0, none⟩), .slice a n c, .slice (some ⟨P, 0, none⟩) n n]
theorem three_cells {w : World} {g : Nat} {c0 c1 c2 : Value} {T : TypeId} (h : w.heap[g]? = some (.cells #[c0, c1, c2] T)) : w.cell? ⟨g, 0, none⟩ = some c0 ∧ w.cell? ⟨g, 1, none⟩ = some c1 ∧ w.cell? ⟨g, 2, none⟩ = some c2 ∧ ∀ i, w.frozen? ⟨g, i, none⟩ = false := by
  refine ⟨?_, ?_, ?_, fun i => Lib.frozen_of_heap h i⟩ <;> (rw [Lib.cell_of_heap h]; rfl)
set_option maxHeartbeats 4000000 in
theorem c_printing (b : Nat) (t : List NdT) (a : Option Addr) (c : Nat) (w : World) (hl : t.length ≤ 4096) (ht : TrIn t a w) {ps : List (List Nat)} (hg : grow t = some ps) :
    Calls Tryz.prog 36 #[.pointer (some ⟨b, 0, none⟩), .slice a t.length c] w fun e w' => ∃ P, e = .returned (pV b a t.length c P) ∧ w.heap.size ≤ P ∧ PtIn (fun b => w.heap.size ≤ b) ps P w' ∧ Below w.heap.size w w' := by
  have HG : Hid (∀ w2, Below w.heap.size w w2 → Calls Tryz.prog 28 #[.slice a t.length c] w2 fun e w' => ∃ P, e = .returned (.tuple #[gwV a t.length c P, .bool true]) ∧ w2.heap.size ≤ P ∧ PtIn (fun b => w2.heap.size ≤ b) ps P w' ∧ Below w2.heap.size w2 w') := fun w2 hb => (c_grow t a c w2 hl (ht.next hb)).mono fun e w' ⟨hr, hb2⟩ => by
    rcases hr with ⟨ps', h1, h2, h3⟩ | ⟨h, _⟩
    · rw [hg] at h1
      cases h1
      exact ⟨_, h2, by omega, h3, hb2⟩
    · rw [hg] at h; cases h
  obtain ⟨N, hN⟩ : ∃ N, t.length = N := ⟨_, rfl⟩
  rw [hN] at HG ⊢
  clear ht hl hN hg
  go_enter Tryz.func36, Tryz.ntmps36
  have hz0 := heap_alloc_at (w := w) (.cells #[.pointer none, .slice none 0 0, .slice none 0 0] 80) _ rfl
  go_wp2_with (refine (HG.out _ ?hb).mono ?_; (case hb => exact below_o w _))
  rintro e w1 ⟨P, rfl, hPs, hP, hb⟩
  have hPs : w.heap.size + 1 ≤ P := by simpa using hPs
  have hz1 := blk_on hz0 hb
  have hs1 := hb.size
  have HB := Lib.hid (below_t (below_o w _) hb (below_o w _).size)
  have HP := Lib.hid hP
  clear hb hz0 hP
  have c0 : w1.cell? ⟨w.heap.size, 0, none⟩ = some (.pointer none) := by rw [Lib.cell_of_heap hz1]; rfl
  have c1 : w1.cell? ⟨w.heap.size, 1, none⟩ = some (.slice none 0 0) := by rw [Lib.cell_of_heap hz1]; rfl
  have c2 : w1.cell? ⟨w.heap.size, 2, none⟩ = some (.slice none 0 0) := by rw [Lib.cell_of_heap hz1]; rfl
  have fz : ∀ i, w1.frozen? ⟨w.heap.size, i, none⟩ = false := fun i => Lib.frozen_of_heap hz1 i
  have hlt : w.heap.size < w1.heap.size := (Array.getElem?_eq_some_iff.1 hz1).1
  go_wp2_with fail
  have hz9 := blk_on (tx_set3 (i := 2) (tx_set3 (i := 1) (tx_set3 (i := 0) hz1 (.pointer (some ⟨b, 0, none⟩))) (.slice a N c)) (.slice (some ⟨P, 0, none⟩) N N)) (below_o _ (.cells #[.slice a N c, .slice (some ⟨P, 0, none⟩) N N] 52))
  have hb9 := (((HB.out.setCell (p := ⟨w.heap.size, 0, none⟩) (Nat.le_refl _) (.pointer (some ⟨b, 0, none⟩))).setCell (p := ⟨w.heap.size, 1, none⟩) (Nat.le_refl _) (.slice a N c)).setCell (p := ⟨w.heap.size, 2, none⟩) (Nat.le_refl _) (.slice (some ⟨P, 0, none⟩) N N)).alloc (by simpa using HB.out.size) (.cells #[.slice a N c, .slice (some ⟨P, 0, none⟩) N N] 52)
  have hbl : ∀ j, j < w1.heap.size → j ≠ w.heap.size → ((((w1.setCell ⟨w.heap.size, 0, none⟩ (.pointer (some ⟨b, 0, none⟩))).setCell ⟨w.heap.size, 1, none⟩ (.slice a N c)).setCell ⟨w.heap.size, 2, none⟩ (.slice (some ⟨P, 0, none⟩) N N)).alloc (.cells #[.slice a N c, .slice (some ⟨P, 0, none⟩) N N] 52)).heap[j]? = w1.heap[j]? := fun j hj hne => (Below.heap_alloc _ _ _ (by simpa using hj)).trans ((Below.heap_setCell _ _ _ _ hne).trans ((Below.heap_setCell _ _ _ _ hne).trans (Below.heap_setCell _ _ _ _ hne)))
  have hsz : w1.heap.size ≤ ((((w1.setCell ⟨w.heap.size, 0, none⟩ (.pointer (some ⟨b, 0, none⟩))).setCell ⟨w.heap.size, 1, none⟩ (.slice a N c)).setCell ⟨w.heap.size, 2, none⟩ (.slice (some ⟨P, 0, none⟩) N N)).alloc (.cells #[.slice a N c, .slice (some ⟨P, 0, none⟩) N N] 52)).heap.size := by simp
  generalize (((w1.setCell ⟨w.heap.size, 0, none⟩ (.pointer (some ⟨b, 0, none⟩))).setCell ⟨w.heap.size, 1, none⟩ (.slice a N c)).setCell ⟨w.heap.size, 2, none⟩ (.slice (some ⟨P, 0, none⟩) N N)).alloc (.cells #[.slice a N c, .slice (some ⟨P, 0, none⟩) N N] 52) = w9 at hz9 hb9 hbl hsz ⊢
  obtain ⟨p0, p1, p2, _⟩ := three_cells hz9
  refine bodyPost_ret (v := pV b a N c P) (by simp [results, Tryz.results36, go_sem, p0, p1, p2]) rfl ?_
  refine ⟨P, rfl, by omega, ?_, hb9⟩
  have hPm := HP.out
  refine hPm.mono hsz (hbl _ hPm.lt ?_) fun b hb hlt => ?_
  · omega
  · have : w.heap.size + 1 ≤ b := by simpa using hb
    exact ⟨by show w.heap.size ≤ b; omega, hbl b hlt (by omega)⟩
theorem c_word (B b r : Nat) (l s : List UInt8) (bg : Bool) (w : World) (hr : r = w.heap.size) (h : IsTx B b l bg w) (hl : l.length + 1 + s.length ≤ 1000) :
    Calls Tryz.prog 57 #[.pointer (some ⟨b, 0, none⟩), .slice (some ⟨r, 0, none⟩) 1 1] (w.alloc (.cells #[.string ⟨s.toArray⟩] 9)) fun e w' => e = .returned (.tuple #[]) ∧ IsTx B b (wdT l bg s) true w' ∧ FrT B b w w' := by
  subst hr
  refine (c_pWords B b w.heap.size l s bg _ (h.next (below_o _ _)) ?_ hl).mono fun e w' ⟨he, hi, hf⟩ => ⟨he, hi, (FrT.of (below_o w _) h.cells.1 h.cells.2.1).trans hf⟩
  rw [Lib.cell_of_heap (heap_alloc_at (w := w) _ _ rfl)]
  rfl
set_option maxHeartbeats 4000000 in
theorem c_pWhen (B b : Nat) (l s : List UInt8) (bg is : Bool) (w : World) (h : IsTx B b l bg w) (hl : l.length + 1 + s.length ≤ 1000) :
    Calls Tryz.prog 48 #[.pointer (some ⟨b, 0, none⟩), .bool is, .string ⟨s.toArray⟩] w fun e w' => e = .returned (.tuple #[]) ∧ IsTx B b (if is then wdT l bg s else l) (if is then true else bg) w' ∧ FrT B b w w' := by
  have HH := Lib.hid h
  have HN := Lib.hid hl
  clear h hl
  go_enter Tryz.func48, Tryz.ntmps48
  cases is
  · go_wp2_with fail
    go_end0
    exact ⟨rfl, HH.out, FrT.refl _ _ _⟩
  · go_wp2_with (refine (c_word B b _ l s bg w rfl HH.out HN.out).mono ?_)
    rintro e w' ⟨rfl, h1, h2⟩
    have H1 := Lib.hid (And.intro h1 h2)
    clear h1 h2
    go_wp2_with fail
    go_end0
    exact ⟨rfl, H1.out.1, H1.out.2⟩
set_option maxHeartbeats 4000000 in
theorem c_last (a : Option Addr) (n c P : Nat) (h0 : n ≤ 4096) (w : World) : Calls Tryz.prog 38 #[gwV a n c P] w fun e w' => e = .returned (.int .i64 ((n : Int) - 1)) ∧ Below w.heap.size w w' := by
  have hw : IntKind.i64.wrap ((n : Int) - 1) = (n : Int) - 1 := by rw [IntKind.wrap_i64]; omega
  go_enter Tryz.func38, Tryz.ntmps38
  go_wp2_with fail
  go_ret
  exact ⟨rfl, below_o _ _⟩
/-- The tree lies below n₀. -/
def TrLo (n₀ : Nat) (t : List NdT) (a : Option Addr) (w : World) : Prop := 0 < t.length → ∃ b off, a = some ⟨b, off, none⟩ ∧ b < n₀ ∧ ∀ (k : Nat) (x : NdT), t[k]? = some x → ∀ (i : Nat) (v : Value), (noC x)[i]? = some v → w.cell? ⟨b, off + k * 6 + i, none⟩ = some v
/-- What a printer reads lies where it may not write. -/
structure PnI (t : List NdT) (ps : List (List Nat)) (a : Option Addr) (P B b : Nat) (w : World) : Prop where
  tr : TrLo b t a w
  pt : PtIn (fun k => b < k ∧ k < B) ps P w
  lt : b < P ∧ P < B
theorem PnI.next {t : List NdT} {ps : List (List Nat)} {a : Option Addr} {P B b : Nat} {w w' : World} (h : PnI t ps a P B b w) (hf : FrT B b w w') : PnI t ps a P B b w' where
  tr := fun h0 => by
    obtain ⟨g, off, h1, h2, h3⟩ := h.tr h0
    exact ⟨g, off, h1, h2, fun k x hk i v hi => (hf.1.cell (p := ⟨g, off + k * 6 + i, none⟩) h2).trans (h3 k x hk i v hi)⟩
  pt := h.pt.mono hf.size (hf.2 P h.lt.2 (by have := h.lt.1; omega)) fun k hk _ => ⟨hk, hf.2 k hk.2 (by omega)⟩
  lt := h.lt
/-- Words, one behind the other. -/
def txS (x : List UInt8 × Bool) (ts : List (List UInt8)) : List UInt8 × Bool := ts.foldl (fun x s => (wdT x.1 x.2 s, true)) x
theorem txS_app (x : List UInt8 × Bool) (ts us : List (List UInt8)) : txS x (ts ++ us) = txS (txS x ts) us := by unfold txS; rw [List.foldl_append]
theorem wd_len (l : List UInt8) (bg : Bool) (s : List UInt8) : l.length + s.length ≤ (wdT l bg s).length ∧ (wdT l bg s).length ≤ l.length + 1 + s.length := by
  unfold wdT
  split <;> simp <;> omega
theorem txS_len (x : List UInt8 × Bool) (ts : List (List UInt8)) : x.1.length ≤ (txS x ts).1.length := by
  induction ts generalizing x with
  | nil => exact Nat.le_refl _
  | cons s ts ih =>
    have h1 := ih (wdT x.1 x.2 s, true)
    have h2 := (wd_len x.1 x.2 s).1
    show _ ≤ (txS (wdT x.1 x.2 s, true) ts).1.length
    simp only [] at h1
    omega
/-- What a part of the printer does: it writes these words. -/
def WrP (B b : Nat) (l : List UInt8) (bg : Bool) (ts : List (List UInt8)) (w : World) (e : Ending) (w' : World) : Prop := e = .returned (.tuple #[]) ∧ IsTx B b (txS (l, bg) ts).1 (txS (l, bg) ts).2 w' ∧ FrT B b w w'
def PartC (B b : Nat) (t : List NdT) (ps : List (List Nat)) (a : Option Addr) (N c P : Nat) (ts : List (List UInt8)) (j : Nat) (lo : Int) : Prop :=
  ∀ (w : World) (l : List UInt8) (bg : Bool), PnI t ps a P B b w → IsTx B b l bg w → (txS (l, bg) ts).1.length ≤ 900 →
    Calls Tryz.prog 37 #[pV b a N c P, .int .i64 (j : Int), .int .i64 lo] w fun e w' => WrP B b l bg ts w e w'
set_option maxHeartbeats 4000000 in
theorem c_pAhead {B b : Nat} {t : List NdT} {ps : List (List Nat)} {a : Option Addr} {N c P : Nat} {ts : List (List UInt8)} {j : Nat} {lo : Int} (hp : PartC B b t ps a N c P ts j lo) (m : List UInt8)
    (w : World) (l : List UInt8) (bg : Bool) (hI : PnI t ps a P B b w) (hT : IsTx B b l bg w) (hl : (txS (l, bg) (m :: ts)).1.length ≤ 900) (hm : m.length ≤ 90) :
    Calls Tryz.prog 60 #[pV b a N c P, .string ⟨m.toArray⟩, .int .i64 (j : Int), .int .i64 lo] w fun e w' => WrP B b l bg (m :: ts) w e w' := by
  have h1 := txS_len (wdT l bg m, true) ts
  have h2 := wd_len l bg m
  have hlm : l.length + 1 + m.length ≤ 1000 := by
    have h3 : (txS (l, bg) (m :: ts)).1.length = (txS (wdT l bg m, true) ts).1.length := rfl
    simp only [] at h1
    omega
  have hbB := hT.cells.1
  have hbw := hT.cells.2.1
  have hf0 : FrT B b w (w.alloc (.cells #[.pointer (some ⟨b, 0, none⟩), .slice a N c, .slice (some ⟨P, 0, none⟩) N N] 80)) := FrT.of (below_o _ _) hbB hbw
  have HF0 := Lib.hid hf0
  have HW := Lib.hid (c_word B b (w.heap.size + 1) l m bg (w.alloc (.cells #[.pointer (some ⟨b, 0, none⟩), .slice a N c, .slice (some ⟨P, 0, none⟩) N N] 80)) (by simp) (hT.next (below_o w _)) hlm)
  have HP := Lib.hid hp
  have HI := Lib.hid (hI.next hf0)
  have HL := Lib.hid hl
  have hz := heap_alloc_at (w := w) (.cells #[.pointer (some ⟨b, 0, none⟩), .slice a N c, .slice (some ⟨P, 0, none⟩) N N] 80) _ rfl
  have HBW : Hid (b < B ∧ B ≤ w.heap.size) := ⟨hbB, hbw⟩
  clear hp hI hT hl hm h1 h2 hlm hf0
  go_enter Tryz.func60, Tryz.ntmps60
  have hne : w.heap.size ≠ b := by omega
  clear hbB hbw
  go_wp2_with (first
    | (go_at_call 57; refine HW.out.mono ?_; clear HW; rintro e w2 ⟨rfl, h1, h2⟩; have hz2 := h2.keep hz hne (by decide); obtain ⟨d0, d1, d2, _⟩ := three_cells hz2; have H2 := Lib.hid (And.intro h1 h2); clear h1 h2)
    | (go_at_call 37; refine (HP.out w2 (wdT l bg m) true (HI.out.next H2.out.2) H2.out.1 HL.out).mono ?_; rintro e w3 ⟨rfl, h3, h4⟩; have H3 := Lib.hid (And.intro h3 h4); clear h3 h4))
  go_end0
  exact ⟨rfl, H3.out.1, HF0.out.trans (H2.out.2.trans H3.out.2)⟩
set_option maxHeartbeats 4000000 in
theorem c_pBetween {B b : Nat} {t : List NdT} {ps : List (List Nat)} {a : Option Addr} {N c P : Nat} {ts us : List (List UInt8)} {q r : Nat} {lo lr : Int} (hp : PartC B b t ps a N c P ts q lo) (hr : PartC B b t ps a N c P us r lr) (m : List UInt8)
    (w : World) (l : List UInt8) (bg : Bool) (rb ro rc : Nat) (hI : PnI t ps a P B b w) (hT : IsTx B b l bg w) (hl : (txS (l, bg) (ts ++ m :: us)).1.length ≤ 900) (hm : m.length ≤ 90)
    (hrb : b < rb ∧ rb < B) (hc0 : w.cell? ⟨rb, ro, none⟩ = some (.int .i64 (q : Int))) (hc1 : w.cell? ⟨rb, ro + 1, none⟩ = some (.int .i64 (r : Int))) :
    Calls Tryz.prog 62 #[pV b a N c P, .slice (some ⟨rb, ro, none⟩) 2 rc, .int .i64 lo, .string ⟨m.toArray⟩, .int .i64 lr] w fun e w' => WrP B b l bg (ts ++ m :: us) w e w' := by
  have hbB := hT.cells.1
  have hbw := hT.cells.2.1
  rw [txS_app] at hl
  have h1 := txS_len (txS (l, bg) ts) (m :: us)
  have hb1 := (below_o w (.cells #[.pointer (some ⟨b, 0, none⟩), .slice a N c, .slice (some ⟨P, 0, none⟩) N N] 80)).drew
  have hf0 : FrT B b w (w.alloc (.cells #[.pointer (some ⟨b, 0, none⟩), .slice a N c, .slice (some ⟨P, 0, none⟩) N N] 80)).drew := FrT.of hb1 hbB hbw
  have HA := Lib.hid (hp _ l bg (hI.next hf0) (hT.next hb1) (by omega))
  have HB := Lib.hid (fun W hI' hT' => c_pAhead hr m W (txS (l, bg) ts).1 (txS (l, bg) ts).2 hI' hT' hl hm)
  have HI := Lib.hid (hI.next hf0)
  have HF0 := Lib.hid hf0
  have hz := heap_alloc_at (w := w) (.cells #[.pointer (some ⟨b, 0, none⟩), .slice a N c, .slice (some ⟨P, 0, none⟩) N N] 80) _ rfl
  obtain ⟨z0, z1, z2, _⟩ := three_cells hz
  have e0 := (hf0.low rb hrb.2 (by omega))
  have g0 := (blk_cell e0 ro).trans hc0
  have g1 := (blk_cell e0 (ro + 1)).trans hc1
  have hne : w.heap.size ≠ b := by omega
  have HRB := Lib.hid hrb
  have hrlt : rb < w.heap.size := by omega
  clear hp hr hI hT hl hm h1 hf0 hrb hb1 e0 hbB hbw
  go_enter Tryz.func62, Tryz.ntmps62
  go_wp2_with fail
  go_region_law (first | (go_simp; go_at_call 37; refine HA.out.mono ?_; clear HA; rintro e w2 ⟨rfl, h1, h2⟩; have hz2 := h2.keep hz hne (by decide); obtain ⟨d0, d1, d2, _⟩ := three_cells hz2; have e2 := h2.low rb HRB.out.2 (by have := HRB.out; omega); have u0 := (blk_cell e2 ro).trans g0; have u1 := (blk_cell e2 (ro + 1)).trans g1; have H2 := Lib.hid (And.intro h1 h2); clear h1 h2 e2))
  all_goals
    have HC := Lib.hid (HB.out w2.drew (HI.out.next H2.out.2.drew) (H2.out.1.next (Below.refl _ _).drew))
    clear HB
    go_wp2_with fail
    go_region_law (first | (go_simp; go_at_call 60; refine HC.out.mono ?_; clear HC; rintro e w3 ⟨rfl, h3, h4⟩; have H3 := Lib.hid (And.intro h3 h4); clear h3 h4))
  all_goals
    go_wp2_with fail
    go_end0
    exact ⟨rfl, by rw [txS_app]; exact H3.out.1, HF0.out.trans ((H2.out.2.drew).trans H3.out.2)⟩
/-- The level of a mark (of + and * alone). -/
def blv (l : List UInt8) : Int := if l = [43] then 11 else 12
set_option maxHeartbeats 2000000 in
theorem c_binLv (l : List UInt8) (h : l = [43] ∨ l = [42]) (w : World) : Calls Tryz.prog 56 #[.string ⟨l.toArray⟩] w fun e w' => e = .returned (.int .i64 (blv l)) ∧ w' = w := by
  rcases h with rfl | rfl
  all_goals
    go_enter Tryz.func56, Tryz.ntmps56
    go_wp2
    go_ret
    exact ⟨rfl, rfl⟩
/-- A name, or a sum or a product. -/
def SiN (x : NdT) : Prop := x.kind = 3 ∨ (x.kind = 7 ∧ (x.text = [43] ∨ x.text = [42]))
def lvA (x : NdT) : Int := if x.kind = 7 then blv x.text else 15
set_option maxHeartbeats 2000000 in
theorem c_level (x : NdT) (h : SiN x) (w : World) : Calls Tryz.prog 47 #[noX x] w fun e w' => e = .returned (.int .i64 (lvA x)) ∧ Below w.heap.size w w' := by
  obtain ⟨k, n, ai, i, s, ty⟩ := x
  rcases h with h | ⟨h, hm⟩
  · have hk : k = 3 := h
    subst hk
    go_enter Tryz.func47, Tryz.ntmps47
    go_wp2_with fail
    go_ret
    exact ⟨rfl, below_o _ _⟩
  · have hk : k = 7 := h
    have HM := Lib.hid (c_binLv s hm)
    subst hk
    clear hm h
    go_enter Tryz.func47, Tryz.ntmps47
    go_wp2_with (refine (HM.out _).mono ?_; rintro e w2 ⟨rfl, rfl⟩)
    go_ret
    exact ⟨rfl, below_o _ _⟩
theorem PnI.node {t : List NdT} {ps : List (List Nat)} {a : Option Addr} {P B b : Nat} {w : World} (h : PnI t ps a P B b w) {j : Nat} {x : NdT} (hj : t[j]? = some x) : ∃ g off, a = some ⟨g, off, none⟩ ∧ g < b ∧ ∀ (i : Nat) (v : Value), (noC x)[i]? = some v → w.cell? ⟨g, off + j * 6 + i, none⟩ = some v := by
  obtain ⟨g, off, h1, h2, h3⟩ := h.tr (by have := (List.getElem?_eq_some_iff.1 hj).1; omega)
  exact ⟨g, off, h1, h2, fun i v hi => h3 j x hj i v hi⟩
set_option maxHeartbeats 4000000 in
theorem c_bareN {B b : Nat} {t : List NdT} {ps : List (List Nat)} {a : Option Addr} {N c P j : Nat} {x : NdT} (hN : t.length = N) (hN4 : N ≤ 4096) (hj : t[j]? = some x) (hk : x.kind = 3) {p : List Nat} (hp : ps[j]? = some p)
    (w : World) (l : List UInt8) (bg : Bool) (hI : PnI t ps a P B b w) (hT : IsTx B b l bg w) (hl : (txS (l, bg) [x.text]).1.length ≤ 900) :
    Calls Tryz.prog 49 #[pV b a N c P, .int .i64 (j : Int)] w fun e w' => WrP B b l bg [x.text] w e w' := by
  obtain ⟨g, off, ha, hg, hx⟩ := hI.node hj
  subst ha
  obtain ⟨k, n, ai, i, s, ty⟩ := x
  have hk : k = 3 := hk
  subst hk
  have hbB := hT.cells.1
  have hbw := hT.cells.2.1
  have y0 := hx 0 _ rfl
  have y1 := hx 1 _ rfl
  have y2 := hx 2 _ rfl
  have y3 := hx 3 _ rfl
  have y4 := hx 4 _ rfl
  have y5 := hx 5 _ rfl
  rw [Nat.add_zero] at y0
  obtain ⟨pa, pc, q0, hpc, hpi⟩ := hI.pt.row j p hp
  have hjN : j < N := by have := (List.getElem?_eq_some_iff.1 hj).1; omega
  have hj0 : (0 : Int) ≤ (j : Int) := by omega
  have hjI : (j : Int) < (N : Int) := by omega
  have hlt := hI.lt
  have hgw : g < w.heap.size := by omega
  have hPw : P < w.heap.size := by omega
  obtain ⟨ml, hml⟩ : ∃ ml, p.length = ml := ⟨_, rfl⟩
  rw [hml] at q0
  have hb2 : Below w.heap.size w ((w.alloc (.cells #[.pointer (some ⟨b, 0, none⟩), .slice (some ⟨g, off, none⟩) N c, .slice (some ⟨P, 0, none⟩) N N] 80)).alloc (.cells #[.int .i64 3, .int .i64 n, .int .i64 ai, .int .i64 i, .string ⟨s.toArray⟩, .string ⟨ty.toArray⟩] 41)).drew := ((below_o _ _).alloc (by simp) _).drew
  have HF0 : Hid (FrT B b w _) := FrT.of hb2 hbB hbw
  have hlm : l.length + 1 + s.length ≤ 1000 := by
    have h3 : (txS (l, bg) [s]).1.length = (wdT l bg s).length := rfl
    have h4 := (wd_len l bg s).1
    simp only [] at hl
    omega
  have HW := Lib.hid (fun r hr => c_word B b r l s bg _ hr (hT.next hb2) hlm)
  clear hx hpi hml hpc hp hI hT hl hlm hb2
  go_enter Tryz.func49, Tryz.ntmps49
  go_wp2_with fail
  go_region
  go_wp2_with (refine (HW.out _ ?hr).mono ?_; (case hr => simp); rintro e w2 ⟨rfl, h1, h2⟩)
  have H2 := Lib.hid (And.intro h1 h2)
  clear h1 h2
  go_wp2_with fail
  go_end0
  exact ⟨rfl, H2.out.1, HF0.out.trans H2.out.2⟩
end Go.Proofs.YtiodghbhllfhlaaGreatDoor
namespace Go.Proofs.YtiodghbhllfhlaaGreatDoor
set_option linter.unusedVariables false
set_option linter.unusedSimpArgs false
set_option maxRecDepth 100000
open Go.RowKit

set_option maxHeartbeats 4000000 in
theorem c_bareB {B b : Nat} {t : List NdT} {ps : List (List Nat)} {a : Option Addr} {N c P j : Nat} {x : NdT} (hN : t.length = N) (hN4 : N ≤ 4096) (hj : t[j]? = some x) (hk : x.kind = 7) (hm : x.text = [43] ∨ x.text = [42]) {q r : Nat} (hp : ps[j]? = some [q, r]) {ts us : List (List UInt8)} (h1 : PartC B b t ps a N c P ts q (blv x.text)) (h2 : PartC B b t ps a N c P us r (blv x.text + 1))
    (w : World) (l : List UInt8) (bg : Bool) (hI : PnI t ps a P B b w) (hT : IsTx B b l bg w) (hl : (txS (l, bg) (ts ++ x.text :: us)).1.length ≤ 900) :
    Calls Tryz.prog 49 #[pV b a N c P, .int .i64 (j : Int)] w fun e w' => WrP B b l bg (ts ++ x.text :: us) w e w' := by
  obtain ⟨g, off, ha, hg, hx⟩ := hI.node hj
  subst ha
  obtain ⟨k, n, ai, i, s, ty⟩ := x
  have hk : k = 7 := hk
  subst hk
  have hbB := hT.cells.1
  have hbw := hT.cells.2.1
  have y0 := hx 0 _ rfl
  have y1 := hx 1 _ rfl
  have y2 := hx 2 _ rfl
  have y3 := hx 3 _ rfl
  have y4 := hx 4 _ rfl
  have y5 := hx 5 _ rfl
  rw [Nat.add_zero] at y0
  obtain ⟨pa, pc, q0, hpc, hpi⟩ := hI.pt.row j _ hp
  have hjN : j < N := by have := (List.getElem?_eq_some_iff.1 hj).1; omega
  have hj0 : (0 : Int) ≤ (j : Int) := by omega
  have hjI : (j : Int) < (N : Int) := by omega
  have hlt := hI.lt
  have hgw : g < w.heap.size := by omega
  have hPw : P < w.heap.size := by omega
  obtain ⟨rb, ro, hpa, hrb, hrw, hri⟩ := hpi (by simp)
  subst hpa
  have r0 := hri 0 q rfl
  have r1 := hri 1 r rfl
  rw [Nat.add_zero] at r0
  have hb2 : Below w.heap.size w ((w.alloc (.cells #[.pointer (some ⟨b, 0, none⟩), .slice (some ⟨g, off, none⟩) N c, .slice (some ⟨P, 0, none⟩) N N] 80)).alloc (.cells #[.int .i64 7, .int .i64 n, .int .i64 ai, .int .i64 i, .string ⟨s.toArray⟩, .string ⟨ty.toArray⟩] 41)).drew := ((below_o _ _).alloc (by simp) _).drew
  have HF0 : Hid (FrT B b w _) := FrT.of hb2 hbB hbw
  have hm : s = [43] ∨ s = [42] := hm
  have hsl : s.length ≤ 90 := by rcases hm with h | h <;> (rw [h]; decide)
  have hwv : IntKind.i64.wrap (blv s + 1) = blv s + 1 := by rcases hm with h | h <;> (rw [h]; decide)
  have HM := Lib.hid (c_binLv s hm)
  have HBt := Lib.hid (c_pBetween h1 h2 s _ l bg rb ro pc (hI.next (HF0.out.trans (FrT.refl _ _ _).drew)) (hT.next hb2.drew) hl hsl hrb (((blk_cell (HF0.out.low rb hrb.2 (by omega)) _)).trans r0) (((blk_cell (HF0.out.low rb hrb.2 (by omega)) _)).trans r1))
  have hsl2 : ∀ pc', (Value.slice (some ⟨rb, ro, none⟩) ([q, r] : List Nat).length pc') = .slice (some ⟨rb, ro, none⟩) 2 pc' := fun _ => rfl
  rw [hsl2] at q0
  obtain ⟨v, hv⟩ : ∃ v, blv s = v := ⟨_, rfl⟩
  obtain ⟨tk, htk⟩ : ∃ tk, ts ++ s :: us = tk := ⟨_, rfl⟩
  rw [hv] at HM HBt hwv
  rw [htk] at HBt
  show Calls _ _ _ _ fun e w' => WrP B b l bg (ts ++ s :: us) w e w'
  rw [htk]
  clear hx hpi hpc hp hI hT hl hsl hb2 hrb hrw hri r0 r1 hm h1 h2 hsl2 hv htk
  go_enter Tryz.func49, Tryz.ntmps49
  go_wp2_with fail
  go_region
  go_wp2_with fail
  have hzp : ((w.alloc (.cells #[.pointer (some ⟨b, 0, none⟩), .slice (some ⟨g, off, none⟩) N c, .slice (some ⟨P, 0, none⟩) N N] 80)).alloc (.cells #[.int .i64 7, .int .i64 n, .int .i64 ai, .int .i64 i, .string ⟨s.toArray⟩, .string ⟨ty.toArray⟩] 41)).drew.drew.heap[w.heap.size]? = some (.cells #[.pointer (some ⟨b, 0, none⟩), .slice (some ⟨g, off, none⟩) N c, .slice (some ⟨P, 0, none⟩) N N] 80) := blk_on (heap_alloc_at (w := w) _ _ rfl) (below_o _ _).drew.drew
  have hzn : ((w.alloc (.cells #[.pointer (some ⟨b, 0, none⟩), .slice (some ⟨g, off, none⟩) N c, .slice (some ⟨P, 0, none⟩) N N] 80)).alloc (.cells #[.int .i64 7, .int .i64 n, .int .i64 ai, .int .i64 i, .string ⟨s.toArray⟩, .string ⟨ty.toArray⟩] 41)).drew.drew.heap[w.heap.size + 1]? = some (.cells #[.int .i64 7, .int .i64 n, .int .i64 ai, .int .i64 i, .string ⟨s.toArray⟩, .string ⟨ty.toArray⟩] 41) := heap_alloc_at (w := w.alloc (.cells #[.pointer (some ⟨b, 0, none⟩), .slice (some ⟨g, off, none⟩) N c, .slice (some ⟨P, 0, none⟩) N N] 80)) _ _ (by simp)
  have HF3 := Lib.hid (HF0.out.drew)
  generalize ((w.alloc (.cells #[.pointer (some ⟨b, 0, none⟩), .slice (some ⟨g, off, none⟩) N c, .slice (some ⟨P, 0, none⟩) N N] 80)).alloc (.cells #[.int .i64 7, .int .i64 n, .int .i64 ai, .int .i64 i, .string ⟨s.toArray⟩, .string ⟨ty.toArray⟩] 41)).drew = W2 at hzp hzn HBt HF3 ⊢
  refine wp_region_still_tail 11 (by kernel_rfl) (by kernel_rfl) ?_
  simp only [List.take_succ_cons, List.take_zero, List.drop_succ_cons, List.drop_zero]
  change wpStill _ _ W2.drew _ _ _
  generalize hW3 : W2.drew = W3 at hzp hzn HBt HF3 ⊢
  obtain ⟨z0, z1, z2, _⟩ := three_cells hzp
  obtain ⟨_, _, _, _, z7, _, _⟩ := six_cells hzn
  repeat still_step
  still_call (HM.out _)
  repeat still_step
  still_call (HM.out _)
  repeat still_step
  refine wpStill_nil ?_
  change wpList _ _ _ _ _ W2.drew
  rw [hW3]
  clear hW3
  go_wp2_with (go_at_call 62; refine HBt.out.mono ?_; rintro e w3 ⟨rfl, h3, h4⟩; have H3 := Lib.hid (And.intro h3 h4); clear h3 h4)
  go_end0
  exact ⟨rfl, H3.out.1, HF3.out.trans H3.out.2⟩
end Go.Proofs.YtiodghbhllfhlaaGreatDoor
