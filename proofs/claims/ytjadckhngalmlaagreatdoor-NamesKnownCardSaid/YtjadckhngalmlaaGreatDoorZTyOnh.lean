/-
  The contract of the reader of one type, in the code.
-/
import Derived.Test.YtjadckhngalmlaaGreatDoorZTyNd
import Derived.Deep.AppendLies
import Derived.Deep.RegionLaw
import Derived.Laws.IdiomCopy
import Derived.Deep.LoopGhost
import Derived.Deep.RegionWith
namespace Go.Proofs.YtjadckhngalmlaaGreatDoor
set_option linter.unusedVariables false
set_option linter.unusedSimpArgs false
set_option maxRecDepth 100000
open Go.RowKit

theorem infoNode : (Tryz.prog.info? 173).map (fun i => (i.zero, i.size, i.bytes)) = some (some (.agg #[.int .u8 0, .string ByteArray.empty, .int .i64 0, .string ByteArray.empty, .slice none 0 0]), 5, 72) := by kernel_rfl
/-- A row of nodes that grows in cell 4 of block d; all in it lies from N on. -/
structure PartsAt (N d : Nat) (L : List (Ty × Value)) (v : Value) (w : World) : Prop where
  cell : w.cell? ⟨d, 4, none⟩ = some v
  own : w.ownsRow N 173 5 v L.length (ndCs L)
  kids : ∀ p ∈ L, Nd (fun j => N ≤ j ∧ j < w.heap.size ∧ v.ownBlock ≠ some j) w p.1 p.2
/-- What a part that is read leaves as it was: all below N but the place in block b and cell 4 of block d. -/
structure PtX (b d N : Nat) (w : World) (k : Nat) (wr : World) : Prop where
  oth : ∀ i, i ≠ 1 → wr.cell? ⟨b, i, none⟩ = w.cell? ⟨b, i, none⟩
  pos : wr.cell? ⟨b, 1, none⟩ = some (.int .i64 k)
  frz : ∀ i, wr.frozen? ⟨b, i, none⟩ = w.frozen? ⟨b, i, none⟩
  doth : ∀ i, i ≠ 4 → wr.cell? ⟨d, i, none⟩ = w.cell? ⟨d, i, none⟩
  dfrz : ∀ i, wr.frozen? ⟨d, i, none⟩ = w.frozen? ⟨d, i, none⟩
  blk : ∀ j, j ≠ b → j ≠ d → j < N → wr.heap[j]? = w.heap[j]?
  size : w.heap.size ≤ wr.heap.size
  os : wr.os = w.os
  tape : wr.tape = w.tape
  output : wr.output = w.output
def OneP (l : List UInt8) (k : Nat) (w : World) (q : Bool) (cs : List Value) (j : Nat) (w' : World) : Prop :=
  (∃ t y s, rd (l.drop k) = some (t, y) ∧ q = true ∧ cs = ndC t s ∧ j = plc l y ∧ Nd (Fm w.heap.size w') w' t s) ∨ (rd (l.drop k) = none ∧ q = false)
/-- What one answers. -/
def OneR (b : Nat) (l : List UInt8) (k : Nat) (w : World) (e : Ending) (w' : World) : Prop :=
  ∃ (q : Bool) (x0 : Int) (s1 : ByteArray) (x2 : Int) (s3 : ByteArray) (a4 : Option Addr) (n4 m4 j : Nat), e = .returned (.tuple #[.agg #[.int .u8 x0, .string s1, .int .i64 x2, .string s3, .slice a4 n4 m4], .bool q]) ∧ k ≤ j ∧ j ≤ l.length ∧ RdX b w j w' ∧ OneP l k w q [.int .u8 x0, .string s1, .int .i64 x2, .string s3, .slice a4 n4 m4] j w'
def OneC (n : Nat) : Prop := ∀ (B b : Nat) (l : List UInt8) (k : Nat) (w : World), Env B w → B ≤ b → b < w.heap.size → k ≤ l.length → l.length ≤ 65536 → (l.drop k).length ≤ n → w.cell? ⟨b, 0, none⟩ = some (.string ⟨l.toArray⟩) → w.cell? ⟨b, 1, none⟩ = some (.int .i64 k) → w.frozen? ⟨b, 1, none⟩ = false →
  Calls Tryz.prog 110 #[.pointer (some ⟨b, 0, none⟩)] w fun e w' => OneR b l k w e w'
theorem own_far {w w' : World} {N : Nat} {T : TypeId} {z : Nat} {v : Value} {n : Nat} {xs : List Value} (h : w.ownsRow N T z v n xs) (hw : ∀ g, v.ownBlock = some g → N ≤ g → w'.heap[g]? = w.heap[g]?) : w'.ownsRow N T z v n xs := by
  refine ⟨h.1, ?_⟩
  rcases h.2 with hn | ⟨g, cap, cur, rfl, hb, hgg, rest⟩
  · exact .inl hn
  · exact .inr ⟨g, cap, cur, rfl, hb, (hw g rfl hb).trans hgg, rest⟩
theorem zero_one : ∀ u ∈ [Value.int .u8 0, .string ByteArray.empty, .int .i64 0, .string ByteArray.empty, .slice none 0 0], u.oneCell' = true := by
  intro u hu
  simp only [List.mem_cons, List.not_mem_nil, or_false] at hu
  rcases hu with rfl | rfl | rfl | rfl | rfl <;> rfl
theorem own_zero {w : World} {N : Nat} {T : TypeId} {g cap : Nat} {L : List (Ty × Value)} (h : w.ownsRow N T 5 (.slice (some ⟨g, 0, none⟩) (L.length + 1) cap) (L.length + 1) (ndCs L ++ [.int .u8 0, .string ByteArray.empty, .int .i64 0, .string ByteArray.empty, .slice none 0 0])) :
    w.cell? ⟨g, L.length * 5, none⟩ = some (.int .u8 0) ∧ w.cell? ⟨g, L.length * 5 + 1, none⟩ = some (.string ByteArray.empty) ∧ w.cell? ⟨g, L.length * 5 + 2, none⟩ = some (.int .i64 0) ∧ w.cell? ⟨g, L.length * 5 + 3, none⟩ = some (.string ByteArray.empty) ∧ w.cell? ⟨g, L.length * 5 + 4, none⟩ = some (.slice none 0 0) ∧ ∀ i, w.frozen? ⟨g, i, none⟩ = false := by
  have hc : ∀ i u, [Value.int .u8 0, .string ByteArray.empty, .int .i64 0, .string ByteArray.empty, .slice none 0 0][i]? = some u → w.cell? ⟨g, L.length * 5 + i, none⟩ = some u := fun i u hu => by
    have e := h.cells (g := g) rfl (L.length * 5 + i) u (by rw [List.getElem?_append_right (by rw [ndCs_len]; omega), ndCs_len, show L.length * 5 + i - L.length * 5 = i by omega]; exact hu)
    have ea : (⟨g, 0, none⟩ : Addr).add (L.length * 5 + i) = ⟨g, L.length * 5 + i, none⟩ := by unfold Addr.add; split <;> simp_all
    rwa [ea] at e
  refine ⟨hc 0 _ rfl, hc 1 _ rfl, hc 2 _ rfl, hc 3 _ rfl, hc 4 _ rfl, fun i => ?_⟩
  rcases h.2 with ⟨hv, _⟩ | ⟨g', cap', cur, hv, _, hg, _⟩
  · cases hv
  · cases hv
    exact Lib.frozen_of_heap hg i
theorem own_set {w : World} {N : Nat} {T : TypeId} {z g n cap : Nat} {xs : List Value} (h : w.ownsRow N T z (.slice (some ⟨g, 0, none⟩) n cap) n xs) (i : Nat) (u : Value) : (w.setCell ⟨g, i, none⟩ u).ownsRow N T z (.slice (some ⟨g, 0, none⟩) n cap) n (xs.set i u) := by
  refine ⟨by rw [List.length_set]; exact h.1, ?_⟩
  rcases h.2 with ⟨hv, _⟩ | ⟨g', cap', cur, hv, hb, hg, h1, h2, h3, h4⟩
  · cases hv
  · cases hv
    refine .inr ⟨g, cap, cur.setIfInBounds i u, rfl, hb, heap_setCell_same w g i cur T u hg, h1, h2, by simpa using h3, ?_⟩
    rw [← h4, Array.toList_setIfInBounds, List.take_set]
theorem set_five (A : List Value) (a0 a1 a2 a3 a4 c0 c1 c2 c3 c4 : Value) (m : Nat) (hm : A.length = m) :
    (((((A ++ [a0, a1, a2, a3, a4]).set m c0).set (m + 1) c1).set (m + 2) c2).set (m + 3) c3).set (m + 4) c4 = A ++ [c0, c1, c2, c3, c4] := by
  subst hm
  simp [List.set_append]
/-- Behind the append and both stores. -/
structure PtEnd (N : Nat) (w6 : World) (g d m cap : Nat) (xs : List Value) (w9 : World) : Prop where
  own : w9.ownsRow N 173 5 (.slice (some ⟨g, 0, none⟩) m cap) m xs
  cell : w9.cell? ⟨d, 4, none⟩ = some (.slice (some ⟨g, 0, none⟩) m cap)
  doth : ∀ i, i ≠ 4 → w9.cell? ⟨d, i, none⟩ = w6.cell? ⟨d, i, none⟩
  dfrz : ∀ i, w9.frozen? ⟨d, i, none⟩ = w6.frozen? ⟨d, i, none⟩
  blk : ∀ j, j ≠ g → j ≠ d → w9.heap[j]? = w6.heap[j]?
  size : w9.heap.size = w6.heap.size
  os : w9.os = w6.os
  tape : w9.tape = w6.tape
  output : w9.output = w6.output
/-- What writing into block g leaves as it was. -/
structure Stp (g : Nat) (w w' : World) : Prop where
  blk : ∀ j, j ≠ g → w'.heap[j]? = w.heap[j]?
  frz : ∀ a, w'.frozen? a = w.frozen? a
  size : w'.heap.size = w.heap.size
  os : w'.os = w.os
  tape : w'.tape = w.tape
  output : w'.output = w.output
theorem Stp.set (g k : Nat) (w : World) (u : Value) : Stp g w (w.setCell ⟨g, k, none⟩ u) := ⟨fun j hj => Below.heap_setCell _ _ _ _ hj, fun a => World.frozen?_setCell _ _ _ _, World.size_setCell _ _ _, rfl, rfl, rfl⟩
theorem Stp.trans {g : Nat} {a b c : World} (h : Stp g a b) (k : Stp g b c) : Stp g a c := ⟨fun j hj => (k.blk j hj).trans (h.blk j hj), fun x => (k.frz x).trans (h.frz x), k.size.trans h.size, k.os.trans h.os, k.tape.trans h.tape, k.output.trans h.output⟩
theorem Stp.five (g m : Nat) (w : World) (c0 c1 c2 c3 c4 : Value) : Stp g w (((((w.setCell ⟨g, m, none⟩ c0).setCell ⟨g, m + 1, none⟩ c1).setCell ⟨g, m + 2, none⟩ c2).setCell ⟨g, m + 3, none⟩ c3).setCell ⟨g, m + 4, none⟩ c4) :=
  ((((Stp.set g m w c0).trans (Stp.set g _ _ c1)).trans (Stp.set g _ _ c2)).trans (Stp.set g _ _ c3)).trans (Stp.set g _ _ c4)
theorem own_five {w : World} {N g cap : Nat} {L : List (Ty × Value)} {a0 a1 a2 a3 a4 : Value} (h : w.ownsRow N 173 5 (.slice (some ⟨g, 0, none⟩) (L.length + 1) cap) (L.length + 1) (ndCs L ++ [a0, a1, a2, a3, a4])) (c0 c1 c2 c3 c4 : Value) :
    (((((w.setCell ⟨g, L.length * 5, none⟩ c0).setCell ⟨g, L.length * 5 + 1, none⟩ c1).setCell ⟨g, L.length * 5 + 2, none⟩ c2).setCell ⟨g, L.length * 5 + 3, none⟩ c3).setCell ⟨g, L.length * 5 + 4, none⟩ c4).ownsRow N 173 5 (.slice (some ⟨g, 0, none⟩) (L.length + 1) cap) (L.length + 1) (ndCs L ++ [c0, c1, c2, c3, c4]) := by
  have h5 := own_set (own_set (own_set (own_set (own_set h (L.length * 5) c0) (L.length * 5 + 1) c1) (L.length * 5 + 2) c2) (L.length * 5 + 3) c3) (L.length * 5 + 4) c4
  rw [set_five _ _ _ _ _ _ _ _ _ _ _ _ (ndCs_len L)] at h5
  exact h5
theorem own_dset {w : World} {N g d n cap : Nat} {T : TypeId} {z : Nat} {xs : List Value} (h : w.ownsRow N T z (.slice (some ⟨g, 0, none⟩) n cap) n xs) (hgd : ¬ g = d) (u : Value) : (w.setCell ⟨d, 4, none⟩ u).ownsRow N T z (.slice (some ⟨g, 0, none⟩) n cap) n xs :=
  ownsRow_setCell_other h (a := ⟨d, 4, none⟩) (by simp [Value.ownBlock]; exact hgd) u
theorem end_of {N : Nat} {w6 w7 w9 : World} {g d m cap : Nat} {xs : List Value} {v : Value} (ho : w9.ownsRow N 173 5 (.slice (some ⟨g, 0, none⟩) m cap) m xs) (hgd : ¬ g = d) (hc : w9.cell? ⟨d, 4, none⟩ = some (.slice (some ⟨g, 0, none⟩) m cap)) (hd : ∀ i, i ≠ 4 → w9.cell? ⟨d, i, none⟩ = w6.cell? ⟨d, i, none⟩)
    (h : (Stp g w6 w7 ∧ Stp d w7 w9) ∨ (Stp d w6 w7 ∧ Stp g w7 w9)) : PtEnd N w6 g d m cap xs w9 := by
  rcases h with ⟨a, b⟩ | ⟨a, b⟩
  · exact ⟨ho, hc, hd, fun i => (b.frz _).trans (a.frz _), fun j hj hd => (b.blk j hd).trans (a.blk j hj), b.size.trans a.size, b.os.trans a.os, b.tape.trans a.tape, b.output.trans a.output⟩
  · exact ⟨ho, hc, hd, fun i => (b.frz _).trans (a.frz _), fun j hj hd => (b.blk j hj).trans (a.blk j hd), b.size.trans a.size, b.os.trans a.os, b.tape.trans a.tape, b.output.trans a.output⟩
theorem end_a {N : Nat} {w6 : World} {g d cap : Nat} {L : List (Ty × Value)} {a0 a1 a2 a3 a4 : Value} {ov : Value} (h : w6.ownsRow N 173 5 (.slice (some ⟨g, 0, none⟩) (L.length + 1) cap) (L.length + 1) (ndCs L ++ [a0, a1, a2, a3, a4])) (hgd : ¬ g = d) (hv : w6.cell? ⟨d, 4, none⟩ = some ov) (c0 c1 c2 c3 c4 : Value) :
    PtEnd N w6 g d (L.length + 1) cap (ndCs L ++ [c0, c1, c2, c3, c4]) ((((((w6.setCell ⟨g, L.length * 5, none⟩ c0).setCell ⟨g, L.length * 5 + 1, none⟩ c1).setCell ⟨g, L.length * 5 + 2, none⟩ c2).setCell ⟨g, L.length * 5 + 3, none⟩ c3).setCell ⟨g, L.length * 5 + 4, none⟩ c4).setCell ⟨d, 4, none⟩ (.slice (some ⟨g, 0, none⟩) (L.length + 1) cap)) := by
  have h5 := own_five h c0 c1 c2 c3 c4
  have hs := Stp.five g (L.length * 5) w6 c0 c1 c2 c3 c4
  generalize ((((w6.setCell ⟨g, L.length * 5, none⟩ c0).setCell ⟨g, L.length * 5 + 1, none⟩ c1).setCell ⟨g, L.length * 5 + 2, none⟩ c2).setCell ⟨g, L.length * 5 + 3, none⟩ c3).setCell ⟨g, L.length * 5 + 4, none⟩ c4 = w7 at h5 hs ⊢
  have hb := hs.blk d (Ne.symm hgd)
  refine end_of (v := ov) (own_dset h5 hgd _) hgd (World.cell?_setCell_same _ _ _ ((cell_of_blk hb 4).trans hv)) (fun i hi => (World.cell?_setCell_other _ _ _ _ (fun e => hi (by injection e with _ e2; exact e2.symm))).trans (cell_of_blk hb i)) (.inl ⟨hs, Stp.set d 4 w7 _⟩)
theorem end_b {N : Nat} {w6 : World} {g d cap : Nat} {L : List (Ty × Value)} {a0 a1 a2 a3 a4 : Value} {ov : Value} (h : w6.ownsRow N 173 5 (.slice (some ⟨g, 0, none⟩) (L.length + 1) cap) (L.length + 1) (ndCs L ++ [a0, a1, a2, a3, a4])) (hgd : ¬ g = d) (hv : w6.cell? ⟨d, 4, none⟩ = some ov) (c0 c1 c2 c3 c4 : Value) :
    PtEnd N w6 g d (L.length + 1) cap (ndCs L ++ [c0, c1, c2, c3, c4]) ((((((w6.setCell ⟨d, 4, none⟩ (.slice (some ⟨g, 0, none⟩) (L.length + 1) cap)).setCell ⟨g, L.length * 5, none⟩ c0).setCell ⟨g, L.length * 5 + 1, none⟩ c1).setCell ⟨g, L.length * 5 + 2, none⟩ c2).setCell ⟨g, L.length * 5 + 3, none⟩ c3).setCell ⟨g, L.length * 5 + 4, none⟩ c4) := by
  have h0 := own_dset h hgd (.slice (some ⟨g, 0, none⟩) (L.length + 1) cap)
  have hs0 := Stp.set d 4 w6 (.slice (some ⟨g, 0, none⟩) (L.length + 1) cap)
  have hc0 : (w6.setCell ⟨d, 4, none⟩ (.slice (some ⟨g, 0, none⟩) (L.length + 1) cap)).cell? ⟨d, 4, none⟩ = some (.slice (some ⟨g, 0, none⟩) (L.length + 1) cap) := World.cell?_setCell_same _ _ _ hv
  have hd0 : ∀ i, i ≠ 4 → (w6.setCell ⟨d, 4, none⟩ (.slice (some ⟨g, 0, none⟩) (L.length + 1) cap)).cell? ⟨d, i, none⟩ = w6.cell? ⟨d, i, none⟩ := fun i hi => World.cell?_setCell_other _ _ _ _ (fun e => hi (by injection e with _ e2; exact e2.symm))
  generalize w6.setCell ⟨d, 4, none⟩ (.slice (some ⟨g, 0, none⟩) (L.length + 1) cap) = w7 at h0 hs0 hc0 hd0 ⊢
  have hs := Stp.five g (L.length * 5) w7 c0 c1 c2 c3 c4
  have hb := hs.blk d (Ne.symm hgd)
  exact end_of (v := ov) (own_five h0 c0 c1 c2 c3 c4) hgd ((cell_of_blk hb 4).trans hc0) (fun i hi => (cell_of_blk hb i).trans (hd0 i hi)) (.inr ⟨hs0, hs⟩)
end Go.Proofs.YtjadckhngalmlaaGreatDoor
namespace Go.Proofs.YtjadckhngalmlaaGreatDoor
set_option linter.unusedVariables false
set_option linter.unusedSimpArgs false
set_option maxRecDepth 100000
open Go.RowKit

/-- What part answers. -/
def PtR (N b d : Nat) (l : List UInt8) (k : Nat) (L : List (Ty × Value)) (w : World) (e : Ending) (w' : World) : Prop :=
  (∃ t y s v', rd (l.drop k) = some (t, y) ∧ e = .returned (.bool true) ∧ PartsAt N d (L ++ [(t, s)]) v' w' ∧ PtX b d N w (plc l y) w') ∨
  (rd (l.drop k) = none ∧ ∃ (j : Nat) (a : Option Addr) (n c : Nat), e = .returned (.bool false) ∧ k ≤ j ∧ j ≤ l.length ∧ w'.cell? ⟨d, 4, none⟩ = some (.slice a n c) ∧ PtX b d N w j w')
theorem part_fin {N b d : Nat} {l : List UInt8} {k : Nat} {L : List (Ty × Value)} {w w2 w6 w9 : World} {ao : Option Addr} {cap : Nat} {q : Bool} {x0 x2 : Int} {s1 s3 : ByteArray} {a4 : Option Addr} {n4 m4 j g6 cap6 : Nat} {o o' : Obj}
    (hbN : b < N) (hdN : d < N) (hbd : b ≠ d) (hN : N ≤ w.heap.size) (hkj : k ≤ j) (hjl : j ≤ l.length) (hX : RdX b w j w2) (hp : OneP l k w q [.int .u8 x0, .string s1, .int .i64 x2, .string s3, .slice a4 n4 m4] j w2) (hP : PartsAt N d L (.slice ao L.length cap) w)
    (hg : ((w2.alloc o).alloc o').drew.grownBy w6 (Value.slice ao L.length cap).ownBlock) (hat : (Value.slice ao L.length cap).ownBlock = some g6 ∨ g6 = w2.heap.size + 2) (hE : PtEnd N w6 g6 d (L.length + 1) cap6 (ndCs L ++ [.int .u8 x0, .string s1, .int .i64 x2, .string s3, .slice a4 n4 m4]) w9) :
    PtR N b d l k L w (.returned (.bool q)) w9 := by
  have hlt : ∀ i, (Value.slice ao L.length cap).ownBlock = some i → N ≤ i ∧ i < w.heap.size := fun i hi => hP.own.lt i hi
  have hs2 := hX.size
  have hs6 : w2.heap.size + 2 ≤ w6.heap.size := by have := hg.size; simpa using this
  have hs9 := hE.size
  have hNg : N ≤ g6 := hat.elim (fun h => (hlt _ h).1) (fun h => by omega)
  have hlow : ∀ i, i < w2.heap.size → (Value.slice ao L.length cap).ownBlock ≠ some i → i ≠ d → w9.heap[i]? = w2.heap[i]? := fun i hi hr hd => by
    have hgi : i ≠ g6 := fun e => hat.elim (fun h => hr (by rw [h, e])) (fun h => by omega)
    rw [hE.blk i hgi hd, hg.block i (by simp; omega) (fun e => hr e.symm)]
    exact (Below.heap_alloc _ _ _ (by simp; omega)).trans (Below.heap_alloc _ _ _ hi)
  have hd6 : w6.heap[d]? = w2.heap[d]? := by
    rw [hg.block d (by simp; omega) (fun e => by have := hlt d e.symm; omega)]
    exact (Below.heap_alloc _ _ _ (by simp; omega)).trans (Below.heap_alloc _ _ _ (by omega))
  have hd2 : w2.heap[d]? = w.heap[d]? := hX.blk d (Ne.symm hbd) (by omega)
  have hb9 := hlow b (by omega) (fun e => by have := hlt b e; omega) hbd
  have hos : w6.os = w2.os ∧ w6.tape = w2.tape ∧ w6.output = w2.output := ⟨hg.os, hg.tape, hg.output⟩
  have hPX : ∀ j', j' = j → PtX b d N w j' w9 := fun j' e => by
    subst e
    exact ⟨fun i hi => (cell_of_blk hb9 i).trans (hX.oth i hi), (cell_of_blk hb9 1).trans hX.pos, fun i => (frozen_of_blk hb9 i).trans (hX.frz i), fun i hi => (hE.doth i hi).trans ((cell_of_blk hd6 i).trans (cell_of_blk hd2 i)), fun i => (hE.dfrz i).trans ((frozen_of_blk hd6 i).trans (frozen_of_blk hd2 i)),
      fun i hib hid hiN => (hlow i (by omega) (fun e => by have := hlt i e; omega) hid).trans (hX.blk i hib (by omega)), by omega, hE.os.trans (hos.1.trans hX.os), hE.tape.trans (hos.2.1.trans hX.tape), hE.output.trans (hos.2.2.trans hX.output)⟩
  rcases hp with ⟨t, y, s, hr, rfl, hcs, hj, hnd⟩ | ⟨hr, rfl⟩
  · refine .inl ⟨t, y, s, _, hr, rfl, ⟨hE.cell, ?_, fun p hp => ?_⟩, hPX _ hj.symm⟩
    · have ho := hE.own
      rw [hcs, ← ndCs_snoc] at ho
      rw [List.length_append]
      exact ho
    · rcases List.mem_append.1 hp with h | h
      · refine (hP.kids p h).mono (fun i hi => ⟨hi.1, by have := hi.2.1; omega, fun e => ?_⟩) (fun i hi => ?_)
        · have e2 : g6 = i := by simpa [Value.ownBlock] using e
          exact hat.elim (fun h => hi.2.2 (by rw [h, e2])) (fun h => by have := hi.2.1; omega)
        · have h1 := hi.1
          have h2 := hi.2.1
          exact (hlow i (by omega) hi.2.2 (by omega)).trans (hX.blk i (by omega) h2)
      · rw [List.mem_singleton] at h
        subst h
        refine hnd.mono (fun i hi => ⟨by have := hi.1; omega, by have := hi.2; omega, fun e => ?_⟩) (fun i hi => ?_)
        · have e2 : g6 = i := by simpa [Value.ownBlock] using e
          have h1 := hi.1
          have h2 := hi.2
          exact hat.elim (fun h => by have := hlt _ h; omega) (fun h => by omega)
        · have h1 := hi.1
          have h2 := hi.2
          exact hlow i h2 (fun e => by have := hlt i e; omega) (by omega)
  · exact .inr ⟨hr, j, _, _, _, rfl, hkj, hjl, hE.cell, hPX j rfl⟩
set_option maxHeartbeats 4000000 in
theorem c_part (n : Nat) (hO : OneC n) (B b d N : Nat) (l : List UInt8) (k : Nat) (L : List (Ty × Value)) (v : Value) (w : World) (hE : Env B w) (hB : B ≤ b) (hbN : b < N) (hdN : d < N) (hbd : b ≠ d) (hN : N ≤ w.heap.size) (hk : k ≤ l.length) (hl : l.length ≤ 65536) (hn : (l.drop k).length ≤ n)
    (h0 : w.cell? ⟨b, 0, none⟩ = some (.string ⟨l.toArray⟩)) (h1 : w.cell? ⟨b, 1, none⟩ = some (.int .i64 k)) (hf : w.frozen? ⟨b, 1, none⟩ = false) (hdf : w.frozen? ⟨d, 4, none⟩ = false) (hL : L.length ≤ 65536) (hP : PartsAt N d L v w) :
    Calls Tryz.prog 119 #[.pointer (some ⟨b, 0, none⟩), .pointer (some ⟨d, 0, none⟩)] w fun e w' => PtR N b d l k L w e w' := by
  have HO := Lib.hid (hO B b l k w hE hB (by omega) hk hl hn h0 h1 hf)
  have HP := Lib.hid hP
  obtain ⟨ao, cap, hv⟩ : ∃ ao cap, v = .slice ao L.length cap := by
    rcases hP.own.2 with ⟨hv, hz⟩ | ⟨g, cap, cur, hv, _⟩
    · exact ⟨none, 0, by rw [hv, hz]⟩
    · exact ⟨_, cap, hv⟩
  subst hv
  obtain ⟨i0, hi, hz0, hz1, hz2⟩ := info_parts infoNode
  have HDf := Lib.hid hdf
  clear h0 h1 hf hn hk hl hE hP hdf hO
  go_enter Tryz.func119, Tryz.ntmps119
  go_wp2_with fail
  refine HO.out.mono ?_
  rintro e w2 ⟨q, x0, s1, x2, s3, a4, n4, m4, j, rfl, hkj, hjl, hx, hp⟩
  have HX := Lib.hid hx
  have HPp := Lib.hid hp
  clear hx hp
  have hv2 : w2.cell? ⟨d, 4, none⟩ = some (.slice ao L.length cap) := by
    have h := HP.out.cell
    rw [← h]
    exact cell_of_blk (HX.out.blk d (by omega) (by omega)) 4
  have hf2 : w2.frozen? ⟨d, 4, none⟩ = false := (frozen_of_blk (HX.out.blk d (by omega) (by omega)) 4).trans HDf.out
  have HOw2 : Hid (w2.ownsRow N 173 5 (.slice ao L.length cap) L.length (ndCs L)) := own_far HP.out.own (fun g hg hN' => HX.out.blk g (by omega) (by
    obtain ⟨_, h2⟩ := HP.out.own.lt g hg
    exact h2))
  have HOw : Hid (∀ o o', ((w2.alloc o).alloc o').drew.ownsRow N 173 5 (.slice ao L.length cap) L.length (ndCs L)) := fun o o' => (HOw2.out.alloc o).alloc o'
  have HNw : Hid (∀ o, ∀ (j : Nat) (u : Value), [Value.int .u8 0, .string ByteArray.empty, .int .i64 0, .string ByteArray.empty, .slice none 0 0][j]? = some u → ((w2.alloc o).alloc (.cells #[.int .u8 0, .string ByteArray.empty, .int .i64 0, .string ByteArray.empty, .slice none 0 0] 173)).drew.cell? ((⟨w2.heap.size + 1, 0, none⟩ : Addr).add j) = some u) := fun o j u hu => by
    have h := World.news_of_block (heap_alloc_new (w2.alloc o) (.cells #[.int .u8 0, .string ByteArray.empty, .int .i64 0, .string ByteArray.empty, .slice none 0 0] 173)) j u (by simpa using hu)
    rw [show (w2.alloc o).heap.size = w2.heap.size + 1 by simp] at h
    exact h
  have hS2 : w.heap.size ≤ w2.heap.size := HX.out.size
  have HS2 := Lib.hid hS2
  have hd2 : d < w2.heap.size := by omega
  have HOl : Hid (∀ g, (Value.slice ao L.length cap).ownBlock = some g → N ≤ g) := fun g hg => (HOw2.out.lt g hg).1
  have hvn : (Value.slice ao L.length cap).ownBlock ≠ some d := fun e => by have := HOl.out _ e; omega
  have HV2 : Hid (∀ o o', ((w2.alloc o).alloc o').drew.cell? ⟨d, 4, none⟩ = some (.slice ao L.length cap) ∧ ((w2.alloc o).alloc o').drew.frozen? ⟨d, 4, none⟩ = false) := fun o o' => by
    have hb : ((w2.alloc o).alloc o').drew.heap[d]? = w2.heap[d]? := (Below.heap_alloc _ _ _ (by simp; omega)).trans (Below.heap_alloc _ _ _ hd2)
    exact ⟨(cell_of_blk hb 4).trans hv2, (frozen_of_blk hb 4).trans hf2⟩
  have hlt1 : (L.length : Int) < (L.length : Int) + 1 := by omega
  go_wp2_with fail
  go_region_law (refine step_append_lies _ (by rfl) _ _ _ (by rfl) N 173 i0 _ 5 72 Tryz.underlying171 hi hz0 hz1 hz2 rfl (by decide) (.slice ao L.length cap) L.length (ndCs L) (by simp [Act.eval, Act.put]) (by exact HOw.out _ _) ⟨w2.heap.size + 1, 0, none⟩ 1 1 [.int .u8 0, .string ByteArray.empty, .int .i64 0, .string ByteArray.empty, .slice none 0 0] (by simp [Act.eval, Act.put]) rfl (by exact HNw.out _) zero_one (by decide) (by unfold maxLen; omega) (by omega) (by simp; omega) (w2.heap.size + 2) (by simp) ?_
                 intro g6 cap6 w6 hown6 hgrow6 hat6 hlt6
                 have hv6 : w6.cell? ⟨d, 4, none⟩ = some (.slice ao L.length cap) := (hgrow6.cell_far ⟨d, 4, none⟩ (by simp; omega) (Ne.symm hvn)).trans (HV2.out _ _).1
                 have hf6 : w6.frozen? ⟨d, 4, none⟩ = false := (hgrow6.frozen_far ⟨d, 4, none⟩ (by simp; omega) (Ne.symm hvn)).trans (HV2.out _ _).2
                 obtain ⟨z0, z1, z2, z3, z4, zf⟩ := own_zero hown6
                 have hNg : N ≤ g6 := hat6.elim (fun h => HOl.out _ h) (fun h => by omega)
                 have hgd : ¬ g6 = d := by omega
                 have hdg : ¬ d = g6 := by omega)
  all_goals
    have HEo := Lib.hid hown6
    have HEg := Lib.hid hgrow6
    have HEa := Lib.hid hat6
    have HEv := Lib.hid hv6
    have HEn := Lib.hid hgd
    clear hown6 hgrow6 hat6 hv6 hgd hdg z0 z1 z2 z3 z4 zf hf6 hlt6 hv2 hf2
    go_wp2_with fail
    go_ret
    exact part_fin hbN hdN hbd hN hkj hjl HX.out HPp.out HP.out HEg.out HEa.out (by first | with_reducible exact end_a HEo.out HEn.out HEv.out _ _ _ _ _ | with_reducible exact end_b HEo.out HEn.out HEv.out _ _ _ _ _)
end Go.Proofs.YtjadckhngalmlaaGreatDoor
namespace Go.Proofs.YtjadckhngalmlaaGreatDoor
set_option linter.unusedVariables false
set_option linter.unusedSimpArgs false
set_option maxRecDepth 100000
open Go.RowKit

theorem PtX.start {b d N k : Nat} {w : World} (h : w.cell? ⟨b, 1, none⟩ = some (.int .i64 k)) : PtX b d N w k w := ⟨fun _ _ => rfl, h, fun _ => rfl, fun _ _ => rfl, fun _ => rfl, fun _ _ _ _ => rfl, Nat.le_refl _, rfl, rfl, rfl⟩
theorem PtX.trans {b d N j k : Nat} {w w1 w2 : World} (h : PtX b d N w j w1) (g : PtX b d N w1 k w2) : PtX b d N w k w2 :=
  ⟨fun i hi => (g.oth i hi).trans (h.oth i hi), g.pos, fun i => (g.frz i).trans (h.frz i), fun i hi => (g.doth i hi).trans (h.doth i hi), fun i => (g.dfrz i).trans (h.dfrz i), fun i h1 h2 h3 => (g.blk i h1 h2 h3).trans (h.blk i h1 h2 h3), Nat.le_trans h.size g.size, g.os.trans h.os, g.tape.trans h.tape, g.output.trans h.output⟩
theorem RdX.pt {b d N k : Nat} {w w2 : World} (h : RdX b w k w2) (hbd : b ≠ d) (hd : d < w.heap.size) (hN : N ≤ w.heap.size) : PtX b d N w k w2 := by
  have e := h.blk d (Ne.symm hbd) hd
  exact ⟨h.oth, h.pos, h.frz, fun i _ => cell_of_blk e i, fun i => frozen_of_blk e i, fun i h1 _ h3 => h.blk i h1 (by omega), h.size, h.os, h.tape, h.output⟩
theorem PartsAt.rd {b d N k : Nat} {L : List (Ty × Value)} {v : Value} {w w2 : World} (h : PartsAt N d L v w) (hX : RdX b w k w2) (hbd : b ≠ d) (hbN : b < N) : PartsAt N d L v w2 := by
  have hd : d < w.heap.size := World.block_lt_of_cell? w ⟨d, 4, none⟩ h.cell
  have e := hX.blk d (Ne.symm hbd) hd
  have hs := hX.size
  refine ⟨(cell_of_blk e 4).trans h.cell, own_far h.own (fun g hg hNg => hX.blk g (by omega) (h.own.lt g hg).2), fun p hp => (h.kids p hp).mono (fun i hi => ⟨hi.1, by have := hi.2.1; omega, hi.2.2⟩) (fun i hi => hX.blk i (by have := hi.1; omega) hi.2.1)⟩
theorem PtX.below {B b d N k : Nat} {w w2 : World} (h : PtX b d N w k w2) (hb : B ≤ b) (hd : B ≤ d) (hdN : d < N) : Below B w w2 := ⟨h.os, h.tape, h.output, h.size, fun i hi => h.blk i (by omega) (by omega) (by omega)⟩
theorem slc_of {w : World} {N : Nat} {T : TypeId} {z : Nat} {v : Value} {n : Nat} {xs : List Value} (h : w.ownsRow N T z v n xs) : ∃ a c, v = .slice a n c ∧ n ≤ c := by
  rcases h.2 with ⟨hv, hz⟩ | ⟨g, cap, cur, hv, _, _, h1, _⟩
  · exact ⟨none, 0, by rw [hv, hz], by omega⟩
  · exact ⟨_, cap, hv, h1⟩
def lsO (o : Option (Tys × List UInt8)) : Option (List Ty × List UInt8) := o.map fun q => (q.1.list, q.2)
/-- What list answers. -/
def LsR (N b d : Nat) (l : List UInt8) (k : Nat) (w : World) (o : Option (List Ty × List UInt8)) (e : Ending) (w' : World) : Prop :=
  (∃ ps y L' v', o = some (ps, y) ∧ L'.map Prod.fst = ps ∧ e = .returned (.bool true) ∧ PartsAt N d L' v' w' ∧ PtX b d N w (plc l y) w' ∧ k ≤ plc l y ∧ L'.length ≤ plc l y ∧ y <:+ l) ∨
  (o = none ∧ ∃ (j : Nat) (a : Option Addr) (n c : Nat), e = .returned (.bool false) ∧ k ≤ j ∧ j ≤ l.length ∧ w'.cell? ⟨d, 4, none⟩ = some (.slice a n c) ∧ PtX b d N w j w')
theorem head_drop2 {l y : List UInt8} {c : UInt8} (hs : y <:+ l) (h : y.head? = some c) : plc l (y.drop 1) = plc l y + 1 ∧ y.drop 1 <:+ l := by
  have e := head_drop h
  have hl := hs.length_le
  have h2 := congrArg List.length e
  rw [List.length_cons] at h2
  exact ⟨by unfold plc; omega, (List.drop_suffix 1 y).trans hs⟩
theorem rd_suf2 {l y : List UInt8} {k : Nat} {t : Ty} (h : rd (l.drop k) = some (t, y)) (hk : k ≤ l.length) : y <:+ l ∧ k < plc l y := by
  have e := rd_suf h
  have hs : y <:+ l.drop k := ⟨t.code, e.symm⟩
  have h1 := size_code t
  have h0 : 1 ≤ t.size := by cases t <;> (unfold Ty.size; omega)
  have h2 := congrArg List.length e
  rw [List.length_append, List.length_drop] at h2
  exact ⟨hs.trans (List.drop_suffix _ _), by unfold plc; omega⟩
theorem rdL_map {r y : List UInt8} {t : Ty} (h : rd r = some (t, y)) (A : List Ty) : (lsO (rdL r)).map (fun q => (A ++ q.1, q.2)) = if y.head? = some 44 then (lsO (rdL (y.drop 1))).map (fun q => ((A ++ [t]) ++ q.1, q.2)) else if y.head? = some 41 then some (A ++ [t], y.drop 1) else none := by
  rw [rdL_step, h]
  simp only [Option.bind_some]
  split
  · unfold lsO
    cases rdL (y.drop 1) with
    | none => rfl
    | some q =>
      show some (A ++ (t :: q.1.list), q.2) = some (A ++ [t] ++ q.1.list, q.2)
      simp
  · split <;> rfl
theorem rdL_nomap {r : List UInt8} (h : rd r = none) (A : List Ty) : (lsO (rdL r)).map (fun q => (A ++ q.1, q.2)) = none := by
  rw [rdL_step, h]
  rfl
set_option maxHeartbeats 4000000 in
theorem c_list (n : Nat) (hO : OneC n) (B b d N : Nat) (l : List UInt8) (k : Nat) (v : Value) (w : World) (hE : Env B w) (hB : B ≤ b) (hBd : B ≤ d) (hbN : b < N) (hdN : d < N) (hbd : b ≠ d) (hN : N ≤ w.heap.size) (hk : k ≤ l.length) (hl : l.length ≤ 65536) (hn : (l.drop k).length ≤ n)
    (h0 : w.cell? ⟨b, 0, none⟩ = some (.string ⟨l.toArray⟩)) (h1 : w.cell? ⟨b, 1, none⟩ = some (.int .i64 k)) (hf : w.frozen? ⟨b, 1, none⟩ = false) (hdf : w.frozen? ⟨d, 4, none⟩ = false) (hP : PartsAt N d [] v w) (hv : v = .slice none 0 0) :
    Calls Tryz.prog 122 #[.pointer (some ⟨b, 0, none⟩), .pointer (some ⟨d, 0, none⟩)] w fun e w' => LsR N b d l k w (lsO (parL (l.drop k))) e w' := by
  have HT := Lib.hid (fun (wr : World) (j : Nat) (c : UInt8) (hj : j ≤ l.length) (h : PtX b d N w j wr) => c_take b l c j wr hj hl ((h.oth 0 (by decide)).trans h0) h.pos ((h.frz 1).trans hf))
  have HPt := Lib.hid (fun (wr : World) (j : Nat) (L : List (Ty × Value)) (v : Value) (hkj : k ≤ j) (hj : j ≤ l.length) (h : PtX b d N w j wr) (hL : L.length ≤ j) (hP : PartsAt N d L v wr) => c_part n hO B b d N l j L v wr (hE.next (h.below hB hBd hdN)) hB hbN hdN hbd (Nat.le_trans hN h.size) hj hl (by rw [List.length_drop] at hn ⊢; omega) ((h.oth 0 (by decide)).trans h0) h.pos ((h.frz 1).trans hf) ((h.dfrz 4).trans hdf) (by omega) hP)
  have HX0 := Lib.hid (PtX.start (d := d) (N := N) h1)
  have HP0 := Lib.hid hP
  have HK := Lib.hid hk
  have hds : plc l (l.drop k) = k := plc_drop hk
  have hdl : l.drop k <:+ l := List.drop_suffix k l
  obtain ⟨o, ho⟩ : ∃ o, lsO (parL (l.drop k)) = o := ⟨_, rfl⟩
  have hPo : o = if (l.drop k).head? = some 40 then if ((l.drop k).drop 1).head? = some 41 then some ([], (l.drop k).drop 2) else lsO (rdL ((l.drop k).drop 1)) else none := by
    rw [← ho]
    unfold parL
    split
    · split <;> rfl
    · rfl
  rw [ho]
  clear ho hE hn h0 h1 hf hdf hP hO
  have HRP := Lib.hid (fun (w1 w2 : World) (j : Nat) (h : RdX b w1 j w2) (h1 : PtX b d N w j w1 ∨ ∃ j', PtX b d N w j' w1) => (h1.elim (fun g => g.trans (h.pt hbd (by have := g.size; omega) (Nat.le_trans hN g.size))) (fun ⟨_, g⟩ => g.trans (h.pt hbd (by have := g.size; omega) (Nat.le_trans hN g.size)))))
  by_cases hq : (l.drop k).head? = some 40
  · rw [if_pos hq] at hPo
    have hqb : ((l.drop k).head? == some 40) = true := by rw [beq_iff_eq]; exact hq
    have HT1 := Lib.hid (HT.out w k 40 hk HX0.out)
    rw [hqb, if_pos rfl] at HT1
    obtain ⟨hd1, hd1s⟩ := head_drop2 hdl hq
    rw [hds] at hd1
    have hk1 : k + 1 ≤ l.length := by rw [← hd1]; exact plc_le _ _
    have hdd : (l.drop k).drop 1 = l.drop (k + 1) := by rw [List.drop_drop]
    rw [hdd, show (l.drop k).drop 2 = (l.drop (k + 1)).drop 1 by rw [List.drop_drop, List.drop_drop]] at hPo
    rw [hdd] at hd1 hd1s
    clear hdd hq hqb
    go_enter Tryz.func122, Tryz.ntmps122
    go_wp2_with fail
    refine HT1.out.mono ?_
    rintro e w1 ⟨rfl, hw1⟩
    have HX1 : Hid (PtX b d N w (k + 1) w1) := HRP.out _ _ _ hw1.x (.inr ⟨k, HX0.out⟩)
    have HP1 : Hid (PartsAt N d [] v w1) := HP0.out.rd hw1.x hbd hbN
    clear hw1
    have HT2 := Lib.hid (HT.out w1 (k + 1) 41 hk1 HX1.out)
    by_cases hq2 : (l.drop (k + 1)).head? = some 41
    · rw [if_pos hq2] at hPo
      have hqb : ((l.drop (k + 1)).head? == some 41) = true := by rw [beq_iff_eq]; exact hq2
      rw [hqb, if_pos rfl] at HT2
      obtain ⟨hd2, hd2s⟩ := head_drop2 hd1s hq2
      rw [hd1] at hd2
      clear hq2 hqb
      go_wp2_with fail
      refine HT2.out.mono ?_
      rintro e w2 ⟨rfl, hw2⟩
      have HX2 : Hid (PtX b d N w (k + 1 + 1) w2) := HRP.out _ _ _ hw2.x (.inr ⟨_, HX1.out⟩)
      have HP2 : Hid (PartsAt N d [] v w2) := HP1.out.rd hw2.x hbd hbN
      clear hw2
      go_wp2_with fail
      go_ret
      exact .inl ⟨[], _, [], v, hPo, rfl, rfl, HP2.out, by rw [hd2]; exact HX2.out, by rw [hd2]; omega, Nat.zero_le _, hd2s⟩
    · rw [if_neg hq2] at hPo
      have hqb : ((l.drop (k + 1)).head? == some 41) = false := by rw [beq_eq_false_iff_ne]; exact hq2
      rw [hqb, if_neg (by simp)] at HT2
      clear hqb hq2
      go_wp2_with fail
      refine HT2.out.mono ?_
      rintro e w2 ⟨rfl, hw2⟩
      have HX2 : Hid (PtX b d N w (k + 1) w2) := HRP.out _ _ _ hw2.x (.inr ⟨_, HX1.out⟩)
      have HP2 : Hid (PartsAt N d [] v w2) := HP1.out.rd hw2.x hbd hbN
      clear hw2
      have HPo : Hid ((lsO (rdL (l.drop (k + 1)))).map (fun q => ([] ++ q.1, q.2)) = o) := by
        show _ = _
        rw [hPo]
        cases lsO (rdL (l.drop (k + 1))) <;> rfl
      clear hPo HT2 HT1 hds hdl hd1 hd1s
      go_wp2_with fail
      go_loopg [] (l.length - (k + 1)) (fun g wr => ∃ (j : Nat) (L : List (Ty × Value)) (v : Value), j + g = l.length ∧ k ≤ j ∧ L.length ≤ j ∧ Hid (PtX b d N w j wr) ∧ Hid (PartsAt N d L v wr) ∧ Hid ((lsO (rdL (l.drop j))).map (fun q => (L.map Prod.fst ++ q.1, q.2)) = o))
      case atStart => exact ⟨k + 1, [], v, by omega, by omega, by simp, HX2.out, HP2.out, HPo.out⟩
      case round =>
        obtain ⟨j, L, v, hjg, hkj, hLj, HX, HP, HR⟩ := hrel
        have hjl : j ≤ l.length := by omega
        have HC := Lib.hid (HPt.out wr j L v hkj hjl HX.out hLj HP.out)
        go_wp2_with fail
        refine HC.out.mono ?_
        rintro e w3 (⟨t, y, s, v', hr, rfl, hp3, hx3⟩ | ⟨hr, j', a, n', c, rfl, hj1, hj2, hc, hx3⟩)
        · have HX3 : Hid (PtX b d N w (plc l y) w3) := HX.out.trans hx3
          have HP3 := Lib.hid hp3
          obtain ⟨hys, hyk⟩ := rd_suf2 hr hjl
          have HR3 : Hid ((if y.head? = some 44 then (lsO (rdL (y.drop 1))).map (fun q => ((L.map Prod.fst ++ [t]) ++ q.1, q.2)) else if y.head? = some 41 then some (L.map Prod.fst ++ [t], y.drop 1) else none) = o) := by
            show _ = _
            rw [← rdL_map hr]
            exact HR.out
          have hyl := plc_le l y
          have hyd := drop_plc hys
          clear hr hp3 hx3
          have HT3 := Lib.hid (fun c => HT.out w3 (plc l y) c hyl HX3.out)
          rw [hyd] at HT3
          by_cases hq : y.head? = some 44
          · rw [if_pos hq] at HR3
            have HT4 := Lib.hid (HT3.out 44)
            rw [show (y.head? == some 44) = true by rw [beq_iff_eq]; exact hq, if_pos rfl] at HT4
            obtain ⟨hd3, hd3s⟩ := head_drop2 hys hq
            have hd4 := drop_plc hd3s
            rw [hd3] at hd4
            have hpl : plc l y + 1 ≤ l.length := by rw [← hd3]; exact plc_le _ _
            clear hq hyd
            go_wp2_with fail
            refine HT4.out.mono ?_
            rintro e w4 ⟨rfl, hw4⟩
            have HX4 : Hid (PtX b d N w (plc l y + 1) w4) := HRP.out _ _ _ hw4.x (.inr ⟨_, HX3.out⟩)
            have HP4 := Lib.hid (HP3.out.rd hw4.x hbd hbN)
            clear hw4
            go_wp2_with fail
            go_roundg (l.length - (plc l y + 1))
            case measure => omega
            case rel => exact ⟨plc l y + 1, L ++ [(t, s)], v', by omega, by omega, by rw [List.length_append]; simp; omega, HX4.out, HP4.out, by
              show _ = _
              rw [hd4, List.map_append]
              exact HR3.out⟩
          · rw [if_neg hq] at HR3
            have HT4 := Lib.hid (HT3.out 44)
            rw [show (y.head? == some 44) = false by rw [beq_eq_false_iff_ne]; exact hq, if_neg (by simp)] at HT4
            clear hq
            go_wp2_with fail
            refine HT4.out.mono ?_
            rintro e w4 ⟨rfl, hw4⟩
            have HX4 : Hid (PtX b d N w (plc l y) w4) := HRP.out _ _ _ hw4.x (.inl HX3.out)
            have HP4 := Lib.hid (HP3.out.rd hw4.x hbd hbN)
            clear hw4
            have HT5 := Lib.hid (HT.out w4 (plc l y) 41 hyl HX4.out)
            rw [hyd] at HT5
            by_cases hq2 : y.head? = some 41
            · rw [if_pos hq2] at HR3
              rw [show (y.head? == some 41) = true by rw [beq_iff_eq]; exact hq2, if_pos rfl] at HT5
              obtain ⟨hd3, hd3s⟩ := head_drop2 hys hq2
              clear hq2 hyd
              go_wp2_with fail
              refine HT5.out.mono ?_
              rintro e w5 ⟨rfl, hw5⟩
              have HX5 : Hid (PtX b d N w (plc l y + 1) w5) := HRP.out _ _ _ hw5.x (.inr ⟨_, HX4.out⟩)
              have HP5 := Lib.hid (HP4.out.rd hw5.x hbd hbN)
              clear hw5
              go_wp2_with fail
              go_ret
              exact .inl ⟨_, _, L ++ [(t, s)], v', HR3.out.symm, by rw [List.map_append]; rfl, rfl, HP5.out, by rw [hd3]; exact HX5.out, by rw [hd3]; omega, by rw [hd3, List.length_append]; simp; omega, hd3s⟩
            · rw [if_neg hq2] at HR3
              rw [show (y.head? == some 41) = false by rw [beq_eq_false_iff_ne]; exact hq2, if_neg (by simp)] at HT5
              clear hq2 hyd
              go_wp2_with fail
              refine HT5.out.mono ?_
              rintro e w5 ⟨rfl, hw5⟩
              have HX5 : Hid (PtX b d N w (plc l y) w5) := HRP.out _ _ _ hw5.x (.inl HX4.out)
              have HP5 := Lib.hid (HP4.out.rd hw5.x hbd hbN)
              clear hw5
              go_wp2_with fail
              go_ret
              obtain ⟨a, c, hv', _⟩ := slc_of HP5.out.own
              exact .inr ⟨HR3.out.symm, plc l y, a, _, c, rfl, by omega, hyl, by rw [← hv']; exact HP5.out.cell, HX5.out⟩
        · have HX3 : Hid (PtX b d N w j' w3) := HX.out.trans hx3
          have HR3 : Hid (none = o) := by
            show _ = _
            rw [← HR.out, rdL_nomap hr]
          have HC3 := Lib.hid hc
          clear hr hc hx3
          go_wp2_with fail
          go_ret
          exact .inr ⟨HR3.out.symm, j', a, n', c, rfl, by omega, hj2, HC3.out, HX3.out⟩
  · rw [if_neg hq] at hPo
    have hqb : ((l.drop k).head? == some 40) = false := by rw [beq_eq_false_iff_ne]; exact hq
    have HT1 := Lib.hid (HT.out w k 40 hk HX0.out)
    rw [hqb, if_neg (by simp)] at HT1
    clear hqb hq
    go_enter Tryz.func122, Tryz.ntmps122
    go_wp2_with fail
    refine HT1.out.mono ?_
    rintro e w1 ⟨rfl, hw1⟩
    have HX1 : Hid (PtX b d N w k w1) := HRP.out _ _ _ hw1.x (.inl HX0.out)
    have HP1 : Hid (PartsAt N d [] v w1) := HP0.out.rd hw1.x hbd hbN
    clear hw1
    go_wp2_with fail
    go_ret
    exact .inr ⟨hPo, k, none, 0, 0, rfl, Nat.le_refl _, hk, by rw [← hv]; exact HP1.out.cell, HX1.out⟩
end Go.Proofs.YtjadckhngalmlaaGreatDoor
namespace Go.Proofs.YtjadckhngalmlaaGreatDoor
set_option linter.unusedVariables false
set_option linter.unusedSimpArgs false
set_option maxRecDepth 100000
open Go.RowKit

theorem PartsAt.nd {N d : Nat} {L : List (Ty × Value)} {v : Value} {w : World} {t : Ty} (h : PartsAt N d L v w) (ht : t.parts = L.map Prod.fst) (hL : L ≠ []) : Nd (Fm N w) w t v := by
  have hn : 0 < L.length := List.length_pos_iff.2 hL
  have ho := h.own
  rcases ho.2 with ⟨hv, hz⟩ | ⟨g, cap, cur, hv, hb, hg, h1, _⟩
  · omega
  · subst hv
    have hlt := (Array.getElem?_eq_some_iff.1 hg).1
    refine .row t g cap L ht hL h1 ⟨hb, hlt⟩ (fun j u hu => ?_) (fun p hp => (h.kids p hp).mono (fun i hi => ⟨hi.1, hi.2.1⟩) (fun _ _ => rfl))
    have e := ho.cells (g := g) rfl j u hu
    have ea : (⟨g, 0, none⟩ : Addr).add j = ⟨g, j, none⟩ := by unfold Addr.add; split <;> simp_all
    rwa [ea] at e
/-- The node's block and the answer's, behind the first letter. -/
structure Two (d R : Nat) (w w' : World) : Prop where
  blk : ∀ j, j ≠ d → j ≠ R → w'.heap[j]? = w.heap[j]?
  frz : ∀ a, w'.frozen? a = w.frozen? a
  size : w'.heap.size = w.heap.size
  os : w'.os = w.os
  tape : w'.tape = w.tape
  output : w'.output = w.output
theorem two_of {d R : Nat} {w w1 w2 : World} (h : Stp d w w1) (g : Stp R w1 w2) : Two d R w w2 :=
  ⟨fun j h1 h2 => (g.blk j h2).trans (h.blk j h1), fun a => (g.frz a).trans (h.frz a), g.size.trans h.size, g.os.trans h.os, g.tape.trans h.tape, g.output.trans h.output⟩
theorem rdx_two {b d R k : Nat} {w w1 w2 : World} (h : RdX b w k w1) (g : Two d R w1 w2) (hbd : b ≠ d) (hbR : b ≠ R) (hd : w.heap.size ≤ d) (hR : w.heap.size ≤ R) : RdX b w k w2 := by
  have e := g.blk b hbd hbR
  exact ⟨fun i hi => (cell_of_blk e i).trans (h.oth i hi), (cell_of_blk e 1).trans h.pos, fun i => (frozen_of_blk e i).trans (h.frz i), fun j hj hs => (g.blk j (by omega) (by omega)).trans (h.blk j hj hs), by rw [g.size]; exact h.size, g.os.trans h.os, g.tape.trans h.tape, g.output.trans h.output⟩
theorem ptx_rdx {b d N k j : Nat} {w w1 w2 : World} (h : RdX b w j w1) (g : PtX b d N w1 k w2) (hd : w.heap.size ≤ d) (hN : w.heap.size ≤ N) : RdX b w k w2 :=
  ⟨fun i hi => (g.oth i hi).trans (h.oth i hi), g.pos, fun i => (g.frz i).trans (h.frz i), fun i hi hs => (g.blk i hi (by omega) (by omega)).trans (h.blk i hi hs), Nat.le_trans h.size g.size, g.os.trans h.os, g.tape.trans h.tape, g.output.trans h.output⟩
theorem nd_two {d R N : Nat} {w w1 w2 : World} {t : Ty} {v : Value} (h : Nd (Fm N w1) w1 t v) (g : Two d R w1 w2) (hd : d < N) (hR : R < N) (hN : w.heap.size ≤ N) : Nd (Fm w.heap.size w2) w2 t v :=
  h.mono (fun j hj => ⟨by have := hj.1; omega, by rw [g.size]; exact hj.2⟩) (fun j hj => g.blk j (by have := hj.1; omega) (by have := hj.1; omega))
theorem code_take {l y : List UInt8} {k : Nat} {t : Ty} (h : rd (l.drop k) = some (t, y)) (hk : k ≤ l.length) : (l.drop k).take (plc l y - k) = t.code := by
  have e := rd_suf h
  have h2 := congrArg List.length e
  rw [List.length_append, List.length_drop] at h2
  have h3 : plc l y - k = t.code.length := by unfold plc; omega
  rw [h3, e, List.take_left]
/-- The answer of one, put together. -/
theorem one_yes {b k j : Nat} {l y : List UInt8} {w w9 : World} {t : Ty} {x0 x2 : Int} {s1 s3 : ByteArray} {a4 : Option Addr} {n4 m4 : Nat} (hk : k ≤ l.length) (hr : rd (l.drop k) = some (t, y)) (hj : j = plc l y) (h0 : x0 = t.letter.toNat) (h1 : s1 = ⟨((l.drop k).take (j - k)).toArray⟩) (h2 : x2 = t.count) (h3 : s3 = ⟨t.tag.toArray⟩)
    (hX : RdX b w j w9) (hN : Nd (Fm w.heap.size w9) w9 t (.slice a4 n4 m4)) (hkj : k ≤ j) : OneR b l k w (.returned (.tuple #[.agg #[.int .u8 x0, .string s1, .int .i64 x2, .string s3, .slice a4 n4 m4], .bool true])) w9 := by
  subst hj h0 h2 h3
  rw [code_take hr hk] at h1
  subst h1
  exact ⟨true, _, _, _, _, _, _, _, _, rfl, hkj, plc_le _ _, hX, .inl ⟨t, y, _, hr, rfl, rfl, rfl, hN⟩⟩
theorem one_no {b k j : Nat} {l : List UInt8} {w w9 : World} {x0 x2 : Int} {s1 s3 : ByteArray} {a4 : Option Addr} {n4 m4 : Nat} (hr : rd (l.drop k) = none) (hX : RdX b w j w9) (hkj : k ≤ j) (hjl : j ≤ l.length) : OneR b l k w (.returned (.tuple #[.agg #[.int .u8 x0, .string s1, .int .i64 x2, .string s3, .slice a4 n4 m4], .bool false])) w9 :=
  ⟨false, _, _, _, _, _, _, _, _, rfl, hkj, hjl, hX, .inr ⟨hr, rfl⟩⟩
end Go.Proofs.YtjadckhngalmlaaGreatDoor
namespace Go.Proofs.YtjadckhngalmlaaGreatDoor
set_option linter.unusedVariables false
set_option linter.unusedSimpArgs false
set_option maxRecDepth 100000
open Go.RowKit

def zOb : Obj := .cells #[.int .u8 0, .string ⟨#[]⟩, .int .i64 0, .string ⟨#[]⟩, .slice none 0 0] 173
/-- Behind the first letter: the answer's block, the node's block. -/
structure OnA (b : Nat) (l : List UInt8) (k j : Nat) (x0 : Int) (w w1 : World) : Prop where
  rdx : RdX b w j w1
  text : w1.cell? ⟨b, 0, none⟩ = some (.string ⟨l.toArray⟩)
  frz : w1.frozen? ⟨b, 1, none⟩ = false
  res : w1.heap[w.heap.size]? = some zOb
  node : w1.heap[w.heap.size + 1]? = some (.cells #[.int .u8 x0, .string ⟨#[]⟩, .int .i64 0, .string ⟨#[]⟩, .slice none 0 0] 173)
  size : w1.heap.size = w.heap.size + 2
theorem onA {b k j : Nat} {l : List UInt8} {x0 : Int} {w w1 : World} (hb : b < w.heap.size) (h0 : w.cell? ⟨b, 0, none⟩ = some (.string ⟨l.toArray⟩)) (hf : w.frozen? ⟨b, 1, none⟩ = false) (h : RdW b 0 (w.alloc zOb) j w1) :
    OnA b l k j x0 w (w1.alloc (.cells #[.int .u8 x0, .string ⟨#[]⟩, .int .i64 0, .string ⟨#[]⟩, .slice none 0 0] 173)) := by
  have hs : w1.heap.size = w.heap.size + 1 := by rw [h.size]; simp
  have hA : RdX b w j (w1.alloc (.cells #[.int .u8 x0, .string ⟨#[]⟩, .int .i64 0, .string ⟨#[]⟩, .slice none 0 0] 173)) := by
    have ha := Below.heap_alloc w zOb
    refine RdX.next (wr := w1) ⟨fun i hi => ?_, h.pos, fun i => (h.frz _).trans (frozen_of_blk (ha b hb) i), fun i hi hs => (h.blk i hi).trans (ha i hs), by omega, h.os, h.tape, h.output⟩ hb ((Below.refl _ _).alloc (Nat.le_refl _) _)
    exact (h.other _ (fun e => hi (by injection e))).trans (cell_of_blk (ha b hb) i)
  refine ⟨hA, (hA.oth 0 (by decide)).trans h0, (hA.frz 1).trans hf, ?_, ?_, by simp; omega⟩
  · rw [Below.heap_alloc _ _ _ (by omega), h.blk _ (by omega)]
    exact heap_alloc_new w _
  · rw [← hs]
    exact heap_alloc_new w1 _
theorem five_cells {w : World} {g : Nat} {c0 c1 c2 c3 c4 : Value} {T : TypeId} (h : w.heap[g]? = some (.cells #[c0, c1, c2, c3, c4] T)) : w.cell? ⟨g, 0, none⟩ = some c0 ∧ w.cell? ⟨g, 1, none⟩ = some c1 ∧ w.cell? ⟨g, 2, none⟩ = some c2 ∧ w.cell? ⟨g, 3, none⟩ = some c3 ∧ w.cell? ⟨g, 4, none⟩ = some c4 ∧ ∀ i, w.frozen? ⟨g, i, none⟩ = false := by
  refine ⟨?_, ?_, ?_, ?_, ?_, fun i => Lib.frozen_of_heap h i⟩ <;> (rw [Lib.cell_of_heap h]; rfl)
/-- While one type is read: entry w, now wz; the answer's block w.heap.size, the node's the next. -/
structure OnS (b : Nat) (l : List UInt8) (j : Nat) (x0 cnt : Int) (tag : ByteArray) (a : Option Addr) (n c : Nat) (w wz : World) : Prop where
  rdx : RdX b w j wz
  text : wz.cell? ⟨b, 0, none⟩ = some (.string ⟨l.toArray⟩)
  frz : wz.frozen? ⟨b, 1, none⟩ = false
  res : wz.heap[w.heap.size]? = some zOb
  n0 : wz.cell? ⟨w.heap.size + 1, 0, none⟩ = some (.int .u8 x0)
  n1 : wz.cell? ⟨w.heap.size + 1, 1, none⟩ = some (.string ⟨#[]⟩)
  n2 : wz.cell? ⟨w.heap.size + 1, 2, none⟩ = some (.int .i64 cnt)
  n3 : wz.cell? ⟨w.heap.size + 1, 3, none⟩ = some (.string tag)
  n4 : wz.cell? ⟨w.heap.size + 1, 4, none⟩ = some (.slice a n c)
  nf : ∀ i, wz.frozen? ⟨w.heap.size + 1, i, none⟩ = false
  size : w.heap.size + 2 ≤ wz.heap.size
theorem OnA.s {b k j : Nat} {l : List UInt8} {x0 : Int} {w w1 : World} (h : OnA b l k j x0 w w1) : OnS b l j x0 0 ⟨#[]⟩ none 0 0 w w1 := by
  obtain ⟨n0, n1, n2, n3, n4, nf⟩ := five_cells h.node
  exact ⟨h.rdx, h.text, h.frz, h.res, n0, n1, n2, n3, n4, nf, Nat.le_of_eq h.size.symm⟩
theorem OnS.rd {b j j' : Nat} {l : List UInt8} {x0 cnt : Int} {tag : ByteArray} {a : Option Addr} {n c : Nat} {w wz w2 : World} (h : OnS b l j x0 cnt tag a n c w wz) (hb : b < w.heap.size) (g : RdX b wz j' w2) : OnS b l j' x0 cnt tag a n c w w2 := by
  have hs := h.size
  have e := g.blk (w.heap.size + 1) (by omega) (by omega)
  exact ⟨h.rdx.trans g, (g.oth 0 (by decide)).trans h.text, (g.frz 1).trans h.frz, (g.blk _ (by omega) (by omega)).trans h.res, (cell_of_blk e 0).trans h.n0, (cell_of_blk e 1).trans h.n1, (cell_of_blk e 2).trans h.n2, (cell_of_blk e 3).trans h.n3, (cell_of_blk e 4).trans h.n4, fun i => (frozen_of_blk e i).trans (h.nf i), Nat.le_trans hs g.size⟩
theorem RdX.stp {b j d : Nat} {w wz w2 : World} (h : RdX b w j wz) (g : Stp d wz w2) (hb : b < w.heap.size) (hd : w.heap.size ≤ d) : RdX b w j w2 := by
  have e := g.blk b (by omega)
  exact ⟨fun i hi => (cell_of_blk e i).trans (h.oth i hi), (cell_of_blk e 1).trans h.pos, fun i => (frozen_of_blk e i).trans (h.frz i), fun i hi hs => (g.blk i (by omega)).trans (h.blk i hi hs), by rw [g.size]; exact h.size, g.os.trans h.os, g.tape.trans h.tape, g.output.trans h.output⟩
theorem OnS.set2 {b j : Nat} {l : List UInt8} {x0 cnt : Int} {tag : ByteArray} {a : Option Addr} {n c : Nat} {w wz : World} (h : OnS b l j x0 cnt tag a n c w wz) (hb : b < w.heap.size) (m : Int) : OnS b l j x0 m tag a n c w (wz.setCell ⟨w.heap.size + 1, 2, none⟩ (.int .i64 m)) := by
  have g := Stp.set (w.heap.size + 1) 2 wz (.int .i64 m)
  have e := g.blk b (by omega)
  have o : ∀ i, i ≠ 2 → (wz.setCell ⟨w.heap.size + 1, 2, none⟩ (.int .i64 m)).cell? ⟨w.heap.size + 1, i, none⟩ = wz.cell? ⟨w.heap.size + 1, i, none⟩ := fun i hi => World.cell?_setCell_other _ _ _ _ (fun e => hi (by injection e with _ e2; exact e2.symm))
  exact ⟨h.rdx.stp g hb (by omega), (cell_of_blk e 0).trans h.text, (g.frz _).trans h.frz, (g.blk _ (by omega)).trans h.res, (o 0 (by decide)).trans h.n0, (o 1 (by decide)).trans h.n1, World.cell?_setCell_same _ _ _ h.n2, (o 3 (by decide)).trans h.n3, (o 4 (by decide)).trans h.n4, fun i => (g.frz _).trans (h.nf i), by rw [g.size]; exact h.size⟩
theorem OnS.set3 {b j : Nat} {l : List UInt8} {x0 cnt : Int} {tag : ByteArray} {a : Option Addr} {n c : Nat} {w wz : World} (h : OnS b l j x0 cnt tag a n c w wz) (hb : b < w.heap.size) (m : ByteArray) : OnS b l j x0 cnt m a n c w (wz.setCell ⟨w.heap.size + 1, 3, none⟩ (.string m)) := by
  have g := Stp.set (w.heap.size + 1) 3 wz (.string m)
  have e := g.blk b (by omega)
  have o : ∀ i, i ≠ 3 → (wz.setCell ⟨w.heap.size + 1, 3, none⟩ (.string m)).cell? ⟨w.heap.size + 1, i, none⟩ = wz.cell? ⟨w.heap.size + 1, i, none⟩ := fun i hi => World.cell?_setCell_other _ _ _ _ (fun e => hi (by injection e with _ e2; exact e2.symm))
  exact ⟨h.rdx.stp g hb (by omega), (cell_of_blk e 0).trans h.text, (g.frz _).trans h.frz, (g.blk _ (by omega)).trans h.res, (o 0 (by decide)).trans h.n0, (o 1 (by decide)).trans h.n1, (o 2 (by decide)).trans h.n2, World.cell?_setCell_same _ _ _ h.n3, (o 4 (by decide)).trans h.n4, fun i => (g.frz _).trans (h.nf i), by rw [g.size]; exact h.size⟩
theorem OnS.pt {b j j' : Nat} {l : List UInt8} {x0 cnt : Int} {tag : ByteArray} {a a' : Option Addr} {n c n' c' : Nat} {w wz w2 : World} (h : OnS b l j x0 cnt tag a n c w wz) (hb : b < w.heap.size) (g : PtX b (w.heap.size + 1) (w.heap.size + 2) wz j' w2) (hc : w2.cell? ⟨w.heap.size + 1, 4, none⟩ = some (.slice a' n' c')) : OnS b l j' x0 cnt tag a' n' c' w w2 :=
  ⟨ptx_rdx h.rdx g (by omega) (by omega), (g.oth 0 (by decide)).trans h.text, (g.frz 1).trans h.frz, (g.blk _ (by omega) (by omega) (by omega)).trans h.res, (g.doth 0 (by decide)).trans h.n0, (g.doth 1 (by decide)).trans h.n1, (g.doth 2 (by decide)).trans h.n2, (g.doth 3 (by decide)).trans h.n3, hc, fun i => (g.dfrz i).trans (h.nf i), Nat.le_trans h.size g.size⟩
theorem OnS.parts {b j : Nat} {l : List UInt8} {x0 cnt : Int} {tag : ByteArray} {w wz : World} (h : OnS b l j x0 cnt tag none 0 0 w wz) : PartsAt (w.heap.size + 2) (w.heap.size + 1) [] (.slice none 0 0) wz :=
  ⟨h.n4, World.ownsRow_nil _ _ _ _, fun p hp => by cases hp⟩
theorem Stp.five0 (g : Nat) (w : World) (c0 c1 c2 c3 c4 : Value) : Stp g w (((((w.setCell ⟨g, 0, none⟩ c0).setCell ⟨g, 1, none⟩ c1).setCell ⟨g, 2, none⟩ c2).setCell ⟨g, 3, none⟩ c3).setCell ⟨g, 4, none⟩ c4) :=
  ((((Stp.set g 0 w c0).trans (Stp.set g 1 _ c1)).trans (Stp.set g 2 _ c2)).trans (Stp.set g 3 _ c3)).trans (Stp.set g 4 _ c4)
theorem two_drew2 {d R : Nat} {w w2 : World} (h : Two d R w w2) : Two d R w w2.drew := ⟨h.blk, h.frz, h.size, h.os, h.tape, h.output⟩
theorem two_end (d R : Nat) (w : World) (u c0 c1 c2 c3 c4 : Value) : Two d R w ((((((w.setCell ⟨d, 1, none⟩ u).setCell ⟨R, 0, none⟩ c0).setCell ⟨R, 1, none⟩ c1).setCell ⟨R, 2, none⟩ c2).setCell ⟨R, 3, none⟩ c3).setCell ⟨R, 4, none⟩ c4).drew :=
  two_drew2 (two_of (Stp.set d 1 w u) (Stp.five0 R (w.setCell ⟨d, 1, none⟩ u) c0 c1 c2 c3 c4))
/-- The letter and what follows. -/
theorem drop_letter {l : List UInt8} {k : Nat} (hk : k < l.length) : l.drop k = (l[k]?.getD 0) :: l.drop (k + 1) := by
  rw [List.drop_eq_getElem_cons hk, List.getElem?_eq_getElem hk]
  rfl
end Go.Proofs.YtjadckhngalmlaaGreatDoor
