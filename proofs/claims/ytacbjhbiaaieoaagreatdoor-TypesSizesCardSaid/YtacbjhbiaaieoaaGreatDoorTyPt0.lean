/-
  The contract of a part that is read, in the code.
-/
import Derived.Test.YtacbjhbiaaieoaaGreatDoorTyR2
import Derived.Test.YtacbjhbiaaieoaaGreatDoorTyNd
import Derived.Deep.AppendLies
import Derived.Deep.RegionLaw
import Derived.Laws.IdiomCopy
namespace Go.Proofs.YtacbjhbiaaieoaaGreatDoor
set_option linter.unusedVariables false
set_option linter.unusedSimpArgs false
set_option maxRecDepth 100000
open Go.RowKit

theorem infoNode : (Tryz.prog.info? 68).map (fun i => (i.zero, i.size, i.bytes)) = some (some (.agg #[.int .u8 0, .string ByteArray.empty, .int .i64 0, .string ByteArray.empty, .slice none 0 0]), 5, 72) := by kernel_rfl
/-- A row of nodes that grows in cell 4 of block d; all in it lies from N on. -/
structure PartsAt (N d : Nat) (L : List (Ty × Value)) (v : Value) (w : World) : Prop where
  cell : w.cell? ⟨d, 4, none⟩ = some v
  own : w.ownsRow N 68 5 v L.length (ndCs L)
  kids : ∀ p ∈ L, Nd (fun j => N ≤ j ∧ j < w.heap.size ∧ v.ownBlock ≠ some j) w p.1 p.2
/-- What a part that is read leaves as it was: all below N but the place in block b and cell 4 of block d. -/
structure PtX (b d N : Nat) (w : World) (k : Nat) (wr : World) : Prop where
  oth : ∀ i, i ≠ 1 → wr.cell? ⟨b, i, none⟩ = w.cell? ⟨b, i, none⟩
  pos : wr.cell? ⟨b, 1, none⟩ = some (.int .i64 k)
  frz : ∀ i, wr.frozen? ⟨b, i, none⟩ = w.frozen? ⟨b, i, none⟩
  doth : ∀ i, i ≠ 4 → wr.cell? ⟨d, i, none⟩ = w.cell? ⟨d, i, none⟩
  dfrz : ∀ i, wr.frozen? ⟨d, i, none⟩ = w.frozen? ⟨d, i, none⟩
  blk : ∀ j, j ≠ b → j ≠ d → j < N → wr.heap[j]? = w.heap[j]?
  size : w.heap.size ≤ wr.heap.size
  os : wr.os = w.os
  tape : wr.tape = w.tape
  output : wr.output = w.output
def OneP (l : List UInt8) (k : Nat) (w : World) (q : Bool) (cs : List Value) (j : Nat) (w' : World) : Prop :=
  (∃ t y s, rd (l.drop k) = some (t, y) ∧ q = true ∧ cs = ndC t s ∧ j = plc l y ∧ Nd (Fm w.heap.size w') w' t s) ∨ (rd (l.drop k) = none ∧ q = false)
/-- What one answers. -/
def OneR (b : Nat) (l : List UInt8) (k : Nat) (w : World) (e : Ending) (w' : World) : Prop :=
  ∃ (q : Bool) (x0 : Int) (s1 : ByteArray) (x2 : Int) (s3 : ByteArray) (a4 : Option Addr) (n4 m4 j : Nat), e = .returned (.tuple #[.agg #[.int .u8 x0, .string s1, .int .i64 x2, .string s3, .slice a4 n4 m4], .bool q]) ∧ k ≤ j ∧ j ≤ l.length ∧ RdX b w j w' ∧ OneP l k w q [.int .u8 x0, .string s1, .int .i64 x2, .string s3, .slice a4 n4 m4] j w'
def OneC (n : Nat) : Prop := ∀ (B b : Nat) (l : List UInt8) (k : Nat) (w : World), Env B w → B ≤ b → b < w.heap.size → k ≤ l.length → l.length ≤ 65536 → (l.drop k).length ≤ n → w.cell? ⟨b, 0, none⟩ = some (.string ⟨l.toArray⟩) → w.cell? ⟨b, 1, none⟩ = some (.int .i64 k) → w.frozen? ⟨b, 1, none⟩ = false →
  Calls Tryz.prog 72 #[.pointer (some ⟨b, 0, none⟩)] w fun e w' => OneR b l k w e w'
theorem own_far {w w' : World} {N : Nat} {T : TypeId} {z : Nat} {v : Value} {n : Nat} {xs : List Value} (h : w.ownsRow N T z v n xs) (hw : ∀ g, v.ownBlock = some g → N ≤ g → w'.heap[g]? = w.heap[g]?) : w'.ownsRow N T z v n xs := by
  refine ⟨h.1, ?_⟩
  rcases h.2 with hn | ⟨g, cap, cur, rfl, hb, hgg, rest⟩
  · exact .inl hn
  · exact .inr ⟨g, cap, cur, rfl, hb, (hw g rfl hb).trans hgg, rest⟩
theorem zero_one : ∀ u ∈ [Value.int .u8 0, .string ByteArray.empty, .int .i64 0, .string ByteArray.empty, .slice none 0 0], u.oneCell' = true := by
  intro u hu
  simp only [List.mem_cons, List.not_mem_nil, or_false] at hu
  rcases hu with rfl | rfl | rfl | rfl | rfl <;> rfl
theorem own_zero {w : World} {N : Nat} {T : TypeId} {g cap : Nat} {L : List (Ty × Value)} (h : w.ownsRow N T 5 (.slice (some ⟨g, 0, none⟩) (L.length + 1) cap) (L.length + 1) (ndCs L ++ [.int .u8 0, .string ByteArray.empty, .int .i64 0, .string ByteArray.empty, .slice none 0 0])) :
    w.cell? ⟨g, L.length * 5, none⟩ = some (.int .u8 0) ∧ w.cell? ⟨g, L.length * 5 + 1, none⟩ = some (.string ByteArray.empty) ∧ w.cell? ⟨g, L.length * 5 + 2, none⟩ = some (.int .i64 0) ∧ w.cell? ⟨g, L.length * 5 + 3, none⟩ = some (.string ByteArray.empty) ∧ w.cell? ⟨g, L.length * 5 + 4, none⟩ = some (.slice none 0 0) ∧ ∀ i, w.frozen? ⟨g, i, none⟩ = false := by
  have hc : ∀ i u, [Value.int .u8 0, .string ByteArray.empty, .int .i64 0, .string ByteArray.empty, .slice none 0 0][i]? = some u → w.cell? ⟨g, L.length * 5 + i, none⟩ = some u := fun i u hu => by
    have e := h.cells (g := g) rfl (L.length * 5 + i) u (by rw [List.getElem?_append_right (by rw [ndCs_len]; omega), ndCs_len, show L.length * 5 + i - L.length * 5 = i by omega]; exact hu)
    have ea : (⟨g, 0, none⟩ : Addr).add (L.length * 5 + i) = ⟨g, L.length * 5 + i, none⟩ := by unfold Addr.add; split <;> simp_all
    rwa [ea] at e
  refine ⟨hc 0 _ rfl, hc 1 _ rfl, hc 2 _ rfl, hc 3 _ rfl, hc 4 _ rfl, fun i => ?_⟩
  rcases h.2 with ⟨hv, _⟩ | ⟨g', cap', cur, hv, _, hg, _⟩
  · cases hv
  · cases hv
    exact Lib.frozen_of_heap hg i
theorem own_set {w : World} {N : Nat} {T : TypeId} {z g n cap : Nat} {xs : List Value} (h : w.ownsRow N T z (.slice (some ⟨g, 0, none⟩) n cap) n xs) (i : Nat) (u : Value) : (w.setCell ⟨g, i, none⟩ u).ownsRow N T z (.slice (some ⟨g, 0, none⟩) n cap) n (xs.set i u) := by
  refine ⟨by rw [List.length_set]; exact h.1, ?_⟩
  rcases h.2 with ⟨hv, _⟩ | ⟨g', cap', cur, hv, hb, hg, h1, h2, h3, h4⟩
  · cases hv
  · cases hv
    refine .inr ⟨g, cap, cur.setIfInBounds i u, rfl, hb, heap_setCell_same w g i cur T u hg, h1, h2, by simpa using h3, ?_⟩
    rw [← h4, Array.toList_setIfInBounds, List.take_set]
theorem set_five (A : List Value) (a0 a1 a2 a3 a4 c0 c1 c2 c3 c4 : Value) (m : Nat) (hm : A.length = m) :
    (((((A ++ [a0, a1, a2, a3, a4]).set m c0).set (m + 1) c1).set (m + 2) c2).set (m + 3) c3).set (m + 4) c4 = A ++ [c0, c1, c2, c3, c4] := by
  subst hm
  simp [List.set_append]
/-- Behind the append and both stores. -/
structure PtEnd (N : Nat) (w6 : World) (g d m cap : Nat) (xs : List Value) (w9 : World) : Prop where
  own : w9.ownsRow N 68 5 (.slice (some ⟨g, 0, none⟩) m cap) m xs
  cell : w9.cell? ⟨d, 4, none⟩ = some (.slice (some ⟨g, 0, none⟩) m cap)
  doth : ∀ i, i ≠ 4 → w9.cell? ⟨d, i, none⟩ = w6.cell? ⟨d, i, none⟩
  dfrz : ∀ i, w9.frozen? ⟨d, i, none⟩ = w6.frozen? ⟨d, i, none⟩
  blk : ∀ j, j ≠ g → j ≠ d → w9.heap[j]? = w6.heap[j]?
  size : w9.heap.size = w6.heap.size
  os : w9.os = w6.os
  tape : w9.tape = w6.tape
  output : w9.output = w6.output
/-- What writing into block g leaves as it was. -/
structure Stp (g : Nat) (w w' : World) : Prop where
  blk : ∀ j, j ≠ g → w'.heap[j]? = w.heap[j]?
  frz : ∀ a, w'.frozen? a = w.frozen? a
  size : w'.heap.size = w.heap.size
  os : w'.os = w.os
  tape : w'.tape = w.tape
  output : w'.output = w.output
theorem Stp.set (g k : Nat) (w : World) (u : Value) : Stp g w (w.setCell ⟨g, k, none⟩ u) := ⟨fun j hj => Below.heap_setCell _ _ _ _ hj, fun a => World.frozen?_setCell _ _ _ _, World.size_setCell _ _ _, rfl, rfl, rfl⟩
theorem Stp.trans {g : Nat} {a b c : World} (h : Stp g a b) (k : Stp g b c) : Stp g a c := ⟨fun j hj => (k.blk j hj).trans (h.blk j hj), fun x => (k.frz x).trans (h.frz x), k.size.trans h.size, k.os.trans h.os, k.tape.trans h.tape, k.output.trans h.output⟩
theorem Stp.five (g m : Nat) (w : World) (c0 c1 c2 c3 c4 : Value) : Stp g w (((((w.setCell ⟨g, m, none⟩ c0).setCell ⟨g, m + 1, none⟩ c1).setCell ⟨g, m + 2, none⟩ c2).setCell ⟨g, m + 3, none⟩ c3).setCell ⟨g, m + 4, none⟩ c4) :=
  ((((Stp.set g m w c0).trans (Stp.set g _ _ c1)).trans (Stp.set g _ _ c2)).trans (Stp.set g _ _ c3)).trans (Stp.set g _ _ c4)
theorem own_five {w : World} {N g cap : Nat} {L : List (Ty × Value)} {a0 a1 a2 a3 a4 : Value} (h : w.ownsRow N 68 5 (.slice (some ⟨g, 0, none⟩) (L.length + 1) cap) (L.length + 1) (ndCs L ++ [a0, a1, a2, a3, a4])) (c0 c1 c2 c3 c4 : Value) :
    (((((w.setCell ⟨g, L.length * 5, none⟩ c0).setCell ⟨g, L.length * 5 + 1, none⟩ c1).setCell ⟨g, L.length * 5 + 2, none⟩ c2).setCell ⟨g, L.length * 5 + 3, none⟩ c3).setCell ⟨g, L.length * 5 + 4, none⟩ c4).ownsRow N 68 5 (.slice (some ⟨g, 0, none⟩) (L.length + 1) cap) (L.length + 1) (ndCs L ++ [c0, c1, c2, c3, c4]) := by
  have h5 := own_set (own_set (own_set (own_set (own_set h (L.length * 5) c0) (L.length * 5 + 1) c1) (L.length * 5 + 2) c2) (L.length * 5 + 3) c3) (L.length * 5 + 4) c4
  rw [set_five _ _ _ _ _ _ _ _ _ _ _ _ (ndCs_len L)] at h5
  exact h5
theorem own_dset {w : World} {N g d n cap : Nat} {T : TypeId} {z : Nat} {xs : List Value} (h : w.ownsRow N T z (.slice (some ⟨g, 0, none⟩) n cap) n xs) (hgd : ¬ g = d) (u : Value) : (w.setCell ⟨d, 4, none⟩ u).ownsRow N T z (.slice (some ⟨g, 0, none⟩) n cap) n xs :=
  ownsRow_setCell_other h (a := ⟨d, 4, none⟩) (by simp [Value.ownBlock]; exact hgd) u
theorem end_of {N : Nat} {w6 w7 w9 : World} {g d m cap : Nat} {xs : List Value} {v : Value} (ho : w9.ownsRow N 68 5 (.slice (some ⟨g, 0, none⟩) m cap) m xs) (hgd : ¬ g = d) (hc : w9.cell? ⟨d, 4, none⟩ = some (.slice (some ⟨g, 0, none⟩) m cap)) (hd : ∀ i, i ≠ 4 → w9.cell? ⟨d, i, none⟩ = w6.cell? ⟨d, i, none⟩)
    (h : (Stp g w6 w7 ∧ Stp d w7 w9) ∨ (Stp d w6 w7 ∧ Stp g w7 w9)) : PtEnd N w6 g d m cap xs w9 := by
  rcases h with ⟨a, b⟩ | ⟨a, b⟩
  · exact ⟨ho, hc, hd, fun i => (b.frz _).trans (a.frz _), fun j hj hd => (b.blk j hd).trans (a.blk j hj), b.size.trans a.size, b.os.trans a.os, b.tape.trans a.tape, b.output.trans a.output⟩
  · exact ⟨ho, hc, hd, fun i => (b.frz _).trans (a.frz _), fun j hj hd => (b.blk j hj).trans (a.blk j hd), b.size.trans a.size, b.os.trans a.os, b.tape.trans a.tape, b.output.trans a.output⟩
theorem end_a {N : Nat} {w6 : World} {g d cap : Nat} {L : List (Ty × Value)} {a0 a1 a2 a3 a4 : Value} {ov : Value} (h : w6.ownsRow N 68 5 (.slice (some ⟨g, 0, none⟩) (L.length + 1) cap) (L.length + 1) (ndCs L ++ [a0, a1, a2, a3, a4])) (hgd : ¬ g = d) (hv : w6.cell? ⟨d, 4, none⟩ = some ov) (c0 c1 c2 c3 c4 : Value) :
    PtEnd N w6 g d (L.length + 1) cap (ndCs L ++ [c0, c1, c2, c3, c4]) ((((((w6.setCell ⟨g, L.length * 5, none⟩ c0).setCell ⟨g, L.length * 5 + 1, none⟩ c1).setCell ⟨g, L.length * 5 + 2, none⟩ c2).setCell ⟨g, L.length * 5 + 3, none⟩ c3).setCell ⟨g, L.length * 5 + 4, none⟩ c4).setCell ⟨d, 4, none⟩ (.slice (some ⟨g, 0, none⟩) (L.length + 1) cap)) := by
  have h5 := own_five h c0 c1 c2 c3 c4
  have hs := Stp.five g (L.length * 5) w6 c0 c1 c2 c3 c4
  generalize ((((w6.setCell ⟨g, L.length * 5, none⟩ c0).setCell ⟨g, L.length * 5 + 1, none⟩ c1).setCell ⟨g, L.length * 5 + 2, none⟩ c2).setCell ⟨g, L.length * 5 + 3, none⟩ c3).setCell ⟨g, L.length * 5 + 4, none⟩ c4 = w7 at h5 hs ⊢
  have hb := hs.blk d (Ne.symm hgd)
  refine end_of (v := ov) (own_dset h5 hgd _) hgd (World.cell?_setCell_same _ _ _ ((cell_of_blk hb 4).trans hv)) (fun i hi => (World.cell?_setCell_other _ _ _ _ (fun e => hi (by injection e with _ e2; exact e2.symm))).trans (cell_of_blk hb i)) (.inl ⟨hs, Stp.set d 4 w7 _⟩)
theorem end_b {N : Nat} {w6 : World} {g d cap : Nat} {L : List (Ty × Value)} {a0 a1 a2 a3 a4 : Value} {ov : Value} (h : w6.ownsRow N 68 5 (.slice (some ⟨g, 0, none⟩) (L.length + 1) cap) (L.length + 1) (ndCs L ++ [a0, a1, a2, a3, a4])) (hgd : ¬ g = d) (hv : w6.cell? ⟨d, 4, none⟩ = some ov) (c0 c1 c2 c3 c4 : Value) :
    PtEnd N w6 g d (L.length + 1) cap (ndCs L ++ [c0, c1, c2, c3, c4]) ((((((w6.setCell ⟨d, 4, none⟩ (.slice (some ⟨g, 0, none⟩) (L.length + 1) cap)).setCell ⟨g, L.length * 5, none⟩ c0).setCell ⟨g, L.length * 5 + 1, none⟩ c1).setCell ⟨g, L.length * 5 + 2, none⟩ c2).setCell ⟨g, L.length * 5 + 3, none⟩ c3).setCell ⟨g, L.length * 5 + 4, none⟩ c4) := by
  have h0 := own_dset h hgd (.slice (some ⟨g, 0, none⟩) (L.length + 1) cap)
  have hs0 := Stp.set d 4 w6 (.slice (some ⟨g, 0, none⟩) (L.length + 1) cap)
  have hc0 : (w6.setCell ⟨d, 4, none⟩ (.slice (some ⟨g, 0, none⟩) (L.length + 1) cap)).cell? ⟨d, 4, none⟩ = some (.slice (some ⟨g, 0, none⟩) (L.length + 1) cap) := World.cell?_setCell_same _ _ _ hv
  have hd0 : ∀ i, i ≠ 4 → (w6.setCell ⟨d, 4, none⟩ (.slice (some ⟨g, 0, none⟩) (L.length + 1) cap)).cell? ⟨d, i, none⟩ = w6.cell? ⟨d, i, none⟩ := fun i hi => World.cell?_setCell_other _ _ _ _ (fun e => hi (by injection e with _ e2; exact e2.symm))
  generalize w6.setCell ⟨d, 4, none⟩ (.slice (some ⟨g, 0, none⟩) (L.length + 1) cap) = w7 at h0 hs0 hc0 hd0 ⊢
  have hs := Stp.five g (L.length * 5) w7 c0 c1 c2 c3 c4
  have hb := hs.blk d (Ne.symm hgd)
  exact end_of (v := ov) (own_five h0 c0 c1 c2 c3 c4) hgd ((cell_of_blk hb 4).trans hc0) (fun i hi => (cell_of_blk hb i).trans (hd0 i hi)) (.inr ⟨hs0, hs⟩)
end Go.Proofs.YtacbjhbiaaieoaaGreatDoor
