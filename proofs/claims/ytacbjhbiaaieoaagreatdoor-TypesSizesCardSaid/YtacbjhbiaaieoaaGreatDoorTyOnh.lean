/-
  The contract of the reader of one type, in the code.
-/
import Derived.Test.YtacbjhbiaaieoaaGreatDoorTyLs
import Derived.Test.YtacbjhbiaaieoaaGreatDoorTyOn0
import Derived.Deep.RegionWith
namespace Go.Proofs.YtacbjhbiaaieoaaGreatDoor
set_option linter.unusedVariables false
set_option linter.unusedSimpArgs false
set_option maxRecDepth 100000
open Go.RowKit

def zOb : Obj := .cells #[.int .u8 0, .string ⟨#[]⟩, .int .i64 0, .string ⟨#[]⟩, .slice none 0 0] 68
/-- Behind the first letter: the answer's block, the node's block. -/
structure OnA (b : Nat) (l : List UInt8) (k j : Nat) (x0 : Int) (w w1 : World) : Prop where
  rdx : RdX b w j w1
  text : w1.cell? ⟨b, 0, none⟩ = some (.string ⟨l.toArray⟩)
  frz : w1.frozen? ⟨b, 1, none⟩ = false
  res : w1.heap[w.heap.size]? = some zOb
  node : w1.heap[w.heap.size + 1]? = some (.cells #[.int .u8 x0, .string ⟨#[]⟩, .int .i64 0, .string ⟨#[]⟩, .slice none 0 0] 68)
  size : w1.heap.size = w.heap.size + 2
theorem onA {b k j : Nat} {l : List UInt8} {x0 : Int} {w w1 : World} (hb : b < w.heap.size) (h0 : w.cell? ⟨b, 0, none⟩ = some (.string ⟨l.toArray⟩)) (hf : w.frozen? ⟨b, 1, none⟩ = false) (h : RdW b 0 (w.alloc zOb) j w1) :
    OnA b l k j x0 w (w1.alloc (.cells #[.int .u8 x0, .string ⟨#[]⟩, .int .i64 0, .string ⟨#[]⟩, .slice none 0 0] 68)) := by
  have hs : w1.heap.size = w.heap.size + 1 := by rw [h.size]; simp
  have hA : RdX b w j (w1.alloc (.cells #[.int .u8 x0, .string ⟨#[]⟩, .int .i64 0, .string ⟨#[]⟩, .slice none 0 0] 68)) := by
    have ha := Below.heap_alloc w zOb
    refine RdX.next (wr := w1) ⟨fun i hi => ?_, h.pos, fun i => (h.frz _).trans (frozen_of_blk (ha b hb) i), fun i hi hs => (h.blk i hi).trans (ha i hs), by omega, h.os, h.tape, h.output⟩ hb ((Below.refl _ _).alloc (Nat.le_refl _) _)
    exact (h.other _ (fun e => hi (by injection e))).trans (cell_of_blk (ha b hb) i)
  refine ⟨hA, (hA.oth 0 (by decide)).trans h0, (hA.frz 1).trans hf, ?_, ?_, by simp; omega⟩
  · rw [Below.heap_alloc _ _ _ (by omega), h.blk _ (by omega)]
    exact heap_alloc_new w _
  · rw [← hs]
    exact heap_alloc_new w1 _
theorem five_cells {w : World} {g : Nat} {c0 c1 c2 c3 c4 : Value} {T : TypeId} (h : w.heap[g]? = some (.cells #[c0, c1, c2, c3, c4] T)) : w.cell? ⟨g, 0, none⟩ = some c0 ∧ w.cell? ⟨g, 1, none⟩ = some c1 ∧ w.cell? ⟨g, 2, none⟩ = some c2 ∧ w.cell? ⟨g, 3, none⟩ = some c3 ∧ w.cell? ⟨g, 4, none⟩ = some c4 ∧ ∀ i, w.frozen? ⟨g, i, none⟩ = false := by
  refine ⟨?_, ?_, ?_, ?_, ?_, fun i => Lib.frozen_of_heap h i⟩ <;> (rw [Lib.cell_of_heap h]; rfl)
/-- While one type is read: entry w, now wz; the answer's block w.heap.size, the node's the next. -/
structure OnS (b : Nat) (l : List UInt8) (j : Nat) (x0 cnt : Int) (tag : ByteArray) (a : Option Addr) (n c : Nat) (w wz : World) : Prop where
  rdx : RdX b w j wz
  text : wz.cell? ⟨b, 0, none⟩ = some (.string ⟨l.toArray⟩)
  frz : wz.frozen? ⟨b, 1, none⟩ = false
  res : wz.heap[w.heap.size]? = some zOb
  n0 : wz.cell? ⟨w.heap.size + 1, 0, none⟩ = some (.int .u8 x0)
  n1 : wz.cell? ⟨w.heap.size + 1, 1, none⟩ = some (.string ⟨#[]⟩)
  n2 : wz.cell? ⟨w.heap.size + 1, 2, none⟩ = some (.int .i64 cnt)
  n3 : wz.cell? ⟨w.heap.size + 1, 3, none⟩ = some (.string tag)
  n4 : wz.cell? ⟨w.heap.size + 1, 4, none⟩ = some (.slice a n c)
  nf : ∀ i, wz.frozen? ⟨w.heap.size + 1, i, none⟩ = false
  size : w.heap.size + 2 ≤ wz.heap.size
theorem OnA.s {b k j : Nat} {l : List UInt8} {x0 : Int} {w w1 : World} (h : OnA b l k j x0 w w1) : OnS b l j x0 0 ⟨#[]⟩ none 0 0 w w1 := by
  obtain ⟨n0, n1, n2, n3, n4, nf⟩ := five_cells h.node
  exact ⟨h.rdx, h.text, h.frz, h.res, n0, n1, n2, n3, n4, nf, Nat.le_of_eq h.size.symm⟩
theorem OnS.rd {b j j' : Nat} {l : List UInt8} {x0 cnt : Int} {tag : ByteArray} {a : Option Addr} {n c : Nat} {w wz w2 : World} (h : OnS b l j x0 cnt tag a n c w wz) (hb : b < w.heap.size) (g : RdX b wz j' w2) : OnS b l j' x0 cnt tag a n c w w2 := by
  have hs := h.size
  have e := g.blk (w.heap.size + 1) (by omega) (by omega)
  exact ⟨h.rdx.trans g, (g.oth 0 (by decide)).trans h.text, (g.frz 1).trans h.frz, (g.blk _ (by omega) (by omega)).trans h.res, (cell_of_blk e 0).trans h.n0, (cell_of_blk e 1).trans h.n1, (cell_of_blk e 2).trans h.n2, (cell_of_blk e 3).trans h.n3, (cell_of_blk e 4).trans h.n4, fun i => (frozen_of_blk e i).trans (h.nf i), Nat.le_trans hs g.size⟩
theorem RdX.stp {b j d : Nat} {w wz w2 : World} (h : RdX b w j wz) (g : Stp d wz w2) (hb : b < w.heap.size) (hd : w.heap.size ≤ d) : RdX b w j w2 := by
  have e := g.blk b (by omega)
  exact ⟨fun i hi => (cell_of_blk e i).trans (h.oth i hi), (cell_of_blk e 1).trans h.pos, fun i => (frozen_of_blk e i).trans (h.frz i), fun i hi hs => (g.blk i (by omega)).trans (h.blk i hi hs), by rw [g.size]; exact h.size, g.os.trans h.os, g.tape.trans h.tape, g.output.trans h.output⟩
theorem OnS.set2 {b j : Nat} {l : List UInt8} {x0 cnt : Int} {tag : ByteArray} {a : Option Addr} {n c : Nat} {w wz : World} (h : OnS b l j x0 cnt tag a n c w wz) (hb : b < w.heap.size) (m : Int) : OnS b l j x0 m tag a n c w (wz.setCell ⟨w.heap.size + 1, 2, none⟩ (.int .i64 m)) := by
  have g := Stp.set (w.heap.size + 1) 2 wz (.int .i64 m)
  have e := g.blk b (by omega)
  have o : ∀ i, i ≠ 2 → (wz.setCell ⟨w.heap.size + 1, 2, none⟩ (.int .i64 m)).cell? ⟨w.heap.size + 1, i, none⟩ = wz.cell? ⟨w.heap.size + 1, i, none⟩ := fun i hi => World.cell?_setCell_other _ _ _ _ (fun e => hi (by injection e with _ e2; exact e2.symm))
  exact ⟨h.rdx.stp g hb (by omega), (cell_of_blk e 0).trans h.text, (g.frz _).trans h.frz, (g.blk _ (by omega)).trans h.res, (o 0 (by decide)).trans h.n0, (o 1 (by decide)).trans h.n1, World.cell?_setCell_same _ _ _ h.n2, (o 3 (by decide)).trans h.n3, (o 4 (by decide)).trans h.n4, fun i => (g.frz _).trans (h.nf i), by rw [g.size]; exact h.size⟩
theorem OnS.set3 {b j : Nat} {l : List UInt8} {x0 cnt : Int} {tag : ByteArray} {a : Option Addr} {n c : Nat} {w wz : World} (h : OnS b l j x0 cnt tag a n c w wz) (hb : b < w.heap.size) (m : ByteArray) : OnS b l j x0 cnt m a n c w (wz.setCell ⟨w.heap.size + 1, 3, none⟩ (.string m)) := by
  have g := Stp.set (w.heap.size + 1) 3 wz (.string m)
  have e := g.blk b (by omega)
  have o : ∀ i, i ≠ 3 → (wz.setCell ⟨w.heap.size + 1, 3, none⟩ (.string m)).cell? ⟨w.heap.size + 1, i, none⟩ = wz.cell? ⟨w.heap.size + 1, i, none⟩ := fun i hi => World.cell?_setCell_other _ _ _ _ (fun e => hi (by injection e with _ e2; exact e2.symm))
  exact ⟨h.rdx.stp g hb (by omega), (cell_of_blk e 0).trans h.text, (g.frz _).trans h.frz, (g.blk _ (by omega)).trans h.res, (o 0 (by decide)).trans h.n0, (o 1 (by decide)).trans h.n1, (o 2 (by decide)).trans h.n2, World.cell?_setCell_same _ _ _ h.n3, (o 4 (by decide)).trans h.n4, fun i => (g.frz _).trans (h.nf i), by rw [g.size]; exact h.size⟩
theorem OnS.pt {b j j' : Nat} {l : List UInt8} {x0 cnt : Int} {tag : ByteArray} {a a' : Option Addr} {n c n' c' : Nat} {w wz w2 : World} (h : OnS b l j x0 cnt tag a n c w wz) (hb : b < w.heap.size) (g : PtX b (w.heap.size + 1) (w.heap.size + 2) wz j' w2) (hc : w2.cell? ⟨w.heap.size + 1, 4, none⟩ = some (.slice a' n' c')) : OnS b l j' x0 cnt tag a' n' c' w w2 :=
  ⟨ptx_rdx h.rdx g (by omega) (by omega), (g.oth 0 (by decide)).trans h.text, (g.frz 1).trans h.frz, (g.blk _ (by omega) (by omega) (by omega)).trans h.res, (g.doth 0 (by decide)).trans h.n0, (g.doth 1 (by decide)).trans h.n1, (g.doth 2 (by decide)).trans h.n2, (g.doth 3 (by decide)).trans h.n3, hc, fun i => (g.dfrz i).trans (h.nf i), Nat.le_trans h.size g.size⟩
theorem OnS.parts {b j : Nat} {l : List UInt8} {x0 cnt : Int} {tag : ByteArray} {w wz : World} (h : OnS b l j x0 cnt tag none 0 0 w wz) : PartsAt (w.heap.size + 2) (w.heap.size + 1) [] (.slice none 0 0) wz :=
  ⟨h.n4, World.ownsRow_nil _ _ _ _, fun p hp => by cases hp⟩
theorem Stp.five0 (g : Nat) (w : World) (c0 c1 c2 c3 c4 : Value) : Stp g w (((((w.setCell ⟨g, 0, none⟩ c0).setCell ⟨g, 1, none⟩ c1).setCell ⟨g, 2, none⟩ c2).setCell ⟨g, 3, none⟩ c3).setCell ⟨g, 4, none⟩ c4) :=
  ((((Stp.set g 0 w c0).trans (Stp.set g 1 _ c1)).trans (Stp.set g 2 _ c2)).trans (Stp.set g 3 _ c3)).trans (Stp.set g 4 _ c4)
theorem two_drew2 {d R : Nat} {w w2 : World} (h : Two d R w w2) : Two d R w w2.drew := ⟨h.blk, h.frz, h.size, h.os, h.tape, h.output⟩
theorem two_end (d R : Nat) (w : World) (u c0 c1 c2 c3 c4 : Value) : Two d R w ((((((w.setCell ⟨d, 1, none⟩ u).setCell ⟨R, 0, none⟩ c0).setCell ⟨R, 1, none⟩ c1).setCell ⟨R, 2, none⟩ c2).setCell ⟨R, 3, none⟩ c3).setCell ⟨R, 4, none⟩ c4).drew :=
  two_drew2 (two_of (Stp.set d 1 w u) (Stp.five0 R (w.setCell ⟨d, 1, none⟩ u) c0 c1 c2 c3 c4))
/-- The letter and what follows. -/
theorem drop_letter {l : List UInt8} {k : Nat} (hk : k < l.length) : l.drop k = (l[k]?.getD 0) :: l.drop (k + 1) := by
  rw [List.drop_eq_getElem_cons hk, List.getElem?_eq_getElem hk]
  rfl
end Go.Proofs.YtacbjhbiaaieoaaGreatDoor
