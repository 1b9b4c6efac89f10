/-
  What the reader of one type leaves behind.
-/
import Derived.Test.YtacbjhbiaaieoaaGreatDoorTyPt
namespace Go.Proofs.YtacbjhbiaaieoaaGreatDoor
set_option linter.unusedVariables false
set_option linter.unusedSimpArgs false
set_option maxRecDepth 100000
open Go.RowKit

theorem PartsAt.nd {N d : Nat} {L : List (Ty × Value)} {v : Value} {w : World} {t : Ty} (h : PartsAt N d L v w) (ht : t.parts = L.map Prod.fst) (hL : L ≠ []) : Nd (Fm N w) w t v := by
  have hn : 0 < L.length := List.length_pos_iff.2 hL
  have ho := h.own
  rcases ho.2 with ⟨hv, hz⟩ | ⟨g, cap, cur, hv, hb, hg, h1, _⟩
  · omega
  · subst hv
    have hlt := (Array.getElem?_eq_some_iff.1 hg).1
    refine .row t g cap L ht hL h1 ⟨hb, hlt⟩ (fun j u hu => ?_) (fun p hp => (h.kids p hp).mono (fun i hi => ⟨hi.1, hi.2.1⟩) (fun _ _ => rfl))
    have e := ho.cells (g := g) rfl j u hu
    have ea : (⟨g, 0, none⟩ : Addr).add j = ⟨g, j, none⟩ := by unfold Addr.add; split <;> simp_all
    rwa [ea] at e
/-- The node's block and the answer's, behind the first letter. -/
structure Two (d R : Nat) (w w' : World) : Prop where
  blk : ∀ j, j ≠ d → j ≠ R → w'.heap[j]? = w.heap[j]?
  frz : ∀ a, w'.frozen? a = w.frozen? a
  size : w'.heap.size = w.heap.size
  os : w'.os = w.os
  tape : w'.tape = w.tape
  output : w'.output = w.output
theorem two_of {d R : Nat} {w w1 w2 : World} (h : Stp d w w1) (g : Stp R w1 w2) : Two d R w w2 :=
  ⟨fun j h1 h2 => (g.blk j h2).trans (h.blk j h1), fun a => (g.frz a).trans (h.frz a), g.size.trans h.size, g.os.trans h.os, g.tape.trans h.tape, g.output.trans h.output⟩
theorem two_drew {d R : Nat} {w w2 : World} (h : Two d R w.drew w2) : Two d R w w2 := ⟨h.blk, h.frz, h.size, h.os, h.tape, h.output⟩
theorem rdx_two {b d R k : Nat} {w w1 w2 : World} (h : RdX b w k w1) (g : Two d R w1 w2) (hbd : b ≠ d) (hbR : b ≠ R) (hd : w.heap.size ≤ d) (hR : w.heap.size ≤ R) : RdX b w k w2 := by
  have e := g.blk b hbd hbR
  exact ⟨fun i hi => (cell_of_blk e i).trans (h.oth i hi), (cell_of_blk e 1).trans h.pos, fun i => (frozen_of_blk e i).trans (h.frz i), fun j hj hs => (g.blk j (by omega) (by omega)).trans (h.blk j hj hs), by rw [g.size]; exact h.size, g.os.trans h.os, g.tape.trans h.tape, g.output.trans h.output⟩
theorem ptx_rdx {b d N k j : Nat} {w w1 w2 : World} (h : RdX b w j w1) (g : PtX b d N w1 k w2) (hd : w.heap.size ≤ d) (hN : w.heap.size ≤ N) : RdX b w k w2 :=
  ⟨fun i hi => (g.oth i hi).trans (h.oth i hi), g.pos, fun i => (g.frz i).trans (h.frz i), fun i hi hs => (g.blk i hi (by omega) (by omega)).trans (h.blk i hi hs), Nat.le_trans h.size g.size, g.os.trans h.os, g.tape.trans h.tape, g.output.trans h.output⟩
theorem nd_two {d R N : Nat} {w w1 w2 : World} {t : Ty} {v : Value} (h : Nd (Fm N w1) w1 t v) (g : Two d R w1 w2) (hd : d < N) (hR : R < N) (hN : w.heap.size ≤ N) : Nd (Fm w.heap.size w2) w2 t v :=
  h.mono (fun j hj => ⟨by have := hj.1; omega, by rw [g.size]; exact hj.2⟩) (fun j hj => g.blk j (by have := hj.1; omega) (by have := hj.1; omega))
theorem code_take {l y : List UInt8} {k : Nat} {t : Ty} (h : rd (l.drop k) = some (t, y)) (hk : k ≤ l.length) : (l.drop k).take (plc l y - k) = t.code := by
  have e := rd_suf h
  have h2 := congrArg List.length e
  rw [List.length_append, List.length_drop] at h2
  have h3 : plc l y - k = t.code.length := by unfold plc; omega
  rw [h3, e, List.take_left]
/-- The answer of one, put together. -/
theorem one_yes {b k j : Nat} {l y : List UInt8} {w w9 : World} {t : Ty} {x0 x2 : Int} {s1 s3 : ByteArray} {a4 : Option Addr} {n4 m4 : Nat} (hk : k ≤ l.length) (hr : rd (l.drop k) = some (t, y)) (hj : j = plc l y) (h0 : x0 = t.letter.toNat) (h1 : s1 = ⟨((l.drop k).take (j - k)).toArray⟩) (h2 : x2 = t.count) (h3 : s3 = ⟨t.tag.toArray⟩)
    (hX : RdX b w j w9) (hN : Nd (Fm w.heap.size w9) w9 t (.slice a4 n4 m4)) (hkj : k ≤ j) : OneR b l k w (.returned (.tuple #[.agg #[.int .u8 x0, .string s1, .int .i64 x2, .string s3, .slice a4 n4 m4], .bool true])) w9 := by
  subst hj h0 h2 h3
  rw [code_take hr hk] at h1
  subst h1
  exact ⟨true, _, _, _, _, _, _, _, _, rfl, hkj, plc_le _ _, hX, .inl ⟨t, y, _, hr, rfl, rfl, rfl, hN⟩⟩
theorem one_no {b k j : Nat} {l : List UInt8} {w w9 : World} {x0 x2 : Int} {s1 s3 : ByteArray} {a4 : Option Addr} {n4 m4 : Nat} (hr : rd (l.drop k) = none) (hX : RdX b w j w9) (hkj : k ≤ j) (hjl : j ≤ l.length) : OneR b l k w (.returned (.tuple #[.agg #[.int .u8 x0, .string s1, .int .i64 x2, .string s3, .slice a4 n4 m4], .bool false])) w9 :=
  ⟨false, _, _, _, _, _, _, _, _, rfl, hkj, hjl, hX, .inr ⟨hr, rfl⟩⟩
end Go.Proofs.YtacbjhbiaaieoaaGreatDoor
