/-
  Several contracts on types, in the code.
-/
import Derived.Test.YtjadckhngalmlaaGreatDoorZTyK3
namespace Go.Proofs.YtjadckhngalmlaaGreatDoor
set_option linter.unusedVariables false
set_option linter.unusedSimpArgs false
set_option maxRecDepth 100000
open Go.RowKit

abbrev sTt : ByteArray := ⟨#[116]⟩
abbrev sT1 : ByteArray := ⟨#[102, 105, 114, 115, 116]⟩
abbrev sT2 : ByteArray := ⟨#[115, 101, 99, 111, 110, 100]⟩
theorem infoMb : (Tryz.prog.info? 179).map (fun i => (i.zero, i.size, i.bytes)) = some (some (.agg #[.int .u8 0, .string ByteArray.empty, .int .i64 0, .string ByteArray.empty, .slice none 0 0, .string ByteArray.empty, .int .i64 0]), 7, 96) := by kernel_rfl
theorem x_stp (X : Nat) (w : World) (a b c d : Value) : Stp X w ((((w.setCell ⟨X, 4, none⟩ a).setCell ⟨X, 0, none⟩ b).setCell ⟨X, 1, none⟩ c).setCell ⟨X, 2, none⟩ d) :=
  (((Stp.set X 4 w a).trans (Stp.set X 0 _ b)).trans (Stp.set X 1 _ c)).trans (Stp.set X 2 _ d)
/-- Behind a round: what was laid ahead of it stands. -/
theorem rnd_end {B X : Nat} {w W2 wd w9 : World} {row : Option Nat} (hB : Below B w W2) (hg : W2.grownBy wd row) (hst : Stp X wd w9) (hX : B ≤ X) (hBW : B ≤ W2.heap.size) (hr : ∀ k, row = some k → X + 1 ≤ k) :
    Below B w w9 ∧ ∀ k o, k < X → W2.heap[k]? = some o → w9.heap[k]? = some o :=
  ⟨below_stp (hB.grown hg hBW (fun k hk => by have := hr k hk; omega)) hst hX, fun k o hk h => (hst.blk k (by omega)).trans ((hg.block k (Array.getElem?_eq_some_iff.1 h).1 (fun e => by have := hr k e.symm; omega)).trans h)⟩
end Go.Proofs.YtjadckhngalmlaaGreatDoor
/-! The contracts of the structs laid out, of a type's size and of a member's place, at the first example, in the code. -/
namespace Go.Proofs.YtjadckhngalmlaaGreatDoor
set_option linter.unusedVariables false
set_option linter.unusedSimpArgs false
set_option maxRecDepth 100000
open Go.RowKit

/-- The example's structs, as they lie: one struct in block gs, its members in block gm. -/
structure ExAt (gs gm : Nat) (w : World) : Prop where
  s0 : w.cell? ⟨gs, 0, none⟩ = some (.string sTt)
  s1 : w.cell? ⟨gs, 1, none⟩ = some (.slice (some ⟨gm, 0, none⟩) 2 2)
  k0 : w.cell? ⟨gm, 0, none⟩ = some (.string sT1)
  k1 : w.cell? ⟨gm, 1, none⟩ = some (.string ⟨#[99]⟩)
  k2 : w.cell? ⟨gm, 2, none⟩ = some (.string sT2)
  k3 : w.cell? ⟨gm, 3, none⟩ = some (.string ⟨#[105]⟩)
theorem ExAt.next {gs gm : Nat} {w w' : World} (h : ExAt gs gm w) (hb : Below w.heap.size w w') : ExAt gs gm w' := by
  have e := hb.block gs (World.block_lt_of_cell? w ⟨gs, 0, none⟩ h.s0)
  have f := hb.block gm (World.block_lt_of_cell? w ⟨gm, 0, none⟩ h.k0)
  exact ⟨(cell_of_blk e 0).trans h.s0, (cell_of_blk e 1).trans h.s1, (cell_of_blk f 0).trans h.k0, (cell_of_blk f 1).trans h.k1, (cell_of_blk f 2).trans h.k2, (cell_of_blk f 3).trans h.k3⟩
theorem infoLy : (Tryz.prog.info? 152).map (fun i => (i.zero, i.size, i.bytes)) = some (some (.agg #[.int .i64 0, .int .i64 0, .int .i64 0, .string ByteArray.empty, .slice none 0 0]), 5, 64) := by kernel_rfl
/-- The layouts of the example. -/
structure KnAt (gl gx : Nat) (w : World) : Prop where
  l : ∃ cap, LkAt gl 8 4 2 sTt (some ⟨gx, 0, none⟩) 2 cap w ∧ 2 ≤ cap
  a : MbAt gx 0 99 ⟨#[99]⟩ sT1 0 w
  b : MbAt gx 7 105 ⟨#[105]⟩ sT2 4 w
theorem KnAt.next {gl gx : Nat} {w w' : World} (h : KnAt gl gx w) (hb : Below w.heap.size w w') : KnAt gl gx w' := by
  obtain ⟨cap, h1, h2⟩ := h.l
  exact ⟨⟨cap, h1.next hb, h2⟩, h.a.next hb, h.b.next hb⟩
theorem KnAt.stp {gl gx X : Nat} {w w' : World} (h : KnAt gl gx w) (hs : Stp X w w') (v0 : Value) (h0 : w.cell? ⟨X, 0, none⟩ = some v0) (hv1 : v0 ≠ .int .i64 8) (hv2 : v0 ≠ .int .u8 99) : KnAt gl gx w' := by
  obtain ⟨cap, h1, h2⟩ := h.l
  have n1 : gl ≠ X := fun e => by
    have h3 := h1.c0
    rw [e, h0] at h3
    exact hv1 (Option.some.inj h3)
  have n2 : gx ≠ X := fun e => by
    have h3 := h.a.c 0 _ rfl
    rw [e, h0] at h3
    exact hv2 (Option.some.inj h3)
  have e1 := hs.blk gl n1
  have e2 := hs.blk gx n2
  exact ⟨⟨cap, ⟨(cell_of_blk e1 _).trans h1.c0, (cell_of_blk e1 _).trans h1.c1, (cell_of_blk e1 _).trans h1.c2, (cell_of_blk e1 _).trans h1.c3, (cell_of_blk e1 _).trans h1.c4⟩, h2⟩, ⟨fun i u hu => (cell_of_blk e2 _).trans (h.a.c i u hu)⟩, ⟨fun i u hu => (cell_of_blk e2 _).trans (h.b.c i u hu)⟩⟩
end Go.Proofs.YtjadckhngalmlaaGreatDoor
/-! The contract of a member's place, at the first example, in the code. -/
namespace Go.Proofs.YtjadckhngalmlaaGreatDoor
set_option linter.unusedVariables false
set_option linter.unusedSimpArgs false
set_option maxRecDepth 100000
open Go.RowKit

end Go.Proofs.YtjadckhngalmlaaGreatDoor
