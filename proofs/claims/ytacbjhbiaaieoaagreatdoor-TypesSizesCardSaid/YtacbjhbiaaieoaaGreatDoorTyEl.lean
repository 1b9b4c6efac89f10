/-
  The contracts of what a type is made of; of a function's parameters, in the code.
-/
import Derived.Test.YtacbjhbiaaieoaaGreatDoorTyWb
import Derived.Deep.RegionHeld3
namespace Go.Proofs.YtacbjhbiaaieoaaGreatDoor
set_option linter.unusedVariables false
set_option linter.unusedSimpArgs false
set_option maxRecDepth 100000
open Go.RowKit

/-- Texts in a slice. -/
def StrIn (w : World) (a : Option Addr) (L : List (List UInt8)) : Prop := 0 < L.length → ∃ b off, a = some ⟨b, off, none⟩ ∧ ∀ (k : Nat) s, L[k]? = some s → w.cell? ⟨b, off + k, none⟩ = some (.string ⟨s.toArray⟩)
theorem StrIn.next {w w' : World} {a : Option Addr} {L : List (List UInt8)} (h : StrIn w a L) (hb : Below w.heap.size w w') : StrIn w' a L := fun h0 => by
  obtain ⟨b, off, h1, h2⟩ := h h0
  exact ⟨b, off, h1, fun k s hs => by
    have h3 := h2 k s hs
    have h4 : b < w.heap.size := World.block_lt_of_cell? w ⟨b, off + k, none⟩ h3
    exact (cell_of_blk (hb.block b h4) _).trans h3⟩
set_option maxHeartbeats 4000000 in
theorem c_Elem (B : Nat) (l : List UInt8) (w : World) (hE : Env B w) (hB : B ≤ w.heap.size) (hm : l.length ≤ 9223372036854775807) (t u : Ty) (ht : tk l = some t) (hp : t.parts = [u]) (x0 : Int) (hx0 : (t.letter.toNat : Int) = x0) (hx : x0 = 112 ∨ x0 = 97) :
    Calls Tryz.prog 22 #[.string ⟨l.toArray⟩] w fun e w' => e = .returned (.tuple #[.string ⟨u.code.toArray⟩, .int .i64 t.count, .int .i64 0]) ∧ Below w.heap.size w w' := by
  have HT := Lib.hid (c_tkS B l w hE hB hm t ht)
  have HI := Lib.hid (fun (a : Option Addr) (n c : Nat) (w1 : World) (hn : NdIn t (.slice a n c) w1) => c_inner (fun j => j < w1.heap.size) t (.slice a n c) w1 hn [] u hp (by simp))
  obtain ⟨x2, hx2⟩ : ∃ x2 : Int, (t.count : Int) = x2 := ⟨_, rfl⟩
  obtain ⟨s1, hs1⟩ : ∃ s1, (⟨t.code.toArray⟩ : ByteArray) = s1 := ⟨_, rfl⟩
  obtain ⟨s3, hs3⟩ : ∃ s3, (⟨t.tag.toArray⟩ : ByteArray) = s3 := ⟨_, rfl⟩
  have HI' : Hid (∀ (a : Option Addr) (n c : Nat) (w1 : World), NdIn t (.slice a n c) w1 → Calls Tryz.prog 55 #[nV x0 s1 x2 s3 a n c] w1 fun e w' => ∃ a n c y0 y2 y3, e = .returned (.agg #[.int .u8 y0, .string ⟨u.code.toArray⟩, .int .i64 y2, .string y3, .slice a n c]) ∧ Below w1.heap.size w1 w') := fun a n c w1 hn => by
    have h := HI.out a n c w1 hn
    rw [nd_nV, hx0, hx2, hs1, hs3] at h
    exact h.mono fun e w' h => by
      obtain ⟨⟨a', n', c', h1, _⟩, h2⟩ := h
      exact ⟨a', n', c', _, _, _, h1, h2⟩
  rw [hx0, hx2, hs1, hs3] at HT
  rw [hx2]
  clear hx0 hx2 hs1 hs3 HI hE ht hp
  rcases hx with rfl | rfl
  · go_enter Tryz.func22, Tryz.ntmps22
    go_wp2_with fail
    refine HT.out.mono ?_
    rintro e w1 ⟨⟨a, n, c, rfl, hn⟩, hb⟩
    have HB := Lib.hid hb
    have HNd := Lib.hid (show NdIn t (.slice a n c) w1 from hn.mono (fun j hj => hj.2) (fun _ _ => rfl))
    clear hb HT hn
    go_wp2_with fail
    have HA := Lib.hid (below_a w1 (.cells #[.int .u8 112, .string s1, .int .i64 x2, .string s3, .slice a n c] 68)).drew
    have HNd2 : Hid (NdIn t (.slice a n c) ((w1.alloc (.cells #[.int .u8 112, .string s1, .int .i64 x2, .string s3, .slice a n c] 68)).drew)) := HNd.out.next HA.out
    have HK0 : Hid ((fun w' : World => w'.cell? ⟨w1.heap.size, 0, none⟩ = some (.int .u8 112) ∧ w'.cell? ⟨w1.heap.size, 1, none⟩ = some (.string s1) ∧ w'.cell? ⟨w1.heap.size, 2, none⟩ = some (.int .i64 x2) ∧ w'.cell? ⟨w1.heap.size, 3, none⟩ = some (.string s3) ∧ w'.cell? ⟨w1.heap.size, 4, none⟩ = some (.slice a n c) ∧ Below w.heap.size w w') ((w1.alloc (.cells #[.int .u8 112, .string s1, .int .i64 x2, .string s3, .slice a n c] 68)).drew)) := by
      obtain ⟨n0, n1, n2, n3, n4, nf⟩ := five_cells (heap_alloc_new w1 (.cells #[.int .u8 112, .string s1, .int .i64 x2, .string s3, .slice a n c] 68))
      exact ⟨n0, n1, n2, n3, n4, HB.out.trans (HA.out.mono HB.out.size)⟩
    have HKp : Hid (∀ w2, Below ((w1.alloc (.cells #[.int .u8 112, .string s1, .int .i64 x2, .string s3, .slice a n c] 68)).drew).heap.size ((w1.alloc (.cells #[.int .u8 112, .string s1, .int .i64 x2, .string s3, .slice a n c] 68)).drew) w2 → (fun w' : World => w'.cell? ⟨w1.heap.size, 0, none⟩ = some (.int .u8 112) ∧ w'.cell? ⟨w1.heap.size, 1, none⟩ = some (.string s1) ∧ w'.cell? ⟨w1.heap.size, 2, none⟩ = some (.int .i64 x2) ∧ w'.cell? ⟨w1.heap.size, 3, none⟩ = some (.string s3) ∧ w'.cell? ⟨w1.heap.size, 4, none⟩ = some (.slice a n c) ∧ Below w.heap.size w w') w2) := fun w2 hb => by
      obtain ⟨h0, h1, h2, h3, h4, h5⟩ := HK0.out
      have e := hb.block _ (World.block_lt_of_cell? _ ⟨w1.heap.size, 2, none⟩ h2)
      exact ⟨(cell_of_blk e 0).trans h0, (cell_of_blk e 1).trans h1, (cell_of_blk e 2).trans h2, (cell_of_blk e 3).trans h3, (cell_of_blk e 4).trans h4, below_on h5 hb h5.size⟩
    have hfd : ∀ (y0 y2 : Int) (y3 : ByteArray) (a' : Option Addr) (n' c' : Nat) (W : World), (Instr.field 68 (.agg #[.int .u8 y0, .string ⟨u.code.toArray⟩, .int .i64 y2, .string y3, .slice a' n' c']) 1).run Tryz.prog W = .ok (.string ⟨u.code.toArray⟩) W := fun _ _ _ _ _ _ _ => by kernel_rfl
    go_region_held3 (fun w' : World => w'.cell? ⟨w1.heap.size, 0, none⟩ = some (.int .u8 112) ∧ w'.cell? ⟨w1.heap.size, 1, none⟩ = some (.string s1) ∧ w'.cell? ⟨w1.heap.size, 2, none⟩ = some (.int .i64 x2) ∧ w'.cell? ⟨w1.heap.size, 3, none⟩ = some (.string s3) ∧ w'.cell? ⟨w1.heap.size, 4, none⟩ = some (.slice a n c) ∧ Below w.heap.size w w')
      (first | exact HK0.out | exact HKp.out _ (by assumption) | assumption)
      (first | (go_at_call 55; refine (HI'.out _ _ _ _ HNd2.out).mono ?_; rintro e w2 ⟨a', n', c', y0, y2, y3, rfl, hb2⟩))
    all_goals
      obtain ⟨_, _, _, _, _, hz2⟩ := ‹_ ∧ _›
      go_wp2_with fail
      go_ret3
      exact ⟨rfl, hz2⟩
  · go_enter Tryz.func22, Tryz.ntmps22
    go_wp2_with fail
    refine HT.out.mono ?_
    rintro e w1 ⟨⟨a, n, c, rfl, hn⟩, hb⟩
    have HB := Lib.hid hb
    have HNd := Lib.hid (show NdIn t (.slice a n c) w1 from hn.mono (fun j hj => hj.2) (fun _ _ => rfl))
    clear hb HT hn
    go_wp2_with fail
    have HA := Lib.hid (below_a w1 (.cells #[.int .u8 97, .string s1, .int .i64 x2, .string s3, .slice a n c] 68)).drew
    have HNd2 : Hid (NdIn t (.slice a n c) ((w1.alloc (.cells #[.int .u8 97, .string s1, .int .i64 x2, .string s3, .slice a n c] 68)).drew)) := HNd.out.next HA.out
    have HK0 : Hid ((fun w' : World => w'.cell? ⟨w1.heap.size, 0, none⟩ = some (.int .u8 97) ∧ w'.cell? ⟨w1.heap.size, 1, none⟩ = some (.string s1) ∧ w'.cell? ⟨w1.heap.size, 2, none⟩ = some (.int .i64 x2) ∧ w'.cell? ⟨w1.heap.size, 3, none⟩ = some (.string s3) ∧ w'.cell? ⟨w1.heap.size, 4, none⟩ = some (.slice a n c) ∧ Below w.heap.size w w') ((w1.alloc (.cells #[.int .u8 97, .string s1, .int .i64 x2, .string s3, .slice a n c] 68)).drew)) := by
      obtain ⟨n0, n1, n2, n3, n4, nf⟩ := five_cells (heap_alloc_new w1 (.cells #[.int .u8 97, .string s1, .int .i64 x2, .string s3, .slice a n c] 68))
      exact ⟨n0, n1, n2, n3, n4, HB.out.trans (HA.out.mono HB.out.size)⟩
    have HKp : Hid (∀ w2, Below ((w1.alloc (.cells #[.int .u8 97, .string s1, .int .i64 x2, .string s3, .slice a n c] 68)).drew).heap.size ((w1.alloc (.cells #[.int .u8 97, .string s1, .int .i64 x2, .string s3, .slice a n c] 68)).drew) w2 → (fun w' : World => w'.cell? ⟨w1.heap.size, 0, none⟩ = some (.int .u8 97) ∧ w'.cell? ⟨w1.heap.size, 1, none⟩ = some (.string s1) ∧ w'.cell? ⟨w1.heap.size, 2, none⟩ = some (.int .i64 x2) ∧ w'.cell? ⟨w1.heap.size, 3, none⟩ = some (.string s3) ∧ w'.cell? ⟨w1.heap.size, 4, none⟩ = some (.slice a n c) ∧ Below w.heap.size w w') w2) := fun w2 hb => by
      obtain ⟨h0, h1, h2, h3, h4, h5⟩ := HK0.out
      have e := hb.block _ (World.block_lt_of_cell? _ ⟨w1.heap.size, 2, none⟩ h2)
      exact ⟨(cell_of_blk e 0).trans h0, (cell_of_blk e 1).trans h1, (cell_of_blk e 2).trans h2, (cell_of_blk e 3).trans h3, (cell_of_blk e 4).trans h4, below_on h5 hb h5.size⟩
    have hfd : ∀ (y0 y2 : Int) (y3 : ByteArray) (a' : Option Addr) (n' c' : Nat) (W : World), (Instr.field 68 (.agg #[.int .u8 y0, .string ⟨u.code.toArray⟩, .int .i64 y2, .string y3, .slice a' n' c']) 1).run Tryz.prog W = .ok (.string ⟨u.code.toArray⟩) W := fun _ _ _ _ _ _ _ => by kernel_rfl
    go_region_held3 (fun w' : World => w'.cell? ⟨w1.heap.size, 0, none⟩ = some (.int .u8 97) ∧ w'.cell? ⟨w1.heap.size, 1, none⟩ = some (.string s1) ∧ w'.cell? ⟨w1.heap.size, 2, none⟩ = some (.int .i64 x2) ∧ w'.cell? ⟨w1.heap.size, 3, none⟩ = some (.string s3) ∧ w'.cell? ⟨w1.heap.size, 4, none⟩ = some (.slice a n c) ∧ Below w.heap.size w w')
      (first | exact HK0.out | exact HKp.out _ (by assumption) | assumption)
      (first | (go_at_call 55; refine (HI'.out _ _ _ _ HNd2.out).mono ?_; rintro e w2 ⟨a', n', c', y0, y2, y3, rfl, hb2⟩))
    all_goals
      obtain ⟨_, _, _, _, _, hz2⟩ := ‹_ ∧ _›
      go_wp2_with fail
      go_ret3
      exact ⟨rfl, hz2⟩
end Go.Proofs.YtacbjhbiaaieoaaGreatDoor
