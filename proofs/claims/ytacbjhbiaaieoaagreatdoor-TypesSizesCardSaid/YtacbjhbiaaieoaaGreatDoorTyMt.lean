/-
  Several contracts on types, in the code.
-/
import Derived.Test.YtacbjhbiaaieoaaGreatDoorTyLr
/-! The contracts of what asks the structs that are laid out, at one struct, in the code. -/
namespace Go.Proofs.YtacbjhbiaaieoaaGreatDoor
set_option linter.unusedVariables false
set_option linter.unusedSimpArgs false
set_option maxRecDepth 100000
open Go.RowKit

/-- One struct laid out, at the head of block g. -/
structure LkAt (g : Nat) (x y z : Int) (nm : ByteArray) (ma : Option Addr) (mn mc : Nat) (w : World) : Prop where
  c0 : w.cell? ⟨g, 0, none⟩ = some (.int .i64 x)
  c1 : w.cell? ⟨g, 1, none⟩ = some (.int .i64 y)
  c2 : w.cell? ⟨g, 2, none⟩ = some (.int .i64 z)
  c3 : w.cell? ⟨g, 3, none⟩ = some (.string nm)
  c4 : w.cell? ⟨g, 4, none⟩ = some (.slice ma mn mc)
theorem LkAt.lt {g : Nat} {x y z : Int} {nm : ByteArray} {ma : Option Addr} {mn mc : Nat} {w : World} (h : LkAt g x y z nm ma mn mc w) : g < w.heap.size := World.block_lt_of_cell? w ⟨g, 0, none⟩ h.c0
theorem LkAt.next {g : Nat} {x y z : Int} {nm : ByteArray} {ma : Option Addr} {mn mc : Nat} {w w' : World} (h : LkAt g x y z nm ma mn mc w) (hb : Below w.heap.size w w') : LkAt g x y z nm ma mn mc w' := by
  have e := hb.block g h.lt
  exact ⟨(cell_of_blk e 0).trans h.c0, (cell_of_blk e 1).trans h.c1, (cell_of_blk e 2).trans h.c2, (cell_of_blk e 3).trans h.c3, (cell_of_blk e 4).trans h.c4⟩
abbrev lV (x y z : Int) (nm : ByteArray) (ma : Option Addr) (mn mc : Nat) : Value := .agg #[.int .i64 x, .int .i64 y, .int .i64 z, .string nm, .slice ma mn mc]
set_option maxHeartbeats 2000000 in
theorem c_find0 (nm : ByteArray) (w : World) :
    Calls Tryz.prog 53 #[.slice none 0 0, .string nm] w fun e w' => e = .returned (.tuple #[lV 0 0 0 ⟨#[]⟩ none 0 0, .bool false]) ∧ Below w.heap.size w w' := by
  go_enter Tryz.func53, Tryz.ntmps53
  go_wp2_with fail
  go_rounds 1
  refine bodyPost_ret (v := .tuple #[lV 0 0 0 ⟨#[]⟩ none 0 0, .bool false]) (by simp [results, Tryz.results53, go_sem]) rfl ?_
  exact ⟨rfl, below_a _ _⟩
set_option maxHeartbeats 2000000 in
theorem c_find1 (g cap : Nat) (hc : 1 ≤ cap) (x y z : Int) (nm : List UInt8) (ma : Option Addr) (mn mc : Nat) (w : World) (hL : LkAt g x y z ⟨nm.toArray⟩ ma mn mc w) :
    Calls Tryz.prog 53 #[.slice (some ⟨g, 0, none⟩) 1 cap, .string ⟨nm.toArray⟩] w fun e w' => e = .returned (.tuple #[lV x y z ⟨nm.toArray⟩ ma mn mc, .bool true]) ∧ Below w.heap.size w w' := by
  have hlt := hL.lt
  obtain ⟨c0, c1, c2, c3, c4⟩ := hL
  have hlt1 : g < w.heap.size + 1 := by omega
  have hnm : (nm == nm) = true := by simp
  go_enter Tryz.func53, Tryz.ntmps53
  go_wp2_with fail
  go_rounds 2
  refine bodyPost_ret (v := .tuple #[lV x y z ⟨nm.toArray⟩ ma mn mc, .bool true]) (by simp [results, Tryz.results53, go_sem]) rfl ?_
  exact ⟨rfl, (below_a _ _).alloc (by simp) _⟩
/-- The type of the first example's struct. -/
def tS : Ty := .str [116]
def tA : Ty := .arr 3 tS
abbrev vS : Value := nV 83 ⟨#[83, 116, 59]⟩ 0 ⟨#[116]⟩ none 0 0
abbrev vA (a : Option Addr) (n c : Nat) : Value := nV 97 ⟨#[97, 51, 58, 83, 116, 59]⟩ 3 ⟨#[]⟩ a n c
set_option maxHeartbeats 2000000 in
theorem c_extentS (g cap : Nat) (hc : 1 ≤ cap) (x y z : Int) (ma : Option Addr) (mn mc : Nat) (w : World) (hL : LkAt g x y z ⟨#[116]⟩ ma mn mc w) :
    Calls Tryz.prog 48 #[.slice (some ⟨g, 0, none⟩) 1 cap, vS] w fun e w' => e = .returned (.tuple #[.agg #[.int .i64 x, .int .i64 y, .int .i64 z], .bool true]) ∧ Below w.heap.size w w' := by
  have HF : Hid (∀ w', Below w.heap.size w w' → Calls Tryz.prog 53 #[.slice (some ⟨g, 0, none⟩) 1 cap, .string ⟨#[116]⟩] w' fun e w'' => e = .returned (.tuple #[lV x y z ⟨#[116]⟩ ma mn mc, .bool true]) ∧ Below w'.heap.size w' w'') := fun w' hb => c_find1 g cap hc x y z [116] ma mn mc w' (hL.next hb)
  go_enter Tryz.func48, Tryz.ntmps48
  go_wp2_with fail
  refine (HF.out _ ((below_a _ _).alloc (by simp) _)).mono ?_
  rintro e w2 ⟨rfl, hb⟩
  have hs := hb.size
  simp at hs
  have hlt : w.heap.size < w2.heap.size := by omega
  have hlt1 : w.heap.size + 1 < w2.heap.size := by omega
  have r0 : w2.cell? ⟨w.heap.size + 1, 0, none⟩ = some (.int .i64 0) := (cell_of_blk (hb.block _ (by simp)) 0).trans (by simp)
  have r1 : w2.cell? ⟨w.heap.size + 1, 1, none⟩ = some (.int .i64 0) := (cell_of_blk (hb.block _ (by simp)) 1).trans (by simp)
  have r2 : w2.cell? ⟨w.heap.size + 1, 2, none⟩ = some (.int .i64 0) := (cell_of_blk (hb.block _ (by simp)) 2).trans (by simp)
  have f0 : w2.frozen? ⟨w.heap.size + 1, 0, none⟩ = false := (frozen_of_blk (hb.block _ (by simp)) 0).trans (by simp)
  have f1 : w2.frozen? ⟨w.heap.size + 1, 1, none⟩ = false := (frozen_of_blk (hb.block _ (by simp)) 1).trans (by simp)
  have f2 : w2.frozen? ⟨w.heap.size + 1, 2, none⟩ = false := (frozen_of_blk (hb.block _ (by simp)) 2).trans (by simp)
  have HB : Hid (Below w.heap.size w w2) := below_on ((below_a w (.cells #[.int .u8 83, .string ⟨#[83, 116, 59]⟩, .int .i64 0, .string ⟨#[116]⟩, .slice none 0 0] 68)).alloc (by simp) (.cells #[.int .i64 0, .int .i64 0, .int .i64 0] 79)) hb (by simp; omega)
  clear hb hs HF
  go_wp2_with fail
  refine bodyPost_ret (v := .tuple #[.agg #[.int .i64 x, .int .i64 y, .int .i64 z], .bool true]) (by simp [results, Tryz.results48, go_sem, r0, r1, r2, hlt1]) rfl ?_
  refine ⟨rfl, ?_⟩
  exact (((HB.out.setCell (p := ⟨w.heap.size + 1, 0, none⟩) (by simp) _).setCell (p := ⟨w.heap.size + 1, 1, none⟩) (by simp) _).setCell (p := ⟨w.heap.size + 1, 2, none⟩) (by simp) _).alloc (by simp; omega) _
set_option maxHeartbeats 2000000 in
theorem c_lacksS (g cap : Nat) (hc : 1 ≤ cap) (x y z : Int) (ma : Option Addr) (mn mc : Nat) (w : World) (hL : LkAt g x y z ⟨#[116]⟩ ma mn mc w) :
    Calls Tryz.prog 99 #[.slice (some ⟨g, 0, none⟩) 1 cap, vS] w fun e w' => e = .returned (.bool false) ∧ Below w.heap.size w w' := by
  have HF : Hid (∀ w', Below w.heap.size w w' → Calls Tryz.prog 53 #[.slice (some ⟨g, 0, none⟩) 1 cap, .string ⟨#[116]⟩] w' fun e w'' => e = .returned (.tuple #[lV x y z ⟨#[116]⟩ ma mn mc, .bool true]) ∧ Below w'.heap.size w' w'') := fun w' hb => c_find1 g cap hc x y z [116] ma mn mc w' (hL.next hb)
  go_enter Tryz.func99, Tryz.ntmps99
  go_wp2_with fail
  refine (HF.out _ (below_a _ _)).mono ?_
  rintro e w2 ⟨rfl, hb⟩
  have HB : Hid (Below w.heap.size w w2) := below_on (below_a w (.cells #[.int .u8 83, .string ⟨#[83, 116, 59]⟩, .int .i64 0, .string ⟨#[116]⟩, .slice none 0 0] 68)) hb (by simp)
  clear hb
  go_wp2_with fail
  go_ret
  exact ⟨rfl, HB.out.alloc HB.out.size _⟩
theorem c_greatS (g cap : Nat) (hc : 1 ≤ cap) (x y z : Int) (hx : decide (65536 < x) = false) (ma : Option Addr) (mn mc : Nat) (w : World) (hL : LkAt g x y z ⟨#[116]⟩ ma mn mc w) :
    Calls Tryz.prog 100 #[.slice (some ⟨g, 0, none⟩) 1 cap, vS] w fun e w' => e = .returned (.bool false) ∧ Below w.heap.size w w' :=
  c_great0 (some ⟨g, 0, none⟩) 1 cap 83 ⟨#[83, 116, 59]⟩ 0 ⟨#[116]⟩ w x y true z hx (fun w' hb => c_extentS g cap hc x y z ma mn mc w' (hL.next hb))
set_option maxHeartbeats 2000000 in
theorem c_times (w : World) : Calls Tryz.prog 82 #[.agg #[.int .i64 8, .int .i64 4, .int .i64 2], .int .i64 3] w fun e w' => e = .returned (.agg #[.int .i64 24, .int .i64 4, .int .i64 6]) ∧ Below w.heap.size w w' := by
  go_enter Tryz.func82, Tryz.ntmps82
  go_wp2_with fail
  refine bodyPost_ret (v := .agg #[.int .i64 24, .int .i64 4, .int .i64 6]) (by simp [results, Tryz.results82, go_sem]; decide) rfl ?_
  exact ⟨rfl, (below_a _ _).alloc (by simp) _⟩
theorem codeA : tA.code = [97, 51, 58, 83, 116, 59] := by
  show 97 :: (Lib.decDigits 3 ++ 58 :: tS.code) = _
  rw [bk_small 3 (by decide)]
  rfl
theorem ndA (a : Option Addr) (n c : Nat) : ndV tA (.slice a n c) = vA a n c := ndC_eq rfl (by rw [codeA]) rfl rfl
theorem ndS : ndV tS (.slice none 0 0) = vS := rfl
/-- Of an array of structs: its part. -/
theorem inA (a : Option Addr) (n c : Nat) (w : World) (h : NdIn tA (.slice a n c) w) :
    Calls Tryz.prog 55 #[vA a n c] w fun e w' => e = .returned vS ∧ Below w.heap.size w w' := by
  have h1 := c_inner _ tA _ w h [] tS rfl (by decide)
  rw [ndA] at h1
  refine h1.mono fun e w' ⟨⟨a', n', c', he, hn⟩, hb⟩ => ⟨?_, hb⟩
  have h0 := hn.nil rfl
  rw [he, h0, ndS]
abbrev obA (a : Option Addr) (n c : Nat) : Obj := .cells #[.int .u8 97, .string ⟨#[97, 51, 58, 83, 116, 59]⟩, .int .i64 3, .string ⟨#[]⟩, .slice a n c] 68
set_option maxHeartbeats 2000000 in
theorem c_fitA (a : Option Addr) (n c : Nat) (w : World) (h : NdIn tA (.slice a n c) w) :
    Calls Tryz.prog 117 #[vA a n c] w fun e w' => e = .returned (.bool true) ∧ Below w.heap.size w w' := by
  have HI := Lib.hid (fun w' (hb : Below w.heap.size w w') => inA a n c w' (h.next hb))
  clear h
  go_enter Tryz.func117, Tryz.ntmps117
  go_wp2_with fail
  refine (HI.out _ (below_a _ _)).mono ?_
  rintro e w2 ⟨rfl, hb⟩
  have HB : Hid (Below w.heap.size w w2) := below_on (below_a w (obA a n c)) hb (by simp)
  clear hb HI
  go_wp2_with fail
  refine (c_isObject 83 _ _ _ _ _ _ _).mono ?_
  rintro e w3 ⟨rfl, hb⟩
  have HB3 : Hid (Below w.heap.size w w3) := below_on HB.out hb HB.out.size
  clear hb HB
  go_wp2_with fail
  go_ret
  exact ⟨rfl, HB3.out⟩
set_option maxHeartbeats 2000000 in
theorem c_lacksA (g cap : Nat) (hc : 1 ≤ cap) (x y z : Int) (ma : Option Addr) (mn mc : Nat) (a : Option Addr) (n c : Nat) (w : World) (hL : LkAt g x y z ⟨#[116]⟩ ma mn mc w) (h : NdIn tA (.slice a n c) w) :
    Calls Tryz.prog 99 #[.slice (some ⟨g, 0, none⟩) 1 cap, vA a n c] w fun e w' => e = .returned (.bool false) ∧ Below w.heap.size w w' := by
  have HI := Lib.hid (fun w' (hb : Below w.heap.size w w') => inA a n c w' (h.next hb))
  have HS := Lib.hid (fun w' (hb : Below w.heap.size w w') => c_lacksS g cap hc x y z ma mn mc w' (hL.next hb))
  clear h hL
  go_enter Tryz.func99, Tryz.ntmps99
  go_wp2_with fail
  refine (HI.out _ (below_a _ _)).mono ?_
  rintro e w2 ⟨rfl, hb⟩
  have HB : Hid (Below w.heap.size w w2) := below_on (below_a w (obA a n c)) hb (by simp)
  clear hb HI
  go_wp2_with fail
  refine (HS.out _ HB.out).mono ?_
  rintro e w3 ⟨rfl, hb⟩
  have HB3 : Hid (Below w.heap.size w w3) := below_on HB.out hb HB.out.size
  clear hb HB HS
  go_wp2_with fail
  go_ret
  exact ⟨rfl, HB3.out⟩
set_option maxHeartbeats 2000000 in
theorem c_extentA (g cap : Nat) (hc : 1 ≤ cap) (ma : Option Addr) (mn mc : Nat) (a : Option Addr) (n c : Nat) (w : World) (hL : LkAt g 8 4 2 ⟨#[116]⟩ ma mn mc w) (h : NdIn tA (.slice a n c) w) :
    Calls Tryz.prog 48 #[.slice (some ⟨g, 0, none⟩) 1 cap, vA a n c] w fun e w' => e = .returned (.tuple #[.agg #[.int .i64 24, .int .i64 4, .int .i64 6], .bool true]) ∧ Below w.heap.size w w' := by
  have HI := Lib.hid (fun w' (hb : Below w.heap.size w w') => inA a n c w' (h.next hb))
  have HS := Lib.hid (fun w' (hb : Below w.heap.size w w') => c_extentS g cap hc 8 4 2 ma mn mc w' (hL.next hb))
  clear h hL
  go_enter Tryz.func48, Tryz.ntmps48
  go_wp2_with fail
  have hA : Below w.heap.size w ((w.alloc (obA a n c)).alloc (.cells #[.int .i64 0, .int .i64 0, .int .i64 0] 79)) := (below_a w _).alloc (by simp) _
  have HN0 : Hid (((w.alloc (obA a n c)).alloc (.cells #[.int .i64 0, .int .i64 0, .int .i64 0] 79)).heap[w.heap.size]? = some (obA a n c)) := (Below.heap_alloc _ _ _ (by simp)).trans (heap_alloc_new w _)
  have HR0 : Hid (((w.alloc (obA a n c)).alloc (.cells #[.int .i64 0, .int .i64 0, .int .i64 0] 79)).heap[w.heap.size + 1]? = some (.cells #[.int .i64 0, .int .i64 0, .int .i64 0] 79)) := by
    have h := heap_alloc_new (w.alloc (obA a n c)) (.cells #[.int .i64 0, .int .i64 0, .int .i64 0] 79)
    rw [show (w.alloc (obA a n c)).heap.size = w.heap.size + 1 by simp] at h
    exact h
  have HA := Lib.hid hA
  clear hA
  refine (HI.out _ HA.out).mono ?_
  rintro e w2 ⟨rfl, hb⟩
  have HB2 := Lib.hid (below_on HA.out hb (by simp; omega))
  have HN2 := Lib.hid (blk_next HN0.out hb)
  have HR2 := Lib.hid (blk_next HR0.out hb)
  clear hb HI HA HN0 HR0
  go_wp2_with fail
  refine (HS.out _ HB2.out).mono ?_
  rintro e w3 ⟨rfl, hb⟩
  have HB3 := Lib.hid (below_on HB2.out hb HB2.out.size)
  have HN3 := Lib.hid (blk_next HN2.out hb)
  have HR3 := Lib.hid (blk_next HR2.out hb)
  have hs3 : w.heap.size + 1 < w3.heap.size := (Array.getElem?_eq_some_iff.1 HR3.out).1
  have hs4 : w.heap.size < w3.heap.size := by omega
  clear hb HS HB2 HN2 HR2
  obtain ⟨n0, n1, n2, n3, n4, nf⟩ := five_cells HN3.out
  go_wp2_with fail
  have HB4 := Lib.hid (below_on HB3.out (below_a w3 (.cells #[.int .i64 8, .int .i64 4, .int .i64 2] 79)) HB3.out.size)
  have HR4 := Lib.hid (blk_next HR3.out (below_a w3 (.cells #[.int .i64 8, .int .i64 4, .int .i64 2] 79)))
  refine (c_times _).mono ?_
  rintro e w5 ⟨rfl, hb⟩
  have HB5 := Lib.hid (below_on HB4.out hb HB4.out.size)
  have hR5 := blk_next HR4.out hb
  clear hb HB4 HR4 HB3 HN3 HR3 n0 n1 n2 n3 n4 nf hs3 hs4
  have r0 : w5.cell? ⟨w.heap.size + 1, 0, none⟩ = some (.int .i64 0) := by rw [Lib.cell_of_heap hR5]; rfl
  have r1 : w5.cell? ⟨w.heap.size + 1, 1, none⟩ = some (.int .i64 0) := by rw [Lib.cell_of_heap hR5]; rfl
  have r2 : w5.cell? ⟨w.heap.size + 1, 2, none⟩ = some (.int .i64 0) := by rw [Lib.cell_of_heap hR5]; rfl
  have f0 := Lib.frozen_of_heap hR5 0
  have f1 := Lib.frozen_of_heap hR5 1
  have f2 := Lib.frozen_of_heap hR5 2
  clear hR5
  go_wp2_with fail
  refine bodyPost_ret (v := .tuple #[.agg #[.int .i64 24, .int .i64 4, .int .i64 6], .bool true]) (by simp [results, Tryz.results48, go_sem, r0, r1, r2]) rfl ?_
  exact ⟨rfl, ((HB5.out.setCell (p := ⟨w.heap.size + 1, 0, none⟩) (by simp) _).setCell (p := ⟨w.heap.size + 1, 1, none⟩) (by simp) _).setCell (p := ⟨w.heap.size + 1, 2, none⟩) (by simp) _⟩
end Go.Proofs.YtacbjhbiaaieoaaGreatDoor
/-! The contracts of what is asked of an array of structs; of an object's type, in the code. -/
namespace Go.Proofs.YtacbjhbiaaieoaaGreatDoor
set_option linter.unusedVariables false
set_option linter.unusedSimpArgs false
set_option maxRecDepth 100000
open Go.RowKit

theorem NdIn.a {a : Option Addr} {n c : Nat} {w : World} (h : NdIn tA (.slice a n c) w) :
    ∃ g, a = some ⟨g, 0, none⟩ ∧ n = 1 ∧ 1 ≤ c ∧ g < w.heap.size ∧ w.cell? ⟨g, 0, none⟩ = some (.int .u8 83) ∧ w.cell? ⟨g, 1, none⟩ = some (.string ⟨#[83, 116, 59]⟩) ∧ w.cell? ⟨g, 2, none⟩ = some (.int .i64 0) ∧ w.cell? ⟨g, 3, none⟩ = some (.string ⟨#[116]⟩) ∧ w.cell? ⟨g, 4, none⟩ = some (.slice none 0 0) := by
  obtain ⟨g, cap, a', n', c', hv, hcap, hg, hn, n0, n1, n2, n3, n4⟩ := h.last (A := []) (u := tS) rfl
  have h0 := hn.nil rfl
  rw [h0] at n4
  cases hv
  exact ⟨g, rfl, rfl, hcap, hg, n0, n1, n2, n3, n4⟩
abbrev obS : Obj := .cells #[.int .u8 83, .string ⟨#[83, 116, 59]⟩, .int .i64 0, .string ⟨#[116]⟩, .slice none 0 0] 68
set_option maxHeartbeats 2000000 in
theorem c_depthA (a : Option Addr) (n c : Nat) (w : World) (h : NdIn tA (.slice a n c) w) :
    Calls Tryz.prog 97 #[vA a n c] w fun e w' => e = .returned (.int .i64 2) ∧ Below w.heap.size w w' := by
  obtain ⟨g, rfl, rfl, hc, hg, n0, n1, n2, n3, n4⟩ := h.a
  have HD := Lib.hid (fun w => c_depth0 83 ⟨#[83, 116, 59]⟩ 0 ⟨#[116]⟩ w)
  have hg1 : g < w.heap.size + 1 := by omega
  clear h
  go_enter Tryz.func97, Tryz.ntmps97
  go_wp2_with fail
  refine wp_loop_rounds 2 ?_
  rw [rounds_succ]
  go_wp2_with fail
  refine (HD.out _).mono ?_
  rintro e w2 ⟨rfl, hb⟩
  have HB2 := Lib.hid (below_on ((below_a w (obA (some ⟨g, 0, none⟩) 1 c)).alloc (by simp) obS) hb (by simp; omega))
  clear hb HD
  go_wp2_with fail
  rw [rounds_succ]
  go_wp2_with fail
  go_ret
  exact ⟨rfl, HB2.out⟩
set_option maxHeartbeats 2000000 in
theorem c_wmA (a : Option Addr) (n c : Nat) (w : World) (h : NdIn tA (.slice a n c) w) :
    Calls Tryz.prog 98 #[vA a n c] w fun e w' => e = .returned (.bool true) ∧ Below w.heap.size w w' := by
  obtain ⟨g, rfl, rfl, hc, hg, n0, n1, n2, n3, n4⟩ := h.a
  have HD := Lib.hid (fun w => c_wm0 83 ⟨#[83, 116, 59]⟩ 0 ⟨#[116]⟩ w (by decide) (by decide))
  have HF := Lib.hid (c_fitA _ _ _ _ (h.next (below_a w (obA (some ⟨g, 0, none⟩) 1 c))))
  have HG := Lib.hid (And.intro hg (And.intro n0 (And.intro n1 (And.intro n2 (And.intro n3 n4)))))
  clear h n0 n1 n2 n3 n4 hg
  go_enter Tryz.func98, Tryz.ntmps98
  go_wp2_with fail
  refine HF.out.mono ?_
  rintro e w2 ⟨rfl, hb⟩
  have HB2 := Lib.hid (below_on (below_a w (obA (some ⟨g, 0, none⟩) 1 c)) hb (by simp))
  have HN2 := Lib.hid (blk_next (heap_alloc_new w (obA (some ⟨g, 0, none⟩) 1 c)) hb)
  have hg2 := HB2.out.block g HG.out.1
  obtain ⟨hg, n0, n1, n2, n3, n4⟩ := HG.out
  have hlt : g < w2.heap.size := Nat.lt_of_lt_of_le hg HB2.out.size
  have m0 := (cell_of_blk hg2 0).trans n0
  have m1 := (cell_of_blk hg2 1).trans n1
  have m2 := (cell_of_blk hg2 2).trans n2
  have m3 := (cell_of_blk hg2 3).trans n3
  have m4 := (cell_of_blk hg2 4).trans n4
  obtain ⟨b0, b1, b2, b3, b4, bf⟩ := five_cells HN2.out
  clear hb HF hg2 n0 n1 n2 n3 n4 hg bf
  go_wp2_with fail
  refine wp_loop_rounds 2 ?_
  rw [rounds_succ]
  go_wp2_with fail
  refine (HD.out _).mono ?_
  rintro e w3 ⟨rfl, hb⟩
  have HB3 := Lib.hid (below_on (HB2.out.alloc HB2.out.size obS) hb (by have := HB2.out.size; simp; omega))
  clear hb HD
  go_wp2_with fail
  rw [rounds_succ]
  go_wp2_with fail
  go_ret
  exact ⟨rfl, HB3.out⟩
set_option maxHeartbeats 2000000 in
theorem c_greatA (g1 cap : Nat) (hc1 : 1 ≤ cap) (ma : Option Addr) (mn mc : Nat) (a : Option Addr) (n c : Nat) (w : World) (hL : LkAt g1 8 4 2 ⟨#[116]⟩ ma mn mc w) (h : NdIn tA (.slice a n c) w) :
    Calls Tryz.prog 100 #[.slice (some ⟨g1, 0, none⟩) 1 cap, vA a n c] w fun e w' => e = .returned (.bool false) ∧ Below w.heap.size w w' := by
  obtain ⟨g, rfl, rfl, hc, hg, n0, n1, n2, n3, n4⟩ := h.a
  have HD := Lib.hid (fun w' (hb : Below w.heap.size w w') => c_greatS g1 cap hc1 8 4 2 (by decide) ma mn mc w' (hL.next hb))
  have HF := Lib.hid (c_extentA g1 cap hc1 ma mn mc _ _ _ _ (hL.next (below_a w (obA (some ⟨g, 0, none⟩) 1 c))) (h.next (below_a w (obA (some ⟨g, 0, none⟩) 1 c))))
  have HG := Lib.hid (And.intro hg (And.intro n0 (And.intro n1 (And.intro n2 (And.intro n3 n4)))))
  clear h n0 n1 n2 n3 n4 hg hL
  go_enter Tryz.func100, Tryz.ntmps100
  go_wp2_with fail
  refine HF.out.mono ?_
  rintro e w2 ⟨rfl, hb⟩
  have HB2 := Lib.hid (below_on (below_a w (obA (some ⟨g, 0, none⟩) 1 c)) hb (by simp))
  have HN2 := Lib.hid (blk_next (heap_alloc_new w (obA (some ⟨g, 0, none⟩) 1 c)) hb)
  have hg2 := HB2.out.block g HG.out.1
  obtain ⟨hg, n0, n1, n2, n3, n4⟩ := HG.out
  have hlt : g < w2.heap.size := Nat.lt_of_lt_of_le hg HB2.out.size
  have hlt1 : g < w2.heap.size + 1 := by omega
  have hlw : w.heap.size < w2.heap.size := (Array.getElem?_eq_some_iff.1 HN2.out).1
  have hlw1 : w.heap.size < w2.heap.size + 1 := by omega
  have m0 := (cell_of_blk hg2 0).trans n0
  have m1 := (cell_of_blk hg2 1).trans n1
  have m2 := (cell_of_blk hg2 2).trans n2
  have m3 := (cell_of_blk hg2 3).trans n3
  have m4 := (cell_of_blk hg2 4).trans n4
  obtain ⟨b0, b1, b2, b3, b4, bf⟩ := five_cells HN2.out
  clear hb HF hg2 n0 n1 n2 n3 n4 hg bf
  go_wp2_with fail
  refine wp_loop_rounds 2 ?_
  rw [rounds_succ]
  go_wp2_with fail
  have HB2' : Hid (Below w.heap.size w ((w2.alloc (.cells #[.int .i64 24, .int .i64 4, .int .i64 6] 79)).alloc obS)) := (HB2.out.alloc HB2.out.size _).alloc (by have := HB2.out.size; simp; omega) _
  refine (HD.out _ HB2'.out).mono ?_
  rintro e w3 ⟨rfl, hb⟩
  have HB3 := Lib.hid (below_on HB2'.out hb (by have := HB2.out.size; simp; omega))
  clear hb HD
  go_wp2_with fail
  rw [rounds_succ]
  go_wp2_with fail
  go_ret
  exact ⟨rfl, HB3.out⟩
end Go.Proofs.YtacbjhbiaaieoaaGreatDoor
/-! The contracts of an object's type, of a member's type, in the code. -/
namespace Go.Proofs.YtacbjhbiaaieoaaGreatDoor
set_option linter.unusedVariables false
set_option linter.unusedSimpArgs false
set_option maxRecDepth 100000
open Go.RowKit

/-- What right and object answer of a type that may be. -/
def RgR (t : Ty) (x0 : Int) (s1 : ByteArray) (x2 : Int) (s3 : ByteArray) (w : World) (e : Ending) (w' : World) : Prop :=
  (∃ a n c, e = .returned (.tuple #[nV x0 s1 x2 s3 a n c, .int .i64 0]) ∧ Nd (Fm w.heap.size w') w' t (.slice a n c)) ∧ Below w.heap.size w w'
set_option maxHeartbeats 2000000 in
theorem c_object (la : Option Addr) (ln lc : Nat) (tx : List UInt8) (t : Ty) (x0 : Int) (s1 : ByteArray) (x2 : Int) (s3 : ByteArray) (ho : objI x0 = true) (w : World)
    (hr : ∀ w', Below w.heap.size w w' → Calls Tryz.prog 71 #[.slice la ln lc, .string ⟨tx.toArray⟩] w' fun e w'' => RgR t x0 s1 x2 s3 w' e w'') :
    Calls Tryz.prog 81 #[.slice la ln lc, .string ⟨tx.toArray⟩] w fun e w' => RgR t x0 s1 x2 s3 w e w' := by
  have HR := Lib.hid (hr (w.alloc zOb) (below_a w zOb))
  have HO := Lib.hid (c_isObject x0 s1 x2 s3)
  rw [ho] at HO
  clear hr
  go_enter Tryz.func81, Tryz.ntmps81
  go_wp2_with fail
  refine HR.out.mono ?_
  rintro e w1 ⟨⟨a, n, c, rfl, hn⟩, hb⟩
  have HB1 : Hid (Below w.heap.size w w1) := below_on (below_a w zOb) hb (by simp)
  have HZ1 : Hid (w1.heap[w.heap.size]? = some zOb) := blk_next (heap_alloc_new w zOb) hb
  have HN1 : Hid (Nd (Fm (w.heap.size + 1) w1) w1 t (.slice a n c)) := hn.mono (fun j hj => ⟨by have := hj.1; simp at this; omega, hj.2⟩) (fun _ _ => rfl)
  have hs1 : w.heap.size < w1.heap.size := (Array.getElem?_eq_some_iff.1 HZ1.out).1
  clear hb hn HR
  go_wp2_with fail
  refine (HO.out _ _ _ _).mono ?_
  rintro e w2 ⟨rfl, hb⟩
  have HA := Lib.hid (below_a w1 (.cells #[.int .u8 x0, .string s1, .int .i64 x2, .string s3, .slice a n c] 68))
  have HB2 := Lib.hid (below_on (below_on HB1.out HA.out HB1.out.size) hb (by simp; omega))
  have HK2 := Lib.hid (below_on HA.out hb (by simp))
  obtain ⟨n0, n1, n2, n3, n4, nf⟩ := five_cells (blk_next (heap_alloc_new w1 (.cells #[.int .u8 x0, .string s1, .int .i64 x2, .string s3, .slice a n c] 68)) hb)
  obtain ⟨r0, r1, r2, r3, r4, rf⟩ := five_cells (blk_next (blk_next HZ1.out HA.out) hb)
  have rf0 := rf 0
  have rf1 := rf 1
  have rf2 := rf 2
  have rf3 := rf 3
  have rf4 := rf 4
  clear hb nf rf HO
  go_wp2_with fail
  refine bodyPost_ret (v := .tuple #[nV x0 s1 x2 s3 a n c, .int .i64 0]) (by simp [results, Tryz.results81, go_sem, r0, r1, r2, r3, r4]) rfl ?_
  have hst := Stp.five0 w.heap.size w2 (.int .u8 x0) (.string s1) (.int .i64 x2) (.string s3) (.slice a n c)
  have hK := HK2.out
  exact ⟨⟨a, n, c, rfl, HN1.out.mono (fun j hj => ⟨by have := hj.1; omega, by rw [hst.size]; have := hj.2; have := hK.size; omega⟩) (fun j hj => (hst.blk j (by have := hj.1; omega)).trans (hK.block j hj.2))⟩, below_stp HB2.out hst (Nat.le_refl _)⟩
theorem tyR_b (c : UInt8) (h : baseC c = true) : tyR [c] = some (.base c) := tyR_code (t := .base c) h
/-- char and int: whatever structs there are. -/
theorem c_obj0 (B : Nat) (la : Option Addr) (ln lc : Nat) (c : UInt8) (x0 : Int) (h0 : (c.toNat : Int) = x0) (hc : x0 = 99 ∨ x0 = 105) (w : World) (hE : Env B w) (hB : B ≤ w.heap.size) :
    Calls Tryz.prog 81 #[.slice la ln lc, .string ⟨#[c]⟩] w fun e w' => RgR (.base c) x0 ⟨#[c]⟩ 0 ⟨#[]⟩ w e w' := by
  have hbc : baseC c = true := by
    have : c = 99 ∨ c = 105 := by
      rcases hc with h | h
      · left; rw [← UInt8.toNat_inj]; show c.toNat = 99; omega
      · right; rw [← UInt8.toNat_inj]; show c.toNat = 105; omega
    rcases this with rfl | rfl <;> decide
  have h97 : (x0 == 97) = false := by rcases hc with rfl | rfl <;> decide
  have h102 : (x0 == 102) = false := by rcases hc with rfl | rfl <;> decide
  have h83 : (x0 == 83) = false := by rcases hc with rfl | rfl <;> decide
  have hob : objI x0 = true := by rcases hc with rfl | rfl <;> decide
  have hbz : decide (65536 < bsz x0) = false := by rcases hc with rfl | rfl <;> decide
  have nil0 : ∀ a n c' w', NdIn (.base c) (.slice a n c') w' → a = none ∧ n = 0 ∧ c' = 0 := fun a n c' w' h => by
    have := Nd.nil h rfl
    cases this
    exact ⟨rfl, rfl, rfl⟩
  refine c_object la ln lc [c] (.base c) x0 ⟨#[c]⟩ 0 ⟨#[]⟩ hob w (fun w' hb => ?_)
  refine c_right B la ln lc [c] (.base c) x0 ⟨#[c]⟩ 0 ⟨#[]⟩ h0 rfl rfl rfl 1 (by decide) w' (hE.next (hb.mono hB)) (Nat.le_trans hB hb.size) (by simp) (tyR_b c hbc) (fun _ => True) trivial (fun _ _ _ _ => trivial) ?_ ?_ ?_ ?_
  · intro a n c' w2 _ h
    obtain ⟨rfl, rfl, rfl⟩ := nil0 _ _ _ _ h
    exact c_depth0 _ _ _ _ _
  · intro a n c' w2 _ h
    obtain ⟨rfl, rfl, rfl⟩ := nil0 _ _ _ _ h
    exact c_wm0 _ _ _ _ _ h97 h102
  · intro a n c' w2 _ h
    obtain ⟨rfl, rfl, rfl⟩ := nil0 _ _ _ _ h
    exact c_lacks0 _ _ _ _ _ _ _ _ h97 h83
  · intro a n c' w2 _ h
    obtain ⟨rfl, rfl, rfl⟩ := nil0 _ _ _ _ h
    exact c_great0 _ _ _ _ _ _ _ _ (bsz x0) (bsz x0) true 1 hbz (fun w3 _ => c_extent0 _ _ _ _ _ _ _ _ hc)
theorem tyR_A : tyR [97, 51, 58, 83, 116, 59] = some tA := by
  rw [← codeA]
  refine tyR_code ⟨by decide, ?_⟩
  show nameB [116] = true
  unfold nameB wordB keyB
  decide +kernel
theorem c_objA (B : Nat) (g cap : Nat) (hc : 1 ≤ cap) (ma : Option Addr) (mn mc : Nat) (w : World) (hE : Env B w) (hB : B ≤ w.heap.size) (hL : LkAt g 8 4 2 ⟨#[116]⟩ ma mn mc w) :
    Calls Tryz.prog 81 #[.slice (some ⟨g, 0, none⟩) 1 cap, .string ⟨#[97, 51, 58, 83, 116, 59]⟩] w fun e w' => RgR tA 97 ⟨#[97, 51, 58, 83, 116, 59]⟩ 3 ⟨#[]⟩ w e w' := by
  refine c_object (some ⟨g, 0, none⟩) 1 cap [97, 51, 58, 83, 116, 59] tA 97 ⟨#[97, 51, 58, 83, 116, 59]⟩ 3 ⟨#[]⟩ (by decide) w (fun w' hb => ?_)
  exact c_right B (some ⟨g, 0, none⟩) 1 cap [97, 51, 58, 83, 116, 59] tA 97 ⟨#[97, 51, 58, 83, 116, 59]⟩ 3 ⟨#[]⟩ rfl (by rw [codeA]) rfl rfl 2 (by decide) w' (hE.next (hb.mono hB)) (Nat.le_trans hB hb.size) (by simp) tyR_A (LkAt g 8 4 2 ⟨#[116]⟩ ma mn mc) (hL.next hb) (fun _ _ h k => h.next k)
    (fun a n c w2 _ h => c_depthA a n c w2 h) (fun a n c w2 _ h => c_wmA a n c w2 h) (fun a n c w2 hk h => c_lacksA g cap hc 8 4 2 ma mn mc a n c w2 hk h) (fun a n c w2 hk h => c_greatA g cap hc ma mn mc a n c w2 hk h)
set_option maxHeartbeats 2000000 in
theorem c_has0 (x y z : Int) (nm m : ByteArray) (w : World) :
    Calls Tryz.prog 116 #[lV x y z nm none 0 0, .string m] w fun e w' => e = .returned (.bool false) ∧ Below w.heap.size w w' := by
  go_enter Tryz.func116, Tryz.ntmps116
  go_wp2_with fail
  go_rounds 1
  go_ret
  exact ⟨rfl, below_a _ _⟩
/-- A member at the head of a row, or behind the first: seven cells. -/
abbrev mC (x0 : Int) (s1 : ByteArray) (nm : ByteArray) (at' : Int) : List Value := [.int .u8 x0, .string s1, .int .i64 0, .string ⟨#[]⟩, .slice none 0 0, .string nm, .int .i64 at']
structure MbAt (g o : Nat) (x0 : Int) (s1 nm : ByteArray) (at' : Int) (w : World) : Prop where
  c : ∀ i u, (mC x0 s1 nm at')[i]? = some u → w.cell? ⟨g, o + i, none⟩ = some u
theorem MbAt.lt {g o : Nat} {x0 : Int} {s1 nm : ByteArray} {at' : Int} {w : World} (h : MbAt g o x0 s1 nm at' w) : g < w.heap.size := World.block_lt_of_cell? w ⟨g, o + 0, none⟩ (h.c 0 _ rfl)
theorem MbAt.next {g o : Nat} {x0 : Int} {s1 nm : ByteArray} {at' : Int} {w w' : World} (h : MbAt g o x0 s1 nm at' w) (hb : Below w.heap.size w w') : MbAt g o x0 s1 nm at' w' :=
  ⟨fun i u hu => (cell_of_blk (hb.block g h.lt) _).trans (h.c i u hu)⟩
set_option maxHeartbeats 2000000 in
theorem c_has1 (x y z : Int) (nm : ByteArray) (m m1 : List UInt8) (hne : (m1 == m) = false) (g cap : Nat) (hc : 1 ≤ cap) (x0 : Int) (s1 : ByteArray) (at' : Int) (w : World) (hM : MbAt g 0 x0 s1 ⟨m1.toArray⟩ at' w) :
    Calls Tryz.prog 116 #[lV x y z nm (some ⟨g, 0, none⟩) 1 cap, .string ⟨m.toArray⟩] w fun e w' => e = .returned (.bool false) ∧ Below w.heap.size w w' := by
  have hlt := hM.lt
  have hlt1 : g < w.heap.size + 1 := by omega
  have c0 := hM.c 0 _ rfl
  have c1 := hM.c 1 _ rfl
  have c2 := hM.c 2 _ rfl
  have c3 := hM.c 3 _ rfl
  have c4 := hM.c 4 _ rfl
  have c5 := hM.c 5 _ rfl
  have c6 := hM.c 6 _ rfl
  simp only [Nat.zero_add] at c0 c1 c2 c3 c4 c5 c6
  clear hM
  go_enter Tryz.func116, Tryz.ntmps116
  go_wp2_with fail
  go_rounds 2
  go_ret
  exact ⟨rfl, (below_a _ _).alloc (by simp) _⟩
end Go.Proofs.YtacbjhbiaaieoaaGreatDoor
/-! The contracts of a member's type, of a place that is aligned, and of a struct that is laid out, in the code. -/
namespace Go.Proofs.YtacbjhbiaaieoaaGreatDoor
set_option linter.unusedVariables false
set_option linter.unusedSimpArgs false
set_option maxRecDepth 100000
open Go.RowKit

theorem new2 (w : World) (a b : Obj) : ((w.alloc a).alloc b).heap[w.heap.size + 1]? = some b := by
  have h := heap_alloc_new (w.alloc a) b
  rw [show (w.alloc a).heap.size = w.heap.size + 1 by simp] at h
  exact h
theorem new3 (w : World) (a b c : Obj) : (((w.alloc a).alloc b).alloc c).heap[w.heap.size + 2]? = some c := by
  have h := heap_alloc_new ((w.alloc a).alloc b) c
  rw [show ((w.alloc a).alloc b).heap.size = w.heap.size + 2 by simp] at h
  exact h
theorem c_al (x y r : Int) (h : (x = 0 ∧ y = 1 ∧ r = 0) ∨ (x = 1 ∧ y = 4 ∧ r = 4) ∨ (x = 8 ∧ y = 4 ∧ r = 8)) (w : World) :
    Calls Tryz.prog 96 #[.int .i64 x, .int .i64 y] w fun e w' => e = .returned (.int .i64 r) ∧ w' = w := by
  rcases h with ⟨rfl, rfl, rfl⟩ | ⟨rfl, rfl, rfl⟩ | ⟨rfl, rfl, rfl⟩
  all_goals
    go_enter Tryz.func96, Tryz.ntmps96
    go_wp2_with fail
    go_ret
    exact ⟨rfl, rfl⟩
theorem RgR.base {c : UInt8} {x0 : Int} {s1 : ByteArray} {w w' : World} {e : Ending} (h : RgR (.base c) x0 s1 0 ⟨#[]⟩ w e w') : e = .returned (.tuple #[nV x0 s1 0 ⟨#[]⟩ none 0 0, .int .i64 0]) ∧ Below w.heap.size w w' := by
  obtain ⟨⟨a, n, c', rfl, hn⟩, hb⟩ := h
  have := hn.nil rfl
  cases this
  exact ⟨rfl, hb⟩
set_option maxHeartbeats 4000000 in
theorem c_mt (B : Nat) (c : UInt8) (x0 : Int) (h0 : (c.toNat : Int) = x0) (hc : x0 = 99 ∨ x0 = 105) (x y z : Int) (nm : ByteArray) (ma : Option Addr) (mn mc : Nat) (m : List UInt8) (hm : nameB m = true) (hml : m.length ≤ 9223372036854775807) (w : World) (hE : Env B w) (hB : B ≤ w.heap.size)
    (hh : ∀ w', Below w.heap.size w w' → Calls Tryz.prog 116 #[lV x y z nm ma mn mc, .string ⟨m.toArray⟩] w' fun e w'' => e = .returned (.bool false) ∧ Below w'.heap.size w' w'') :
    Calls Tryz.prog 95 #[.slice none 0 0, lV x y z nm ma mn mc, .agg #[.string ⟨m.toArray⟩, .string ⟨#[c]⟩]] w fun e w' => e = .returned (.tuple #[nV x0 ⟨#[c]⟩ 0 ⟨#[]⟩ none 0 0, .int .i64 0]) ∧ Below w.heap.size w w' := by
  have HI := Lib.hid (fun w => c_IsName m w hml)
  rw [hm] at HI
  have HH := Lib.hid hh
  have HO := Lib.hid (fun w' (hb : Below w.heap.size w w') => c_obj0 B none 0 0 c x0 h0 hc w' (hE.next (hb.mono hB)) (Nat.le_trans hB hb.size))
  clear hh hE hB hm
  go_enter Tryz.func95, Tryz.ntmps95
  go_wp2_with fail
  have HA0 : Hid (Below w.heap.size w (((w.alloc (.cells #[.int .i64 x, .int .i64 y, .int .i64 z, .string nm, .slice ma mn mc] 89)).alloc (.cells #[.string ⟨m.toArray⟩, .string ⟨#[c]⟩] 77)).alloc zOb)) := ((below_a w _).alloc (by simp) _).alloc (by simp; omega) _
  have HL0 : Hid ((((w.alloc (.cells #[.int .i64 x, .int .i64 y, .int .i64 z, .string nm, .slice ma mn mc] 89)).alloc (.cells #[.string ⟨m.toArray⟩, .string ⟨#[c]⟩] 77)).alloc zOb).heap[w.heap.size]? = some (.cells #[.int .i64 x, .int .i64 y, .int .i64 z, .string nm, .slice ma mn mc] 89)) := (Below.heap_alloc _ _ _ (by simp; omega)).trans ((Below.heap_alloc _ _ _ (by simp)).trans (heap_alloc_new w _))
  have HM0 : Hid ((((w.alloc (.cells #[.int .i64 x, .int .i64 y, .int .i64 z, .string nm, .slice ma mn mc] 89)).alloc (.cells #[.string ⟨m.toArray⟩, .string ⟨#[c]⟩] 77)).alloc zOb).heap[w.heap.size + 1]? = some (.cells #[.string ⟨m.toArray⟩, .string ⟨#[c]⟩] 77)) := by
    exact (Below.heap_alloc _ _ _ (by simp)).trans (new2 w _ _)
  have HR0 : Hid ((((w.alloc (.cells #[.int .i64 x, .int .i64 y, .int .i64 z, .string nm, .slice ma mn mc] 89)).alloc (.cells #[.string ⟨m.toArray⟩, .string ⟨#[c]⟩] 77)).alloc zOb).heap[w.heap.size + 2]? = some zOb) := by
    exact new3 w _ _ _
  refine (HI.out _).mono ?_
  rintro e w1 ⟨rfl, hb⟩
  have HB1 := Lib.hid (below_on HA0.out hb HA0.out.size)
  have HL1 := Lib.hid (blk_next HL0.out hb)
  have HM1 := Lib.hid (blk_next HM0.out hb)
  have HR1 := Lib.hid (blk_next HR0.out hb)
  clear hb HA0 HL0 HM0 HR0 HI
  obtain ⟨l0, l1, l2, l3, l4, lf⟩ := five_cells HL1.out
  have m0 : w1.cell? ⟨w.heap.size + 1, 0, none⟩ = some (.string ⟨m.toArray⟩) := by rw [Lib.cell_of_heap HM1.out]; rfl
  have m1 : w1.cell? ⟨w.heap.size + 1, 1, none⟩ = some (.string ⟨#[c]⟩) := by rw [Lib.cell_of_heap HM1.out]; rfl
  go_wp2_with fail
  refine (HH.out _ HB1.out).mono ?_
  rintro e w2 ⟨rfl, hb⟩
  have HB2 := Lib.hid (below_on HB1.out hb HB1.out.size)
  have HM2 := Lib.hid (blk_next HM1.out hb)
  have HR2 := Lib.hid (blk_next HR1.out hb)
  clear hb HB1 HL1 HM1 HR1 l0 l1 l2 l3 l4 lf m0 m1 HH
  have m1 : w2.cell? ⟨w.heap.size + 1, 1, none⟩ = some (.string ⟨#[c]⟩) := by rw [Lib.cell_of_heap HM2.out]; rfl
  go_wp2_with fail
  refine (HO.out _ HB2.out).mono ?_
  rintro e w3 hr
  obtain ⟨rfl, hb⟩ := hr.base
  have HB3 := Lib.hid (below_on HB2.out hb HB2.out.size)
  obtain ⟨r0, r1, r2, r3, r4, rf⟩ := five_cells (blk_next HR2.out hb)
  have rf0 := rf 0
  have rf1 := rf 1
  have rf2 := rf 2
  have rf3 := rf 3
  have rf4 := rf 4
  clear hb hr rf HO HB2 HM2 HR2 m1
  go_wp2_with fail
  refine bodyPost_ret (v := .tuple #[nV x0 ⟨#[c]⟩ 0 ⟨#[]⟩ none 0 0, .int .i64 0]) (by simp [results, Tryz.results95, go_sem, r0, r1, r2, r3, r4]) rfl ?_
  exact ⟨rfl, below_stp HB3.out (Stp.five0 (w.heap.size + 2) w3 _ _ _ _ _) (by omega)⟩
end Go.Proofs.YtacbjhbiaaieoaaGreatDoor
