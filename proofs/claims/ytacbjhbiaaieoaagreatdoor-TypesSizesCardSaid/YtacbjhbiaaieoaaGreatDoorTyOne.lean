/-
  The contracts of the reader of one type, and of a type taken apart, in the code.
-/
import Derived.Test.YtacbjhbiaaieoaaGreatDoorTyOnb
import Derived.Test.YtacbjhbiaaieoaaGreatDoorTyOnp
import Derived.Test.YtacbjhbiaaieoaaGreatDoorTyOna
import Derived.Test.YtacbjhbiaaieoaaGreatDoorTyOns
import Derived.Test.YtacbjhbiaaieoaaGreatDoorTyOno
import Derived.Test.YtacbjhbiaaieoaaGreatDoorTyOnf
namespace Go.Proofs.YtacbjhbiaaieoaaGreatDoor
set_option linter.unusedVariables false
set_option linter.unusedSimpArgs false
set_option maxRecDepth 100000
open Go.RowKit

theorem one_zero : OneC 0 := fun B b l k w hE hB hb hk hl hn h0 h1 hf =>
  one_end b l k w hb (by rw [List.length_drop] at hn; omega) hl h0 h1 hf
theorem one_succ (n : Nat) (hO : OneC n) : OneC (n + 1) := fun B b l k w hE hB hb hk hl hn h0 h1 hf => by
  by_cases hkl : k = l.length
  · exact one_end b l k w hb hkl hl h0 h1 hf
  · have hlt : k < l.length := by omega
    have hn1 : (l.drop (k + 1)).length ≤ n := by rw [List.length_drop] at hn ⊢; omega
    obtain ⟨cI, hcI⟩ : ∃ cI : Int, ((l[k]?.getD 0).toNat : Int) = cI := ⟨_, rfl⟩
    by_cases hb1 : cI = 118 ∨ cI = 99 ∨ cI = 115 ∨ cI = 105 ∨ cI = 117 ∨ cI = 106
    · exact one_base b l k cI hcI w hb hlt hl h0 h1 hf hb1
    · by_cases h2 : cI = 112
      · exact one_ptr n hO B b l k cI hcI w hb hlt hl h0 h1 hf hE hB hn1 h2
      · by_cases h3 : cI = 97
        · exact one_arr n hO B b l k cI hcI w hb hlt hl h0 h1 hf hE hB hn1 h3
        · by_cases h4 : cI = 83
          · exact one_str B b l k cI hcI w hb hlt hl h0 h1 hf hE hB h4
          · by_cases h5 : cI = 102
            · exact one_fn n hO B b l k cI hcI w hb hlt hl h0 h1 hf hE hB hn1 h5
            · exact one_oth b l k cI hcI w hb hlt hl h0 h1 hf (by omega)
theorem c_one : ∀ n, OneC n
  | 0 => one_zero
  | n + 1 => one_succ n (c_one n)
def zV : Value := .agg #[.int .u8 0, .string ⟨#[]⟩, .int .i64 0, .string ⟨#[]⟩, .slice none 0 0]
/-- What takeApart answers. -/
def TaR (l : List UInt8) (w : World) (e : Ending) (w' : World) : Prop :=
  Below w.heap.size w w' ∧ ((∃ t s, tyR l = some t ∧ e = .returned (.tuple #[ndV t s, .bool true]) ∧ Nd (Fm w.heap.size w') w' t s) ∨ (tyR l = none ∧ e = .returned (.tuple #[zV, .bool false])))
def rOb (l : List UInt8) : Obj := .cells #[.string ⟨l.toArray⟩, .int .i64 0] 125
theorem ta_world {l : List UInt8} {w w2 : World} {j : Nat} (h : RdX (w.heap.size + 1) ((w.alloc zOb).alloc (rOb l)) j w2) (o : Obj) (n : Nat) :
    Below w.heap.size w ((w2.alloc o).drewN n) ∧ ((w2.alloc o).drewN n).heap[w.heap.size]? = some zOb ∧ (∀ i, i < w2.heap.size → ((w2.alloc o).drewN n).heap[i]? = w2.heap[i]?) := by
  have hs := h.size
  have e : ((w.alloc zOb).alloc (rOb l)).heap.size = w.heap.size + 2 := by simp
  rw [e] at hs
  have hb : ∀ i, i < w2.heap.size → ((w2.alloc o).drewN n).heap[i]? = w2.heap[i]? := fun i hi => Below.heap_alloc w2 o i hi
  refine ⟨⟨h.os, h.tape, h.output, ?_, fun i hi => ?_⟩, ?_, hb⟩
  · show _ ≤ (w2.alloc o).heap.size
    simp
    omega
  · rw [hb i (by omega), h.blk i (by omega) (by omega), Below.heap_alloc _ _ _ (by simp; omega), Below.heap_alloc _ _ _ hi]
  · rw [hb _ (by omega), h.blk _ (by omega) (by omega), Below.heap_alloc _ _ _ (by simp)]
    exact heap_alloc_new w zOb
theorem below_stp {B g : Nat} {w w1 w2 : World} (h : Below B w w1) (k : Stp g w1 w2) (hg : B ≤ g) : Below B w w2 :=
  ⟨k.os.trans h.os, k.tape.trans h.tape, k.output.trans h.output, by rw [k.size]; exact h.size, fun i hi => (k.blk i (by omega)).trans (h.block i hi)⟩
set_option maxHeartbeats 4000000 in
theorem c_takeApart (B : Nat) (l : List UInt8) (w : World) (hE : Env B w) (hB : B ≤ w.heap.size) (hl : l.length ≤ 65536) :
    Calls Tryz.prog 43 #[.string ⟨l.toArray⟩] w fun e w' => TaR l w e w' := by
  have hgt : decide (65536 < (l.length : Int)) = false := by simp; omega
  have hA : Below w.heap.size w ((w.alloc zOb).alloc (rOb l)) := ((Below.refl _ _).alloc (Nat.le_refl _) _).alloc (by simp) _
  have hN : ((w.alloc zOb).alloc (rOb l)).heap[w.heap.size + 1]? = some (rOb l) := by
    have h := heap_alloc_new (w.alloc zOb) (rOb l)
    rw [show (w.alloc zOb).heap.size = w.heap.size + 1 by simp] at h
    exact h
  have HO := Lib.hid (c_one l.length B (w.heap.size + 1) l 0 ((w.alloc zOb).alloc (rOb l)) (hE.next (hA.mono hB)) (by omega) (by simp) (Nat.zero_le _) hl (by simp) (by rw [Lib.cell_of_heap hN]; rfl) (by rw [Lib.cell_of_heap hN]; rfl) (Lib.frozen_of_heap hN 1))
  have HN := Lib.hid hN
  have HTy := Lib.hid (tyR_rd l)
  clear hN hA hE
  go_enter Tryz.func43, Tryz.ntmps43
  go_wp2_with fail
  refine HO.out.mono ?_
  rintro e w2 ⟨q, x0, s1, x2, s3, a4, n4, m4, j, rfl, hkj, hjl, hx, hp⟩
  have HX := Lib.hid hx
  have h2s : w.heap.size + 2 ≤ w2.heap.size := by have := hx.size; simpa using this
  have HW := Lib.hid (ta_world hx)
  have htx : w2.cell? ⟨w.heap.size + 1, 0, none⟩ = some (.string ⟨l.toArray⟩) := (hx.oth 0 (by decide)).trans (by rw [Lib.cell_of_heap HN.out]; rfl)
  have HE : Hid (∀ o, Calls Tryz.prog 73 #[.pointer (some ⟨w.heap.size + 1, 0, none⟩)] (w2.alloc o) fun e w' => e = .returned (.bool (j == l.length)) ∧ ∃ n, w' = (w2.alloc o).drewN n) := fun o => by
    have e := Below.heap_alloc w2 o (w.heap.size + 1) (by omega)
    exact c_isEnd (w.heap.size + 1) l j _ ((cell_of_blk e 0).trans htx) ((cell_of_blk e 1).trans hx.pos)
  clear htx hx HO
  have hp' : (∃ t y s, rd l = some (t, y) ∧ q = true ∧ [Value.int .u8 x0, .string s1, .int .i64 x2, .string s3, .slice a4 n4 m4] = ndC t s ∧ j = plc l y ∧ Nd (Fm (w.heap.size + 2) w2) w2 t s) ∨ (rd l = none ∧ q = false) := by
    rcases hp with ⟨t, y, s, h1, h2, h3, h4, h5⟩ | h
    · exact .inl ⟨t, y, s, h1, h2, h3, h4, h5.mono (fun i hi => ⟨by have := hi.1; simp at this; omega, hi.2⟩) (fun _ _ => rfl)⟩
    · exact .inr h
  clear hp
  rcases hp' with ⟨t, y, s, hr, rfl, hcs, hj, hnd⟩ | ⟨hr, rfl⟩
  · have HNd := Lib.hid hnd
    have HCs := Lib.hid hcs
    have HR0 := Lib.hid hr
    rw [hr] at HTy
    clear hr hnd hcs
    go_wp2_with fail
    refine (HE.out _).mono ?_
    rintro e w3 ⟨rfl, n, rfl⟩
    obtain ⟨h1, h2, h3⟩ := HW.out _ n
    obtain ⟨r0, r1, r2, r3, r4, rf⟩ := five_cells h2
    have HB1 := Lib.hid h1
    have HB3 := Lib.hid h3
    have rf0 := rf 0
    have rf1 := rf 1
    have rf2 := rf 2
    have rf3 := rf 3
    have rf4 := rf 4
    have hn5 := five_cells (w := (w2.alloc (.cells #[.int .u8 x0, .string s1, .int .i64 x2, .string s3, .slice a4 n4 m4] 68)).drewN n) (g := w2.heap.size) (heap_alloc_new w2 _)
    obtain ⟨n0, n1, n2, n3, n4', nf⟩ := hn5
    clear rf nf h1 h2 h3
    generalize (w2.alloc (.cells #[.int .u8 x0, .string s1, .int .i64 x2, .string s3, .slice a4 n4 m4] 68)).drewN n = w4 at *
    by_cases hy : y = []
    · have hjb : (j == l.length) = true := by rw [beq_iff_eq, hj, hy]; unfold plc; simp
      rw [hjb]
      rw [hy] at HTy
      go_wp2_with fail
      refine bodyPost_ret (v := .tuple #[.agg #[.int .u8 x0, .string s1, .int .i64 x2, .string s3, .slice a4 n4 m4], .bool true]) (by simp [results, Tryz.results43, go_sem, r0, r1, r2, r3, r4]) rfl ?_
      have hst := Stp.five0 w.heap.size w4 (.int .u8 x0) (.string s1) (.int .i64 x2) (.string s3) (.slice a4 n4 m4)
      refine ⟨below_stp HB1.out hst (Nat.le_refl _), .inl ⟨t, s, HTy.out, ?_, HNd.out.mono (fun i hi => ⟨by have := hi.1; omega, ?_⟩) (fun i hi => ?_)⟩⟩
      · show Ending.returned (.tuple #[.agg ([Value.int .u8 x0, .string s1, .int .i64 x2, .string s3, .slice a4 n4 m4] : List Value).toArray, .bool true]) = _
        rw [HCs.out]
        rfl
      · rw [hst.size]
        have h5 : w2.heap.size ≤ w4.heap.size := by
          have h6 := (Array.getElem?_eq_some_iff.1 ((HB3.out i hi.2).trans (Array.getElem?_eq_getElem hi.2))).1
          have h7 := World.block_lt_of_cell? w4 ⟨w2.heap.size, 0, none⟩ n0
          exact Nat.le_of_lt h7
        have := hi.2
        omega
      · exact (hst.blk i (by have := hi.1; omega)).trans (HB3.out i hi.2)
    · have hjb : (j == l.length) = false := by
        rw [beq_eq_false_iff_ne, hj]
        have := List.length_pos_iff.2 hy
        unfold plc
        have h8 := congrArg List.length (rd_suf HR0.out)
        rw [List.length_append] at h8
        omega
      rw [hjb]
      have HTy2 : Hid (tyR l = none) := by
        show _ = _
        rw [HTy.out]
        cases y with
        | nil => exact absurd rfl hy
        | cons c y => rfl
      go_wp2_with fail
      refine bodyPost_ret (v := .tuple #[zV, .bool false]) (by simp [zV, results, Tryz.results43, go_sem, r0, r1, r2, r3, r4]) rfl ?_
      have hst := Stp.five0 w.heap.size w4 (.int .u8 0) (.string ⟨#[]⟩) (.int .i64 0) (.string ⟨#[]⟩) (.slice none 0 0)
      exact ⟨below_stp HB1.out hst (Nat.le_refl _), .inr ⟨HTy2.out, rfl⟩⟩
  · rw [hr] at HTy
    have hw2 : w2.heap[w.heap.size]? = some zOb := by
      obtain ⟨_, h2, h3⟩ := HW.out zOb 0
      exact (h3 _ (by omega)).symm.trans h2
    obtain ⟨r0, r1, r2, r3, r4, rf⟩ := five_cells hw2
    have rf0 := rf 0
    have rf1 := rf 1
    have rf2 := rf 2
    have rf3 := rf 3
    have rf4 := rf 4
    have hlt : w.heap.size < w2.heap.size := by omega
    have HB : Hid (Below w.heap.size w w2) := by
      obtain ⟨h1, _, h3⟩ := HW.out zOb 0
      exact ⟨h1.os, h1.tape, h1.output, by omega, fun i hi => (h3 i (by omega)).symm.trans (h1.block i hi)⟩
    clear hr HE rf hw2
    go_wp2_with fail
    refine bodyPost_ret (v := .tuple #[zV, .bool false]) (by simp [zV, results, Tryz.results43, go_sem, r0, r1, r2, r3, r4, hlt]) rfl ?_
    refine ⟨?_, .inr ⟨HTy.out, rfl⟩⟩
    have hst := Stp.five0 w.heap.size w2 (.int .u8 0) (.string ⟨#[]⟩) (.int .i64 0) (.string ⟨#[]⟩) (.slice none 0 0)
    exact (below_stp HB.out hst (Nat.le_refl _)).alloc (by rw [hst.size]; omega) _
end Go.Proofs.YtacbjhbiaaieoaaGreatDoor
