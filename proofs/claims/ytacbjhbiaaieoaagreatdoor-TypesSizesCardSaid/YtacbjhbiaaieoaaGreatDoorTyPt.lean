/-
  The contract of a part that is read, in the code.
-/
import Derived.Test.YtacbjhbiaaieoaaGreatDoorTyPt0
namespace Go.Proofs.YtacbjhbiaaieoaaGreatDoor
set_option linter.unusedVariables false
set_option linter.unusedSimpArgs false
set_option maxRecDepth 100000
open Go.RowKit

/-- What part answers. -/
def PtR (N b d : Nat) (l : List UInt8) (k : Nat) (L : List (Ty × Value)) (w : World) (e : Ending) (w' : World) : Prop :=
  (∃ t y s v', rd (l.drop k) = some (t, y) ∧ e = .returned (.bool true) ∧ PartsAt N d (L ++ [(t, s)]) v' w' ∧ PtX b d N w (plc l y) w') ∨
  (rd (l.drop k) = none ∧ ∃ (j : Nat) (a : Option Addr) (n c : Nat), e = .returned (.bool false) ∧ k ≤ j ∧ j ≤ l.length ∧ w'.cell? ⟨d, 4, none⟩ = some (.slice a n c) ∧ PtX b d N w j w')
theorem part_fin {N b d : Nat} {l : List UInt8} {k : Nat} {L : List (Ty × Value)} {w w2 w6 w9 : World} {ao : Option Addr} {cap : Nat} {q : Bool} {x0 x2 : Int} {s1 s3 : ByteArray} {a4 : Option Addr} {n4 m4 j g6 cap6 : Nat} {o o' : Obj}
    (hbN : b < N) (hdN : d < N) (hbd : b ≠ d) (hN : N ≤ w.heap.size) (hkj : k ≤ j) (hjl : j ≤ l.length) (hX : RdX b w j w2) (hp : OneP l k w q [.int .u8 x0, .string s1, .int .i64 x2, .string s3, .slice a4 n4 m4] j w2) (hP : PartsAt N d L (.slice ao L.length cap) w)
    (hg : ((w2.alloc o).alloc o').drew.grownBy w6 (Value.slice ao L.length cap).ownBlock) (hat : (Value.slice ao L.length cap).ownBlock = some g6 ∨ g6 = w2.heap.size + 2) (hE : PtEnd N w6 g6 d (L.length + 1) cap6 (ndCs L ++ [.int .u8 x0, .string s1, .int .i64 x2, .string s3, .slice a4 n4 m4]) w9) :
    PtR N b d l k L w (.returned (.bool q)) w9 := by
  have hlt : ∀ i, (Value.slice ao L.length cap).ownBlock = some i → N ≤ i ∧ i < w.heap.size := fun i hi => hP.own.lt i hi
  have hs2 := hX.size
  have hs6 : w2.heap.size + 2 ≤ w6.heap.size := by have := hg.size; simpa using this
  have hs9 := hE.size
  have hNg : N ≤ g6 := hat.elim (fun h => (hlt _ h).1) (fun h => by omega)
  have hlow : ∀ i, i < w2.heap.size → (Value.slice ao L.length cap).ownBlock ≠ some i → i ≠ d → w9.heap[i]? = w2.heap[i]? := fun i hi hr hd => by
    have hgi : i ≠ g6 := fun e => hat.elim (fun h => hr (by rw [h, e])) (fun h => by omega)
    rw [hE.blk i hgi hd, hg.block i (by simp; omega) (fun e => hr e.symm)]
    exact (Below.heap_alloc _ _ _ (by simp; omega)).trans (Below.heap_alloc _ _ _ hi)
  have hd6 : w6.heap[d]? = w2.heap[d]? := by
    rw [hg.block d (by simp; omega) (fun e => by have := hlt d e.symm; omega)]
    exact (Below.heap_alloc _ _ _ (by simp; omega)).trans (Below.heap_alloc _ _ _ (by omega))
  have hd2 : w2.heap[d]? = w.heap[d]? := hX.blk d (Ne.symm hbd) (by omega)
  have hb9 := hlow b (by omega) (fun e => by have := hlt b e; omega) hbd
  have hos : w6.os = w2.os ∧ w6.tape = w2.tape ∧ w6.output = w2.output := ⟨hg.os, hg.tape, hg.output⟩
  have hPX : ∀ j', j' = j → PtX b d N w j' w9 := fun j' e => by
    subst e
    exact ⟨fun i hi => (cell_of_blk hb9 i).trans (hX.oth i hi), (cell_of_blk hb9 1).trans hX.pos, fun i => (frozen_of_blk hb9 i).trans (hX.frz i), fun i hi => (hE.doth i hi).trans ((cell_of_blk hd6 i).trans (cell_of_blk hd2 i)), fun i => (hE.dfrz i).trans ((frozen_of_blk hd6 i).trans (frozen_of_blk hd2 i)),
      fun i hib hid hiN => (hlow i (by omega) (fun e => by have := hlt i e; omega) hid).trans (hX.blk i hib (by omega)), by omega, hE.os.trans (hos.1.trans hX.os), hE.tape.trans (hos.2.1.trans hX.tape), hE.output.trans (hos.2.2.trans hX.output)⟩
  rcases hp with ⟨t, y, s, hr, rfl, hcs, hj, hnd⟩ | ⟨hr, rfl⟩
  · refine .inl ⟨t, y, s, _, hr, rfl, ⟨hE.cell, ?_, fun p hp => ?_⟩, hPX _ hj.symm⟩
    · have ho := hE.own
      rw [hcs, ← ndCs_snoc] at ho
      rw [List.length_append]
      exact ho
    · rcases List.mem_append.1 hp with h | h
      · refine (hP.kids p h).mono (fun i hi => ⟨hi.1, by have := hi.2.1; omega, fun e => ?_⟩) (fun i hi => ?_)
        · have e2 : g6 = i := by simpa [Value.ownBlock] using e
          exact hat.elim (fun h => hi.2.2 (by rw [h, e2])) (fun h => by have := hi.2.1; omega)
        · have h1 := hi.1
          have h2 := hi.2.1
          exact (hlow i (by omega) hi.2.2 (by omega)).trans (hX.blk i (by omega) h2)
      · rw [List.mem_singleton] at h
        subst h
        refine hnd.mono (fun i hi => ⟨by have := hi.1; omega, by have := hi.2; omega, fun e => ?_⟩) (fun i hi => ?_)
        · have e2 : g6 = i := by simpa [Value.ownBlock] using e
          have h1 := hi.1
          have h2 := hi.2
          exact hat.elim (fun h => by have := hlt _ h; omega) (fun h => by omega)
        · have h1 := hi.1
          have h2 := hi.2
          exact hlow i h2 (fun e => by have := hlt i e; omega) (by omega)
  · exact .inr ⟨hr, j, _, _, _, rfl, hkj, hjl, hE.cell, hPX j rfl⟩
set_option maxHeartbeats 4000000 in
theorem c_part (n : Nat) (hO : OneC n) (B b d N : Nat) (l : List UInt8) (k : Nat) (L : List (Ty × Value)) (v : Value) (w : World) (hE : Env B w) (hB : B ≤ b) (hbN : b < N) (hdN : d < N) (hbd : b ≠ d) (hN : N ≤ w.heap.size) (hk : k ≤ l.length) (hl : l.length ≤ 65536) (hn : (l.drop k).length ≤ n)
    (h0 : w.cell? ⟨b, 0, none⟩ = some (.string ⟨l.toArray⟩)) (h1 : w.cell? ⟨b, 1, none⟩ = some (.int .i64 k)) (hf : w.frozen? ⟨b, 1, none⟩ = false) (hdf : w.frozen? ⟨d, 4, none⟩ = false) (hL : L.length ≤ 65536) (hP : PartsAt N d L v w) :
    Calls Tryz.prog 102 #[.pointer (some ⟨b, 0, none⟩), .pointer (some ⟨d, 0, none⟩)] w fun e w' => PtR N b d l k L w e w' := by
  have HO := Lib.hid (hO B b l k w hE hB (by omega) hk hl hn h0 h1 hf)
  have HP := Lib.hid hP
  obtain ⟨ao, cap, hv⟩ : ∃ ao cap, v = .slice ao L.length cap := by
    rcases hP.own.2 with ⟨hv, hz⟩ | ⟨g, cap, cur, hv, _⟩
    · exact ⟨none, 0, by rw [hv, hz]⟩
    · exact ⟨_, cap, hv⟩
  subst hv
  obtain ⟨i0, hi, hz0, hz1, hz2⟩ := info_parts infoNode
  have HDf := Lib.hid hdf
  clear h0 h1 hf hn hk hl hE hP hdf hO
  go_enter Tryz.func102, Tryz.ntmps102
  go_wp2_with fail
  refine HO.out.mono ?_
  rintro e w2 ⟨q, x0, s1, x2, s3, a4, n4, m4, j, rfl, hkj, hjl, hx, hp⟩
  have HX := Lib.hid hx
  have HPp := Lib.hid hp
  clear hx hp
  have hv2 : w2.cell? ⟨d, 4, none⟩ = some (.slice ao L.length cap) := by
    have h := HP.out.cell
    rw [← h]
    exact cell_of_blk (HX.out.blk d (by omega) (by omega)) 4
  have hf2 : w2.frozen? ⟨d, 4, none⟩ = false := (frozen_of_blk (HX.out.blk d (by omega) (by omega)) 4).trans HDf.out
  have HOw2 : Hid (w2.ownsRow N 68 5 (.slice ao L.length cap) L.length (ndCs L)) := own_far HP.out.own (fun g hg hN' => HX.out.blk g (by omega) (by
    obtain ⟨_, h2⟩ := HP.out.own.lt g hg
    exact h2))
  have HOw : Hid (∀ o o', ((w2.alloc o).alloc o').drew.ownsRow N 68 5 (.slice ao L.length cap) L.length (ndCs L)) := fun o o' => (HOw2.out.alloc o).alloc o'
  have HNw : Hid (∀ o, ∀ (j : Nat) (u : Value), [Value.int .u8 0, .string ByteArray.empty, .int .i64 0, .string ByteArray.empty, .slice none 0 0][j]? = some u → ((w2.alloc o).alloc (.cells #[.int .u8 0, .string ByteArray.empty, .int .i64 0, .string ByteArray.empty, .slice none 0 0] 68)).drew.cell? ((⟨w2.heap.size + 1, 0, none⟩ : Addr).add j) = some u) := fun o j u hu => by
    have h := World.news_of_block (heap_alloc_new (w2.alloc o) (.cells #[.int .u8 0, .string ByteArray.empty, .int .i64 0, .string ByteArray.empty, .slice none 0 0] 68)) j u (by simpa using hu)
    rw [show (w2.alloc o).heap.size = w2.heap.size + 1 by simp] at h
    exact h
  have hS2 : w.heap.size ≤ w2.heap.size := HX.out.size
  have HS2 := Lib.hid hS2
  have hd2 : d < w2.heap.size := by omega
  have HOl : Hid (∀ g, (Value.slice ao L.length cap).ownBlock = some g → N ≤ g) := fun g hg => (HOw2.out.lt g hg).1
  have hvn : (Value.slice ao L.length cap).ownBlock ≠ some d := fun e => by have := HOl.out _ e; omega
  have HV2 : Hid (∀ o o', ((w2.alloc o).alloc o').drew.cell? ⟨d, 4, none⟩ = some (.slice ao L.length cap) ∧ ((w2.alloc o).alloc o').drew.frozen? ⟨d, 4, none⟩ = false) := fun o o' => by
    have hb : ((w2.alloc o).alloc o').drew.heap[d]? = w2.heap[d]? := (Below.heap_alloc _ _ _ (by simp; omega)).trans (Below.heap_alloc _ _ _ hd2)
    exact ⟨(cell_of_blk hb 4).trans hv2, (frozen_of_blk hb 4).trans hf2⟩
  have hlt1 : (L.length : Int) < (L.length : Int) + 1 := by omega
  go_wp2_with fail
  go_region_law (refine step_append_lies _ (by rfl) _ _ _ (by rfl) N 68 i0 _ 5 72 Tryz.underlying66 hi hz0 hz1 hz2 rfl (by decide) (.slice ao L.length cap) L.length (ndCs L) (by simp [Act.eval, Act.put]) (by exact HOw.out _ _) ⟨w2.heap.size + 1, 0, none⟩ 1 1 [.int .u8 0, .string ByteArray.empty, .int .i64 0, .string ByteArray.empty, .slice none 0 0] (by simp [Act.eval, Act.put]) rfl (by exact HNw.out _) zero_one (by decide) (by unfold maxLen; omega) (by omega) (by simp; omega) (w2.heap.size + 2) (by simp) ?_
                 intro g6 cap6 w6 hown6 hgrow6 hat6 hlt6
                 have hv6 : w6.cell? ⟨d, 4, none⟩ = some (.slice ao L.length cap) := (hgrow6.cell_far ⟨d, 4, none⟩ (by simp; omega) (Ne.symm hvn)).trans (HV2.out _ _).1
                 have hf6 : w6.frozen? ⟨d, 4, none⟩ = false := (hgrow6.frozen_far ⟨d, 4, none⟩ (by simp; omega) (Ne.symm hvn)).trans (HV2.out _ _).2
                 obtain ⟨z0, z1, z2, z3, z4, zf⟩ := own_zero hown6
                 have hNg : N ≤ g6 := hat6.elim (fun h => HOl.out _ h) (fun h => by omega)
                 have hgd : ¬ g6 = d := by omega
                 have hdg : ¬ d = g6 := by omega)
  all_goals
    have HEo := Lib.hid hown6
    have HEg := Lib.hid hgrow6
    have HEa := Lib.hid hat6
    have HEv := Lib.hid hv6
    have HEn := Lib.hid hgd
    clear hown6 hgrow6 hat6 hv6 hgd hdg z0 z1 z2 z3 z4 zf hf6 hlt6 hv2 hf2
    go_wp2_with fail
    go_ret
    exact part_fin hbN hdN hbd hN hkj hjl HX.out HPp.out HP.out HEg.out HEa.out (by first | with_reducible exact end_a HEo.out HEn.out HEv.out _ _ _ _ _ | with_reducible exact end_b HEo.out HEn.out HEv.out _ _ _ _ _)
end Go.Proofs.YtacbjhbiaaieoaaGreatDoor
