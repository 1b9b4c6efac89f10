/-
  The contract of the reader of one type, in the code: a case.
-/
import Derived.Test.YtacbjhbiaaieoaaGreatDoorTyOnh
namespace Go.Proofs.YtacbjhbiaaieoaaGreatDoor
set_option linter.unusedVariables false
set_option linter.unusedSimpArgs false
set_option maxRecDepth 100000
open Go.RowKit

set_option maxHeartbeats 4000000 in
theorem one_ptr (n : Nat) (hO : OneC n) (B : Nat) (b : Nat) (l : List UInt8) (k : Nat) (cI : Int) (hcI : ((l[k]?.getD 0).toNat : Int) = cI) (w : World) (hb : b < w.heap.size) (hk : k < l.length) (hl : l.length ≤ 65536) (h0 : w.cell? ⟨b, 0, none⟩ = some (.string ⟨l.toArray⟩)) (h1 : w.cell? ⟨b, 1, none⟩ = some (.int .i64 k)) (hf : w.frozen? ⟨b, 1, none⟩ = false) (hE : Env B w) (hB : B ≤ b) (hn : (l.drop (k + 1)).length ≤ n) (hc : cI = 112) :
    Calls Tryz.prog 72 #[.pointer (some ⟨b, 0, none⟩)] w fun e w' => OneR b l k w e w' := by
  have HLt := Lib.hid (c_letter b l k cI hcI (w.alloc zOb) hk hl ((cell_of_blk (Below.heap_alloc w zOb b hb) 0).trans h0) ((cell_of_blk (Below.heap_alloc w zOb b hb) 1).trans h1) ((frozen_of_blk (Below.heap_alloc w zOb b hb) 1).trans hf))
  have HA := Lib.hid (fun w1 (h : RdW b 0 (w.alloc zOb) (k + 1) w1) => (onA (k := k) (x0 := cI) hb h0 hf h).s)
  have HDr := Lib.hid (drop_letter hk)
  have hnb : ¬ b = w.heap.size := by omega
  have hnb1 : ¬ b = w.heap.size + 1 := by omega
  have hkl : k ≤ l.length := by omega
  have HEn := Lib.hid (fun (wr : World) (j : Nat) (h : RdX b w j wr) => hE.next (h.below hB hb))
  have hk1 : k + 1 ≤ l.length := by omega
  have hNw : B ≤ w.heap.size := by omega
  have hc9 : (l[k]?.getD 0).toNat = 112 := by omega
  have hc8 : l[k]?.getD 0 = 112 := by rw [← UInt8.toNat_inj]; exact hc9
  rw [hc8] at HDr
  clear hcI hc8 hc9 h0 hf
  subst hc
  go_enter Tryz.func72, Tryz.ntmps72
  go_wp2_with fail
  clear h1
  refine HLt.out.mono ?_
  rintro e w1 ⟨rfl, hw1⟩
  have HS := Lib.hid (HA.out w1 hw1)
  have hs1 : w1.heap.size = w.heap.size + 1 := by rw [hw1.size]; simp
  clear hw1 HLt HA
  go_wp2_with fail
  have HSx := HS
  clear HS
  generalize Obj.cells _ _ = ob at HSx ⊢
  generalize w1.alloc ob = wx at HSx ⊢
  clear hs1
  have HPa := Lib.hid (c_part n hO B b (w.heap.size + 1) (w.heap.size + 2) l (k + 1) [] _ wx (HEn.out _ _ HSx.out.rdx) hB (by omega) (by omega) hnb1 HSx.out.size (by omega) hl (by omega) HSx.out.text HSx.out.rdx.pos HSx.out.frz (HSx.out.nf 4) (by simp) HSx.out.parts)
  go_wp2_with fail
  refine HPa.out.mono ?_
  rintro e w2 (⟨t, y, s, v', hr, rfl, hp2, hx2⟩ | ⟨hr, j, a5, n5, c5, rfl, hj1, hj2, hc2, hx2⟩)
  · have HR : Hid (rd (l.drop k) = some (.ptr t, y)) := by show _ = _; rw [HDr.out, rd_ptr, hr]; rfl
    have HP2 : Hid (Nd (Fm (w.heap.size + 2) w2) w2 (.ptr t) v') := hp2.nd (t := .ptr t) rfl (by simp)
    obtain ⟨a4, m4, hv4, _⟩ := HP2.out.sl
    rw [show (.ptr t : Ty).parts.length = 1 from rfl] at hv4
    subst hv4
    have HS2 := Lib.hid (HSx.out.pt hb hx2 hp2.cell)
    have hyl := plc_le l y
    have hyk := (rd_suf2 hr (by omega)).2
    clear hp2 hx2 hr HPa
    go_wp2_with fail
    obtain ⟨r0, r1, r2, r3, r4, rf⟩ := five_cells HS2.out.res
    have n0 := HS2.out.n0
    have n1 := HS2.out.n1
    have n2 := HS2.out.n2
    have n3 := HS2.out.n3
    have n4 := HS2.out.n4
    have nf1 := HS2.out.nf 1
    have b0 := HS2.out.text
    have b1 := HS2.out.rdx.pos
    have rf0 := rf 0
    have rf1 := rf 1
    have rf2 := rf 2
    have rf3 := rf 3
    have rf4 := rf 4
    have hex := ext_sub l k (plc l y)
    have hj0 : (0 : Int) ≤ (k : Int) := by omega
    have hj1 : (k : Int) ≤ (plc l y : Nat) := by omega
    have hj2 : ((plc l y : Nat) : Int) ≤ (l.length : Int) := by omega
    clear rf
    go_region
    all_goals
      go_wp2_with fail
      refine bodyPost_ret (v := .tuple #[.agg #[.int .u8 112, .string ⟨((l.drop k).take (plc l y - k)).toArray⟩, .int .i64 0, .string ⟨#[]⟩, .slice a4 1 m4], .bool true]) (by first | (simp [results, Tryz.results72, go_sem, r0, r1, r2, r3, r4]; done) | (simp [results, Tryz.results72, go_sem, r0, r1, r2, r3, r4]; rfl)) rfl ?_
      exact one_yes (t := .ptr t) hkl HR.out rfl rfl rfl rfl rfl (rdx_two HS2.out.rdx (two_end _ _ _ _ _ _ _ _ _) hnb1 hnb (by omega) (Nat.le_refl _)) (nd_two HP2.out (two_end _ _ _ _ _ _ _ _ _) (by omega) (by omega) (by omega)) (by omega)
  · have HR : Hid (rd (l.drop k) = none) := by show _ = _; rw [HDr.out, rd_ptr, hr]; rfl
    have hkj : k ≤ j := by omega
    have HS2 := Lib.hid (HSx.out.pt hb hx2 hc2)
    clear hc2 hx2 hr HPa
    go_wp2_with fail
    obtain ⟨r0, r1, r2, r3, r4, rf⟩ := five_cells HS2.out.res
    have n0 := HS2.out.n0
    have n1 := HS2.out.n1
    have n2 := HS2.out.n2
    have n3 := HS2.out.n3
    have n4 := HS2.out.n4
    have nf1 := HS2.out.nf 1
    have b0 := HS2.out.text
    have b1 := HS2.out.rdx.pos
    have rf0 := rf 0
    have rf1 := rf 1
    have rf2 := rf 2
    have rf3 := rf 3
    have rf4 := rf 4
    have hex := ext_sub l k (j)
    have hj0 : (0 : Int) ≤ (k : Int) := by omega
    have hj4 : (k : Int) ≤ (j : Nat) := by omega
    have hj3 : ((j : Nat) : Int) ≤ (l.length : Int) := by omega
    clear rf
    go_region
    all_goals
      go_wp2_with fail
      refine bodyPost_ret (v := .tuple #[.agg #[.int .u8 112, .string ⟨((l.drop k).take (j - k)).toArray⟩, .int .i64 0, .string ⟨#[]⟩, .slice a5 n5 c5], .bool false]) (by first | (simp [results, Tryz.results72, go_sem, r0, r1, r2, r3, r4]; done) | (simp [results, Tryz.results72, go_sem, r0, r1, r2, r3, r4]; rfl)) rfl ?_
      exact one_no HR.out (rdx_two HS2.out.rdx (two_end _ _ _ _ _ _ _ _ _) hnb1 hnb (by omega) (Nat.le_refl _)) hkj hj2
end Go.Proofs.YtacbjhbiaaieoaaGreatDoor
