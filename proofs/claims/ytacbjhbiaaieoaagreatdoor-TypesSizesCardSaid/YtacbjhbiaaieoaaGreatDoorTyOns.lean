/-
  The contract of the reader of one type, in the code: a case.
-/
import Derived.Test.YtacbjhbiaaieoaaGreatDoorTyOnh
namespace Go.Proofs.YtacbjhbiaaieoaaGreatDoor
set_option linter.unusedVariables false
set_option linter.unusedSimpArgs false
set_option maxRecDepth 100000
open Go.RowKit

set_option maxHeartbeats 4000000 in
theorem one_str (B : Nat) (b : Nat) (l : List UInt8) (k : Nat) (cI : Int) (hcI : ((l[k]?.getD 0).toNat : Int) = cI) (w : World) (hb : b < w.heap.size) (hk : k < l.length) (hl : l.length ≤ 65536) (h0 : w.cell? ⟨b, 0, none⟩ = some (.string ⟨l.toArray⟩)) (h1 : w.cell? ⟨b, 1, none⟩ = some (.int .i64 k)) (hf : w.frozen? ⟨b, 1, none⟩ = false) (hE : Env B w) (hB : B ≤ b) (hc : cI = 83) :
    Calls Tryz.prog 72 #[.pointer (some ⟨b, 0, none⟩)] w fun e w' => OneR b l k w e w' := by
  have HLt := Lib.hid (c_letter b l k cI hcI (w.alloc zOb) hk hl ((cell_of_blk (Below.heap_alloc w zOb b hb) 0).trans h0) ((cell_of_blk (Below.heap_alloc w zOb b hb) 1).trans h1) ((frozen_of_blk (Below.heap_alloc w zOb b hb) 1).trans hf))
  have HA := Lib.hid (fun w1 (h : RdW b 0 (w.alloc zOb) (k + 1) w1) => (onA (k := k) (x0 := cI) hb h0 hf h).s)
  have HDr := Lib.hid (drop_letter hk)
  have hnb : ¬ b = w.heap.size := by omega
  have hnb1 : ¬ b = w.heap.size + 1 := by omega
  have hkl : k ≤ l.length := by omega
  have HEn := Lib.hid (fun (wr : World) (j : Nat) (h : RdX b w j wr) => hE.next (h.below hB hb))
  have hk1 : k + 1 ≤ l.length := by omega
  have hNw : B ≤ w.heap.size := by omega
  have hc9 : (l[k]?.getD 0).toNat = 83 := by omega
  have hc8 : l[k]?.getD 0 = 83 := by rw [← UInt8.toNat_inj]; exact hc9
  rw [hc8] at HDr
  clear hcI hc8 hc9 h0 hf
  subst hc
  go_enter Tryz.func72, Tryz.ntmps72
  go_wp2_with fail
  clear h1
  refine HLt.out.mono ?_
  rintro e w1 ⟨rfl, hw1⟩
  have HS := Lib.hid (HA.out w1 hw1)
  have hs1 : w1.heap.size = w.heap.size + 1 := by rw [hw1.size]; simp
  clear hw1 HLt HA
  go_wp2_with fail
  have HSx := HS
  clear HS
  generalize Obj.cells _ _ = ob at HSx ⊢
  generalize w1.alloc ob = wx at HSx ⊢
  clear hs1
  have HCt := Lib.hid (c_tag B b l (k + 1) wx (HEn.out _ _ HSx.out.rdx) hB (by have := HSx.out.size; omega) (by omega) hl HSx.out.text HSx.out.rdx.pos HSx.out.frz)
  go_wp2_with fail
  refine HCt.out.mono ?_
  rintro e wc (⟨s, y, hct, rfl, hxc, hkp⟩ | ⟨hct, s, jc, rfl, hjc1, hjc2, hxc⟩)
  · have HR : Hid (rd (l.drop k) = some (.str s, y)) := by show _ = _; rw [HDr.out, rd_str, hct]; rfl
    have hpl := plc_le l y
    have HSc := Lib.hid (HSx.out.rd hb hxc)
    have m3 := HSc.out.n3
    have mf3 := HSc.out.nf 3
    have HSd := Lib.hid (HSc.out.set3 hb ⟨s.toArray⟩)
    clear hct hxc HCt
    go_wp2_with fail
    clear m3 mf3 HSc
    generalize wc.setCell ⟨w.heap.size + 1, 3, none⟩ (.string ⟨s.toArray⟩) = wd at HSd ⊢
    obtain ⟨r0, r1, r2, r3, r4, rf⟩ := five_cells HSd.out.res
    have n0 := HSd.out.n0
    have n1 := HSd.out.n1
    have n2 := HSd.out.n2
    have n3 := HSd.out.n3
    have n4 := HSd.out.n4
    have nf1 := HSd.out.nf 1
    have b0 := HSd.out.text
    have b1 := HSd.out.rdx.pos
    have rf0 := rf 0
    have rf1 := rf 1
    have rf2 := rf 2
    have rf3 := rf 3
    have rf4 := rf 4
    have hex := ext_sub l k (plc l y)
    have hj0 : (0 : Int) ≤ (k : Int) := by omega
    have hj1 : (k : Int) ≤ (plc l y : Nat) := by omega
    have hj2 : ((plc l y : Nat) : Int) ≤ (l.length : Int) := by omega
    clear rf
    go_region
    all_goals
      go_wp2_with fail
      refine bodyPost_ret (v := .tuple #[.agg #[.int .u8 83, .string ⟨((l.drop k).take (plc l y - k)).toArray⟩, .int .i64 0, .string ⟨s.toArray⟩, .slice none 0 0], .bool true]) (by first | (simp [results, Tryz.results72, go_sem, r0, r1, r2, r3, r4]; done) | (simp [results, Tryz.results72, go_sem, r0, r1, r2, r3, r4]; rfl)) rfl ?_
      exact one_yes (t := .str s) hkl HR.out rfl rfl rfl rfl rfl (rdx_two HSd.out.rdx (two_end _ _ _ _ _ _ _ _ _) hnb1 hnb (by omega) (Nat.le_refl _)) (.leaf _ rfl) (by omega)
  · have HR : Hid (rd (l.drop k) = none) := by show _ = _; rw [HDr.out, rd_str, hct]; rfl
    have HSc := Lib.hid (HSx.out.rd hb hxc)
    have m3 := HSc.out.n3
    have mf3 := HSc.out.nf 3
    have HSd := Lib.hid (HSc.out.set3 hb ⟨s.toArray⟩)
    clear hct hxc HCt
    go_wp2_with fail
    clear m3 mf3 HSc
    generalize wc.setCell ⟨w.heap.size + 1, 3, none⟩ (.string ⟨s.toArray⟩) = wd at HSd ⊢
    obtain ⟨r0, r1, r2, r3, r4, rf⟩ := five_cells HSd.out.res
    have n0 := HSd.out.n0
    have n1 := HSd.out.n1
    have n2 := HSd.out.n2
    have n3 := HSd.out.n3
    have n4 := HSd.out.n4
    have nf1 := HSd.out.nf 1
    have b0 := HSd.out.text
    have b1 := HSd.out.rdx.pos
    have rf0 := rf 0
    have rf1 := rf 1
    have rf2 := rf 2
    have rf3 := rf 3
    have rf4 := rf 4
    have hex := ext_sub l k (jc)
    have hj0 : (0 : Int) ≤ (k : Int) := by omega
    have hj1 : (k : Int) ≤ (jc : Nat) := by omega
    have hj2 : ((jc : Nat) : Int) ≤ (l.length : Int) := by omega
    clear rf
    go_region
    all_goals
      go_wp2_with fail
      refine bodyPost_ret (v := .tuple #[.agg #[.int .u8 83, .string ⟨((l.drop k).take (jc - k)).toArray⟩, .int .i64 0, .string ⟨s.toArray⟩, .slice none 0 0], .bool false]) (by first | (simp [results, Tryz.results72, go_sem, r0, r1, r2, r3, r4]; done) | (simp [results, Tryz.results72, go_sem, r0, r1, r2, r3, r4]; rfl)) rfl ?_
      exact one_no HR.out (rdx_two HSd.out.rdx (two_end _ _ _ _ _ _ _ _ _) hnb1 hnb (by omega) (Nat.le_refl _)) (by omega) hjc2
end Go.Proofs.YtacbjhbiaaieoaaGreatDoor
