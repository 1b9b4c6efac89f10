/-
  The contract of the reader of one type, in the code: a case.
-/
import Derived.Test.YtacbjhbiaaieoaaGreatDoorTyOnh
namespace Go.Proofs.YtacbjhbiaaieoaaGreatDoor
set_option linter.unusedVariables false
set_option linter.unusedSimpArgs false
set_option maxRecDepth 100000
open Go.RowKit

set_option maxHeartbeats 4000000 in
theorem one_fn (n : Nat) (hO : OneC n) (B : Nat) (b : Nat) (l : List UInt8) (k : Nat) (cI : Int) (hcI : ((l[k]?.getD 0).toNat : Int) = cI) (w : World) (hb : b < w.heap.size) (hk : k < l.length) (hl : l.length ≤ 65536) (h0 : w.cell? ⟨b, 0, none⟩ = some (.string ⟨l.toArray⟩)) (h1 : w.cell? ⟨b, 1, none⟩ = some (.int .i64 k)) (hf : w.frozen? ⟨b, 1, none⟩ = false) (hE : Env B w) (hB : B ≤ b) (hn : (l.drop (k + 1)).length ≤ n) (hc : cI = 102) :
    Calls Tryz.prog 72 #[.pointer (some ⟨b, 0, none⟩)] w fun e w' => OneR b l k w e w' := by
  have HLt := Lib.hid (c_letter b l k cI hcI (w.alloc zOb) hk hl ((cell_of_blk (Below.heap_alloc w zOb b hb) 0).trans h0) ((cell_of_blk (Below.heap_alloc w zOb b hb) 1).trans h1) ((frozen_of_blk (Below.heap_alloc w zOb b hb) 1).trans hf))
  have HA := Lib.hid (fun w1 (h : RdW b 0 (w.alloc zOb) (k + 1) w1) => (onA (k := k) (x0 := cI) hb h0 hf h).s)
  have HDr := Lib.hid (drop_letter hk)
  have hnb : ¬ b = w.heap.size := by omega
  have hnb1 : ¬ b = w.heap.size + 1 := by omega
  have hkl : k ≤ l.length := by omega
  have HEn := Lib.hid (fun (wr : World) (j : Nat) (h : RdX b w j wr) => hE.next (h.below hB hb))
  have hk1 : k + 1 ≤ l.length := by omega
  have hNw : B ≤ w.heap.size := by omega
  have hc9 : (l[k]?.getD 0).toNat = 102 := by omega
  have hc8 : l[k]?.getD 0 = 102 := by rw [← UInt8.toNat_inj]; exact hc9
  rw [hc8] at HDr
  clear hcI hc8 hc9 h0 hf
  subst hc
  go_enter Tryz.func72, Tryz.ntmps72
  go_wp2_with fail
  clear h1
  refine HLt.out.mono ?_
  rintro e w1 ⟨rfl, hw1⟩
  have HS := Lib.hid (HA.out w1 hw1)
  have hs1 : w1.heap.size = w.heap.size + 1 := by rw [hw1.size]; simp
  clear hw1 HLt HA
  go_wp2_with fail
  have HSx := HS
  clear HS
  generalize Obj.cells _ _ = ob at HSx ⊢
  generalize w1.alloc ob = wx at HSx ⊢
  clear hs1
  have HLs := Lib.hid (c_list n hO B b (w.heap.size + 1) (w.heap.size + 2) l (k + 1) _ wx (HEn.out _ _ HSx.out.rdx) hB (by omega) (by omega) (by omega) hnb1 HSx.out.size (by omega) hl hn HSx.out.text HSx.out.rdx.pos HSx.out.frz (HSx.out.nf 4) HSx.out.parts rfl)
  go_wp2_with fail
  refine HLs.out.mono ?_
  rintro e wc (⟨ps, r1, L', v', hct, hL', rfl, hpc, hxc, hkp, hLl, hr1s⟩ | ⟨hct, jc, a5, n5, c5, rfl, hjc1, hjc2, hcc, hxc⟩)
  · obtain ⟨ac, cc, hvc, _⟩ := slc_of hpc.own
    subst hvc
    have HSd := Lib.hid (HSx.out.pt hb hxc hpc.cell)
    have HPc := Lib.hid hpc
    have HLm := Lib.hid hL'
    have HCn : Hid (∃ ts, parL (l.drop (k + 1)) = some (ts, r1) ∧ ts.list = ps) := by
      show ∃ _, _
      unfold lsO at hct
      obtain ⟨q, hq1, hq2⟩ := Option.map_eq_some_iff.1 hct
      cases hq2
      exact ⟨q.1, hq1, rfl⟩
    have hpd := drop_plc hr1s
    have hpl := plc_le l r1
    have hr1l : r1.length ≤ l.length - (k + 1) := by
      have : plc l r1 = l.length - r1.length := rfl
      have := hr1s.length_le
      omega
    clear hct hxc hpc hL' HLs
    have hnd : (l.drop (plc l r1)).length ≤ n := by rw [hpd]; rw [List.length_drop] at hn; omega
    have HPa := Lib.hid (c_part n hO B b (w.heap.size + 1) (w.heap.size + 2) l (plc l r1) L' _ wc (HEn.out _ _ HSd.out.rdx) hB (by omega) (by omega) hnb1 HSd.out.size (by omega) hl (by omega) HSd.out.text HSd.out.rdx.pos HSd.out.frz (HSd.out.nf 4) (by omega) HPc.out)
    go_wp2_with fail
    refine HPa.out.mono ?_
    rintro e w2 (⟨t, y, s, v2, hr, rfl, hp2, hx2⟩ | ⟨hr, j, a5, n5, c5, rfl, hj1, hj2, hc2, hx2⟩)
    · obtain ⟨ts, hts, htl⟩ := HCn.out
      have HR : Hid (rd (l.drop k) = some (.fn ts t, y)) := by
        rw [hpd] at hr
        show _ = _
        rw [HDr.out, rd_fn, hts]
        show (rd r1).map _ = _
        rw [hr]
        rfl
      have hyk2 := (rd_suf2 hr hpl).2
      have hpp : (Ty.fn ts t).parts = (L' ++ [(t, s)]).map Prod.fst := by
        show ts.list ++ [t] = _
        rw [List.map_append, HLm.out, htl]
        rfl
      have HP2 : Hid (Nd (Fm (w.heap.size + 2) w2) w2 (.fn ts t) v2) := hp2.nd hpp (by simp)
      obtain ⟨a4, m4, hv4, _⟩ := HP2.out.sl
      obtain ⟨n4', hn4⟩ : ∃ n4', (Ty.fn ts t).parts.length = n4' := ⟨_, rfl⟩
      rw [hn4] at hv4
      subst hv4
      have HS2 := Lib.hid (HSd.out.pt hb hx2 hp2.cell)
      have hyl := plc_le l y
      clear hp2 hx2 hr HPa hpp hts htl hn4
      go_wp2_with fail
      obtain ⟨r0, r1, r2, r3, r4, rf⟩ := five_cells HS2.out.res
      have n0 := HS2.out.n0
      have n1 := HS2.out.n1
      have n2 := HS2.out.n2
      have n3 := HS2.out.n3
      have n4 := HS2.out.n4
      have nf1 := HS2.out.nf 1
      have b0 := HS2.out.text
      have b1 := HS2.out.rdx.pos
      have rf0 := rf 0
      have rf1 := rf 1
      have rf2 := rf 2
      have rf3 := rf 3
      have rf4 := rf 4
      have hex := ext_sub l k (plc l y)
      have hj0 : (0 : Int) ≤ (k : Int) := by omega
      have hj1 : (k : Int) ≤ (plc l y : Nat) := by omega
      have hj2 : ((plc l y : Nat) : Int) ≤ (l.length : Int) := by omega
      clear rf
      go_region
      all_goals
        go_wp2_with fail
        refine bodyPost_ret (v := .tuple #[.agg #[.int .u8 102, .string ⟨((l.drop k).take (plc l y - k)).toArray⟩, .int .i64 0, .string ⟨#[]⟩, .slice a4 n4' m4], .bool true]) (by first | (simp [results, Tryz.results72, go_sem, r0, r1, r2, r3, r4]; done) | (simp [results, Tryz.results72, go_sem, r0, r1, r2, r3, r4]; rfl)) rfl ?_
        exact one_yes (t := .fn ts t) hkl HR.out rfl rfl rfl rfl rfl (rdx_two HS2.out.rdx (two_end _ _ _ _ _ _ _ _ _) hnb1 hnb (by omega) (Nat.le_refl _)) (nd_two HP2.out (two_end _ _ _ _ _ _ _ _ _) (by omega) (by omega) (by omega)) (by omega)
    · obtain ⟨ts, hts, htl⟩ := HCn.out
      have HR : Hid (rd (l.drop k) = none) := by
        rw [hpd] at hr
        show _ = _
        rw [HDr.out, rd_fn, hts]
        show (rd r1).map _ = _
        rw [hr]
        rfl
      have hkj : k ≤ j := by omega
      have HS2 := Lib.hid (HSd.out.pt hb hx2 hc2)
      clear hc2 hx2 hr HPa hts htl
      go_wp2_with fail
      obtain ⟨r0, r1, r2, r3, r4, rf⟩ := five_cells HS2.out.res
      have n0 := HS2.out.n0
      have n1 := HS2.out.n1
      have n2 := HS2.out.n2
      have n3 := HS2.out.n3
      have n4 := HS2.out.n4
      have nf1 := HS2.out.nf 1
      have b0 := HS2.out.text
      have b1 := HS2.out.rdx.pos
      have rf0 := rf 0
      have rf1 := rf 1
      have rf2 := rf 2
      have rf3 := rf 3
      have rf4 := rf 4
      have hex := ext_sub l k (j)
      have hj0 : (0 : Int) ≤ (k : Int) := by omega
      have hj4 : (k : Int) ≤ (j : Nat) := by omega
      have hj3 : ((j : Nat) : Int) ≤ (l.length : Int) := by omega
      clear rf
      go_region
      all_goals
        go_wp2_with fail
        refine bodyPost_ret (v := .tuple #[.agg #[.int .u8 102, .string ⟨((l.drop k).take (j - k)).toArray⟩, .int .i64 0, .string ⟨#[]⟩, .slice a5 n5 c5], .bool false]) (by first | (simp [results, Tryz.results72, go_sem, r0, r1, r2, r3, r4]; done) | (simp [results, Tryz.results72, go_sem, r0, r1, r2, r3, r4]; rfl)) rfl ?_
        exact one_no HR.out (rdx_two HS2.out.rdx (two_end _ _ _ _ _ _ _ _ _) hnb1 hnb (by omega) (Nat.le_refl _)) hkj hj2
  · have HR : Hid (rd (l.drop k) = none) := by
      show _ = _
      rw [HDr.out, rd_fn]
      unfold lsO at hct
      rw [Option.map_eq_none_iff] at hct
      rw [hct]
      rfl
    have HSd := Lib.hid (HSx.out.pt hb hxc hcc)
    clear hct hxc hcc HLs
    go_wp2_with fail
    obtain ⟨r0, r1, r2, r3, r4, rf⟩ := five_cells HSd.out.res
    have n0 := HSd.out.n0
    have n1 := HSd.out.n1
    have n2 := HSd.out.n2
    have n3 := HSd.out.n3
    have n4 := HSd.out.n4
    have nf1 := HSd.out.nf 1
    have b0 := HSd.out.text
    have b1 := HSd.out.rdx.pos
    have rf0 := rf 0
    have rf1 := rf 1
    have rf2 := rf 2
    have rf3 := rf 3
    have rf4 := rf 4
    have hex := ext_sub l k (jc)
    have hj0 : (0 : Int) ≤ (k : Int) := by omega
    have hj1 : (k : Int) ≤ (jc : Nat) := by omega
    have hj2 : ((jc : Nat) : Int) ≤ (l.length : Int) := by omega
    clear rf
    go_region
    all_goals
      go_wp2_with fail
      refine bodyPost_ret (v := .tuple #[.agg #[.int .u8 102, .string ⟨((l.drop k).take (jc - k)).toArray⟩, .int .i64 0, .string ⟨#[]⟩, .slice a5 n5 c5], .bool false]) (by first | (simp [results, Tryz.results72, go_sem, r0, r1, r2, r3, r4]; done) | (simp [results, Tryz.results72, go_sem, r0, r1, r2, r3, r4]; rfl)) rfl ?_
      exact one_no HR.out (rdx_two HSd.out.rdx (two_end _ _ _ _ _ _ _ _ _) hnb1 hnb (by omega) (Nat.le_refl _)) (by omega) hjc2
end Go.Proofs.YtacbjhbiaaieoaaGreatDoor
