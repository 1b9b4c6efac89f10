/-
  The contracts of the reader of one type, and of a type taken apart, in the code.
-/
import Derived.Test.YtjadckhngalmlaaGreatDoorZTyOnh
namespace Go.Proofs.YtjadckhngalmlaaGreatDoor
set_option linter.unusedVariables false
set_option linter.unusedSimpArgs false
set_option maxRecDepth 100000
open Go.RowKit

set_option maxHeartbeats 4000000 in
theorem one_base (b : Nat) (l : List UInt8) (k : Nat) (cI : Int) (hcI : ((l[k]?.getD 0).toNat : Int) = cI) (w : World) (hb : b < w.heap.size) (hk : k < l.length) (hl : l.length ≤ 65536) (h0 : w.cell? ⟨b, 0, none⟩ = some (.string ⟨l.toArray⟩)) (h1 : w.cell? ⟨b, 1, none⟩ = some (.int .i64 k)) (hf : w.frozen? ⟨b, 1, none⟩ = false) (hc : cI = 118 ∨ cI = 99 ∨ cI = 115 ∨ cI = 105 ∨ cI = 117 ∨ cI = 106) :
    Calls Tryz.prog 110 #[.pointer (some ⟨b, 0, none⟩)] w fun e w' => OneR b l k w e w' := by
  have HLt := Lib.hid (c_letter b l k cI hcI (w.alloc zOb) hk hl ((cell_of_blk (Below.heap_alloc w zOb b hb) 0).trans h0) ((cell_of_blk (Below.heap_alloc w zOb b hb) 1).trans h1) ((frozen_of_blk (Below.heap_alloc w zOb b hb) 1).trans hf))
  have HA := Lib.hid (fun w1 (h : RdW b 0 (w.alloc zOb) (k + 1) w1) => (onA (k := k) (x0 := cI) hb h0 hf h).s)
  have HDr := Lib.hid (drop_letter hk)
  have hnb : ¬ b = w.heap.size := by omega
  have hnb1 : ¬ b = w.heap.size + 1 := by omega
  have hkl : k ≤ l.length := by omega
  obtain ⟨c, hc8⟩ : ∃ c : UInt8, l[k]?.getD 0 = c := ⟨_, rfl⟩
  rw [hc8] at HDr hcI
  have HR : Hid (rd (l.drop k) = some (.base c, l.drop (k + 1))) := by
    show _ = _
    rw [HDr.out]
    refine rd_base c _ ?_
    unfold baseC
    have : c.toNat = 118 ∨ c.toNat = 99 ∨ c.toNat = 115 ∨ c.toNat = 105 ∨ c.toNat = 117 ∨ c.toNat = 106 := by omega
    simp only [Bool.or_eq_true, beq_iff_eq, ← UInt8.toNat_inj]
    exact by rcases this with h | h | h | h | h | h <;> (rw [h]; decide)
  have HP : Hid (k + 1 = plc l (l.drop (k + 1))) := (plc_drop (by omega)).symm
  have HC := Lib.hid hcI
  clear hcI hc8 h0 hf
  rcases hc with hc | hc | hc | hc | hc | hc
  · subst hc
    go_enter Tryz.func110, Tryz.ntmps110
    go_wp2_with fail
    clear h1
    refine HLt.out.mono ?_
    rintro e w1 ⟨rfl, hw1⟩
    have HS := Lib.hid (HA.out w1 hw1)
    have hs1 : w1.heap.size = w.heap.size + 1 := by rw [hw1.size]; simp
    clear hw1 HLt HA
    go_wp2_with fail
    have HSx := HS
    clear HS
    generalize Obj.cells _ _ = ob at HSx ⊢
    generalize w1.alloc ob = wx at HSx ⊢
    clear hs1
    obtain ⟨r0, r1, r2, r3, r4, rf⟩ := five_cells HSx.out.res
    have n0 := HSx.out.n0
    have n1 := HSx.out.n1
    have n2 := HSx.out.n2
    have n3 := HSx.out.n3
    have n4 := HSx.out.n4
    have nf1 := HSx.out.nf 1
    have b0 := HSx.out.text
    have b1 := HSx.out.rdx.pos
    have rf0 := rf 0
    have rf1 := rf 1
    have rf2 := rf 2
    have rf3 := rf 3
    have rf4 := rf 4
    have hex := ext_sub l k (k + 1)
    have hj0 : (0 : Int) ≤ (k : Int) := by omega
    have hj1 : (k : Int) ≤ (k : Int) + 1 := by omega
    have hj2 : (k : Int) + 1 ≤ (l.length : Int) := by omega
    clear rf
    go_region
    all_goals
      go_wp2_with fail
      refine bodyPost_ret (v := .tuple #[.agg #[.int .u8 118, .string ⟨((l.drop k).take (k + 1 - k)).toArray⟩, .int .i64 0, .string ⟨#[]⟩, .slice none 0 0], .bool true]) (by first | (simp [results, Tryz.results110, go_sem, r0, r1, r2, r3, r4]; done) | (simp [results, Tryz.results110, go_sem, r0, r1, r2, r3, r4]; rfl)) rfl ?_
      exact one_yes (t := .base c) hkl HR.out HP.out HC.out.symm rfl rfl rfl (rdx_two HSx.out.rdx (two_end _ _ _ _ _ _ _ _ _) hnb1 hnb (by omega) (Nat.le_refl _)) (.leaf _ rfl) (by omega)
  · subst hc
    go_enter Tryz.func110, Tryz.ntmps110
    go_wp2_with fail
    clear h1
    refine HLt.out.mono ?_
    rintro e w1 ⟨rfl, hw1⟩
    have HS := Lib.hid (HA.out w1 hw1)
    have hs1 : w1.heap.size = w.heap.size + 1 := by rw [hw1.size]; simp
    clear hw1 HLt HA
    go_wp2_with fail
    have HSx := HS
    clear HS
    generalize Obj.cells _ _ = ob at HSx ⊢
    generalize w1.alloc ob = wx at HSx ⊢
    clear hs1
    obtain ⟨r0, r1, r2, r3, r4, rf⟩ := five_cells HSx.out.res
    have n0 := HSx.out.n0
    have n1 := HSx.out.n1
    have n2 := HSx.out.n2
    have n3 := HSx.out.n3
    have n4 := HSx.out.n4
    have nf1 := HSx.out.nf 1
    have b0 := HSx.out.text
    have b1 := HSx.out.rdx.pos
    have rf0 := rf 0
    have rf1 := rf 1
    have rf2 := rf 2
    have rf3 := rf 3
    have rf4 := rf 4
    have hex := ext_sub l k (k + 1)
    have hj0 : (0 : Int) ≤ (k : Int) := by omega
    have hj1 : (k : Int) ≤ (k : Int) + 1 := by omega
    have hj2 : (k : Int) + 1 ≤ (l.length : Int) := by omega
    clear rf
    go_region
    all_goals
      go_wp2_with fail
      refine bodyPost_ret (v := .tuple #[.agg #[.int .u8 99, .string ⟨((l.drop k).take (k + 1 - k)).toArray⟩, .int .i64 0, .string ⟨#[]⟩, .slice none 0 0], .bool true]) (by first | (simp [results, Tryz.results110, go_sem, r0, r1, r2, r3, r4]; done) | (simp [results, Tryz.results110, go_sem, r0, r1, r2, r3, r4]; rfl)) rfl ?_
      exact one_yes (t := .base c) hkl HR.out HP.out HC.out.symm rfl rfl rfl (rdx_two HSx.out.rdx (two_end _ _ _ _ _ _ _ _ _) hnb1 hnb (by omega) (Nat.le_refl _)) (.leaf _ rfl) (by omega)
  · subst hc
    go_enter Tryz.func110, Tryz.ntmps110
    go_wp2_with fail
    clear h1
    refine HLt.out.mono ?_
    rintro e w1 ⟨rfl, hw1⟩
    have HS := Lib.hid (HA.out w1 hw1)
    have hs1 : w1.heap.size = w.heap.size + 1 := by rw [hw1.size]; simp
    clear hw1 HLt HA
    go_wp2_with fail
    have HSx := HS
    clear HS
    generalize Obj.cells _ _ = ob at HSx ⊢
    generalize w1.alloc ob = wx at HSx ⊢
    clear hs1
    obtain ⟨r0, r1, r2, r3, r4, rf⟩ := five_cells HSx.out.res
    have n0 := HSx.out.n0
    have n1 := HSx.out.n1
    have n2 := HSx.out.n2
    have n3 := HSx.out.n3
    have n4 := HSx.out.n4
    have nf1 := HSx.out.nf 1
    have b0 := HSx.out.text
    have b1 := HSx.out.rdx.pos
    have rf0 := rf 0
    have rf1 := rf 1
    have rf2 := rf 2
    have rf3 := rf 3
    have rf4 := rf 4
    have hex := ext_sub l k (k + 1)
    have hj0 : (0 : Int) ≤ (k : Int) := by omega
    have hj1 : (k : Int) ≤ (k : Int) + 1 := by omega
    have hj2 : (k : Int) + 1 ≤ (l.length : Int) := by omega
    clear rf
    go_region
    all_goals
      go_wp2_with fail
      refine bodyPost_ret (v := .tuple #[.agg #[.int .u8 115, .string ⟨((l.drop k).take (k + 1 - k)).toArray⟩, .int .i64 0, .string ⟨#[]⟩, .slice none 0 0], .bool true]) (by first | (simp [results, Tryz.results110, go_sem, r0, r1, r2, r3, r4]; done) | (simp [results, Tryz.results110, go_sem, r0, r1, r2, r3, r4]; rfl)) rfl ?_
      exact one_yes (t := .base c) hkl HR.out HP.out HC.out.symm rfl rfl rfl (rdx_two HSx.out.rdx (two_end _ _ _ _ _ _ _ _ _) hnb1 hnb (by omega) (Nat.le_refl _)) (.leaf _ rfl) (by omega)
  · subst hc
    go_enter Tryz.func110, Tryz.ntmps110
    go_wp2_with fail
    clear h1
    refine HLt.out.mono ?_
    rintro e w1 ⟨rfl, hw1⟩
    have HS := Lib.hid (HA.out w1 hw1)
    have hs1 : w1.heap.size = w.heap.size + 1 := by rw [hw1.size]; simp
    clear hw1 HLt HA
    go_wp2_with fail
    have HSx := HS
    clear HS
    generalize Obj.cells _ _ = ob at HSx ⊢
    generalize w1.alloc ob = wx at HSx ⊢
    clear hs1
    obtain ⟨r0, r1, r2, r3, r4, rf⟩ := five_cells HSx.out.res
    have n0 := HSx.out.n0
    have n1 := HSx.out.n1
    have n2 := HSx.out.n2
    have n3 := HSx.out.n3
    have n4 := HSx.out.n4
    have nf1 := HSx.out.nf 1
    have b0 := HSx.out.text
    have b1 := HSx.out.rdx.pos
    have rf0 := rf 0
    have rf1 := rf 1
    have rf2 := rf 2
    have rf3 := rf 3
    have rf4 := rf 4
    have hex := ext_sub l k (k + 1)
    have hj0 : (0 : Int) ≤ (k : Int) := by omega
    have hj1 : (k : Int) ≤ (k : Int) + 1 := by omega
    have hj2 : (k : Int) + 1 ≤ (l.length : Int) := by omega
    clear rf
    go_region
    all_goals
      go_wp2_with fail
      refine bodyPost_ret (v := .tuple #[.agg #[.int .u8 105, .string ⟨((l.drop k).take (k + 1 - k)).toArray⟩, .int .i64 0, .string ⟨#[]⟩, .slice none 0 0], .bool true]) (by first | (simp [results, Tryz.results110, go_sem, r0, r1, r2, r3, r4]; done) | (simp [results, Tryz.results110, go_sem, r0, r1, r2, r3, r4]; rfl)) rfl ?_
      exact one_yes (t := .base c) hkl HR.out HP.out HC.out.symm rfl rfl rfl (rdx_two HSx.out.rdx (two_end _ _ _ _ _ _ _ _ _) hnb1 hnb (by omega) (Nat.le_refl _)) (.leaf _ rfl) (by omega)
  · subst hc
    go_enter Tryz.func110, Tryz.ntmps110
    go_wp2_with fail
    clear h1
    refine HLt.out.mono ?_
    rintro e w1 ⟨rfl, hw1⟩
    have HS := Lib.hid (HA.out w1 hw1)
    have hs1 : w1.heap.size = w.heap.size + 1 := by rw [hw1.size]; simp
    clear hw1 HLt HA
    go_wp2_with fail
    have HSx := HS
    clear HS
    generalize Obj.cells _ _ = ob at HSx ⊢
    generalize w1.alloc ob = wx at HSx ⊢
    clear hs1
    obtain ⟨r0, r1, r2, r3, r4, rf⟩ := five_cells HSx.out.res
    have n0 := HSx.out.n0
    have n1 := HSx.out.n1
    have n2 := HSx.out.n2
    have n3 := HSx.out.n3
    have n4 := HSx.out.n4
    have nf1 := HSx.out.nf 1
    have b0 := HSx.out.text
    have b1 := HSx.out.rdx.pos
    have rf0 := rf 0
    have rf1 := rf 1
    have rf2 := rf 2
    have rf3 := rf 3
    have rf4 := rf 4
    have hex := ext_sub l k (k + 1)
    have hj0 : (0 : Int) ≤ (k : Int) := by omega
    have hj1 : (k : Int) ≤ (k : Int) + 1 := by omega
    have hj2 : (k : Int) + 1 ≤ (l.length : Int) := by omega
    clear rf
    go_region
    all_goals
      go_wp2_with fail
      refine bodyPost_ret (v := .tuple #[.agg #[.int .u8 117, .string ⟨((l.drop k).take (k + 1 - k)).toArray⟩, .int .i64 0, .string ⟨#[]⟩, .slice none 0 0], .bool true]) (by first | (simp [results, Tryz.results110, go_sem, r0, r1, r2, r3, r4]; done) | (simp [results, Tryz.results110, go_sem, r0, r1, r2, r3, r4]; rfl)) rfl ?_
      exact one_yes (t := .base c) hkl HR.out HP.out HC.out.symm rfl rfl rfl (rdx_two HSx.out.rdx (two_end _ _ _ _ _ _ _ _ _) hnb1 hnb (by omega) (Nat.le_refl _)) (.leaf _ rfl) (by omega)
  · subst hc
    go_enter Tryz.func110, Tryz.ntmps110
    go_wp2_with fail
    clear h1
    refine HLt.out.mono ?_
    rintro e w1 ⟨rfl, hw1⟩
    have HS := Lib.hid (HA.out w1 hw1)
    have hs1 : w1.heap.size = w.heap.size + 1 := by rw [hw1.size]; simp
    clear hw1 HLt HA
    go_wp2_with fail
    have HSx := HS
    clear HS
    generalize Obj.cells _ _ = ob at HSx ⊢
    generalize w1.alloc ob = wx at HSx ⊢
    clear hs1
    obtain ⟨r0, r1, r2, r3, r4, rf⟩ := five_cells HSx.out.res
    have n0 := HSx.out.n0
    have n1 := HSx.out.n1
    have n2 := HSx.out.n2
    have n3 := HSx.out.n3
    have n4 := HSx.out.n4
    have nf1 := HSx.out.nf 1
    have b0 := HSx.out.text
    have b1 := HSx.out.rdx.pos
    have rf0 := rf 0
    have rf1 := rf 1
    have rf2 := rf 2
    have rf3 := rf 3
    have rf4 := rf 4
    have hex := ext_sub l k (k + 1)
    have hj0 : (0 : Int) ≤ (k : Int) := by omega
    have hj1 : (k : Int) ≤ (k : Int) + 1 := by omega
    have hj2 : (k : Int) + 1 ≤ (l.length : Int) := by omega
    clear rf
    go_region
    all_goals
      go_wp2_with fail
      refine bodyPost_ret (v := .tuple #[.agg #[.int .u8 106, .string ⟨((l.drop k).take (k + 1 - k)).toArray⟩, .int .i64 0, .string ⟨#[]⟩, .slice none 0 0], .bool true]) (by first | (simp [results, Tryz.results110, go_sem, r0, r1, r2, r3, r4]; done) | (simp [results, Tryz.results110, go_sem, r0, r1, r2, r3, r4]; rfl)) rfl ?_
      exact one_yes (t := .base c) hkl HR.out HP.out HC.out.symm rfl rfl rfl (rdx_two HSx.out.rdx (two_end _ _ _ _ _ _ _ _ _) hnb1 hnb (by omega) (Nat.le_refl _)) (.leaf _ rfl) (by omega)
end Go.Proofs.YtjadckhngalmlaaGreatDoor
namespace Go.Proofs.YtjadckhngalmlaaGreatDoor
set_option linter.unusedVariables false
set_option linter.unusedSimpArgs false
set_option maxRecDepth 100000
open Go.RowKit

set_option maxHeartbeats 4000000 in
theorem one_ptr (n : Nat) (hO : OneC n) (B : Nat) (b : Nat) (l : List UInt8) (k : Nat) (cI : Int) (hcI : ((l[k]?.getD 0).toNat : Int) = cI) (w : World) (hb : b < w.heap.size) (hk : k < l.length) (hl : l.length ≤ 65536) (h0 : w.cell? ⟨b, 0, none⟩ = some (.string ⟨l.toArray⟩)) (h1 : w.cell? ⟨b, 1, none⟩ = some (.int .i64 k)) (hf : w.frozen? ⟨b, 1, none⟩ = false) (hE : Env B w) (hB : B ≤ b) (hn : (l.drop (k + 1)).length ≤ n) (hc : cI = 112) :
    Calls Tryz.prog 110 #[.pointer (some ⟨b, 0, none⟩)] w fun e w' => OneR b l k w e w' := by
  have HLt := Lib.hid (c_letter b l k cI hcI (w.alloc zOb) hk hl ((cell_of_blk (Below.heap_alloc w zOb b hb) 0).trans h0) ((cell_of_blk (Below.heap_alloc w zOb b hb) 1).trans h1) ((frozen_of_blk (Below.heap_alloc w zOb b hb) 1).trans hf))
  have HA := Lib.hid (fun w1 (h : RdW b 0 (w.alloc zOb) (k + 1) w1) => (onA (k := k) (x0 := cI) hb h0 hf h).s)
  have HDr := Lib.hid (drop_letter hk)
  have hnb : ¬ b = w.heap.size := by omega
  have hnb1 : ¬ b = w.heap.size + 1 := by omega
  have hkl : k ≤ l.length := by omega
  have HEn := Lib.hid (fun (wr : World) (j : Nat) (h : RdX b w j wr) => hE.next (h.below hB hb))
  have hk1 : k + 1 ≤ l.length := by omega
  have hNw : B ≤ w.heap.size := by omega
  have hc9 : (l[k]?.getD 0).toNat = 112 := by omega
  have hc8 : l[k]?.getD 0 = 112 := by rw [← UInt8.toNat_inj]; exact hc9
  rw [hc8] at HDr
  clear hcI hc8 hc9 h0 hf
  subst hc
  go_enter Tryz.func110, Tryz.ntmps110
  go_wp2_with fail
  clear h1
  refine HLt.out.mono ?_
  rintro e w1 ⟨rfl, hw1⟩
  have HS := Lib.hid (HA.out w1 hw1)
  have hs1 : w1.heap.size = w.heap.size + 1 := by rw [hw1.size]; simp
  clear hw1 HLt HA
  go_wp2_with fail
  have HSx := HS
  clear HS
  generalize Obj.cells _ _ = ob at HSx ⊢
  generalize w1.alloc ob = wx at HSx ⊢
  clear hs1
  have HPa := Lib.hid (c_part n hO B b (w.heap.size + 1) (w.heap.size + 2) l (k + 1) [] _ wx (HEn.out _ _ HSx.out.rdx) hB (by omega) (by omega) hnb1 HSx.out.size (by omega) hl (by omega) HSx.out.text HSx.out.rdx.pos HSx.out.frz (HSx.out.nf 4) (by simp) HSx.out.parts)
  go_wp2_with fail
  refine HPa.out.mono ?_
  rintro e w2 (⟨t, y, s, v', hr, rfl, hp2, hx2⟩ | ⟨hr, j, a5, n5, c5, rfl, hj1, hj2, hc2, hx2⟩)
  · have HR : Hid (rd (l.drop k) = some (.ptr t, y)) := by show _ = _; rw [HDr.out, rd_ptr, hr]; rfl
    have HP2 : Hid (Nd (Fm (w.heap.size + 2) w2) w2 (.ptr t) v') := hp2.nd (t := .ptr t) rfl (by simp)
    obtain ⟨a4, m4, hv4, _⟩ := HP2.out.sl
    rw [show (.ptr t : Ty).parts.length = 1 from rfl] at hv4
    subst hv4
    have HS2 := Lib.hid (HSx.out.pt hb hx2 hp2.cell)
    have hyl := plc_le l y
    have hyk := (rd_suf2 hr (by omega)).2
    clear hp2 hx2 hr HPa
    go_wp2_with fail
    obtain ⟨r0, r1, r2, r3, r4, rf⟩ := five_cells HS2.out.res
    have n0 := HS2.out.n0
    have n1 := HS2.out.n1
    have n2 := HS2.out.n2
    have n3 := HS2.out.n3
    have n4 := HS2.out.n4
    have nf1 := HS2.out.nf 1
    have b0 := HS2.out.text
    have b1 := HS2.out.rdx.pos
    have rf0 := rf 0
    have rf1 := rf 1
    have rf2 := rf 2
    have rf3 := rf 3
    have rf4 := rf 4
    have hex := ext_sub l k (plc l y)
    have hj0 : (0 : Int) ≤ (k : Int) := by omega
    have hj1 : (k : Int) ≤ (plc l y : Nat) := by omega
    have hj2 : ((plc l y : Nat) : Int) ≤ (l.length : Int) := by omega
    clear rf
    go_region
    all_goals
      go_wp2_with fail
      refine bodyPost_ret (v := .tuple #[.agg #[.int .u8 112, .string ⟨((l.drop k).take (plc l y - k)).toArray⟩, .int .i64 0, .string ⟨#[]⟩, .slice a4 1 m4], .bool true]) (by first | (simp [results, Tryz.results110, go_sem, r0, r1, r2, r3, r4]; done) | (simp [results, Tryz.results110, go_sem, r0, r1, r2, r3, r4]; rfl)) rfl ?_
      exact one_yes (t := .ptr t) hkl HR.out rfl rfl rfl rfl rfl (rdx_two HS2.out.rdx (two_end _ _ _ _ _ _ _ _ _) hnb1 hnb (by omega) (Nat.le_refl _)) (nd_two HP2.out (two_end _ _ _ _ _ _ _ _ _) (by omega) (by omega) (by omega)) (by omega)
  · have HR : Hid (rd (l.drop k) = none) := by show _ = _; rw [HDr.out, rd_ptr, hr]; rfl
    have hkj : k ≤ j := by omega
    have HS2 := Lib.hid (HSx.out.pt hb hx2 hc2)
    clear hc2 hx2 hr HPa
    go_wp2_with fail
    obtain ⟨r0, r1, r2, r3, r4, rf⟩ := five_cells HS2.out.res
    have n0 := HS2.out.n0
    have n1 := HS2.out.n1
    have n2 := HS2.out.n2
    have n3 := HS2.out.n3
    have n4 := HS2.out.n4
    have nf1 := HS2.out.nf 1
    have b0 := HS2.out.text
    have b1 := HS2.out.rdx.pos
    have rf0 := rf 0
    have rf1 := rf 1
    have rf2 := rf 2
    have rf3 := rf 3
    have rf4 := rf 4
    have hex := ext_sub l k (j)
    have hj0 : (0 : Int) ≤ (k : Int) := by omega
    have hj4 : (k : Int) ≤ (j : Nat) := by omega
    have hj3 : ((j : Nat) : Int) ≤ (l.length : Int) := by omega
    clear rf
    go_region
    all_goals
      go_wp2_with fail
      refine bodyPost_ret (v := .tuple #[.agg #[.int .u8 112, .string ⟨((l.drop k).take (j - k)).toArray⟩, .int .i64 0, .string ⟨#[]⟩, .slice a5 n5 c5], .bool false]) (by first | (simp [results, Tryz.results110, go_sem, r0, r1, r2, r3, r4]; done) | (simp [results, Tryz.results110, go_sem, r0, r1, r2, r3, r4]; rfl)) rfl ?_
      exact one_no HR.out (rdx_two HS2.out.rdx (two_end _ _ _ _ _ _ _ _ _) hnb1 hnb (by omega) (Nat.le_refl _)) hkj hj2
end Go.Proofs.YtjadckhngalmlaaGreatDoor
namespace Go.Proofs.YtjadckhngalmlaaGreatDoor
set_option linter.unusedVariables false
set_option linter.unusedSimpArgs false
set_option maxRecDepth 100000
open Go.RowKit

set_option maxHeartbeats 4000000 in
theorem one_arr (n : Nat) (hO : OneC n) (B : Nat) (b : Nat) (l : List UInt8) (k : Nat) (cI : Int) (hcI : ((l[k]?.getD 0).toNat : Int) = cI) (w : World) (hb : b < w.heap.size) (hk : k < l.length) (hl : l.length ≤ 65536) (h0 : w.cell? ⟨b, 0, none⟩ = some (.string ⟨l.toArray⟩)) (h1 : w.cell? ⟨b, 1, none⟩ = some (.int .i64 k)) (hf : w.frozen? ⟨b, 1, none⟩ = false) (hE : Env B w) (hB : B ≤ b) (hn : (l.drop (k + 1)).length ≤ n) (hc : cI = 97) :
    Calls Tryz.prog 110 #[.pointer (some ⟨b, 0, none⟩)] w fun e w' => OneR b l k w e w' := by
  have HLt := Lib.hid (c_letter b l k cI hcI (w.alloc zOb) hk hl ((cell_of_blk (Below.heap_alloc w zOb b hb) 0).trans h0) ((cell_of_blk (Below.heap_alloc w zOb b hb) 1).trans h1) ((frozen_of_blk (Below.heap_alloc w zOb b hb) 1).trans hf))
  have HA := Lib.hid (fun w1 (h : RdW b 0 (w.alloc zOb) (k + 1) w1) => (onA (k := k) (x0 := cI) hb h0 hf h).s)
  have HDr := Lib.hid (drop_letter hk)
  have hnb : ¬ b = w.heap.size := by omega
  have hnb1 : ¬ b = w.heap.size + 1 := by omega
  have hkl : k ≤ l.length := by omega
  have HEn := Lib.hid (fun (wr : World) (j : Nat) (h : RdX b w j wr) => hE.next (h.below hB hb))
  have hk1 : k + 1 ≤ l.length := by omega
  have hNw : B ≤ w.heap.size := by omega
  have hc9 : (l[k]?.getD 0).toNat = 97 := by omega
  have hc8 : l[k]?.getD 0 = 97 := by rw [← UInt8.toNat_inj]; exact hc9
  rw [hc8] at HDr
  clear hcI hc8 hc9 h0 hf
  subst hc
  go_enter Tryz.func110, Tryz.ntmps110
  go_wp2_with fail
  clear h1
  refine HLt.out.mono ?_
  rintro e w1 ⟨rfl, hw1⟩
  have HS := Lib.hid (HA.out w1 hw1)
  have hs1 : w1.heap.size = w.heap.size + 1 := by rw [hw1.size]; simp
  clear hw1 HLt HA
  go_wp2_with fail
  have HSx := HS
  clear HS
  generalize Obj.cells _ _ = ob at HSx ⊢
  generalize w1.alloc ob = wx at HSx ⊢
  clear hs1
  have HCt := Lib.hid (c_count B b l (k + 1) wx (HEn.out _ _ HSx.out.rdx) hB (by have := HSx.out.size; omega) (by omega) hl HSx.out.text HSx.out.rdx.pos HSx.out.frz)
  go_wp2_with fail
  refine HCt.out.mono ?_
  rintro e wc (⟨ct, r1, hct, rfl, hxc, hkp⟩ | ⟨hct, jc, rfl, hjc1, hjc2, hxc⟩)
  · have HSc := Lib.hid (HSx.out.rd hb hxc)
    have m2 := HSc.out.n2
    have mf2 := HSc.out.nf 2
    have HCn := Lib.hid hct
    have hr1l := cnt_len hct
    have hr1s : r1 <:+ l := ⟨l.take (k + 1) ++ (Lib.decDigits ct ++ [58]), by
      have e := (cnt_eq hct).2
      rw [List.append_assoc, List.append_assoc]
      show l.take (k + 1) ++ (Lib.decDigits ct ++ (58 :: r1)) = l
      rw [← e, List.take_append_drop]⟩
    have hpd := drop_plc hr1s
    have hpl := plc_le l r1
    have HSd := Lib.hid (HSc.out.set2 hb (ct : Int))
    clear hct hxc HCt
    go_wp2_with fail
    clear m2 mf2 HSc
    generalize wc.setCell ⟨w.heap.size + 1, 2, none⟩ (.int .i64 (ct : Int)) = wd at HSd ⊢
    have hnd : (l.drop (plc l r1)).length ≤ n := by rw [hpd]; omega
    have HPa := Lib.hid (c_part n hO B b (w.heap.size + 1) (w.heap.size + 2) l (plc l r1) [] _ wd (HEn.out _ _ HSd.out.rdx) hB (by omega) (by omega) hnb1 HSd.out.size (by omega) hl (by omega) HSd.out.text HSd.out.rdx.pos HSd.out.frz (HSd.out.nf 4) (by simp) HSd.out.parts)
    go_wp2_with fail
    refine HPa.out.mono ?_
    rintro e w2 (⟨t, y, s, v', hr, rfl, hp2, hx2⟩ | ⟨hr, j, a5, n5, c5, rfl, hj1, hj2, hc2, hx2⟩)
    · have HR : Hid (rd (l.drop k) = some (.arr ct t, y)) := by
        rw [hpd] at hr
        show _ = _
        rw [HDr.out, rd_arr, HCn.out]
        show (rd r1).map _ = _
        rw [hr]
        rfl
      have hyk2 := (rd_suf2 hr hpl).2
      have HP2 : Hid (Nd (Fm (w.heap.size + 2) w2) w2 (.arr ct t) v') := hp2.nd (t := .arr ct t) rfl (by simp)
      obtain ⟨a4, m4, hv4, _⟩ := HP2.out.sl
      rw [show (.arr ct t : Ty).parts.length = 1 from rfl] at hv4
      subst hv4
      have HS2 := Lib.hid (HSd.out.pt hb hx2 hp2.cell)
      have hyl := plc_le l y
      have hyk := (rd_suf2 hr (by omega)).2
      clear hp2 hx2 hr HPa
      go_wp2_with fail
      obtain ⟨r0, r1, r2, r3, r4, rf⟩ := five_cells HS2.out.res
      have n0 := HS2.out.n0
      have n1 := HS2.out.n1
      have n2 := HS2.out.n2
      have n3 := HS2.out.n3
      have n4 := HS2.out.n4
      have nf1 := HS2.out.nf 1
      have b0 := HS2.out.text
      have b1 := HS2.out.rdx.pos
      have rf0 := rf 0
      have rf1 := rf 1
      have rf2 := rf 2
      have rf3 := rf 3
      have rf4 := rf 4
      have hex := ext_sub l k (plc l y)
      have hj0 : (0 : Int) ≤ (k : Int) := by omega
      have hj1 : (k : Int) ≤ (plc l y : Nat) := by omega
      have hj2 : ((plc l y : Nat) : Int) ≤ (l.length : Int) := by omega
      clear rf
      go_region
      all_goals
        go_wp2_with fail
        refine bodyPost_ret (v := .tuple #[.agg #[.int .u8 97, .string ⟨((l.drop k).take (plc l y - k)).toArray⟩, .int .i64 ct, .string ⟨#[]⟩, .slice a4 1 m4], .bool true]) (by first | (simp [results, Tryz.results110, go_sem, r0, r1, r2, r3, r4]; done) | (simp [results, Tryz.results110, go_sem, r0, r1, r2, r3, r4]; rfl)) rfl ?_
        exact one_yes (t := .arr ct t) hkl HR.out rfl rfl rfl rfl rfl (rdx_two HS2.out.rdx (two_end _ _ _ _ _ _ _ _ _) hnb1 hnb (by omega) (Nat.le_refl _)) (nd_two HP2.out (two_end _ _ _ _ _ _ _ _ _) (by omega) (by omega) (by omega)) (by omega)
    · have HR : Hid (rd (l.drop k) = none) := by
        rw [hpd] at hr
        show _ = _
        rw [HDr.out, rd_arr, HCn.out]
        show (rd r1).map _ = _
        rw [hr]
        rfl
      have hkj : k ≤ j := by omega
      have HS2 := Lib.hid (HSd.out.pt hb hx2 hc2)
      clear hc2 hx2 hr HPa
      go_wp2_with fail
      obtain ⟨r0, r1, r2, r3, r4, rf⟩ := five_cells HS2.out.res
      have n0 := HS2.out.n0
      have n1 := HS2.out.n1
      have n2 := HS2.out.n2
      have n3 := HS2.out.n3
      have n4 := HS2.out.n4
      have nf1 := HS2.out.nf 1
      have b0 := HS2.out.text
      have b1 := HS2.out.rdx.pos
      have rf0 := rf 0
      have rf1 := rf 1
      have rf2 := rf 2
      have rf3 := rf 3
      have rf4 := rf 4
      have hex := ext_sub l k (j)
      have hj0 : (0 : Int) ≤ (k : Int) := by omega
      have hj4 : (k : Int) ≤ (j : Nat) := by omega
      have hj3 : ((j : Nat) : Int) ≤ (l.length : Int) := by omega
      clear rf
      go_region
      all_goals
        go_wp2_with fail
        refine bodyPost_ret (v := .tuple #[.agg #[.int .u8 97, .string ⟨((l.drop k).take (j - k)).toArray⟩, .int .i64 ct, .string ⟨#[]⟩, .slice a5 n5 c5], .bool false]) (by first | (simp [results, Tryz.results110, go_sem, r0, r1, r2, r3, r4]; done) | (simp [results, Tryz.results110, go_sem, r0, r1, r2, r3, r4]; rfl)) rfl ?_
        exact one_no HR.out (rdx_two HS2.out.rdx (two_end _ _ _ _ _ _ _ _ _) hnb1 hnb (by omega) (Nat.le_refl _)) hkj hj2
  · have HR : Hid (rd (l.drop k) = none) := by show _ = _; rw [HDr.out, rd_arr, hct]; rfl
    have HSc := Lib.hid (HSx.out.rd hb hxc)
    have m2 := HSc.out.n2
    have mf2 := HSc.out.nf 2
    have HSd := Lib.hid (HSc.out.set2 hb 0)
    clear hct hxc HCt
    go_wp2_with fail
    clear m2 mf2 HSc
    generalize wc.setCell ⟨w.heap.size + 1, 2, none⟩ (.int .i64 0) = wd at HSd ⊢
    obtain ⟨r0, r1, r2, r3, r4, rf⟩ := five_cells HSd.out.res
    have n0 := HSd.out.n0
    have n1 := HSd.out.n1
    have n2 := HSd.out.n2
    have n3 := HSd.out.n3
    have n4 := HSd.out.n4
    have nf1 := HSd.out.nf 1
    have b0 := HSd.out.text
    have b1 := HSd.out.rdx.pos
    have rf0 := rf 0
    have rf1 := rf 1
    have rf2 := rf 2
    have rf3 := rf 3
    have rf4 := rf 4
    have hex := ext_sub l k (jc)
    have hj0 : (0 : Int) ≤ (k : Int) := by omega
    have hj1 : (k : Int) ≤ (jc : Nat) := by omega
    have hj2 : ((jc : Nat) : Int) ≤ (l.length : Int) := by omega
    clear rf
    go_region
    all_goals
      go_wp2_with fail
      refine bodyPost_ret (v := .tuple #[.agg #[.int .u8 97, .string ⟨((l.drop k).take (jc - k)).toArray⟩, .int .i64 0, .string ⟨#[]⟩, .slice none 0 0], .bool false]) (by first | (simp [results, Tryz.results110, go_sem, r0, r1, r2, r3, r4]; done) | (simp [results, Tryz.results110, go_sem, r0, r1, r2, r3, r4]; rfl)) rfl ?_
      exact one_no HR.out (rdx_two HSd.out.rdx (two_end _ _ _ _ _ _ _ _ _) hnb1 hnb (by omega) (Nat.le_refl _)) (by omega) hjc2
end Go.Proofs.YtjadckhngalmlaaGreatDoor
namespace Go.Proofs.YtjadckhngalmlaaGreatDoor
set_option linter.unusedVariables false
set_option linter.unusedSimpArgs false
set_option maxRecDepth 100000
open Go.RowKit

set_option maxHeartbeats 4000000 in
theorem one_str (B : Nat) (b : Nat) (l : List UInt8) (k : Nat) (cI : Int) (hcI : ((l[k]?.getD 0).toNat : Int) = cI) (w : World) (hb : b < w.heap.size) (hk : k < l.length) (hl : l.length ≤ 65536) (h0 : w.cell? ⟨b, 0, none⟩ = some (.string ⟨l.toArray⟩)) (h1 : w.cell? ⟨b, 1, none⟩ = some (.int .i64 k)) (hf : w.frozen? ⟨b, 1, none⟩ = false) (hE : Env B w) (hB : B ≤ b) (hc : cI = 83) :
    Calls Tryz.prog 110 #[.pointer (some ⟨b, 0, none⟩)] w fun e w' => OneR b l k w e w' := by
  have HLt := Lib.hid (c_letter b l k cI hcI (w.alloc zOb) hk hl ((cell_of_blk (Below.heap_alloc w zOb b hb) 0).trans h0) ((cell_of_blk (Below.heap_alloc w zOb b hb) 1).trans h1) ((frozen_of_blk (Below.heap_alloc w zOb b hb) 1).trans hf))
  have HA := Lib.hid (fun w1 (h : RdW b 0 (w.alloc zOb) (k + 1) w1) => (onA (k := k) (x0 := cI) hb h0 hf h).s)
  have HDr := Lib.hid (drop_letter hk)
  have hnb : ¬ b = w.heap.size := by omega
  have hnb1 : ¬ b = w.heap.size + 1 := by omega
  have hkl : k ≤ l.length := by omega
  have HEn := Lib.hid (fun (wr : World) (j : Nat) (h : RdX b w j wr) => hE.next (h.below hB hb))
  have hk1 : k + 1 ≤ l.length := by omega
  have hNw : B ≤ w.heap.size := by omega
  have hc9 : (l[k]?.getD 0).toNat = 83 := by omega
  have hc8 : l[k]?.getD 0 = 83 := by rw [← UInt8.toNat_inj]; exact hc9
  rw [hc8] at HDr
  clear hcI hc8 hc9 h0 hf
  subst hc
  go_enter Tryz.func110, Tryz.ntmps110
  go_wp2_with fail
  clear h1
  refine HLt.out.mono ?_
  rintro e w1 ⟨rfl, hw1⟩
  have HS := Lib.hid (HA.out w1 hw1)
  have hs1 : w1.heap.size = w.heap.size + 1 := by rw [hw1.size]; simp
  clear hw1 HLt HA
  go_wp2_with fail
  have HSx := HS
  clear HS
  generalize Obj.cells _ _ = ob at HSx ⊢
  generalize w1.alloc ob = wx at HSx ⊢
  clear hs1
  have HCt := Lib.hid (c_tag B b l (k + 1) wx (HEn.out _ _ HSx.out.rdx) hB (by have := HSx.out.size; omega) (by omega) hl HSx.out.text HSx.out.rdx.pos HSx.out.frz)
  go_wp2_with fail
  refine HCt.out.mono ?_
  rintro e wc (⟨s, y, hct, rfl, hxc, hkp⟩ | ⟨hct, s, jc, rfl, hjc1, hjc2, hxc⟩)
  · have HR : Hid (rd (l.drop k) = some (.str s, y)) := by show _ = _; rw [HDr.out, rd_str, hct]; rfl
    have hpl := plc_le l y
    have HSc := Lib.hid (HSx.out.rd hb hxc)
    have m3 := HSc.out.n3
    have mf3 := HSc.out.nf 3
    have HSd := Lib.hid (HSc.out.set3 hb ⟨s.toArray⟩)
    clear hct hxc HCt
    go_wp2_with fail
    clear m3 mf3 HSc
    generalize wc.setCell ⟨w.heap.size + 1, 3, none⟩ (.string ⟨s.toArray⟩) = wd at HSd ⊢
    obtain ⟨r0, r1, r2, r3, r4, rf⟩ := five_cells HSd.out.res
    have n0 := HSd.out.n0
    have n1 := HSd.out.n1
    have n2 := HSd.out.n2
    have n3 := HSd.out.n3
    have n4 := HSd.out.n4
    have nf1 := HSd.out.nf 1
    have b0 := HSd.out.text
    have b1 := HSd.out.rdx.pos
    have rf0 := rf 0
    have rf1 := rf 1
    have rf2 := rf 2
    have rf3 := rf 3
    have rf4 := rf 4
    have hex := ext_sub l k (plc l y)
    have hj0 : (0 : Int) ≤ (k : Int) := by omega
    have hj1 : (k : Int) ≤ (plc l y : Nat) := by omega
    have hj2 : ((plc l y : Nat) : Int) ≤ (l.length : Int) := by omega
    clear rf
    go_region
    all_goals
      go_wp2_with fail
      refine bodyPost_ret (v := .tuple #[.agg #[.int .u8 83, .string ⟨((l.drop k).take (plc l y - k)).toArray⟩, .int .i64 0, .string ⟨s.toArray⟩, .slice none 0 0], .bool true]) (by first | (simp [results, Tryz.results110, go_sem, r0, r1, r2, r3, r4]; done) | (simp [results, Tryz.results110, go_sem, r0, r1, r2, r3, r4]; rfl)) rfl ?_
      exact one_yes (t := .str s) hkl HR.out rfl rfl rfl rfl rfl (rdx_two HSd.out.rdx (two_end _ _ _ _ _ _ _ _ _) hnb1 hnb (by omega) (Nat.le_refl _)) (.leaf _ rfl) (by omega)
  · have HR : Hid (rd (l.drop k) = none) := by show _ = _; rw [HDr.out, rd_str, hct]; rfl
    have HSc := Lib.hid (HSx.out.rd hb hxc)
    have m3 := HSc.out.n3
    have mf3 := HSc.out.nf 3
    have HSd := Lib.hid (HSc.out.set3 hb ⟨s.toArray⟩)
    clear hct hxc HCt
    go_wp2_with fail
    clear m3 mf3 HSc
    generalize wc.setCell ⟨w.heap.size + 1, 3, none⟩ (.string ⟨s.toArray⟩) = wd at HSd ⊢
    obtain ⟨r0, r1, r2, r3, r4, rf⟩ := five_cells HSd.out.res
    have n0 := HSd.out.n0
    have n1 := HSd.out.n1
    have n2 := HSd.out.n2
    have n3 := HSd.out.n3
    have n4 := HSd.out.n4
    have nf1 := HSd.out.nf 1
    have b0 := HSd.out.text
    have b1 := HSd.out.rdx.pos
    have rf0 := rf 0
    have rf1 := rf 1
    have rf2 := rf 2
    have rf3 := rf 3
    have rf4 := rf 4
    have hex := ext_sub l k (jc)
    have hj0 : (0 : Int) ≤ (k : Int) := by omega
    have hj1 : (k : Int) ≤ (jc : Nat) := by omega
    have hj2 : ((jc : Nat) : Int) ≤ (l.length : Int) := by omega
    clear rf
    go_region
    all_goals
      go_wp2_with fail
      refine bodyPost_ret (v := .tuple #[.agg #[.int .u8 83, .string ⟨((l.drop k).take (jc - k)).toArray⟩, .int .i64 0, .string ⟨s.toArray⟩, .slice none 0 0], .bool false]) (by first | (simp [results, Tryz.results110, go_sem, r0, r1, r2, r3, r4]; done) | (simp [results, Tryz.results110, go_sem, r0, r1, r2, r3, r4]; rfl)) rfl ?_
      exact one_no HR.out (rdx_two HSd.out.rdx (two_end _ _ _ _ _ _ _ _ _) hnb1 hnb (by omega) (Nat.le_refl _)) (by omega) hjc2
end Go.Proofs.YtjadckhngalmlaaGreatDoor
namespace Go.Proofs.YtjadckhngalmlaaGreatDoor
set_option linter.unusedVariables false
set_option linter.unusedSimpArgs false
set_option maxRecDepth 100000
open Go.RowKit

set_option maxHeartbeats 4000000 in
theorem one_oth (b : Nat) (l : List UInt8) (k : Nat) (cI : Int) (hcI : ((l[k]?.getD 0).toNat : Int) = cI) (w : World) (hb : b < w.heap.size) (hk : k < l.length) (hl : l.length ≤ 65536) (h0 : w.cell? ⟨b, 0, none⟩ = some (.string ⟨l.toArray⟩)) (h1 : w.cell? ⟨b, 1, none⟩ = some (.int .i64 k)) (hf : w.frozen? ⟨b, 1, none⟩ = false) (hc : cI ≠ 118 ∧ cI ≠ 99 ∧ cI ≠ 115 ∧ cI ≠ 105 ∧ cI ≠ 117 ∧ cI ≠ 106 ∧ cI ≠ 112 ∧ cI ≠ 97 ∧ cI ≠ 83 ∧ cI ≠ 102) :
    Calls Tryz.prog 110 #[.pointer (some ⟨b, 0, none⟩)] w fun e w' => OneR b l k w e w' := by
  have HLt := Lib.hid (c_letter b l k cI hcI (w.alloc zOb) hk hl ((cell_of_blk (Below.heap_alloc w zOb b hb) 0).trans h0) ((cell_of_blk (Below.heap_alloc w zOb b hb) 1).trans h1) ((frozen_of_blk (Below.heap_alloc w zOb b hb) 1).trans hf))
  have HA := Lib.hid (fun w1 (h : RdW b 0 (w.alloc zOb) (k + 1) w1) => (onA (k := k) (x0 := cI) hb h0 hf h).s)
  have HDr := Lib.hid (drop_letter hk)
  have hnb : ¬ b = w.heap.size := by omega
  have hnb1 : ¬ b = w.heap.size + 1 := by omega
  have hkl : k ≤ l.length := by omega
  obtain ⟨c, hc8⟩ : ∃ c : UInt8, l[k]?.getD 0 = c := ⟨_, rfl⟩
  rw [hc8] at HDr hcI
  have hcn : ∀ d : UInt8, (d.toNat : Int) ≠ cI → c ≠ d := fun d h e => h (by rw [← e]; exact hcI)
  have HR : Hid (rd (l.drop k) = none) := by
    show _ = _
    rw [HDr.out]
    refine rd_none c _ ?_ (hcn _ (by simp; omega)) (hcn _ (by simp; omega)) (hcn _ (by simp; omega)) (hcn _ (by simp; omega))
    unfold baseC
    simp only [Bool.or_eq_false_iff, beq_eq_false_iff_ne]
    exact ⟨⟨⟨⟨⟨hcn _ (by simp; omega), hcn _ (by simp; omega)⟩, hcn _ (by simp; omega)⟩, hcn _ (by simp; omega)⟩, hcn _ (by simp; omega)⟩, hcn _ (by simp; omega)⟩
  have hc0 : 0 ≤ cI ∧ cI ≤ 255 := by have := c.toNat_lt; omega
  have h118 : (cI == 118) = false := by rw [beq_eq_false_iff_ne]; omega
  have h99 : (cI == 99) = false := by rw [beq_eq_false_iff_ne]; omega
  have h115 : (cI == 115) = false := by rw [beq_eq_false_iff_ne]; omega
  have h105 : (cI == 105) = false := by rw [beq_eq_false_iff_ne]; omega
  have h117 : (cI == 117) = false := by rw [beq_eq_false_iff_ne]; omega
  have h106 : (cI == 106) = false := by rw [beq_eq_false_iff_ne]; omega
  have h112 : (cI == 112) = false := by rw [beq_eq_false_iff_ne]; omega
  have h97 : (cI == 97) = false := by rw [beq_eq_false_iff_ne]; omega
  have h83 : (cI == 83) = false := by rw [beq_eq_false_iff_ne]; omega
  have h102 : (cI == 102) = false := by rw [beq_eq_false_iff_ne]; omega
  clear hcI hc8 h0 hf hcn hc
  go_enter Tryz.func110, Tryz.ntmps110
  go_wp2_with fail
  clear h1
  refine HLt.out.mono ?_
  rintro e w1 ⟨rfl, hw1⟩
  have HS := Lib.hid (HA.out w1 hw1)
  have hs1 : w1.heap.size = w.heap.size + 1 := by rw [hw1.size]; simp
  clear hw1 HLt HA
  go_wp2_with fail
  have HSx := HS
  clear HS
  generalize Obj.cells _ _ = ob at HSx ⊢
  generalize w1.alloc ob = wx at HSx ⊢
  clear hs1
  obtain ⟨r0, r1, r2, r3, r4, rf⟩ := five_cells HSx.out.res
  have n0 := HSx.out.n0
  have n1 := HSx.out.n1
  have n2 := HSx.out.n2
  have n3 := HSx.out.n3
  have n4 := HSx.out.n4
  have nf1 := HSx.out.nf 1
  have b0 := HSx.out.text
  have b1 := HSx.out.rdx.pos
  have rf0 := rf 0
  have rf1 := rf 1
  have rf2 := rf 2
  have rf3 := rf 3
  have rf4 := rf 4
  have hex := ext_sub l k (k + 1)
  have hj0 : (0 : Int) ≤ (k : Int) := by omega
  have hj1 : (k : Int) ≤ (k : Int) + 1 := by omega
  have hj2 : (k : Int) + 1 ≤ (l.length : Int) := by omega
  clear rf
  go_region
  all_goals
    go_wp2_with fail
    refine bodyPost_ret (v := .tuple #[.agg #[.int .u8 cI, .string ⟨((l.drop k).take (k + 1 - k)).toArray⟩, .int .i64 0, .string ⟨#[]⟩, .slice none 0 0], .bool false]) (by first | (simp [results, Tryz.results110, go_sem, r0, r1, r2, r3, r4]; done) | (simp [results, Tryz.results110, go_sem, r0, r1, r2, r3, r4]; rfl)) rfl ?_
    exact one_no HR.out (rdx_two HSx.out.rdx (two_end _ _ _ _ _ _ _ _ _) hnb1 hnb (by omega) (Nat.le_refl _)) (by omega) (by omega)
set_option maxHeartbeats 4000000 in
theorem one_end (b : Nat) (l : List UInt8) (k : Nat) (w : World) (hb : b < w.heap.size) (hk : k = l.length) (hl : l.length ≤ 65536) (h0 : w.cell? ⟨b, 0, none⟩ = some (.string ⟨l.toArray⟩)) (h1 : w.cell? ⟨b, 1, none⟩ = some (.int .i64 k)) (hf : w.frozen? ⟨b, 1, none⟩ = false) :
    Calls Tryz.prog 110 #[.pointer (some ⟨b, 0, none⟩)] w fun e w' => OneR b l k w e w' := by
  have HLt : Hid (Calls Tryz.prog 118 #[.pointer (some ⟨b, 0, none⟩)] (w.alloc zOb) fun e w' => e = .returned (.int .u8 0) ∧ RdW b 0 (w.alloc zOb) k w') := by
    rw [hk]
    exact c_letter0 b l (w.alloc zOb) ((cell_of_blk (Below.heap_alloc w zOb b hb) 0).trans h0) (by rw [← hk]; exact (cell_of_blk (Below.heap_alloc w zOb b hb) 1).trans h1)
  have HA := Lib.hid (fun w1 (h : RdW b 0 (w.alloc zOb) k w1) => (onA (k := k) (x0 := 0) hb h0 hf h).s)
  have HR : Hid (rd (l.drop k) = none) := by show _ = _; rw [hk, List.drop_length]; rfl
  have hnb : ¬ b = w.heap.size := by omega
  have hnb1 : ¬ b = w.heap.size + 1 := by omega
  clear h0 hf
  go_enter Tryz.func110, Tryz.ntmps110
  go_wp2_with fail
  clear h1
  refine HLt.out.mono ?_
  rintro e w1 ⟨rfl, hw1⟩
  have HS := Lib.hid (HA.out w1 hw1)
  have hs1 : w1.heap.size = w.heap.size + 1 := by rw [hw1.size]; simp
  clear hw1 HLt HA
  go_wp2_with fail
  have HSx := HS
  clear HS
  generalize Obj.cells _ _ = ob at HSx ⊢
  generalize w1.alloc ob = wx at HSx ⊢
  clear hs1
  obtain ⟨r0, r1, r2, r3, r4, rf⟩ := five_cells HSx.out.res
  have n0 := HSx.out.n0
  have n1 := HSx.out.n1
  have n2 := HSx.out.n2
  have n3 := HSx.out.n3
  have n4 := HSx.out.n4
  have nf1 := HSx.out.nf 1
  have b0 := HSx.out.text
  have b1 := HSx.out.rdx.pos
  have rf0 := rf 0
  have rf1 := rf 1
  have rf2 := rf 2
  have rf3 := rf 3
  have rf4 := rf 4
  have hex := ext_sub l k (k)
  have hj0 : (0 : Int) ≤ (k : Int) := by omega
  have hj1 : (k : Int) ≤ (k : Int) := by omega
  have hj2 : (k : Int) ≤ (l.length : Int) := by omega
  clear rf
  go_region
  all_goals
    go_wp2_with fail
    refine bodyPost_ret (v := .tuple #[.agg #[.int .u8 0, .string ⟨((l.drop k).take (k - k)).toArray⟩, .int .i64 0, .string ⟨#[]⟩, .slice none 0 0], .bool false]) (by first | (simp [results, Tryz.results110, go_sem, r0, r1, r2, r3, r4]; done) | (simp [results, Tryz.results110, go_sem, r0, r1, r2, r3, r4]; rfl)) rfl ?_
    exact one_no HR.out (rdx_two HSx.out.rdx (two_end _ _ _ _ _ _ _ _ _) hnb1 hnb (by omega) (Nat.le_refl _)) (by omega) (by omega)
end Go.Proofs.YtjadckhngalmlaaGreatDoor
namespace Go.Proofs.YtjadckhngalmlaaGreatDoor
set_option linter.unusedVariables false
set_option linter.unusedSimpArgs false
set_option maxRecDepth 100000
open Go.RowKit

set_option maxHeartbeats 4000000 in
theorem one_fn (n : Nat) (hO : OneC n) (B : Nat) (b : Nat) (l : List UInt8) (k : Nat) (cI : Int) (hcI : ((l[k]?.getD 0).toNat : Int) = cI) (w : World) (hb : b < w.heap.size) (hk : k < l.length) (hl : l.length ≤ 65536) (h0 : w.cell? ⟨b, 0, none⟩ = some (.string ⟨l.toArray⟩)) (h1 : w.cell? ⟨b, 1, none⟩ = some (.int .i64 k)) (hf : w.frozen? ⟨b, 1, none⟩ = false) (hE : Env B w) (hB : B ≤ b) (hn : (l.drop (k + 1)).length ≤ n) (hc : cI = 102) :
    Calls Tryz.prog 110 #[.pointer (some ⟨b, 0, none⟩)] w fun e w' => OneR b l k w e w' := by
  have HLt := Lib.hid (c_letter b l k cI hcI (w.alloc zOb) hk hl ((cell_of_blk (Below.heap_alloc w zOb b hb) 0).trans h0) ((cell_of_blk (Below.heap_alloc w zOb b hb) 1).trans h1) ((frozen_of_blk (Below.heap_alloc w zOb b hb) 1).trans hf))
  have HA := Lib.hid (fun w1 (h : RdW b 0 (w.alloc zOb) (k + 1) w1) => (onA (k := k) (x0 := cI) hb h0 hf h).s)
  have HDr := Lib.hid (drop_letter hk)
  have hnb : ¬ b = w.heap.size := by omega
  have hnb1 : ¬ b = w.heap.size + 1 := by omega
  have hkl : k ≤ l.length := by omega
  have HEn := Lib.hid (fun (wr : World) (j : Nat) (h : RdX b w j wr) => hE.next (h.below hB hb))
  have hk1 : k + 1 ≤ l.length := by omega
  have hNw : B ≤ w.heap.size := by omega
  have hc9 : (l[k]?.getD 0).toNat = 102 := by omega
  have hc8 : l[k]?.getD 0 = 102 := by rw [← UInt8.toNat_inj]; exact hc9
  rw [hc8] at HDr
  clear hcI hc8 hc9 h0 hf
  subst hc
  go_enter Tryz.func110, Tryz.ntmps110
  go_wp2_with fail
  clear h1
  refine HLt.out.mono ?_
  rintro e w1 ⟨rfl, hw1⟩
  have HS := Lib.hid (HA.out w1 hw1)
  have hs1 : w1.heap.size = w.heap.size + 1 := by rw [hw1.size]; simp
  clear hw1 HLt HA
  go_wp2_with fail
  have HSx := HS
  clear HS
  generalize Obj.cells _ _ = ob at HSx ⊢
  generalize w1.alloc ob = wx at HSx ⊢
  clear hs1
  have HLs := Lib.hid (c_list n hO B b (w.heap.size + 1) (w.heap.size + 2) l (k + 1) _ wx (HEn.out _ _ HSx.out.rdx) hB (by omega) (by omega) (by omega) hnb1 HSx.out.size (by omega) hl hn HSx.out.text HSx.out.rdx.pos HSx.out.frz (HSx.out.nf 4) HSx.out.parts rfl)
  go_wp2_with fail
  refine HLs.out.mono ?_
  rintro e wc (⟨ps, r1, L', v', hct, hL', rfl, hpc, hxc, hkp, hLl, hr1s⟩ | ⟨hct, jc, a5, n5, c5, rfl, hjc1, hjc2, hcc, hxc⟩)
  · obtain ⟨ac, cc, hvc, _⟩ := slc_of hpc.own
    subst hvc
    have HSd := Lib.hid (HSx.out.pt hb hxc hpc.cell)
    have HPc := Lib.hid hpc
    have HLm := Lib.hid hL'
    have HCn : Hid (∃ ts, parL (l.drop (k + 1)) = some (ts, r1) ∧ ts.list = ps) := by
      show ∃ _, _
      unfold lsO at hct
      obtain ⟨q, hq1, hq2⟩ := Option.map_eq_some_iff.1 hct
      cases hq2
      exact ⟨q.1, hq1, rfl⟩
    have hpd := drop_plc hr1s
    have hpl := plc_le l r1
    have hr1l : r1.length ≤ l.length - (k + 1) := by
      have : plc l r1 = l.length - r1.length := rfl
      have := hr1s.length_le
      omega
    clear hct hxc hpc hL' HLs
    have hnd : (l.drop (plc l r1)).length ≤ n := by rw [hpd]; rw [List.length_drop] at hn; omega
    have HPa := Lib.hid (c_part n hO B b (w.heap.size + 1) (w.heap.size + 2) l (plc l r1) L' _ wc (HEn.out _ _ HSd.out.rdx) hB (by omega) (by omega) hnb1 HSd.out.size (by omega) hl (by omega) HSd.out.text HSd.out.rdx.pos HSd.out.frz (HSd.out.nf 4) (by omega) HPc.out)
    go_wp2_with fail
    refine HPa.out.mono ?_
    rintro e w2 (⟨t, y, s, v2, hr, rfl, hp2, hx2⟩ | ⟨hr, j, a5, n5, c5, rfl, hj1, hj2, hc2, hx2⟩)
    · obtain ⟨ts, hts, htl⟩ := HCn.out
      have HR : Hid (rd (l.drop k) = some (.fn ts t, y)) := by
        rw [hpd] at hr
        show _ = _
        rw [HDr.out, rd_fn, hts]
        show (rd r1).map _ = _
        rw [hr]
        rfl
      have hyk2 := (rd_suf2 hr hpl).2
      have hpp : (Ty.fn ts t).parts = (L' ++ [(t, s)]).map Prod.fst := by
        show ts.list ++ [t] = _
        rw [List.map_append, HLm.out, htl]
        rfl
      have HP2 : Hid (Nd (Fm (w.heap.size + 2) w2) w2 (.fn ts t) v2) := hp2.nd hpp (by simp)
      obtain ⟨a4, m4, hv4, _⟩ := HP2.out.sl
      obtain ⟨n4', hn4⟩ : ∃ n4', (Ty.fn ts t).parts.length = n4' := ⟨_, rfl⟩
      rw [hn4] at hv4
      subst hv4
      have HS2 := Lib.hid (HSd.out.pt hb hx2 hp2.cell)
      have hyl := plc_le l y
      clear hp2 hx2 hr HPa hpp hts htl hn4
      go_wp2_with fail
      obtain ⟨r0, r1, r2, r3, r4, rf⟩ := five_cells HS2.out.res
      have n0 := HS2.out.n0
      have n1 := HS2.out.n1
      have n2 := HS2.out.n2
      have n3 := HS2.out.n3
      have n4 := HS2.out.n4
      have nf1 := HS2.out.nf 1
      have b0 := HS2.out.text
      have b1 := HS2.out.rdx.pos
      have rf0 := rf 0
      have rf1 := rf 1
      have rf2 := rf 2
      have rf3 := rf 3
      have rf4 := rf 4
      have hex := ext_sub l k (plc l y)
      have hj0 : (0 : Int) ≤ (k : Int) := by omega
      have hj1 : (k : Int) ≤ (plc l y : Nat) := by omega
      have hj2 : ((plc l y : Nat) : Int) ≤ (l.length : Int) := by omega
      clear rf
      go_region
      all_goals
        go_wp2_with fail
        refine bodyPost_ret (v := .tuple #[.agg #[.int .u8 102, .string ⟨((l.drop k).take (plc l y - k)).toArray⟩, .int .i64 0, .string ⟨#[]⟩, .slice a4 n4' m4], .bool true]) (by first | (simp [results, Tryz.results110, go_sem, r0, r1, r2, r3, r4]; done) | (simp [results, Tryz.results110, go_sem, r0, r1, r2, r3, r4]; rfl)) rfl ?_
        exact one_yes (t := .fn ts t) hkl HR.out rfl rfl rfl rfl rfl (rdx_two HS2.out.rdx (two_end _ _ _ _ _ _ _ _ _) hnb1 hnb (by omega) (Nat.le_refl _)) (nd_two HP2.out (two_end _ _ _ _ _ _ _ _ _) (by omega) (by omega) (by omega)) (by omega)
    · obtain ⟨ts, hts, htl⟩ := HCn.out
      have HR : Hid (rd (l.drop k) = none) := by
        rw [hpd] at hr
        show _ = _
        rw [HDr.out, rd_fn, hts]
        show (rd r1).map _ = _
        rw [hr]
        rfl
      have hkj : k ≤ j := by omega
      have HS2 := Lib.hid (HSd.out.pt hb hx2 hc2)
      clear hc2 hx2 hr HPa hts htl
      go_wp2_with fail
      obtain ⟨r0, r1, r2, r3, r4, rf⟩ := five_cells HS2.out.res
      have n0 := HS2.out.n0
      have n1 := HS2.out.n1
      have n2 := HS2.out.n2
      have n3 := HS2.out.n3
      have n4 := HS2.out.n4
      have nf1 := HS2.out.nf 1
      have b0 := HS2.out.text
      have b1 := HS2.out.rdx.pos
      have rf0 := rf 0
      have rf1 := rf 1
      have rf2 := rf 2
      have rf3 := rf 3
      have rf4 := rf 4
      have hex := ext_sub l k (j)
      have hj0 : (0 : Int) ≤ (k : Int) := by omega
      have hj4 : (k : Int) ≤ (j : Nat) := by omega
      have hj3 : ((j : Nat) : Int) ≤ (l.length : Int) := by omega
      clear rf
      go_region
      all_goals
        go_wp2_with fail
        refine bodyPost_ret (v := .tuple #[.agg #[.int .u8 102, .string ⟨((l.drop k).take (j - k)).toArray⟩, .int .i64 0, .string ⟨#[]⟩, .slice a5 n5 c5], .bool false]) (by first | (simp [results, Tryz.results110, go_sem, r0, r1, r2, r3, r4]; done) | (simp [results, Tryz.results110, go_sem, r0, r1, r2, r3, r4]; rfl)) rfl ?_
        exact one_no HR.out (rdx_two HS2.out.rdx (two_end _ _ _ _ _ _ _ _ _) hnb1 hnb (by omega) (Nat.le_refl _)) hkj hj2
  · have HR : Hid (rd (l.drop k) = none) := by
      show _ = _
      rw [HDr.out, rd_fn]
      unfold lsO at hct
      rw [Option.map_eq_none_iff] at hct
      rw [hct]
      rfl
    have HSd := Lib.hid (HSx.out.pt hb hxc hcc)
    clear hct hxc hcc HLs
    go_wp2_with fail
    obtain ⟨r0, r1, r2, r3, r4, rf⟩ := five_cells HSd.out.res
    have n0 := HSd.out.n0
    have n1 := HSd.out.n1
    have n2 := HSd.out.n2
    have n3 := HSd.out.n3
    have n4 := HSd.out.n4
    have nf1 := HSd.out.nf 1
    have b0 := HSd.out.text
    have b1 := HSd.out.rdx.pos
    have rf0 := rf 0
    have rf1 := rf 1
    have rf2 := rf 2
    have rf3 := rf 3
    have rf4 := rf 4
    have hex := ext_sub l k (jc)
    have hj0 : (0 : Int) ≤ (k : Int) := by omega
    have hj1 : (k : Int) ≤ (jc : Nat) := by omega
    have hj2 : ((jc : Nat) : Int) ≤ (l.length : Int) := by omega
    clear rf
    go_region
    all_goals
      go_wp2_with fail
      refine bodyPost_ret (v := .tuple #[.agg #[.int .u8 102, .string ⟨((l.drop k).take (jc - k)).toArray⟩, .int .i64 0, .string ⟨#[]⟩, .slice a5 n5 c5], .bool false]) (by first | (simp [results, Tryz.results110, go_sem, r0, r1, r2, r3, r4]; done) | (simp [results, Tryz.results110, go_sem, r0, r1, r2, r3, r4]; rfl)) rfl ?_
      exact one_no HR.out (rdx_two HSd.out.rdx (two_end _ _ _ _ _ _ _ _ _) hnb1 hnb (by omega) (Nat.le_refl _)) (by omega) hjc2
end Go.Proofs.YtjadckhngalmlaaGreatDoor
namespace Go.Proofs.YtjadckhngalmlaaGreatDoor
set_option linter.unusedVariables false
set_option linter.unusedSimpArgs false
set_option maxRecDepth 100000
open Go.RowKit

theorem one_zero : OneC 0 := fun B b l k w hE hB hb hk hl hn h0 h1 hf =>
  one_end b l k w hb (by rw [List.length_drop] at hn; omega) hl h0 h1 hf
theorem one_succ (n : Nat) (hO : OneC n) : OneC (n + 1) := fun B b l k w hE hB hb hk hl hn h0 h1 hf => by
  by_cases hkl : k = l.length
  · exact one_end b l k w hb hkl hl h0 h1 hf
  · have hlt : k < l.length := by omega
    have hn1 : (l.drop (k + 1)).length ≤ n := by rw [List.length_drop] at hn ⊢; omega
    obtain ⟨cI, hcI⟩ : ∃ cI : Int, ((l[k]?.getD 0).toNat : Int) = cI := ⟨_, rfl⟩
    by_cases hb1 : cI = 118 ∨ cI = 99 ∨ cI = 115 ∨ cI = 105 ∨ cI = 117 ∨ cI = 106
    · exact one_base b l k cI hcI w hb hlt hl h0 h1 hf hb1
    · by_cases h2 : cI = 112
      · exact one_ptr n hO B b l k cI hcI w hb hlt hl h0 h1 hf hE hB hn1 h2
      · by_cases h3 : cI = 97
        · exact one_arr n hO B b l k cI hcI w hb hlt hl h0 h1 hf hE hB hn1 h3
        · by_cases h4 : cI = 83
          · exact one_str B b l k cI hcI w hb hlt hl h0 h1 hf hE hB h4
          · by_cases h5 : cI = 102
            · exact one_fn n hO B b l k cI hcI w hb hlt hl h0 h1 hf hE hB hn1 h5
            · exact one_oth b l k cI hcI w hb hlt hl h0 h1 hf (by omega)
theorem c_one : ∀ n, OneC n
  | 0 => one_zero
  | n + 1 => one_succ n (c_one n)
def zV : Value := .agg #[.int .u8 0, .string ⟨#[]⟩, .int .i64 0, .string ⟨#[]⟩, .slice none 0 0]
/-- What takeApart answers. -/
def TaR (l : List UInt8) (w : World) (e : Ending) (w' : World) : Prop :=
  Below w.heap.size w w' ∧ ((∃ t s, tyR l = some t ∧ e = .returned (.tuple #[ndV t s, .bool true]) ∧ Nd (Fm w.heap.size w') w' t s) ∨ (tyR l = none ∧ e = .returned (.tuple #[zV, .bool false])))
def rOb (l : List UInt8) : Obj := .cells #[.string ⟨l.toArray⟩, .int .i64 0] 193
theorem ta_world {l : List UInt8} {w w2 : World} {j : Nat} (h : RdX (w.heap.size + 1) ((w.alloc zOb).alloc (rOb l)) j w2) (o : Obj) (n : Nat) :
    Below w.heap.size w ((w2.alloc o).drewN n) ∧ ((w2.alloc o).drewN n).heap[w.heap.size]? = some zOb ∧ (∀ i, i < w2.heap.size → ((w2.alloc o).drewN n).heap[i]? = w2.heap[i]?) := by
  have hs := h.size
  have e : ((w.alloc zOb).alloc (rOb l)).heap.size = w.heap.size + 2 := by simp
  rw [e] at hs
  have hb : ∀ i, i < w2.heap.size → ((w2.alloc o).drewN n).heap[i]? = w2.heap[i]? := fun i hi => Below.heap_alloc w2 o i hi
  refine ⟨⟨h.os, h.tape, h.output, ?_, fun i hi => ?_⟩, ?_, hb⟩
  · show _ ≤ (w2.alloc o).heap.size
    simp
    omega
  · rw [hb i (by omega), h.blk i (by omega) (by omega), Below.heap_alloc _ _ _ (by simp; omega), Below.heap_alloc _ _ _ hi]
  · rw [hb _ (by omega), h.blk _ (by omega) (by omega), Below.heap_alloc _ _ _ (by simp)]
    exact heap_alloc_new w zOb
theorem below_stp {B g : Nat} {w w1 w2 : World} (h : Below B w w1) (k : Stp g w1 w2) (hg : B ≤ g) : Below B w w2 :=
  ⟨k.os.trans h.os, k.tape.trans h.tape, k.output.trans h.output, by rw [k.size]; exact h.size, fun i hi => (k.blk i (by omega)).trans (h.block i hi)⟩
set_option maxHeartbeats 4000000 in
theorem c_takeApart (B : Nat) (l : List UInt8) (w : World) (hE : Env B w) (hB : B ≤ w.heap.size) (hl : l.length ≤ 65536) :
    Calls Tryz.prog 102 #[.string ⟨l.toArray⟩] w fun e w' => TaR l w e w' := by
  have hgt : decide (65536 < (l.length : Int)) = false := by simp; omega
  have hA : Below w.heap.size w ((w.alloc zOb).alloc (rOb l)) := ((Below.refl _ _).alloc (Nat.le_refl _) _).alloc (by simp) _
  have hN : ((w.alloc zOb).alloc (rOb l)).heap[w.heap.size + 1]? = some (rOb l) := by
    have h := heap_alloc_new (w.alloc zOb) (rOb l)
    rw [show (w.alloc zOb).heap.size = w.heap.size + 1 by simp] at h
    exact h
  have HO := Lib.hid (c_one l.length B (w.heap.size + 1) l 0 ((w.alloc zOb).alloc (rOb l)) (hE.next (hA.mono hB)) (by omega) (by simp) (Nat.zero_le _) hl (by simp) (by rw [Lib.cell_of_heap hN]; rfl) (by rw [Lib.cell_of_heap hN]; rfl) (Lib.frozen_of_heap hN 1))
  have HN := Lib.hid hN
  have HTy := Lib.hid (tyR_rd l)
  clear hN hA hE
  go_enter Tryz.func102, Tryz.ntmps102
  go_wp2_with fail
  refine HO.out.mono ?_
  rintro e w2 ⟨q, x0, s1, x2, s3, a4, n4, m4, j, rfl, hkj, hjl, hx, hp⟩
  have HX := Lib.hid hx
  have h2s : w.heap.size + 2 ≤ w2.heap.size := by have := hx.size; simpa using this
  have HW := Lib.hid (ta_world hx)
  have htx : w2.cell? ⟨w.heap.size + 1, 0, none⟩ = some (.string ⟨l.toArray⟩) := (hx.oth 0 (by decide)).trans (by rw [Lib.cell_of_heap HN.out]; rfl)
  have HE : Hid (∀ o, Calls Tryz.prog 111 #[.pointer (some ⟨w.heap.size + 1, 0, none⟩)] (w2.alloc o) fun e w' => e = .returned (.bool (j == l.length)) ∧ ∃ n, w' = (w2.alloc o).drewN n) := fun o => by
    have e := Below.heap_alloc w2 o (w.heap.size + 1) (by omega)
    exact c_isEnd (w.heap.size + 1) l j _ ((cell_of_blk e 0).trans htx) ((cell_of_blk e 1).trans hx.pos)
  clear htx hx HO
  have hp' : (∃ t y s, rd l = some (t, y) ∧ q = true ∧ [Value.int .u8 x0, .string s1, .int .i64 x2, .string s3, .slice a4 n4 m4] = ndC t s ∧ j = plc l y ∧ Nd (Fm (w.heap.size + 2) w2) w2 t s) ∨ (rd l = none ∧ q = false) := by
    rcases hp with ⟨t, y, s, h1, h2, h3, h4, h5⟩ | h
    · exact .inl ⟨t, y, s, h1, h2, h3, h4, h5.mono (fun i hi => ⟨by have := hi.1; simp at this; omega, hi.2⟩) (fun _ _ => rfl)⟩
    · exact .inr h
  clear hp
  rcases hp' with ⟨t, y, s, hr, rfl, hcs, hj, hnd⟩ | ⟨hr, rfl⟩
  · have HNd := Lib.hid hnd
    have HCs := Lib.hid hcs
    have HR0 := Lib.hid hr
    rw [hr] at HTy
    clear hr hnd hcs
    go_wp2_with fail
    refine (HE.out _).mono ?_
    rintro e w3 ⟨rfl, n, rfl⟩
    obtain ⟨h1, h2, h3⟩ := HW.out _ n
    obtain ⟨r0, r1, r2, r3, r4, rf⟩ := five_cells h2
    have HB1 := Lib.hid h1
    have HB3 := Lib.hid h3
    have rf0 := rf 0
    have rf1 := rf 1
    have rf2 := rf 2
    have rf3 := rf 3
    have rf4 := rf 4
    have hn5 := five_cells (w := (w2.alloc (.cells #[.int .u8 x0, .string s1, .int .i64 x2, .string s3, .slice a4 n4 m4] 173)).drewN n) (g := w2.heap.size) (heap_alloc_new w2 _)
    obtain ⟨n0, n1, n2, n3, n4', nf⟩ := hn5
    clear rf nf h1 h2 h3
    generalize (w2.alloc (.cells #[.int .u8 x0, .string s1, .int .i64 x2, .string s3, .slice a4 n4 m4] 173)).drewN n = w4 at *
    by_cases hy : y = []
    · have hjb : (j == l.length) = true := by rw [beq_iff_eq, hj, hy]; unfold plc; simp
      rw [hjb]
      rw [hy] at HTy
      go_wp2_with fail
      refine bodyPost_ret (v := .tuple #[.agg #[.int .u8 x0, .string s1, .int .i64 x2, .string s3, .slice a4 n4 m4], .bool true]) (by simp [results, Tryz.results102, go_sem, r0, r1, r2, r3, r4]) rfl ?_
      have hst := Stp.five0 w.heap.size w4 (.int .u8 x0) (.string s1) (.int .i64 x2) (.string s3) (.slice a4 n4 m4)
      refine ⟨below_stp HB1.out hst (Nat.le_refl _), .inl ⟨t, s, HTy.out, ?_, HNd.out.mono (fun i hi => ⟨by have := hi.1; omega, ?_⟩) (fun i hi => ?_)⟩⟩
      · show Ending.returned (.tuple #[.agg ([Value.int .u8 x0, .string s1, .int .i64 x2, .string s3, .slice a4 n4 m4] : List Value).toArray, .bool true]) = _
        rw [HCs.out]
        rfl
      · rw [hst.size]
        have h5 : w2.heap.size ≤ w4.heap.size := by
          have h6 := (Array.getElem?_eq_some_iff.1 ((HB3.out i hi.2).trans (Array.getElem?_eq_getElem hi.2))).1
          have h7 := World.block_lt_of_cell? w4 ⟨w2.heap.size, 0, none⟩ n0
          exact Nat.le_of_lt h7
        have := hi.2
        omega
      · exact (hst.blk i (by have := hi.1; omega)).trans (HB3.out i hi.2)
    · have hjb : (j == l.length) = false := by
        rw [beq_eq_false_iff_ne, hj]
        have := List.length_pos_iff.2 hy
        unfold plc
        have h8 := congrArg List.length (rd_suf HR0.out)
        rw [List.length_append] at h8
        omega
      rw [hjb]
      have HTy2 : Hid (tyR l = none) := by
        show _ = _
        rw [HTy.out]
        cases y with
        | nil => exact absurd rfl hy
        | cons c y => rfl
      go_wp2_with fail
      refine bodyPost_ret (v := .tuple #[zV, .bool false]) (by simp [zV, results, Tryz.results102, go_sem, r0, r1, r2, r3, r4]) rfl ?_
      have hst := Stp.five0 w.heap.size w4 (.int .u8 0) (.string ⟨#[]⟩) (.int .i64 0) (.string ⟨#[]⟩) (.slice none 0 0)
      exact ⟨below_stp HB1.out hst (Nat.le_refl _), .inr ⟨HTy2.out, rfl⟩⟩
  · rw [hr] at HTy
    have hw2 : w2.heap[w.heap.size]? = some zOb := by
      obtain ⟨_, h2, h3⟩ := HW.out zOb 0
      exact (h3 _ (by omega)).symm.trans h2
    obtain ⟨r0, r1, r2, r3, r4, rf⟩ := five_cells hw2
    have rf0 := rf 0
    have rf1 := rf 1
    have rf2 := rf 2
    have rf3 := rf 3
    have rf4 := rf 4
    have hlt : w.heap.size < w2.heap.size := by omega
    have HB : Hid (Below w.heap.size w w2) := by
      obtain ⟨h1, _, h3⟩ := HW.out zOb 0
      exact ⟨h1.os, h1.tape, h1.output, by omega, fun i hi => (h3 i (by omega)).symm.trans (h1.block i hi)⟩
    clear hr HE rf hw2
    go_wp2_with fail
    refine bodyPost_ret (v := .tuple #[zV, .bool false]) (by simp [zV, results, Tryz.results102, go_sem, r0, r1, r2, r3, r4, hlt]) rfl ?_
    refine ⟨?_, .inr ⟨HTy.out, rfl⟩⟩
    have hst := Stp.five0 w.heap.size w2 (.int .u8 0) (.string ⟨#[]⟩) (.int .i64 0) (.string ⟨#[]⟩) (.slice none 0 0)
    exact (below_stp HB.out hst (Nat.le_refl _)).alloc (by rw [hst.size]; omega) _
end Go.Proofs.YtjadckhngalmlaaGreatDoor
