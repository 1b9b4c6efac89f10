/-
  The contract of the reader of one type, in the code: a case.
-/
import Derived.Test.YtacbjhbiaaieoaaGreatDoorTyOnh
namespace Go.Proofs.YtacbjhbiaaieoaaGreatDoor
set_option linter.unusedVariables false
set_option linter.unusedSimpArgs false
set_option maxRecDepth 100000
open Go.RowKit

set_option maxHeartbeats 4000000 in
theorem one_base (b : Nat) (l : List UInt8) (k : Nat) (cI : Int) (hcI : ((l[k]?.getD 0).toNat : Int) = cI) (w : World) (hb : b < w.heap.size) (hk : k < l.length) (hl : l.length ≤ 65536) (h0 : w.cell? ⟨b, 0, none⟩ = some (.string ⟨l.toArray⟩)) (h1 : w.cell? ⟨b, 1, none⟩ = some (.int .i64 k)) (hf : w.frozen? ⟨b, 1, none⟩ = false) (hc : cI = 118 ∨ cI = 99 ∨ cI = 115 ∨ cI = 105 ∨ cI = 117 ∨ cI = 106) :
    Calls Tryz.prog 72 #[.pointer (some ⟨b, 0, none⟩)] w fun e w' => OneR b l k w e w' := by
  have HLt := Lib.hid (c_letter b l k cI hcI (w.alloc zOb) hk hl ((cell_of_blk (Below.heap_alloc w zOb b hb) 0).trans h0) ((cell_of_blk (Below.heap_alloc w zOb b hb) 1).trans h1) ((frozen_of_blk (Below.heap_alloc w zOb b hb) 1).trans hf))
  have HA := Lib.hid (fun w1 (h : RdW b 0 (w.alloc zOb) (k + 1) w1) => (onA (k := k) (x0 := cI) hb h0 hf h).s)
  have HDr := Lib.hid (drop_letter hk)
  have hnb : ¬ b = w.heap.size := by omega
  have hnb1 : ¬ b = w.heap.size + 1 := by omega
  have hkl : k ≤ l.length := by omega
  obtain ⟨c, hc8⟩ : ∃ c : UInt8, l[k]?.getD 0 = c := ⟨_, rfl⟩
  rw [hc8] at HDr hcI
  have HR : Hid (rd (l.drop k) = some (.base c, l.drop (k + 1))) := by
    show _ = _
    rw [HDr.out]
    refine rd_base c _ ?_
    unfold baseC
    have : c.toNat = 118 ∨ c.toNat = 99 ∨ c.toNat = 115 ∨ c.toNat = 105 ∨ c.toNat = 117 ∨ c.toNat = 106 := by omega
    simp only [Bool.or_eq_true, beq_iff_eq, ← UInt8.toNat_inj]
    exact by rcases this with h | h | h | h | h | h <;> (rw [h]; decide)
  have HP : Hid (k + 1 = plc l (l.drop (k + 1))) := (plc_drop (by omega)).symm
  have HC := Lib.hid hcI
  clear hcI hc8 h0 hf
  rcases hc with hc | hc | hc | hc | hc | hc
  · subst hc
    go_enter Tryz.func72, Tryz.ntmps72
    go_wp2_with fail
    clear h1
    refine HLt.out.mono ?_
    rintro e w1 ⟨rfl, hw1⟩
    have HS := Lib.hid (HA.out w1 hw1)
    have hs1 : w1.heap.size = w.heap.size + 1 := by rw [hw1.size]; simp
    clear hw1 HLt HA
    go_wp2_with fail
    have HSx := HS
    clear HS
    generalize Obj.cells _ _ = ob at HSx ⊢
    generalize w1.alloc ob = wx at HSx ⊢
    clear hs1
    obtain ⟨r0, r1, r2, r3, r4, rf⟩ := five_cells HSx.out.res
    have n0 := HSx.out.n0
    have n1 := HSx.out.n1
    have n2 := HSx.out.n2
    have n3 := HSx.out.n3
    have n4 := HSx.out.n4
    have nf1 := HSx.out.nf 1
    have b0 := HSx.out.text
    have b1 := HSx.out.rdx.pos
    have rf0 := rf 0
    have rf1 := rf 1
    have rf2 := rf 2
    have rf3 := rf 3
    have rf4 := rf 4
    have hex := ext_sub l k (k + 1)
    have hj0 : (0 : Int) ≤ (k : Int) := by omega
    have hj1 : (k : Int) ≤ (k : Int) + 1 := by omega
    have hj2 : (k : Int) + 1 ≤ (l.length : Int) := by omega
    clear rf
    go_region
    all_goals
      go_wp2_with fail
      refine bodyPost_ret (v := .tuple #[.agg #[.int .u8 118, .string ⟨((l.drop k).take (k + 1 - k)).toArray⟩, .int .i64 0, .string ⟨#[]⟩, .slice none 0 0], .bool true]) (by first | (simp [results, Tryz.results72, go_sem, r0, r1, r2, r3, r4]; done) | (simp [results, Tryz.results72, go_sem, r0, r1, r2, r3, r4]; rfl)) rfl ?_
      exact one_yes (t := .base c) hkl HR.out HP.out HC.out.symm rfl rfl rfl (rdx_two HSx.out.rdx (two_end _ _ _ _ _ _ _ _ _) hnb1 hnb (by omega) (Nat.le_refl _)) (.leaf _ rfl) (by omega)
  · subst hc
    go_enter Tryz.func72, Tryz.ntmps72
    go_wp2_with fail
    clear h1
    refine HLt.out.mono ?_
    rintro e w1 ⟨rfl, hw1⟩
    have HS := Lib.hid (HA.out w1 hw1)
    have hs1 : w1.heap.size = w.heap.size + 1 := by rw [hw1.size]; simp
    clear hw1 HLt HA
    go_wp2_with fail
    have HSx := HS
    clear HS
    generalize Obj.cells _ _ = ob at HSx ⊢
    generalize w1.alloc ob = wx at HSx ⊢
    clear hs1
    obtain ⟨r0, r1, r2, r3, r4, rf⟩ := five_cells HSx.out.res
    have n0 := HSx.out.n0
    have n1 := HSx.out.n1
    have n2 := HSx.out.n2
    have n3 := HSx.out.n3
    have n4 := HSx.out.n4
    have nf1 := HSx.out.nf 1
    have b0 := HSx.out.text
    have b1 := HSx.out.rdx.pos
    have rf0 := rf 0
    have rf1 := rf 1
    have rf2 := rf 2
    have rf3 := rf 3
    have rf4 := rf 4
    have hex := ext_sub l k (k + 1)
    have hj0 : (0 : Int) ≤ (k : Int) := by omega
    have hj1 : (k : Int) ≤ (k : Int) + 1 := by omega
    have hj2 : (k : Int) + 1 ≤ (l.length : Int) := by omega
    clear rf
    go_region
    all_goals
      go_wp2_with fail
      refine bodyPost_ret (v := .tuple #[.agg #[.int .u8 99, .string ⟨((l.drop k).take (k + 1 - k)).toArray⟩, .int .i64 0, .string ⟨#[]⟩, .slice none 0 0], .bool true]) (by first | (simp [results, Tryz.results72, go_sem, r0, r1, r2, r3, r4]; done) | (simp [results, Tryz.results72, go_sem, r0, r1, r2, r3, r4]; rfl)) rfl ?_
      exact one_yes (t := .base c) hkl HR.out HP.out HC.out.symm rfl rfl rfl (rdx_two HSx.out.rdx (two_end _ _ _ _ _ _ _ _ _) hnb1 hnb (by omega) (Nat.le_refl _)) (.leaf _ rfl) (by omega)
  · subst hc
    go_enter Tryz.func72, Tryz.ntmps72
    go_wp2_with fail
    clear h1
    refine HLt.out.mono ?_
    rintro e w1 ⟨rfl, hw1⟩
    have HS := Lib.hid (HA.out w1 hw1)
    have hs1 : w1.heap.size = w.heap.size + 1 := by rw [hw1.size]; simp
    clear hw1 HLt HA
    go_wp2_with fail
    have HSx := HS
    clear HS
    generalize Obj.cells _ _ = ob at HSx ⊢
    generalize w1.alloc ob = wx at HSx ⊢
    clear hs1
    obtain ⟨r0, r1, r2, r3, r4, rf⟩ := five_cells HSx.out.res
    have n0 := HSx.out.n0
    have n1 := HSx.out.n1
    have n2 := HSx.out.n2
    have n3 := HSx.out.n3
    have n4 := HSx.out.n4
    have nf1 := HSx.out.nf 1
    have b0 := HSx.out.text
    have b1 := HSx.out.rdx.pos
    have rf0 := rf 0
    have rf1 := rf 1
    have rf2 := rf 2
    have rf3 := rf 3
    have rf4 := rf 4
    have hex := ext_sub l k (k + 1)
    have hj0 : (0 : Int) ≤ (k : Int) := by omega
    have hj1 : (k : Int) ≤ (k : Int) + 1 := by omega
    have hj2 : (k : Int) + 1 ≤ (l.length : Int) := by omega
    clear rf
    go_region
    all_goals
      go_wp2_with fail
      refine bodyPost_ret (v := .tuple #[.agg #[.int .u8 115, .string ⟨((l.drop k).take (k + 1 - k)).toArray⟩, .int .i64 0, .string ⟨#[]⟩, .slice none 0 0], .bool true]) (by first | (simp [results, Tryz.results72, go_sem, r0, r1, r2, r3, r4]; done) | (simp [results, Tryz.results72, go_sem, r0, r1, r2, r3, r4]; rfl)) rfl ?_
      exact one_yes (t := .base c) hkl HR.out HP.out HC.out.symm rfl rfl rfl (rdx_two HSx.out.rdx (two_end _ _ _ _ _ _ _ _ _) hnb1 hnb (by omega) (Nat.le_refl _)) (.leaf _ rfl) (by omega)
  · subst hc
    go_enter Tryz.func72, Tryz.ntmps72
    go_wp2_with fail
    clear h1
    refine HLt.out.mono ?_
    rintro e w1 ⟨rfl, hw1⟩
    have HS := Lib.hid (HA.out w1 hw1)
    have hs1 : w1.heap.size = w.heap.size + 1 := by rw [hw1.size]; simp
    clear hw1 HLt HA
    go_wp2_with fail
    have HSx := HS
    clear HS
    generalize Obj.cells _ _ = ob at HSx ⊢
    generalize w1.alloc ob = wx at HSx ⊢
    clear hs1
    obtain ⟨r0, r1, r2, r3, r4, rf⟩ := five_cells HSx.out.res
    have n0 := HSx.out.n0
    have n1 := HSx.out.n1
    have n2 := HSx.out.n2
    have n3 := HSx.out.n3
    have n4 := HSx.out.n4
    have nf1 := HSx.out.nf 1
    have b0 := HSx.out.text
    have b1 := HSx.out.rdx.pos
    have rf0 := rf 0
    have rf1 := rf 1
    have rf2 := rf 2
    have rf3 := rf 3
    have rf4 := rf 4
    have hex := ext_sub l k (k + 1)
    have hj0 : (0 : Int) ≤ (k : Int) := by omega
    have hj1 : (k : Int) ≤ (k : Int) + 1 := by omega
    have hj2 : (k : Int) + 1 ≤ (l.length : Int) := by omega
    clear rf
    go_region
    all_goals
      go_wp2_with fail
      refine bodyPost_ret (v := .tuple #[.agg #[.int .u8 105, .string ⟨((l.drop k).take (k + 1 - k)).toArray⟩, .int .i64 0, .string ⟨#[]⟩, .slice none 0 0], .bool true]) (by first | (simp [results, Tryz.results72, go_sem, r0, r1, r2, r3, r4]; done) | (simp [results, Tryz.results72, go_sem, r0, r1, r2, r3, r4]; rfl)) rfl ?_
      exact one_yes (t := .base c) hkl HR.out HP.out HC.out.symm rfl rfl rfl (rdx_two HSx.out.rdx (two_end _ _ _ _ _ _ _ _ _) hnb1 hnb (by omega) (Nat.le_refl _)) (.leaf _ rfl) (by omega)
  · subst hc
    go_enter Tryz.func72, Tryz.ntmps72
    go_wp2_with fail
    clear h1
    refine HLt.out.mono ?_
    rintro e w1 ⟨rfl, hw1⟩
    have HS := Lib.hid (HA.out w1 hw1)
    have hs1 : w1.heap.size = w.heap.size + 1 := by rw [hw1.size]; simp
    clear hw1 HLt HA
    go_wp2_with fail
    have HSx := HS
    clear HS
    generalize Obj.cells _ _ = ob at HSx ⊢
    generalize w1.alloc ob = wx at HSx ⊢
    clear hs1
    obtain ⟨r0, r1, r2, r3, r4, rf⟩ := five_cells HSx.out.res
    have n0 := HSx.out.n0
    have n1 := HSx.out.n1
    have n2 := HSx.out.n2
    have n3 := HSx.out.n3
    have n4 := HSx.out.n4
    have nf1 := HSx.out.nf 1
    have b0 := HSx.out.text
    have b1 := HSx.out.rdx.pos
    have rf0 := rf 0
    have rf1 := rf 1
    have rf2 := rf 2
    have rf3 := rf 3
    have rf4 := rf 4
    have hex := ext_sub l k (k + 1)
    have hj0 : (0 : Int) ≤ (k : Int) := by omega
    have hj1 : (k : Int) ≤ (k : Int) + 1 := by omega
    have hj2 : (k : Int) + 1 ≤ (l.length : Int) := by omega
    clear rf
    go_region
    all_goals
      go_wp2_with fail
      refine bodyPost_ret (v := .tuple #[.agg #[.int .u8 117, .string ⟨((l.drop k).take (k + 1 - k)).toArray⟩, .int .i64 0, .string ⟨#[]⟩, .slice none 0 0], .bool true]) (by first | (simp [results, Tryz.results72, go_sem, r0, r1, r2, r3, r4]; done) | (simp [results, Tryz.results72, go_sem, r0, r1, r2, r3, r4]; rfl)) rfl ?_
      exact one_yes (t := .base c) hkl HR.out HP.out HC.out.symm rfl rfl rfl (rdx_two HSx.out.rdx (two_end _ _ _ _ _ _ _ _ _) hnb1 hnb (by omega) (Nat.le_refl _)) (.leaf _ rfl) (by omega)
  · subst hc
    go_enter Tryz.func72, Tryz.ntmps72
    go_wp2_with fail
    clear h1
    refine HLt.out.mono ?_
    rintro e w1 ⟨rfl, hw1⟩
    have HS := Lib.hid (HA.out w1 hw1)
    have hs1 : w1.heap.size = w.heap.size + 1 := by rw [hw1.size]; simp
    clear hw1 HLt HA
    go_wp2_with fail
    have HSx := HS
    clear HS
    generalize Obj.cells _ _ = ob at HSx ⊢
    generalize w1.alloc ob = wx at HSx ⊢
    clear hs1
    obtain ⟨r0, r1, r2, r3, r4, rf⟩ := five_cells HSx.out.res
    have n0 := HSx.out.n0
    have n1 := HSx.out.n1
    have n2 := HSx.out.n2
    have n3 := HSx.out.n3
    have n4 := HSx.out.n4
    have nf1 := HSx.out.nf 1
    have b0 := HSx.out.text
    have b1 := HSx.out.rdx.pos
    have rf0 := rf 0
    have rf1 := rf 1
    have rf2 := rf 2
    have rf3 := rf 3
    have rf4 := rf 4
    have hex := ext_sub l k (k + 1)
    have hj0 : (0 : Int) ≤ (k : Int) := by omega
    have hj1 : (k : Int) ≤ (k : Int) + 1 := by omega
    have hj2 : (k : Int) + 1 ≤ (l.length : Int) := by omega
    clear rf
    go_region
    all_goals
      go_wp2_with fail
      refine bodyPost_ret (v := .tuple #[.agg #[.int .u8 106, .string ⟨((l.drop k).take (k + 1 - k)).toArray⟩, .int .i64 0, .string ⟨#[]⟩, .slice none 0 0], .bool true]) (by first | (simp [results, Tryz.results72, go_sem, r0, r1, r2, r3, r4]; done) | (simp [results, Tryz.results72, go_sem, r0, r1, r2, r3, r4]; rfl)) rfl ?_
      exact one_yes (t := .base c) hkl HR.out HP.out HC.out.symm rfl rfl rfl (rdx_two HSx.out.rdx (two_end _ _ _ _ _ _ _ _ _) hnb1 hnb (by omega) (Nat.le_refl _)) (.leaf _ rfl) (by omega)
end Go.Proofs.YtacbjhbiaaieoaaGreatDoor
