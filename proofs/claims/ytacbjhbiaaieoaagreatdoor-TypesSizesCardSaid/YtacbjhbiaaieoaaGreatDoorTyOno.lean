/-
  The contract of the reader of one type, in the code: a case.
-/
import Derived.Test.YtacbjhbiaaieoaaGreatDoorTyOnh
namespace Go.Proofs.YtacbjhbiaaieoaaGreatDoor
set_option linter.unusedVariables false
set_option linter.unusedSimpArgs false
set_option maxRecDepth 100000
open Go.RowKit

set_option maxHeartbeats 4000000 in
theorem one_oth (b : Nat) (l : List UInt8) (k : Nat) (cI : Int) (hcI : ((l[k]?.getD 0).toNat : Int) = cI) (w : World) (hb : b < w.heap.size) (hk : k < l.length) (hl : l.length ≤ 65536) (h0 : w.cell? ⟨b, 0, none⟩ = some (.string ⟨l.toArray⟩)) (h1 : w.cell? ⟨b, 1, none⟩ = some (.int .i64 k)) (hf : w.frozen? ⟨b, 1, none⟩ = false) (hc : cI ≠ 118 ∧ cI ≠ 99 ∧ cI ≠ 115 ∧ cI ≠ 105 ∧ cI ≠ 117 ∧ cI ≠ 106 ∧ cI ≠ 112 ∧ cI ≠ 97 ∧ cI ≠ 83 ∧ cI ≠ 102) :
    Calls Tryz.prog 72 #[.pointer (some ⟨b, 0, none⟩)] w fun e w' => OneR b l k w e w' := by
  have HLt := Lib.hid (c_letter b l k cI hcI (w.alloc zOb) hk hl ((cell_of_blk (Below.heap_alloc w zOb b hb) 0).trans h0) ((cell_of_blk (Below.heap_alloc w zOb b hb) 1).trans h1) ((frozen_of_blk (Below.heap_alloc w zOb b hb) 1).trans hf))
  have HA := Lib.hid (fun w1 (h : RdW b 0 (w.alloc zOb) (k + 1) w1) => (onA (k := k) (x0 := cI) hb h0 hf h).s)
  have HDr := Lib.hid (drop_letter hk)
  have hnb : ¬ b = w.heap.size := by omega
  have hnb1 : ¬ b = w.heap.size + 1 := by omega
  have hkl : k ≤ l.length := by omega
  obtain ⟨c, hc8⟩ : ∃ c : UInt8, l[k]?.getD 0 = c := ⟨_, rfl⟩
  rw [hc8] at HDr hcI
  have hcn : ∀ d : UInt8, (d.toNat : Int) ≠ cI → c ≠ d := fun d h e => h (by rw [← e]; exact hcI)
  have HR : Hid (rd (l.drop k) = none) := by
    show _ = _
    rw [HDr.out]
    refine rd_none c _ ?_ (hcn _ (by simp; omega)) (hcn _ (by simp; omega)) (hcn _ (by simp; omega)) (hcn _ (by simp; omega))
    unfold baseC
    simp only [Bool.or_eq_false_iff, beq_eq_false_iff_ne]
    exact ⟨⟨⟨⟨⟨hcn _ (by simp; omega), hcn _ (by simp; omega)⟩, hcn _ (by simp; omega)⟩, hcn _ (by simp; omega)⟩, hcn _ (by simp; omega)⟩, hcn _ (by simp; omega)⟩
  have hc0 : 0 ≤ cI ∧ cI ≤ 255 := by have := c.toNat_lt; omega
  have h118 : (cI == 118) = false := by rw [beq_eq_false_iff_ne]; omega
  have h99 : (cI == 99) = false := by rw [beq_eq_false_iff_ne]; omega
  have h115 : (cI == 115) = false := by rw [beq_eq_false_iff_ne]; omega
  have h105 : (cI == 105) = false := by rw [beq_eq_false_iff_ne]; omega
  have h117 : (cI == 117) = false := by rw [beq_eq_false_iff_ne]; omega
  have h106 : (cI == 106) = false := by rw [beq_eq_false_iff_ne]; omega
  have h112 : (cI == 112) = false := by rw [beq_eq_false_iff_ne]; omega
  have h97 : (cI == 97) = false := by rw [beq_eq_false_iff_ne]; omega
  have h83 : (cI == 83) = false := by rw [beq_eq_false_iff_ne]; omega
  have h102 : (cI == 102) = false := by rw [beq_eq_false_iff_ne]; omega
  clear hcI hc8 h0 hf hcn hc
  go_enter Tryz.func72, Tryz.ntmps72
  go_wp2_with fail
  clear h1
  refine HLt.out.mono ?_
  rintro e w1 ⟨rfl, hw1⟩
  have HS := Lib.hid (HA.out w1 hw1)
  have hs1 : w1.heap.size = w.heap.size + 1 := by rw [hw1.size]; simp
  clear hw1 HLt HA
  go_wp2_with fail
  have HSx := HS
  clear HS
  generalize Obj.cells _ _ = ob at HSx ⊢
  generalize w1.alloc ob = wx at HSx ⊢
  clear hs1
  obtain ⟨r0, r1, r2, r3, r4, rf⟩ := five_cells HSx.out.res
  have n0 := HSx.out.n0
  have n1 := HSx.out.n1
  have n2 := HSx.out.n2
  have n3 := HSx.out.n3
  have n4 := HSx.out.n4
  have nf1 := HSx.out.nf 1
  have b0 := HSx.out.text
  have b1 := HSx.out.rdx.pos
  have rf0 := rf 0
  have rf1 := rf 1
  have rf2 := rf 2
  have rf3 := rf 3
  have rf4 := rf 4
  have hex := ext_sub l k (k + 1)
  have hj0 : (0 : Int) ≤ (k : Int) := by omega
  have hj1 : (k : Int) ≤ (k : Int) + 1 := by omega
  have hj2 : (k : Int) + 1 ≤ (l.length : Int) := by omega
  clear rf
  go_region
  all_goals
    go_wp2_with fail
    refine bodyPost_ret (v := .tuple #[.agg #[.int .u8 cI, .string ⟨((l.drop k).take (k + 1 - k)).toArray⟩, .int .i64 0, .string ⟨#[]⟩, .slice none 0 0], .bool false]) (by first | (simp [results, Tryz.results72, go_sem, r0, r1, r2, r3, r4]; done) | (simp [results, Tryz.results72, go_sem, r0, r1, r2, r3, r4]; rfl)) rfl ?_
    exact one_no HR.out (rdx_two HSx.out.rdx (two_end _ _ _ _ _ _ _ _ _) hnb1 hnb (by omega) (Nat.le_refl _)) (by omega) (by omega)
set_option maxHeartbeats 4000000 in
theorem one_end (b : Nat) (l : List UInt8) (k : Nat) (w : World) (hb : b < w.heap.size) (hk : k = l.length) (hl : l.length ≤ 65536) (h0 : w.cell? ⟨b, 0, none⟩ = some (.string ⟨l.toArray⟩)) (h1 : w.cell? ⟨b, 1, none⟩ = some (.int .i64 k)) (hf : w.frozen? ⟨b, 1, none⟩ = false) :
    Calls Tryz.prog 72 #[.pointer (some ⟨b, 0, none⟩)] w fun e w' => OneR b l k w e w' := by
  have HLt : Hid (Calls Tryz.prog 101 #[.pointer (some ⟨b, 0, none⟩)] (w.alloc zOb) fun e w' => e = .returned (.int .u8 0) ∧ RdW b 0 (w.alloc zOb) k w') := by
    rw [hk]
    exact c_letter0 b l (w.alloc zOb) ((cell_of_blk (Below.heap_alloc w zOb b hb) 0).trans h0) (by rw [← hk]; exact (cell_of_blk (Below.heap_alloc w zOb b hb) 1).trans h1)
  have HA := Lib.hid (fun w1 (h : RdW b 0 (w.alloc zOb) k w1) => (onA (k := k) (x0 := 0) hb h0 hf h).s)
  have HR : Hid (rd (l.drop k) = none) := by show _ = _; rw [hk, List.drop_length]; rfl
  have hnb : ¬ b = w.heap.size := by omega
  have hnb1 : ¬ b = w.heap.size + 1 := by omega
  clear h0 hf
  go_enter Tryz.func72, Tryz.ntmps72
  go_wp2_with fail
  clear h1
  refine HLt.out.mono ?_
  rintro e w1 ⟨rfl, hw1⟩
  have HS := Lib.hid (HA.out w1 hw1)
  have hs1 : w1.heap.size = w.heap.size + 1 := by rw [hw1.size]; simp
  clear hw1 HLt HA
  go_wp2_with fail
  have HSx := HS
  clear HS
  generalize Obj.cells _ _ = ob at HSx ⊢
  generalize w1.alloc ob = wx at HSx ⊢
  clear hs1
  obtain ⟨r0, r1, r2, r3, r4, rf⟩ := five_cells HSx.out.res
  have n0 := HSx.out.n0
  have n1 := HSx.out.n1
  have n2 := HSx.out.n2
  have n3 := HSx.out.n3
  have n4 := HSx.out.n4
  have nf1 := HSx.out.nf 1
  have b0 := HSx.out.text
  have b1 := HSx.out.rdx.pos
  have rf0 := rf 0
  have rf1 := rf 1
  have rf2 := rf 2
  have rf3 := rf 3
  have rf4 := rf 4
  have hex := ext_sub l k (k)
  have hj0 : (0 : Int) ≤ (k : Int) := by omega
  have hj1 : (k : Int) ≤ (k : Int) := by omega
  have hj2 : (k : Int) ≤ (l.length : Int) := by omega
  clear rf
  go_region
  all_goals
    go_wp2_with fail
    refine bodyPost_ret (v := .tuple #[.agg #[.int .u8 0, .string ⟨((l.drop k).take (k - k)).toArray⟩, .int .i64 0, .string ⟨#[]⟩, .slice none 0 0], .bool false]) (by first | (simp [results, Tryz.results72, go_sem, r0, r1, r2, r3, r4]; done) | (simp [results, Tryz.results72, go_sem, r0, r1, r2, r3, r4]; rfl)) rfl ?_
    exact one_no HR.out (rdx_two HSx.out.rdx (two_end _ _ _ _ _ _ _ _ _) hnb1 hnb (by omega) (Nat.le_refl _)) (by omega) (by omega)
end Go.Proofs.YtacbjhbiaaieoaaGreatDoor
