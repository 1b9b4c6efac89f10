/-
  Several contracts on types, in the code.
-/
import Derived.Test.YtiodghbhllfhlaaGreatDoorZTyK3
namespace Go.Proofs.YtiodghbhllfhlaaGreatDoor
set_option linter.unusedVariables false
set_option linter.unusedSimpArgs false
set_option maxRecDepth 100000
open Go.RowKit

theorem nm_t : nameB [116] = true := by unfold nameB wordB keyB; decide +kernel
theorem nm_1 : nameB [102, 105, 114, 115, 116] = true := by unfold nameB wordB keyB; decide +kernel
theorem nm_2 : nameB [115, 101, 99, 111, 110, 100] = true := by unfold nameB wordB keyB; decide +kernel
abbrev sTt : ByteArray := ⟨#[116]⟩
abbrev sT1 : ByteArray := ⟨#[102, 105, 114, 115, 116]⟩
abbrev sT2 : ByteArray := ⟨#[115, 101, 99, 111, 110, 100]⟩
abbrev lOb (x y z : Int) (ma : Option Addr) (mn mc : Nat) : Obj := .cells #[.int .i64 x, .int .i64 y, .int .i64 z, .string sTt, .slice ma mn mc] 165
theorem infoMb : (Tryz.prog.info? 194).map (fun i => (i.zero, i.size, i.bytes)) = some (some (.agg #[.int .u8 0, .string ByteArray.empty, .int .i64 0, .string ByteArray.empty, .slice none 0 0, .string ByteArray.empty, .int .i64 0]), 7, 96) := by kernel_rfl
theorem mC_one (x0 : Int) (s1 nm : ByteArray) (at' : Int) : ∀ u ∈ mC x0 s1 nm at', u.oneCell' = true := by
  intro u hu
  simp only [List.mem_cons, List.not_mem_nil, or_false] at hu
  rcases hu with rfl | rfl | rfl | rfl | rfl | rfl | rfl <;> rfl
/-- The struct's block behind the stores of a round. -/
theorem x_set {w : World} {X : Nat} {x y z x' y' z' : Int} {ma ma' : Option Addr} {mn mc mn' mc' : Nat} (h : w.heap[X]? = some (lOb x y z ma mn mc)) :
    ((((w.setCell ⟨X, 4, none⟩ (.slice ma' mn' mc')).setCell ⟨X, 0, none⟩ (.int .i64 x')).setCell ⟨X, 1, none⟩ (.int .i64 y')).setCell ⟨X, 2, none⟩ (.int .i64 z')).heap[X]? = some (lOb x' y' z' ma' mn' mc') := by
  have h1 := heap_setCell_same w X 4 _ _ (.slice ma' mn' mc') h
  have h2 := heap_setCell_same _ X 0 _ _ (.int .i64 x') h1
  have h3 := heap_setCell_same _ X 1 _ _ (.int .i64 y') h2
  have h4 := heap_setCell_same _ X 2 _ _ (.int .i64 z') h3
  exact h4
theorem x_stp (X : Nat) (w : World) (a b c d : Value) : Stp X w ((((w.setCell ⟨X, 4, none⟩ a).setCell ⟨X, 0, none⟩ b).setCell ⟨X, 1, none⟩ c).setCell ⟨X, 2, none⟩ d) :=
  (((Stp.set X 4 w a).trans (Stp.set X 0 _ b)).trans (Stp.set X 1 _ c)).trans (Stp.set X 2 _ d)
theorem own_form {w : World} {N : Nat} {T : TypeId} {z : Nat} {v : Value} {n : Nat} {xs : List Value} (h : w.ownsRow N T z v (n + 1) xs) : ∃ g cap, v = .slice (some ⟨g, 0, none⟩) (n + 1) cap ∧ N ≤ g ∧ n + 1 ≤ cap ∧ g < w.heap.size := by
  rcases h.2 with ⟨_, hz⟩ | ⟨g, cap, cur, hv, hb, hg, h1, _⟩
  · omega
  · exact ⟨g, cap, hv, hb, h1, (Array.getElem?_eq_some_iff.1 hg).1⟩
/-- Behind a round: what was laid ahead of it stands. -/
theorem rnd_end {B X : Nat} {w W2 wd w9 : World} {row : Option Nat} (hB : Below B w W2) (hg : W2.grownBy wd row) (hst : Stp X wd w9) (hX : B ≤ X) (hBW : B ≤ W2.heap.size) (hr : ∀ k, row = some k → X + 1 ≤ k) :
    Below B w w9 ∧ ∀ k o, k < X → W2.heap[k]? = some o → w9.heap[k]? = some o :=
  ⟨below_stp (hB.grown hg hBW (fun k hk => by have := hr k hk; omega)) hst hX, fun k o hk h => (hst.blk k (by omega)).trans ((hg.block k (Array.getElem?_eq_some_iff.1 h).1 (fun e => by have := hr k e.symm; omega)).trans h)⟩
theorem mb_of {w : World} {N : Nat} {T : TypeId} {g n cap : Nat} {xs : List Value} (h : w.ownsRow N T 7 (.slice (some ⟨g, 0, none⟩) n cap) n xs) (o : Nat) (x0 : Int) (s1 nm : ByteArray) (at' : Int) (hx : ∀ i u, (mC x0 s1 nm at')[i]? = some u → xs[o + i]? = some u) : MbAt g o x0 s1 nm at' w :=
  ⟨fun i u hu => by
    have e := h.cells (g := g) rfl (o + i) u (hx i u hu)
    have ea : (⟨g, 0, none⟩ : Addr).add (o + i) = ⟨g, o + i, none⟩ := by unfold Addr.add; split <;> simp_all
    rwa [ea] at e⟩
theorem mcs_a : ∀ (i : Nat) (u : Value), (mC 99 ⟨#[99]⟩ sT1 0)[i]? = some u → ([] ++ mC 99 ⟨#[99]⟩ sT1 0 ++ mC 105 ⟨#[105]⟩ sT2 4)[0 + i]? = some u := fun i u hu => by
  have hi : i < (mC 99 ⟨#[99]⟩ sT1 0).length := (List.getElem?_eq_some_iff.1 hu).1
  show (mC 99 ⟨#[99]⟩ sT1 0 ++ mC 105 ⟨#[105]⟩ sT2 4)[0 + i]? = some u
  rw [Nat.zero_add, List.getElem?_append_left hi]
  exact hu
theorem mcs_b : ∀ (i : Nat) (u : Value), (mC 105 ⟨#[105]⟩ sT2 4)[i]? = some u → ([] ++ mC 99 ⟨#[99]⟩ sT1 0 ++ mC 105 ⟨#[105]⟩ sT2 4)[7 + i]? = some u := fun i u hu => by
  show (mC 99 ⟨#[99]⟩ sT1 0 ++ mC 105 ⟨#[105]⟩ sT2 4)[7 + i]? = some u
  rw [List.getElem?_append_right (show (mC 99 ⟨#[99]⟩ sT1 0).length ≤ 7 + i by show 7 ≤ 7 + i; omega), show 7 + i - (mC 99 ⟨#[99]⟩ sT1 0).length = i by show 7 + i - 7 = i; omega]
  exact hu
set_option maxHeartbeats 4000000 in
theorem c_next (B gm : Nat) (w : World) (hE : Env B w) (hB : B ≤ w.heap.size) (k0 : w.cell? ⟨gm, 0, none⟩ = some (.string sT1)) (k1 : w.cell? ⟨gm, 1, none⟩ = some (.string ⟨#[99]⟩)) (k2 : w.cell? ⟨gm, 2, none⟩ = some (.string sT2)) (k3 : w.cell? ⟨gm, 3, none⟩ = some (.string ⟨#[105]⟩)) :
    Calls Tryz.prog 97 #[.slice none 0 0, .agg #[.string sTt, .slice (some ⟨gm, 0, none⟩) 2 2]] w fun e w' => ∃ gx cap, e = .returned (.tuple #[lV 8 4 2 sTt (some ⟨gx, 0, none⟩) 2 cap, .int .i64 0]) ∧ 2 ≤ cap ∧ MbAt gx 0 99 ⟨#[99]⟩ sT1 0 w' ∧ MbAt gx 7 105 ⟨#[105]⟩ sT2 4 w' ∧ Below w.heap.size w w' := by
  have HE := Lib.hid (fun w' (hb : Below w.heap.size w w') => And.intro (hE.next (hb.mono hB)) (Nat.le_trans hB hb.size))
  have HF := Lib.hid (fun w => c_find0 sTt w)
  have HN := Lib.hid (fun w => c_IsName [116] w (by decide))
  rw [nm_t] at HN
  have HK := Lib.hid (fun w' (hb : Below w.heap.size w w') => show w'.cell? ⟨gm, 0, none⟩ = some (.string sT1) ∧ w'.cell? ⟨gm, 1, none⟩ = some (.string ⟨#[99]⟩) ∧ w'.cell? ⟨gm, 2, none⟩ = some (.string sT2) ∧ w'.cell? ⟨gm, 3, none⟩ = some (.string ⟨#[105]⟩) ∧ gm < w'.heap.size from by
    have hlt := World.block_lt_of_cell? w ⟨gm, 0, none⟩ k0
    have e := hb.block gm hlt
    exact ⟨(cell_of_blk e 0).trans k0, (cell_of_blk e 1).trans k1, (cell_of_blk e 2).trans k2, (cell_of_blk e 3).trans k3, Nat.lt_of_lt_of_le hlt hb.size⟩)
  clear hE hB k0 k1 k2 k3
  go_enter Tryz.func97, Tryz.ntmps97
  go_wp2_with fail
  have HA0 := Lib.hid ((below_a w (.cells #[.string sTt, .slice (some ⟨gm, 0, none⟩) 2 2] 160)).alloc (by simp) (.cells #[.int .i64 0, .int .i64 0, .int .i64 0, .string ⟨#[]⟩, .slice none 0 0] 165))
  have HS0 : Hid (((w.alloc (.cells #[.string sTt, .slice (some ⟨gm, 0, none⟩) 2 2] 160)).alloc (.cells #[.int .i64 0, .int .i64 0, .int .i64 0, .string ⟨#[]⟩, .slice none 0 0] 165)).heap[w.heap.size]? = some (.cells #[.string sTt, .slice (some ⟨gm, 0, none⟩) 2 2] 160)) := (Below.heap_alloc _ _ _ (by simp)).trans (heap_alloc_new w _)
  have HR0 := Lib.hid (new2 w (.cells #[.string sTt, .slice (some ⟨gm, 0, none⟩) 2 2] 160) (.cells #[.int .i64 0, .int .i64 0, .int .i64 0, .string ⟨#[]⟩, .slice none 0 0] 165))
  refine (HF.out _).mono ?_
  rintro e w1 ⟨rfl, hb⟩
  have HB1 := Lib.hid (below_on HA0.out hb HA0.out.size)
  have HS1 := Lib.hid (blk_next HS0.out hb)
  have HR1 := Lib.hid (blk_next HR0.out hb)
  clear hb HA0 HS0 HR0 HF
  have HB2 := Lib.hid (HB1.out.alloc HB1.out.size (.cells #[.int .i64 0, .int .i64 0, .int .i64 0, .string ⟨#[]⟩, .slice none 0 0] 165))
  have HA2 := Lib.hid (below_a w1 (.cells #[.int .i64 0, .int .i64 0, .int .i64 0, .string ⟨#[]⟩, .slice none 0 0] 165))
  have HS2 := Lib.hid (blk_next HS1.out HA2.out)
  have HR2 := Lib.hid (blk_next HR1.out HA2.out)
  have s0 : w1.cell? ⟨w.heap.size, 0, none⟩ = some (.string sTt) := by rw [Lib.cell_of_heap HS1.out]; rfl
  have hlt : w.heap.size < w1.heap.size := (Array.getElem?_eq_some_iff.1 HS1.out).1
  go_wp2_with fail
  refine (HN.out _).mono ?_
  rintro e w3 ⟨rfl, hb⟩
  have HB3 := Lib.hid (below_on HB2.out hb HB2.out.size)
  have HS3 := Lib.hid (blk_next HS2.out hb)
  have HR3 := Lib.hid (blk_next HR2.out hb)
  clear hb HN HB1 HS1 HR1 HB2 HA2 HS2 HR2 s0 hlt
  have s0 : w3.cell? ⟨w.heap.size, 0, none⟩ = some (.string sTt) := by rw [Lib.cell_of_heap HS3.out]; rfl
  have s1 : w3.cell? ⟨w.heap.size, 1, none⟩ = some (.slice (some ⟨gm, 0, none⟩) 2 2) := by rw [Lib.cell_of_heap HS3.out]; rfl
  have hlt : w.heap.size < w3.heap.size := (Array.getElem?_eq_some_iff.1 HS3.out).1
  go_wp2_with fail
  have HB4 := Lib.hid (HB3.out.alloc HB3.out.size (lOb 0 0 0 none 0 0))
  have HS4 := Lib.hid (blk_next HS3.out (below_a w3 (lOb 0 0 0 none 0 0)))
  have HR4 := Lib.hid (blk_next HR3.out (below_a w3 (lOb 0 0 0 none 0 0)))
  have HX4 := Lib.hid (heap_alloc_new w3 (lOb 0 0 0 none 0 0))
  have hXw : w.heap.size + 2 ≤ w3.heap.size := (Array.getElem?_eq_some_iff.1 HR3.out).1
  clear HB3 HS3 HR3 s0 s1 hlt
  generalize w3.alloc (.cells #[.int .i64 0, .int .i64 0, .int .i64 0, .string sTt, .slice none 0 0] 165) = w4 at HB4 HS4 HR4 HX4 ⊢
  obtain ⟨X, hX⟩ : ∃ X, w3.heap.size = X := ⟨_, rfl⟩
  rw [hX] at HX4 hXw
  rw [hX]
  clear hX
  obtain ⟨i0, hi, hz0, hz1, hz2⟩ := info_parts infoMb
  have HO4 : Hid (w4.ownsRow (X + 1) 194 7 (.slice none 0 0) 0 []) := World.ownsRow_nil _ _ _ _
  refine wp_loop_rounds 3 ?_
  rw [rounds_succ]
  obtain ⟨g0, g1, g2, g3, hgm⟩ := HK.out _ HB4.out
  obtain ⟨x0, x1, x2, x3, x4, xf⟩ := five_cells HX4.out
  have hXl : X < w4.heap.size := (Array.getElem?_eq_some_iff.1 HX4.out).1
  go_wp2_with fail
  clear g0 g1 g2 g3 hgm x0 x1 x2 x3 x4 xf
  have HAm := Lib.hid (below_a w4 (.cells #[.string sT1, .string ⟨#[99]⟩] 189))
  have HMm := Lib.hid (heap_alloc_new w4 (.cells #[.string sT1, .string ⟨#[99]⟩] 189))
  have HBm := Lib.hid (HB4.out.trans (HAm.out.mono HB4.out.size))
  have HXm := Lib.hid (blk_next HX4.out HAm.out)
  have HRm := Lib.hid (blk_next HR4.out HAm.out)
  have HSm := Lib.hid (blk_next HS4.out HAm.out)
  have HOm := Lib.hid (HO4.out.alloc (.cells #[.string sT1, .string ⟨#[99]⟩] 189))
  refine (c_mt B 99 99 rfl (by decide) 0 0 0 sTt none 0 0 [102, 105, 114, 115, 116] nm_1 (by decide) _ (HE.out _ HBm.out).1 (HE.out _ HBm.out).2 (fun w' _ => c_has0 0 0 0 sTt sT1 w')).mono ?_
  rintro e wa1 ⟨rfl, hb⟩
  have HAn := Lib.hid (below_a wa1 (.cells #[.int .u8 99, .string ⟨#[99]⟩, .int .i64 0, .string ⟨#[]⟩, .slice none 0 0] 127))
  have HBn := Lib.hid (below_on (below_on HBm.out hb HBm.out.size) HAn.out (below_on HBm.out hb HBm.out.size).size)
  have HXn := Lib.hid (blk_next (blk_next HXm.out hb) HAn.out)
  have HRn := Lib.hid (blk_next (blk_next HRm.out hb) HAn.out)
  have HSn := Lib.hid (blk_next (blk_next HSm.out hb) HAn.out)
  have HMn := Lib.hid (blk_next (blk_next HMm.out hb) HAn.out)
  have HNn := Lib.hid (heap_alloc_new wa1 (.cells #[.int .u8 99, .string ⟨#[99]⟩, .int .i64 0, .string ⟨#[]⟩, .slice none 0 0] 127))
  have HOn := Lib.hid (own_far HOm.out (fun g hg _ => (hb.block g (HOm.out.lt g hg).2)))
  have HOn2 := Lib.hid (HOn.out.alloc (.cells #[.int .u8 99, .string ⟨#[99]⟩, .int .i64 0, .string ⟨#[]⟩, .slice none 0 0] 127))
  clear hb HAm HMm HBm HXm HRm HSm HOm HOn hXl HB4 HX4 HR4 HS4 HO4
  go_wp2_with fail
  refine (c_extent0 none 0 0 99 ⟨#[99]⟩ 0 ⟨#[]⟩ _ (by decide)).mono ?_
  rintro e wb1 ⟨rfl, hb⟩
  have HBb := Lib.hid (below_on HBn.out hb HBn.out.size)
  have HXb := Lib.hid (blk_next HXn.out hb)
  have HRb := Lib.hid (blk_next HRn.out hb)
  have HSb := Lib.hid (blk_next HSn.out hb)
  have HMb := Lib.hid (blk_next HMn.out hb)
  have HNb := Lib.hid (blk_next HNn.out hb)
  have HOb := Lib.hid (own_far HOn2.out (fun g hg _ => (hb.block g (HOn2.out.lt g hg).2)))
  clear hb HAn HBn HXn HRn HSn HMn HNn HOn2
  obtain ⟨x0, x1, x2, x3, x4, xf⟩ := five_cells HXb.out
  obtain ⟨n0, n1, n2, n3, n4, nf⟩ := five_cells HNb.out
  have m0 : wb1.cell? ⟨w4.heap.size, 0, none⟩ = some (.string sT1) := by rw [Lib.cell_of_heap HMb.out]; rfl
  have m1 : wb1.cell? ⟨w4.heap.size, 1, none⟩ = some (.string ⟨#[99]⟩) := by rw [Lib.cell_of_heap HMb.out]; rfl
  have hXb := (Array.getElem?_eq_some_iff.1 HXb.out).1
  have hMb := (Array.getElem?_eq_some_iff.1 HMb.out).1
  have hNb := (Array.getElem?_eq_some_iff.1 HNb.out).1
  have hbs : bsz 99 = 1 := by decide
  rw [hbs]
  clear xf nf
  go_wp2_with fail
  refine (c_al 0 1 0 (by decide) _).mono ?_
  rintro e wc1 ⟨rfl, rfl⟩
  have HEx := Lib.hid (below_a wb1 (.cells #[.int .i64 1, .int .i64 1, .int .i64 1] 162))
  have HOx := Lib.hid (HOb.out.alloc (.cells #[.int .i64 1, .int .i64 1, .int .i64 1] 162))
  have HBx := Lib.hid (below_on HBb.out HEx.out HBb.out.size)
  have hXN : X + 1 ≤ wb1.heap.size := hXb
  go_wp2_with (at_builtin; refine wpList_append_own _ rfl _ _ 163 rfl (X + 1) 194 i0 (.agg #[.int .u8 0, .string ByteArray.empty, .int .i64 0, .string ByteArray.empty, .slice none 0 0, .string ByteArray.empty, .int .i64 0]) 7 96 Tryz.underlying163 hi hz0 hz1 hz2 rfl (by decide) (.slice none 0 0) 0 ([]) rfl (HOx.out.alloc _) ⟨wb1.heap.size + 1, 0, none⟩ 1 1 (mC 99 ⟨#[99]⟩ sT1 0) rfl rfl ?cc1 ?cc2 ?cc3 ?cc4 ?cc5 ?_)
  case cc1 =>
    intro j u hu
    have h := World.news_of_block (heap_alloc_new (wb1.alloc (.cells #[.int .i64 1, .int .i64 1, .int .i64 1] 162)) (.cells #[.int .u8 99, .string ⟨#[99]⟩, .int .i64 0, .string ⟨#[]⟩, .slice none 0 0, .string sT1, .int .i64 0] 194)) j u hu
    rw [show (wb1.alloc (.cells #[.int .i64 1, .int .i64 1, .int .i64 1] 162)).heap.size = wb1.heap.size + 1 by simp] at h
    exact h
  case cc2 => exact mC_one _ _ _ _
  case cc3 => unfold maxLen; omega
  case cc4 => omega
  case cc5 => simp; omega
  intro v1 wd1 hown hgrow _
  obtain ⟨gr1, cap1, rfl, hgN, hcap1, hglt⟩ := own_form (n := 0) hown
  have HGr := Lib.hid hgrow
  have HOw := Lib.hid hown
  have hrw : ∀ j, (.slice none 0 0 : Value).ownBlock = some j → X + 1 ≤ j ∧ j < wb1.heap.size := fun j hj => by
    have h1 := HOb.out.lt j hj
    exact h1
  have HRw := Lib.hid hrw
  have HXd : Hid (wd1.heap[X]? = some (lOb 0 0 0 none 0 0)) := by
    refine (hgrow.block X (by simp; omega) (fun e => by have := hrw X e.symm; omega)).trans ?_
    exact (Below.heap_alloc _ _ _ (by simp; omega)).trans ((Below.heap_alloc _ _ _ hXb).trans HXb.out)
  have HEd : Hid (wd1.heap[wb1.heap.size]? = some (.cells #[.int .i64 1, .int .i64 1, .int .i64 1] 162)) := by
    refine (hgrow.block _ (by simp; omega) (fun e => by have := hrw _ e.symm; omega)).trans ?_
    exact (Below.heap_alloc _ _ _ (by simp)).trans (heap_alloc_new _ _)
  clear hgrow hown hrw x0 x1 x2 x3 x4 n0 n1 n2 n3 n4 m0 m1
  obtain ⟨x0, x1, x2, x3, x4, xf⟩ := five_cells HXd.out
  have xf0 := xf 0
  have xf1 := xf 1
  have xf2 := xf 2
  have xf4 := xf 4
  have e0 : wd1.cell? ⟨wb1.heap.size, 0, none⟩ = some (.int .i64 1) := by rw [Lib.cell_of_heap HEd.out]; rfl
  have e1 : wd1.cell? ⟨wb1.heap.size, 1, none⟩ = some (.int .i64 1) := by rw [Lib.cell_of_heap HEd.out]; rfl
  have e2 : wd1.cell? ⟨wb1.heap.size, 2, none⟩ = some (.int .i64 1) := by rw [Lib.cell_of_heap HEd.out]; rfl
  have hne : ¬ wb1.heap.size = X := by omega
  have hne2 : ¬ X = wb1.heap.size := by omega
  clear xf
  go_wp2_with fail
  rw [show max (0 : Int) 1 = 1 from by decide]
  have hst1 := x_stp X wd1 (.slice (some ⟨gr1, 0, none⟩) 1 cap1) (.int .i64 1) (.int .i64 1) (.int .i64 1)
  have hxs1 := x_set (x' := 1) (y' := 1) (z' := 1) (ma' := some ⟨gr1, 0, none⟩) (mn' := 1) (mc' := cap1) HXd.out
  have hre1 := rnd_end (B := w.heap.size) (X := X) (below_on HBx.out (below_a _ _) HBx.out.size) HGr.out hst1 (by omega) (by have := HBx.out.size; simp at this ⊢; omega) (fun j hj => (HRw.out j hj).1)
  have HO9 := Lib.hid (own_far HOw.out (fun g hg hNg => hst1.blk g (by omega)))
  have HX9 := Lib.hid hxs1
  have HB9 := Lib.hid hre1.1
  have HS9 := Lib.hid (hre1.2 w.heap.size _ (by omega) (blk_next (blk_next HSb.out (below_a _ _)) (below_a _ _)))
  have HR9 := Lib.hid (hre1.2 (w.heap.size + 1) _ (by omega) (blk_next (blk_next HRb.out (below_a _ _)) (below_a _ _)))
  clear hst1 hxs1 hre1 x0 x1 x2 x3 x4 e0 e1 e2 hne hne2 xf0 xf1 xf2 xf4 HEd HXd HRw HOw HGr HEx HOx HBx HXb HRb HSb HMb HNb HOb hXb hMb hNb hXN hglt
  generalize (((wd1.setCell ⟨X, 4, none⟩ (.slice (some ⟨gr1, 0, none⟩) 1 cap1)).setCell ⟨X, 0, none⟩ (.int .i64 1)).setCell ⟨X, 1, none⟩ (.int .i64 1)).setCell ⟨X, 2, none⟩ (.int .i64 1) = w9 at HO9 HX9 HB9 HS9 HR9 ⊢
  rw [rounds_succ]
  obtain ⟨g0, g1, g2, g3, hgm⟩ := HK.out _ HB9.out
  obtain ⟨x0, x1, x2, x3, x4, xf⟩ := five_cells HX9.out
  have hXl : X < w9.heap.size := (Array.getElem?_eq_some_iff.1 HX9.out).1
  go_wp2_with fail
  clear g0 g1 g2 g3 hgm x0 x1 x2 x3 x4 xf
  have HAm := Lib.hid (below_a w9 (.cells #[.string sT2, .string ⟨#[105]⟩] 189))
  have HMm := Lib.hid (heap_alloc_new w9 (.cells #[.string sT2, .string ⟨#[105]⟩] 189))
  have HBm := Lib.hid (HB9.out.trans (HAm.out.mono HB9.out.size))
  have HXm := Lib.hid (blk_next HX9.out HAm.out)
  have HRm := Lib.hid (blk_next HR9.out HAm.out)
  have HSm := Lib.hid (blk_next HS9.out HAm.out)
  have HOm := Lib.hid (HO9.out.alloc (.cells #[.string sT2, .string ⟨#[105]⟩] 189))
  refine (c_mt B 105 105 rfl (by decide) 1 1 1 sTt (some ⟨gr1, 0, none⟩) 1 cap1 [115, 101, 99, 111, 110, 100] nm_2 (by decide) _ (HE.out _ HBm.out).1 (HE.out _ HBm.out).2 (fun w' hb => c_has1 1 1 1 sTt [115, 101, 99, 111, 110, 100] [102, 105, 114, 115, 116] (by decide) gr1 cap1 hcap1 99 ⟨#[99]⟩ 0 w' ((mb_of HOm.out 0 99 ⟨#[99]⟩ sT1 0 (fun i u hu => by simpa using hu)).next hb))).mono ?_
  rintro e wa2 ⟨rfl, hb⟩
  have HAn := Lib.hid (below_a wa2 (.cells #[.int .u8 105, .string ⟨#[105]⟩, .int .i64 0, .string ⟨#[]⟩, .slice none 0 0] 127))
  have HBn := Lib.hid (below_on (below_on HBm.out hb HBm.out.size) HAn.out (below_on HBm.out hb HBm.out.size).size)
  have HXn := Lib.hid (blk_next (blk_next HXm.out hb) HAn.out)
  have HRn := Lib.hid (blk_next (blk_next HRm.out hb) HAn.out)
  have HSn := Lib.hid (blk_next (blk_next HSm.out hb) HAn.out)
  have HMn := Lib.hid (blk_next (blk_next HMm.out hb) HAn.out)
  have HNn := Lib.hid (heap_alloc_new wa2 (.cells #[.int .u8 105, .string ⟨#[105]⟩, .int .i64 0, .string ⟨#[]⟩, .slice none 0 0] 127))
  have HOn := Lib.hid (own_far HOm.out (fun g hg _ => (hb.block g (HOm.out.lt g hg).2)))
  have HOn2 := Lib.hid (HOn.out.alloc (.cells #[.int .u8 105, .string ⟨#[105]⟩, .int .i64 0, .string ⟨#[]⟩, .slice none 0 0] 127))
  clear hb HAm HMm HBm HXm HRm HSm HOm HOn hXl HB9 HX9 HR9 HS9 HO9
  go_wp2_with fail
  refine (c_extent0 none 0 0 105 ⟨#[105]⟩ 0 ⟨#[]⟩ _ (by decide)).mono ?_
  rintro e wb2 ⟨rfl, hb⟩
  have HBb := Lib.hid (below_on HBn.out hb HBn.out.size)
  have HXb := Lib.hid (blk_next HXn.out hb)
  have HRb := Lib.hid (blk_next HRn.out hb)
  have HSb := Lib.hid (blk_next HSn.out hb)
  have HMb := Lib.hid (blk_next HMn.out hb)
  have HNb := Lib.hid (blk_next HNn.out hb)
  have HOb := Lib.hid (own_far HOn2.out (fun g hg _ => (hb.block g (HOn2.out.lt g hg).2)))
  clear hb HAn HBn HXn HRn HSn HMn HNn HOn2
  obtain ⟨x0, x1, x2, x3, x4, xf⟩ := five_cells HXb.out
  obtain ⟨n0, n1, n2, n3, n4, nf⟩ := five_cells HNb.out
  have m0 : wb2.cell? ⟨w9.heap.size, 0, none⟩ = some (.string sT2) := by rw [Lib.cell_of_heap HMb.out]; rfl
  have m1 : wb2.cell? ⟨w9.heap.size, 1, none⟩ = some (.string ⟨#[105]⟩) := by rw [Lib.cell_of_heap HMb.out]; rfl
  have hXb := (Array.getElem?_eq_some_iff.1 HXb.out).1
  have hMb := (Array.getElem?_eq_some_iff.1 HMb.out).1
  have hNb := (Array.getElem?_eq_some_iff.1 HNb.out).1
  have hbs : bsz 105 = 4 := by decide
  rw [hbs]
  clear xf nf
  go_wp2_with fail
  refine (c_al 1 4 4 (by decide) _).mono ?_
  rintro e wc2 ⟨rfl, rfl⟩
  have HEx := Lib.hid (below_a wb2 (.cells #[.int .i64 4, .int .i64 4, .int .i64 1] 162))
  have HOx := Lib.hid (HOb.out.alloc (.cells #[.int .i64 4, .int .i64 4, .int .i64 1] 162))
  have HBx := Lib.hid (below_on HBb.out HEx.out HBb.out.size)
  have hXN : X + 1 ≤ wb2.heap.size := hXb
  go_wp2_with (at_builtin; refine wpList_append_own _ rfl _ _ 163 rfl (X + 1) 194 i0 (.agg #[.int .u8 0, .string ByteArray.empty, .int .i64 0, .string ByteArray.empty, .slice none 0 0, .string ByteArray.empty, .int .i64 0]) 7 96 Tryz.underlying163 hi hz0 hz1 hz2 rfl (by decide) (.slice (some ⟨gr1, 0, none⟩) 1 cap1) 1 ([] ++ mC 99 ⟨#[99]⟩ sT1 0) rfl (HOx.out.alloc _) ⟨wb2.heap.size + 1, 0, none⟩ 1 1 (mC 105 ⟨#[105]⟩ sT2 4) rfl rfl ?cc1 ?cc2 ?cc3 ?cc4 ?cc5 ?_)
  case cc1 =>
    intro j u hu
    have h := World.news_of_block (heap_alloc_new (wb2.alloc (.cells #[.int .i64 4, .int .i64 4, .int .i64 1] 162)) (.cells #[.int .u8 105, .string ⟨#[105]⟩, .int .i64 0, .string ⟨#[]⟩, .slice none 0 0, .string sT2, .int .i64 4] 194)) j u hu
    rw [show (wb2.alloc (.cells #[.int .i64 4, .int .i64 4, .int .i64 1] 162)).heap.size = wb2.heap.size + 1 by simp] at h
    exact h
  case cc2 => exact mC_one _ _ _ _
  case cc3 => unfold maxLen; omega
  case cc4 => omega
  case cc5 => simp; omega
  intro v2 wd2 hown hgrow _
  obtain ⟨gr2, cap2, rfl, hgN, hcap2, hglt⟩ := own_form (n := 1) hown
  have HGr := Lib.hid hgrow
  have HOw := Lib.hid hown
  have hrw : ∀ j, (.slice (some ⟨gr1, 0, none⟩) 1 cap1 : Value).ownBlock = some j → X + 1 ≤ j ∧ j < wb2.heap.size := fun j hj => by
    have h1 := HOb.out.lt j hj
    exact h1
  have HRw := Lib.hid hrw
  have HXd : Hid (wd2.heap[X]? = some (lOb 1 1 1 (some ⟨gr1, 0, none⟩) 1 cap1)) := by
    refine (hgrow.block X (by simp; omega) (fun e => by have := hrw X e.symm; omega)).trans ?_
    exact (Below.heap_alloc _ _ _ (by simp; omega)).trans ((Below.heap_alloc _ _ _ hXb).trans HXb.out)
  have HEd : Hid (wd2.heap[wb2.heap.size]? = some (.cells #[.int .i64 4, .int .i64 4, .int .i64 1] 162)) := by
    refine (hgrow.block _ (by simp; omega) (fun e => by have := hrw _ e.symm; omega)).trans ?_
    exact (Below.heap_alloc _ _ _ (by simp)).trans (heap_alloc_new _ _)
  clear hgrow hown hrw x0 x1 x2 x3 x4 n0 n1 n2 n3 n4 m0 m1
  obtain ⟨x0, x1, x2, x3, x4, xf⟩ := five_cells HXd.out
  have xf0 := xf 0
  have xf1 := xf 1
  have xf2 := xf 2
  have xf4 := xf 4
  have e0 : wd2.cell? ⟨wb2.heap.size, 0, none⟩ = some (.int .i64 4) := by rw [Lib.cell_of_heap HEd.out]; rfl
  have e1 : wd2.cell? ⟨wb2.heap.size, 1, none⟩ = some (.int .i64 4) := by rw [Lib.cell_of_heap HEd.out]; rfl
  have e2 : wd2.cell? ⟨wb2.heap.size, 2, none⟩ = some (.int .i64 1) := by rw [Lib.cell_of_heap HEd.out]; rfl
  have hne : ¬ wb2.heap.size = X := by omega
  have hne2 : ¬ X = wb2.heap.size := by omega
  clear xf
  go_wp2_with fail
  rw [show max (1 : Int) 4 = 4 from by decide]
  have hst2 := x_stp X wd2 (.slice (some ⟨gr2, 0, none⟩) 2 cap2) (.int .i64 8) (.int .i64 4) (.int .i64 2)
  have hxs2 := x_set (x' := 8) (y' := 4) (z' := 2) (ma' := some ⟨gr2, 0, none⟩) (mn' := 2) (mc' := cap2) HXd.out
  have hre2 := rnd_end (B := w.heap.size) (X := X) (below_on HBx.out (below_a _ _) HBx.out.size) HGr.out hst2 (by omega) (by have := HBx.out.size; simp at this ⊢; omega) (fun j hj => (HRw.out j hj).1)
  have HO14 := Lib.hid (own_far HOw.out (fun g hg hNg => hst2.blk g (by omega)))
  have HX14 := Lib.hid hxs2
  have HB14 := Lib.hid hre2.1
  have HS14 := Lib.hid (hre2.2 w.heap.size _ (by omega) (blk_next (blk_next HSb.out (below_a _ _)) (below_a _ _)))
  have HR14 := Lib.hid (hre2.2 (w.heap.size + 1) _ (by omega) (blk_next (blk_next HRb.out (below_a _ _)) (below_a _ _)))
  clear hst2 hxs2 hre2 x0 x1 x2 x3 x4 e0 e1 e2 hne hne2 xf0 xf1 xf2 xf4 HEd HXd HRw HOw HGr HEx HOx HBx HXb HRb HSb HMb HNb HOb hXb hMb hNb hXN hglt
  generalize (((wd2.setCell ⟨X, 4, none⟩ (.slice (some ⟨gr2, 0, none⟩) 2 cap2)).setCell ⟨X, 0, none⟩ (.int .i64 8)).setCell ⟨X, 1, none⟩ (.int .i64 4)).setCell ⟨X, 2, none⟩ (.int .i64 2) = w14 at HO14 HX14 HB14 HS14 HR14 ⊢
  rw [rounds_succ]
  obtain ⟨x0, x1, x2, x3, x4, xf⟩ := five_cells HX14.out
  obtain ⟨r0, r1, r2, r3, r4, rf⟩ := five_cells HR14.out
  have xf0 := xf 0
  have rf0 := rf 0
  have rf1 := rf 1
  have rf2 := rf 2
  have rf3 := rf 3
  have rf4 := rf 4
  have hXR : ¬ X = w.heap.size + 1 := by omega
  have hRX : ¬ w.heap.size + 1 = X := by omega
  clear xf rf
  go_wp2_with fail
  refine (c_al 8 4 8 (by decide) _).mono ?_
  rintro e we ⟨rfl, rfl⟩
  go_wp2_with fail
  refine bodyPost_ret (v := .tuple #[lV 8 4 2 sTt (some ⟨gr2, 0, none⟩) 2 cap2, .int .i64 0]) (by simp [results, Tryz.results97, go_sem, r0, r1, r2, r3, r4, hXR, hRX]) rfl ?_
  have hst := (Stp.set X 0 we (.int .i64 8))
  have hst2 := Stp.five0 (w.heap.size + 1) (we.setCell ⟨X, 0, none⟩ (.int .i64 8)) (.int .i64 8) (.int .i64 4) (.int .i64 2) (.string sTt) (.slice (some ⟨gr2, 0, none⟩) 2 cap2)
  have hob : ∀ g, (Value.slice (some ⟨gr2, 0, none⟩) 2 cap2).ownBlock = some g → g = gr2 := fun g hg => by simpa [Value.ownBlock] using hg.symm
  have HOf := own_far (own_far HO14.out (fun g hg hNg => hst.blk g (by have := hob g hg; omega))) (fun g hg hNg => hst2.blk g (by have := hob g hg; omega))
  exact ⟨gr2, cap2, rfl, hcap2, mb_of HOf 0 _ _ _ _ mcs_a, mb_of HOf 7 _ _ _ _ mcs_b, below_stp (below_stp HB14.out hst (by omega)) hst2 (by omega)⟩
end Go.Proofs.YtiodghbhllfhlaaGreatDoor
/-! The contracts of the structs laid out, of a type's size and of a member's place, at the first example, in the code. -/
namespace Go.Proofs.YtiodghbhllfhlaaGreatDoor
set_option linter.unusedVariables false
set_option linter.unusedSimpArgs false
set_option maxRecDepth 100000
open Go.RowKit

/-- The example's structs, as they lie: one struct in block gs, its members in block gm. -/
structure ExAt (gs gm : Nat) (w : World) : Prop where
  s0 : w.cell? ⟨gs, 0, none⟩ = some (.string sTt)
  s1 : w.cell? ⟨gs, 1, none⟩ = some (.slice (some ⟨gm, 0, none⟩) 2 2)
  k0 : w.cell? ⟨gm, 0, none⟩ = some (.string sT1)
  k1 : w.cell? ⟨gm, 1, none⟩ = some (.string ⟨#[99]⟩)
  k2 : w.cell? ⟨gm, 2, none⟩ = some (.string sT2)
  k3 : w.cell? ⟨gm, 3, none⟩ = some (.string ⟨#[105]⟩)
theorem ExAt.next {gs gm : Nat} {w w' : World} (h : ExAt gs gm w) (hb : Below w.heap.size w w') : ExAt gs gm w' := by
  have e := hb.block gs (World.block_lt_of_cell? w ⟨gs, 0, none⟩ h.s0)
  have f := hb.block gm (World.block_lt_of_cell? w ⟨gm, 0, none⟩ h.k0)
  exact ⟨(cell_of_blk e 0).trans h.s0, (cell_of_blk e 1).trans h.s1, (cell_of_blk f 0).trans h.k0, (cell_of_blk f 1).trans h.k1, (cell_of_blk f 2).trans h.k2, (cell_of_blk f 3).trans h.k3⟩
theorem infoLy : (Tryz.prog.info? 165).map (fun i => (i.zero, i.size, i.bytes)) = some (some (.agg #[.int .i64 0, .int .i64 0, .int .i64 0, .string ByteArray.empty, .slice none 0 0]), 5, 64) := by kernel_rfl
theorem l_one (x y z : Int) (nm : ByteArray) (a : Option Addr) (n c : Nat) : ∀ u ∈ [Value.int .i64 x, .int .i64 y, .int .i64 z, .string nm, .slice a n c], u.oneCell' = true := by
  intro u hu
  simp only [List.mem_cons, List.not_mem_nil, or_false] at hu
  rcases hu with rfl | rfl | rfl | rfl | rfl <;> rfl
/-- The layouts of the example. -/
structure KnAt (gl gx : Nat) (w : World) : Prop where
  l : ∃ cap, LkAt gl 8 4 2 sTt (some ⟨gx, 0, none⟩) 2 cap w ∧ 2 ≤ cap
  a : MbAt gx 0 99 ⟨#[99]⟩ sT1 0 w
  b : MbAt gx 7 105 ⟨#[105]⟩ sT2 4 w
theorem KnAt.next {gl gx : Nat} {w w' : World} (h : KnAt gl gx w) (hb : Below w.heap.size w w') : KnAt gl gx w' := by
  obtain ⟨cap, h1, h2⟩ := h.l
  exact ⟨⟨cap, h1.next hb, h2⟩, h.a.next hb, h.b.next hb⟩
theorem KnAt.stp {gl gx X : Nat} {w w' : World} (h : KnAt gl gx w) (hs : Stp X w w') (v0 : Value) (h0 : w.cell? ⟨X, 0, none⟩ = some v0) (hv1 : v0 ≠ .int .i64 8) (hv2 : v0 ≠ .int .u8 99) : KnAt gl gx w' := by
  obtain ⟨cap, h1, h2⟩ := h.l
  have n1 : gl ≠ X := fun e => by
    have h3 := h1.c0
    rw [e, h0] at h3
    exact hv1 (Option.some.inj h3)
  have n2 : gx ≠ X := fun e => by
    have h3 := h.a.c 0 _ rfl
    rw [e, h0] at h3
    exact hv2 (Option.some.inj h3)
  have e1 := hs.blk gl n1
  have e2 := hs.blk gx n2
  exact ⟨⟨cap, ⟨(cell_of_blk e1 _).trans h1.c0, (cell_of_blk e1 _).trans h1.c1, (cell_of_blk e1 _).trans h1.c2, (cell_of_blk e1 _).trans h1.c3, (cell_of_blk e1 _).trans h1.c4⟩, h2⟩, ⟨fun i u hu => (cell_of_blk e2 _).trans (h.a.c i u hu)⟩, ⟨fun i u hu => (cell_of_blk e2 _).trans (h.b.c i u hu)⟩⟩
set_option maxHeartbeats 4000000 in
theorem c_layOut (B gs gm cs : Nat) (hcs : 1 ≤ cs) (w : World) (hE : Env B w) (hB : B ≤ w.heap.size) (hX : ExAt gs gm w) :
    Calls Tryz.prog 86 #[.slice (some ⟨gs, 0, none⟩) 1 cs] w fun e w' => ∃ gl cap gx, e = .returned (.tuple #[.slice (some ⟨gl, 0, none⟩) 1 cap, .agg #[.int .i64 0, .int .i64 0]]) ∧ 1 ≤ cap ∧ KnAt gl gx w' ∧ Below w.heap.size w w' := by
  have HE := Lib.hid (fun w' (hb : Below w.heap.size w w') => And.intro (hE.next (hb.mono hB)) (Nat.le_trans hB hb.size))
  have HX := Lib.hid (fun w' (hb : Below w.heap.size w w') => hX.next hb)
  obtain ⟨i0, hi, hz0, hz1, hz2⟩ := info_parts infoLy
  obtain ⟨s0, s1, k0, k1, k2, k3⟩ := hX
  have hgs := World.block_lt_of_cell? w ⟨gs, 0, none⟩ s0
  have hgs' : gs < w.heap.size := hgs
  have hgs1 : gs < w.heap.size + 1 := by omega
  clear k0 k1 k2 k3 hE hB hgs
  go_enter Tryz.func86, Tryz.ntmps86
  go_wp2_with fail
  refine wp_loop_rounds 2 ?_
  rw [rounds_succ]
  go_wp2_with fail
  have HB0 := Lib.hid ((below_a w (.cells #[.int .i64 0, .int .i64 0] 140)).alloc (by simp) (.cells #[.string sTt, .slice (some ⟨gm, 0, none⟩) 2 2] 160))
  have HR0 : Hid (((w.alloc (.cells #[.int .i64 0, .int .i64 0] 140)).alloc (.cells #[.string sTt, .slice (some ⟨gm, 0, none⟩) 2 2] 160)).heap[w.heap.size]? = some (.cells #[.int .i64 0, .int .i64 0] 140)) := (Below.heap_alloc _ _ _ (by simp)).trans (heap_alloc_new w _)
  have hx := HX.out _ HB0.out
  refine (c_next B gm _ (HE.out _ HB0.out).1 (HE.out _ HB0.out).2 hx.k0 hx.k1 hx.k2 hx.k3).mono ?_
  clear hx
  rintro e w1 ⟨gx, cx, rfl, hcx, hma, hmb, hb⟩
  have HB1 := Lib.hid (below_on HB0.out hb HB0.out.size)
  have HR1 := Lib.hid (blk_next HR0.out hb)
  have HM1 := Lib.hid (And.intro hma hmb)
  have hs1 : w.heap.size < w1.heap.size := (Array.getElem?_eq_some_iff.1 HR1.out).1
  clear hb HB0 HR0 hma hmb s0 s1 hgs' hgs1
  go_wp2_with (at_builtin; refine wpList_append_own _ rfl _ _ 129 rfl w.heap.size 165 i0 (.agg #[.int .i64 0, .int .i64 0, .int .i64 0, .string ByteArray.empty, .slice none 0 0]) 5 64 Tryz.underlying129 hi hz0 hz1 hz2 rfl (by decide) (.slice none 0 0) 0 [] rfl (World.ownsRow_nil _ _ _ _) ⟨w1.heap.size + 1, 0, none⟩ 1 1 [.int .i64 8, .int .i64 4, .int .i64 2, .string sTt, .slice (some ⟨gx, 0, none⟩) 2 cx] rfl rfl ?cc1 ?cc2 ?cc3 ?cc4 ?cc5 ?_)
  case cc1 =>
    intro j u hu
    have h := World.news_of_block (heap_alloc_new (w1.alloc (.cells #[.int .i64 8, .int .i64 4, .int .i64 2, .string sTt, .slice (some ⟨gx, 0, none⟩) 2 cx] 165)) (.cells #[.int .i64 8, .int .i64 4, .int .i64 2, .string sTt, .slice (some ⟨gx, 0, none⟩) 2 cx] 165)) j u hu
    rw [show (w1.alloc (.cells #[.int .i64 8, .int .i64 4, .int .i64 2, .string sTt, .slice (some ⟨gx, 0, none⟩) 2 cx] 165)).heap.size = w1.heap.size + 1 by simp] at h
    exact h
  case cc2 => exact l_one _ _ _ _ _ _ _
  case cc3 => unfold maxLen; omega
  case cc4 => omega
  case cc5 => simp; omega
  intro v1 wd hown hgrow _
  obtain ⟨gl, cap, rfl, hgN, hcap, hglt⟩ := own_form (n := 0) hown
  have hK : Below w1.heap.size w1 wd := ((below_a w1 (.cells #[.int .i64 8, .int .i64 4, .int .i64 2, .string sTt, .slice (some ⟨gx, 0, none⟩) 2 cx] 165)).alloc (by simp) (.cells #[.int .i64 8, .int .i64 4, .int .i64 2, .string sTt, .slice (some ⟨gx, 0, none⟩) 2 cx] 165)).grown hgrow (by simp; omega) (fun k hk => by cases hk)
  have HBd := Lib.hid (below_on HB1.out hK HB1.out.size)
  have HRd := Lib.hid (blk_next HR1.out hK)
  have hc : ∀ i u, [Value.int .i64 8, .int .i64 4, .int .i64 2, .string sTt, .slice (some ⟨gx, 0, none⟩) 2 cx][i]? = some u → wd.cell? ⟨gl, i, none⟩ = some u := fun i u hu => by
    have e := hown.cells (g := gl) rfl i u (by simpa using hu)
    have ea : (⟨gl, 0, none⟩ : Addr).add i = ⟨gl, i, none⟩ := by unfold Addr.add; split <;> simp_all
    rwa [ea] at e
  have HKn : Hid (KnAt gl gx wd) := ⟨⟨cx, ⟨hc 0 _ rfl, hc 1 _ rfl, hc 2 _ rfl, hc 3 _ rfl, hc 4 _ rfl⟩, hcx⟩, HM1.out.1.next hK, HM1.out.2.next hK⟩
  clear hown hgrow hK hc hs1 HM1 HB1 HR1
  have r0 : wd.cell? ⟨w.heap.size, 0, none⟩ = some (.int .i64 0) := by rw [Lib.cell_of_heap HRd.out]; rfl
  have r1 : wd.cell? ⟨w.heap.size, 1, none⟩ = some (.int .i64 0) := by rw [Lib.cell_of_heap HRd.out]; rfl
  have f0 := Lib.frozen_of_heap HRd.out 0
  have f1 := Lib.frozen_of_heap HRd.out 1
  go_wp2_with fail
  rw [rounds_succ]
  go_wp2_with fail
  refine bodyPost_ret (v := .tuple #[.slice (some ⟨gl, 0, none⟩) 1 cap, .agg #[.int .i64 0, .int .i64 0]]) (by simp [results, Tryz.results86, go_sem, r0, r1]) rfl ?_
  have hst : Stp w.heap.size wd ((wd.setCell ⟨w.heap.size, 0, none⟩ (.int .i64 0)).setCell ⟨w.heap.size, 1, none⟩ (.int .i64 0)) := (Stp.set w.heap.size 0 wd _).trans (Stp.set w.heap.size 1 _ _)
  exact ⟨gl, cap, gx, rfl, by omega, HKn.out.stp hst _ r0 (by intro e; cases e) (by intro e; cases e), below_stp HBd.out hst (Nat.le_refl _)⟩
theorem five_setL {w : World} {g : Nat} {a0 a1 a2 a3 a4 : Value} {T : TypeId} (h : w.heap[g]? = some (.cells #[a0, a1, a2, a3, a4] T)) (c0 c1 c2 c3 c4 : Value) :
    (((((w.setCell ⟨g, 0, none⟩ c0).setCell ⟨g, 1, none⟩ c1).setCell ⟨g, 2, none⟩ c2).setCell ⟨g, 3, none⟩ c3).setCell ⟨g, 4, none⟩ c4).heap[g]? = some (.cells #[c0, c1, c2, c3, c4] T) :=
  heap_setCell_same _ g 4 _ _ c4 (heap_setCell_same _ g 3 _ _ c3 (heap_setCell_same _ g 2 _ _ c2 (heap_setCell_same _ g 1 _ _ c1 (heap_setCell_same w g 0 _ _ c0 h))))
/-- What rightObject answers of the example. -/
def RoR (gs gm : Nat) (w : World) (e : Ending) (w' : World) : Prop :=
  ∃ a n c gl cap gx, e = .returned (.tuple #[vA a n c, .slice (some ⟨gl, 0, none⟩) 1 cap, .int .i64 0]) ∧ 1 ≤ cap ∧ KnAt gl gx w' ∧ NdIn tA (.slice a n c) w' ∧ Below w.heap.size w w'
end Go.Proofs.YtiodghbhllfhlaaGreatDoor
/-! The contract of a member's place, at the first example, in the code. -/
namespace Go.Proofs.YtiodghbhllfhlaaGreatDoor
set_option linter.unusedVariables false
set_option linter.unusedSimpArgs false
set_option maxRecDepth 100000
open Go.RowKit

end Go.Proofs.YtiodghbhllfhlaaGreatDoor
