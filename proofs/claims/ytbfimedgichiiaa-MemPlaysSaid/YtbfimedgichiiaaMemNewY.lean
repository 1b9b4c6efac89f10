/-
  The document's memory: New.
-/
import Derived.Test.YtbfimedgichiiaaMemNewY0
import Derived.Deep.RegionLaw
namespace Go.Proofs.Ytbfimedgichiiaa
set_option linter.unusedVariables false
set_option linter.unusedSimpArgs false
set_option maxRecDepth 100000
open Go.ChangeShapes Go.WideShapes Go.ChangeAt Go.RowKit

set_option maxHeartbeats 4000000 in
theorem c_rNew_ok (a : Option Addr) (n cap : Nat) (R : Nat → Rg) (w : World) (hm : n ≤ maxLen) (hR : RSO w a n cap R) (hnil : a = none → n = 0 ∧ cap = 0) (hbd : RgBd R n) (hc : chkI R n = 0) :
    Calls Try.prog 9 #[.slice a n cap] w fun e w' => ∃ gy, e = .returned (.tuple #[.pointer (some ⟨gy, 0, none⟩), .int .i64 0]) ∧ Rm w' (fun b => w.heap.size ≤ b) (fun b => w.heap.size ≤ b) gy n R (fun _ _ => 0) (fun _ _ => 0) ∧ Below w.heap.size w w' := by
  have hn16 := (chk_ok hc).1
  have HOk := Lib.hid (chk_ok hc).2
  have HR := Lib.hid hR
  have HCk := Lib.hid hc
  have HBD := Lib.hid hbd
  have HNil := Lib.hid hnil
  have HMx := Lib.hid hm
  clear hR hc hbd hnil hm
  go_enter Try.func9, Try.ntmps9
  go_wp2_with fail
  refine (c_rCheck a n cap R _ HMx.out HR.out HBD.out).mono ?_
  rintro e w1 ⟨rfl, hb1⟩
  rw [HCk.out]
  have HB1 := Lib.hid hb1
  have HR1 := Lib.hid (HR.out.next hb1)
  clear hb1
  go_wp2_with (at_builtin; refine wp_copyR rfl _ _ rfl w1.heap.size w1.heap.size rfl (World.ownsRow_made w1 #[] 0 (Nat.le_refl _) (by decide) rfl) a n cap R rfl (HR1.out.next (below_new w1 _)) HNil.out (by omega) (by simp) ?_)
  intro gl capl w2 hown hgrow
  have HOwn := Lib.hid hown
  have HB2 : Hid (Below w1.heap.size w1 w2) := (below_new w1 _).grown hgrow (by simp) (fun k hk => by simp at hk; omega)
  clear hown hgrow
  go_wp2_with fail
  generalize hgy : w2.heap.size = gy
  have HBq : Hid (∀ wr {q q' k k'}, NyI w2 wr (.slice (some ⟨gl, 0, none⟩) n capl) gy q q' k k' R → Below w.heap.size w wr) := fun wr q q' k k' h => by
    obtain ⟨v, v', r, r', t1, t2, t3, t4, t5, t6, t7, t8, t9, t10⟩ := h
    have h1 := HB1.out.size
    have h2 := HB2.out.size
    exact (HB1.out.trans (HB2.out.mono h1)).trans (t8.mono (by omega))
  have HGy := Lib.hid hgy
  go_loopw [6] (fun i wr => ∃ k : Nat, k ≤ n ∧ i = .int .i64 k ∧ Hid (NyI w2 wr (.slice (some ⟨gl, 0, none⟩) n capl) gy 1 2 k k R)) (fun i _ => n - (intOf i).toNat)
  case atStart =>
    subst hgy
    refine ⟨0, Nat.zero_le _, rfl, .slice none 0 0, .slice none 0 0, fun _ => 0, fun _ => 0, ⟨by simp [go_sem], ⟨rfl, .inl ⟨rfl, rfl⟩⟩, fun i hi => by omega, fun i j hi => by omega⟩, ⟨by simp [go_sem], ⟨rfl, .inl ⟨rfl, rfl⟩⟩, fun i hi => by omega, fun i j hi => by omega⟩, fun i j hi => by omega, fun i hi => by omega, fun i hi => by omega, fun b hb => (by cases hb), fun o => by simp [go_sem], below_new w2 _, by simp, by simp [go_sem]⟩
  case round =>
    obtain ⟨k, hk, rfl, HI⟩ := hrel
    by_cases hlt : k < n
    · obtain ⟨b, off, rfl, hle, hRS⟩ : ∃ b off, a = some ⟨b, off, none⟩ ∧ n ≤ cap ∧ RS w b off n R := HR.out.resolve_left (by omega)
      have HBw : Hid (Below w.heap.size w wr) := HBq.out wr HI.out
      have hrg := rg_bd (okTo_rg HOk.out k hlt)
      obtain ⟨z, hz⟩ : ∃ z : Nat, (R k).sz = z := ⟨(R k).sz.toNat, by omega⟩
      have hzb : z ≤ 16777216 := by omega
      have hzt : (R k).sz.toNat = z := by omega
      have HX2 : Hid (∀ wx, Below w.heap.size w wx → wx.cell? ⟨b, off + k * 5 + 2, none⟩ = some (.int .i64 (z : Int))) := fun wx hb => by rw [← hz]; exact (hRS.next hb k hlt).2.2.1
      have hmk : ∀ w' : World, (Instr.makeSlice 37 (.int .i64 (z : Int)) (.int .i64 (z : Int))).run Try.prog w' = .ok (.slice (some ⟨w'.heap.size, 0, none⟩) z z) (w'.alloc (.cells (madeCells #[.int .u8 0] z) 5)) := fun w' => run_make_row' 37 5 (.int .u8 0) 1 Try.underlying37 infoU8 rfl .i64 .i64 z (by omega) (by omega) w'
      obtain ⟨i0, hi, hz0, hz1, hz2⟩ := info_parts infoBs
      have hk0 : (0 : Int) ≤ (k : Int) := by omega
      have hk1 : (k : Int) < (n : Int) := by omega
      have HZt := Lib.hid hzt
      clear hRS hrg hz hzt
      obtain ⟨v1, v'1, r1, r'1, t1, t2, t3, t4, t5, t6, t7, t8, t9, t10⟩ := HI.out
      have x21 := HX2.out wr (HBq.out wr (HI.out))
      have hcv1 := t1.1
      have hfz1 := t7 1
      have HPu1 := Lib.hid (fun w9 g9 cap9 => NyI_push (w9 := w9) (g9 := g9) (cap9 := cap9) (H := wr.heap.size) (by decide) t1 t2 t3 t4 t5 t6 t7 t8 t9 t10)
      have HOw1 : Hid (∀ o o', ((wr.alloc o).alloc o').drew.ownsRow (gy + 1) 37 1 v1 k (bsL R r1 k)) := fun o o' => (t1.2.1.alloc o).alloc o'
      have hca1 : ∀ o, (wr.alloc o).cell? ⟨gy, 1, none⟩ = some v1 := fun o => ((below_new wr o).cell (p := ⟨gy, 1, none⟩) t9).trans hcv1
      have hcb1 : ∀ o o', ((wr.alloc o).alloc o').cell? ⟨gy, 1, none⟩ = some v1 := fun o o' => ((below_new (wr.alloc o) o').cell (p := ⟨gy, 1, none⟩) (by have := t9; simp; omega)).trans (hca1 o)
      have HFb1 : Hid (∀ o o', ((wr.alloc o).alloc o').frozen? ⟨gy, 1, none⟩ = false) := fun o o' => ((below_new (wr.alloc o) o').frozen (p := ⟨gy, 1, none⟩) (by have := t9; simp; omega)).trans (((below_new wr o).frozen (p := ⟨gy, 1, none⟩) t9).trans hfz1)
      have HNw1 : Hid (∀ o, ∀ (j : Nat) (u : Value), [Value.slice (some ⟨wr.heap.size, 0, none⟩) z z][j]? = some u → ((wr.alloc o).alloc (.cells #[.slice (some ⟨wr.heap.size, 0, none⟩) z z] 37)).drew.cell? ((⟨wr.heap.size + 1, 0, none⟩ : Addr).add j) = some u) := fun o j u hu => by
        have h := World.news_of_block (heap_alloc_new (wr.alloc o) (.cells #[.slice (some ⟨wr.heap.size, 0, none⟩) z z] 37)) j u (by simpa using hu)
        rw [show (wr.alloc o).heap.size = wr.heap.size + 1 by simp] at h
        exact h
      have HOl1 : Hid (∀ b, v1.ownBlock = some b → b < wr.heap.size) := fun b hb => (t1.own b hb).2
      have hgl1 : gy + 1 ≤ wr.heap.size := t9
      have hvn1 : v1.ownBlock ≠ some gy := fun e => by have := (t1.own _ e).1; omega
      clear t1 t2 t3 t4 t5 t6 t7 t8 t9 t10
      go_wp2_with fail
      go_region_law (first
        | (refine step_append_lies _ (by rfl) _ _ _ (by rfl) (gy + 1) 37 i0 _ 1 24 Try.underlying71 hi hz0 hz1 hz2 rfl (by decide) v1 k (bsL R r1 k) (by simp [Act.eval, Act.put]) (by exact HOw1.out _ _) ⟨wr.heap.size + 1, 0, none⟩ 1 1 [.slice (some ⟨wr.heap.size, 0, none⟩) z z] (by simp [Act.eval, Act.put]) rfl (by exact HNw1.out _) (fun u hu => by simp at hu; subst hu; rfl) (by decide) (by unfold maxLen; omega) (by omega) (by simp; omega) (wr.heap.size + 2) (by simp) ?_
           intro g91 cap91 w91 hown1 hgrow1 hat1 hlt91
           have hv91 : w91.cell? ⟨gy, 1, none⟩ = some v1 := (hgrow1.cell_far ⟨gy, 1, none⟩ (by simp; omega) (Ne.symm hvn1)).trans (hcb1 _ _)
           have hf91 : w91.frozen? ⟨gy, 1, none⟩ = false := (hgrow1.frozen_far ⟨gy, 1, none⟩ (by simp; omega) (Ne.symm hvn1)).trans (HFb1.out _ _)))
      all_goals
        have hgf1 := grow_fr (o := .cells (madeCells #[.int .u8 0] z) 5) (o' := .cells #[.slice (some ⟨wr.heap.size, 0, none⟩) z z] 37) (by exact hgrow1) HOl1.out
        have hat81 : v1.ownBlock = some g91 ∨ wr.heap.size < g91 := hat1.imp id (fun e => by omega)
        have HN1 : Hid (NyI w2 (w91.setCell ⟨gy, 1, none⟩ (.slice (some ⟨g91, 0, none⟩) (k + 1) cap91)) (.slice (some ⟨gl, 0, none⟩) n capl) gy 1 2 (k + 1) k R) := HPu1.out w91 g91 cap91 hgf1.1 (Nat.le_refl _) (by rw [HZt.out]; exact hgf1.2) (by rw [HZt.out]; exact hown1) hat81 (by decide)
        clear hown1 hgrow1 hat1 hlt91 hv91 hf91 hgf1 hat81 hca1 hcb1 hcv1 hfz1 x21
        go_wp2_with fail
        generalize World.setCell _ _ _ = wq at HN1 ⊢
        obtain ⟨v2, v'2, r2, r'2, t1, t2, t3, t4, t5, t6, t7, t8, t9, t10⟩ := HN1.out.swap
        have x22 := HX2.out wq (HBq.out wq (HN1.out))
        have hcv2 := t1.1
        have hfz2 := t7 2
        have HPu2 := Lib.hid (fun w9 g9 cap9 => NyI_push (w9 := w9) (g9 := g9) (cap9 := cap9) (H := wq.heap.size) (by decide) t1 t2 t3 t4 t5 t6 t7 t8 t9 t10)
        have HOw2 : Hid (∀ o o', ((wq.alloc o).alloc o').drew.ownsRow (gy + 1) 37 1 v2 k (bsL R r2 k)) := fun o o' => (t1.2.1.alloc o).alloc o'
        have hca2 : ∀ o, (wq.alloc o).cell? ⟨gy, 2, none⟩ = some v2 := fun o => ((below_new wq o).cell (p := ⟨gy, 2, none⟩) t9).trans hcv2
        have hcb2 : ∀ o o', ((wq.alloc o).alloc o').cell? ⟨gy, 2, none⟩ = some v2 := fun o o' => ((below_new (wq.alloc o) o').cell (p := ⟨gy, 2, none⟩) (by have := t9; simp; omega)).trans (hca2 o)
        have HFb2 : Hid (∀ o o', ((wq.alloc o).alloc o').frozen? ⟨gy, 2, none⟩ = false) := fun o o' => ((below_new (wq.alloc o) o').frozen (p := ⟨gy, 2, none⟩) (by have := t9; simp; omega)).trans (((below_new wq o).frozen (p := ⟨gy, 2, none⟩) t9).trans hfz2)
        have HNw2 : Hid (∀ o, ∀ (j : Nat) (u : Value), [Value.slice (some ⟨wq.heap.size, 0, none⟩) z z][j]? = some u → ((wq.alloc o).alloc (.cells #[.slice (some ⟨wq.heap.size, 0, none⟩) z z] 37)).drew.cell? ((⟨wq.heap.size + 1, 0, none⟩ : Addr).add j) = some u) := fun o j u hu => by
          have h := World.news_of_block (heap_alloc_new (wq.alloc o) (.cells #[.slice (some ⟨wq.heap.size, 0, none⟩) z z] 37)) j u (by simpa using hu)
          rw [show (wq.alloc o).heap.size = wq.heap.size + 1 by simp] at h
          exact h
        have HOl2 : Hid (∀ b, v2.ownBlock = some b → b < wq.heap.size) := fun b hb => (t1.own b hb).2
        have hgl2 : gy + 1 ≤ wq.heap.size := t9
        have hvn2 : v2.ownBlock ≠ some gy := fun e => by have := (t1.own _ e).1; omega
        clear t1 t2 t3 t4 t5 t6 t7 t8 t9 t10
        go_region_law (first
          | (refine step_append_lies _ (by rfl) _ _ _ (by rfl) (gy + 1) 37 i0 _ 1 24 Try.underlying71 hi hz0 hz1 hz2 rfl (by decide) v2 k (bsL R r2 k) (by simp [Act.eval, Act.put]) (by exact HOw2.out _ _) ⟨wq.heap.size + 1, 0, none⟩ 1 1 [.slice (some ⟨wq.heap.size, 0, none⟩) z z] (by simp [Act.eval, Act.put]) rfl (by exact HNw2.out _) (fun u hu => by simp at hu; subst hu; rfl) (by decide) (by unfold maxLen; omega) (by omega) (by simp; omega) (wq.heap.size + 2) (by simp) ?_
             intro g92 cap92 w92 hown2 hgrow2 hat2 hlt92
             have hv92 : w92.cell? ⟨gy, 2, none⟩ = some v2 := (hgrow2.cell_far ⟨gy, 2, none⟩ (by simp; omega) (Ne.symm hvn2)).trans (hcb2 _ _)
             have hf92 : w92.frozen? ⟨gy, 2, none⟩ = false := (hgrow2.frozen_far ⟨gy, 2, none⟩ (by simp; omega) (Ne.symm hvn2)).trans (HFb2.out _ _)))
        all_goals
          have hgf2 := grow_fr (o := .cells (madeCells #[.int .u8 0] z) 5) (o' := .cells #[.slice (some ⟨wq.heap.size, 0, none⟩) z z] 37) (by exact hgrow2) HOl2.out
          have hat82 : v2.ownBlock = some g92 ∨ wq.heap.size < g92 := hat2.imp id (fun e => by omega)
          have HN2 : Hid (NyI w2 (w92.setCell ⟨gy, 2, none⟩ (.slice (some ⟨g92, 0, none⟩) (k + 1) cap92)) (.slice (some ⟨gl, 0, none⟩) n capl) gy 2 1 (k + 1) (k + 1) R) := HPu2.out w92 g92 cap92 hgf2.1 (Nat.le_refl _) (by rw [HZt.out]; exact hgf2.2) (by rw [HZt.out]; exact hown2) hat82 (by decide)
          clear hown2 hgrow2 hat2 hlt92 hv92 hf92 hgf2 hat82 hca2 hcb2 hcv2 hfz2 x22
          go_wp2_with fail
          go_roundw
          case rel => exact ⟨k + 1, by omega, by go_num, HN2.out.swap⟩
          case measure => simp [intOf]; omega
    · have hge : decide ((k : Int) < (n : Int)) = false := by simp; omega
      obtain rfl : k = n := by omega
      clear hlt hk
      go_wp2_with fail
      go_ret2
      have hb := HBq.out _ HI.out
      have hrs : RS wr gl 0 k R := by
        obtain ⟨v, v', r, r', t1, t2, t3, t4, t5, t6, t7, t8, t9, t10⟩ := HI.out
        have := HGy.out
        exact HOwn.out.rs.next (by rw [this]; exact t8)
      have h1 := HOwn.out.info
      have h2 := HB1.out.size
      have h3 := HGy.out
      exact ⟨gy, rfl, NyI.rm HI.out (by omega) (by omega) hrs, hb⟩
/-- New, where the ranges are not right. -/
theorem c_rNew_no (a : Option Addr) (n cap : Nat) (R : Nat → Rg) (w : World) (hm : n ≤ maxLen) (hR : RSO w a n cap R) (hbd : RgBd R n) (hc : chkI R n ≠ 0) :
    Calls Try.prog 9 #[.slice a n cap] w fun e w' => e = .returned (.tuple #[.pointer none, .int .i64 (chkI R n)]) ∧ Below w.heap.size w w' := by
  have hcd : (chkI R n == 0) = false := beq_no hc
  have HR := Lib.hid hR
  have HBD := Lib.hid hbd
  have HMx := Lib.hid hm
  clear hR hbd hm hc
  go_enter Try.func9, Try.ntmps9
  go_wp2_with fail
  refine (c_rCheck a n cap R _ HMx.out HR.out HBD.out).mono ?_
  rintro e w1 ⟨rfl, hb1⟩
  have HB1 := Lib.hid hb1
  clear hb1
  go_wp2_with fail
  go_ret2
  exact ⟨rfl, HB1.out⟩
end Go.Proofs.Ytbfimedgichiiaa
