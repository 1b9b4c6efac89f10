/-
  Several contracts on types, in the code.
-/
import Derived.Test.YtacbjhbiaaieoaaGreatDoorTyNy
/-! The contracts of the structs laid out, of a type's size and of a member's place, at the first example, in the code. -/
namespace Go.Proofs.YtacbjhbiaaieoaaGreatDoor
set_option linter.unusedVariables false
set_option linter.unusedSimpArgs false
set_option maxRecDepth 100000
open Go.RowKit

/-- The example's structs, as they lie: one struct in block gs, its members in block gm. -/
structure ExAt (gs gm : Nat) (w : World) : Prop where
  s0 : w.cell? ⟨gs, 0, none⟩ = some (.string sTt)
  s1 : w.cell? ⟨gs, 1, none⟩ = some (.slice (some ⟨gm, 0, none⟩) 2 2)
  k0 : w.cell? ⟨gm, 0, none⟩ = some (.string sT1)
  k1 : w.cell? ⟨gm, 1, none⟩ = some (.string ⟨#[99]⟩)
  k2 : w.cell? ⟨gm, 2, none⟩ = some (.string sT2)
  k3 : w.cell? ⟨gm, 3, none⟩ = some (.string ⟨#[105]⟩)
theorem ExAt.next {gs gm : Nat} {w w' : World} (h : ExAt gs gm w) (hb : Below w.heap.size w w') : ExAt gs gm w' := by
  have e := hb.block gs (World.block_lt_of_cell? w ⟨gs, 0, none⟩ h.s0)
  have f := hb.block gm (World.block_lt_of_cell? w ⟨gm, 0, none⟩ h.k0)
  exact ⟨(cell_of_blk e 0).trans h.s0, (cell_of_blk e 1).trans h.s1, (cell_of_blk f 0).trans h.k0, (cell_of_blk f 1).trans h.k1, (cell_of_blk f 2).trans h.k2, (cell_of_blk f 3).trans h.k3⟩
theorem infoLy : (Tryz.prog.info? 89).map (fun i => (i.zero, i.size, i.bytes)) = some (some (.agg #[.int .i64 0, .int .i64 0, .int .i64 0, .string ByteArray.empty, .slice none 0 0]), 5, 64) := by kernel_rfl
theorem l_one (x y z : Int) (nm : ByteArray) (a : Option Addr) (n c : Nat) : ∀ u ∈ [Value.int .i64 x, .int .i64 y, .int .i64 z, .string nm, .slice a n c], u.oneCell' = true := by
  intro u hu
  simp only [List.mem_cons, List.not_mem_nil, or_false] at hu
  rcases hu with rfl | rfl | rfl | rfl | rfl <;> rfl
/-- The layouts of the example. -/
structure KnAt (gl gx : Nat) (w : World) : Prop where
  l : ∃ cap, LkAt gl 8 4 2 sTt (some ⟨gx, 0, none⟩) 2 cap w ∧ 2 ≤ cap
  a : MbAt gx 0 99 ⟨#[99]⟩ sT1 0 w
  b : MbAt gx 7 105 ⟨#[105]⟩ sT2 4 w
theorem KnAt.next {gl gx : Nat} {w w' : World} (h : KnAt gl gx w) (hb : Below w.heap.size w w') : KnAt gl gx w' := by
  obtain ⟨cap, h1, h2⟩ := h.l
  exact ⟨⟨cap, h1.next hb, h2⟩, h.a.next hb, h.b.next hb⟩
theorem KnAt.stp {gl gx X : Nat} {w w' : World} (h : KnAt gl gx w) (hs : Stp X w w') (v0 : Value) (h0 : w.cell? ⟨X, 0, none⟩ = some v0) (hv1 : v0 ≠ .int .i64 8) (hv2 : v0 ≠ .int .u8 99) : KnAt gl gx w' := by
  obtain ⟨cap, h1, h2⟩ := h.l
  have n1 : gl ≠ X := fun e => by
    have h3 := h1.c0
    rw [e, h0] at h3
    exact hv1 (Option.some.inj h3)
  have n2 : gx ≠ X := fun e => by
    have h3 := h.a.c 0 _ rfl
    rw [e, h0] at h3
    exact hv2 (Option.some.inj h3)
  have e1 := hs.blk gl n1
  have e2 := hs.blk gx n2
  exact ⟨⟨cap, ⟨(cell_of_blk e1 _).trans h1.c0, (cell_of_blk e1 _).trans h1.c1, (cell_of_blk e1 _).trans h1.c2, (cell_of_blk e1 _).trans h1.c3, (cell_of_blk e1 _).trans h1.c4⟩, h2⟩, ⟨fun i u hu => (cell_of_blk e2 _).trans (h.a.c i u hu)⟩, ⟨fun i u hu => (cell_of_blk e2 _).trans (h.b.c i u hu)⟩⟩
set_option maxHeartbeats 4000000 in
theorem c_layOut (B gs gm cs : Nat) (hcs : 1 ≤ cs) (w : World) (hE : Env B w) (hB : B ≤ w.heap.size) (hX : ExAt gs gm w) :
    Calls Tryz.prog 41 #[.slice (some ⟨gs, 0, none⟩) 1 cs] w fun e w' => ∃ gl cap gx, e = .returned (.tuple #[.slice (some ⟨gl, 0, none⟩) 1 cap, .agg #[.int .i64 0, .int .i64 0]]) ∧ 1 ≤ cap ∧ KnAt gl gx w' ∧ Below w.heap.size w w' := by
  have HE := Lib.hid (fun w' (hb : Below w.heap.size w w') => And.intro (hE.next (hb.mono hB)) (Nat.le_trans hB hb.size))
  have HX := Lib.hid (fun w' (hb : Below w.heap.size w w') => hX.next hb)
  obtain ⟨i0, hi, hz0, hz1, hz2⟩ := info_parts infoLy
  obtain ⟨s0, s1, k0, k1, k2, k3⟩ := hX
  have hgs := World.block_lt_of_cell? w ⟨gs, 0, none⟩ s0
  have hgs' : gs < w.heap.size := hgs
  have hgs1 : gs < w.heap.size + 1 := by omega
  clear k0 k1 k2 k3 hE hB hgs
  go_enter Tryz.func41, Tryz.ntmps41
  go_wp2_with fail
  refine wp_loop_rounds 2 ?_
  rw [rounds_succ]
  go_wp2_with fail
  have HB0 := Lib.hid ((below_a w (.cells #[.int .i64 0, .int .i64 0] 27)).alloc (by simp) (.cells #[.string sTt, .slice (some ⟨gm, 0, none⟩) 2 2] 61))
  have HR0 : Hid (((w.alloc (.cells #[.int .i64 0, .int .i64 0] 27)).alloc (.cells #[.string sTt, .slice (some ⟨gm, 0, none⟩) 2 2] 61)).heap[w.heap.size]? = some (.cells #[.int .i64 0, .int .i64 0] 27)) := (Below.heap_alloc _ _ _ (by simp)).trans (heap_alloc_new w _)
  have hx := HX.out _ HB0.out
  refine (c_next B gm _ (HE.out _ HB0.out).1 (HE.out _ HB0.out).2 hx.k0 hx.k1 hx.k2 hx.k3).mono ?_
  clear hx
  rintro e w1 ⟨gx, cx, rfl, hcx, hma, hmb, hb⟩
  have HB1 := Lib.hid (below_on HB0.out hb HB0.out.size)
  have HR1 := Lib.hid (blk_next HR0.out hb)
  have HM1 := Lib.hid (And.intro hma hmb)
  have hs1 : w.heap.size < w1.heap.size := (Array.getElem?_eq_some_iff.1 HR1.out).1
  clear hb HB0 HR0 hma hmb s0 s1 hgs' hgs1
  go_wp2_with (at_builtin; refine wpList_append_own _ rfl _ _ 63 rfl w.heap.size 89 i0 (.agg #[.int .i64 0, .int .i64 0, .int .i64 0, .string ByteArray.empty, .slice none 0 0]) 5 64 Tryz.underlying63 hi hz0 hz1 hz2 rfl (by decide) (.slice none 0 0) 0 [] rfl (World.ownsRow_nil _ _ _ _) ⟨w1.heap.size + 1, 0, none⟩ 1 1 [.int .i64 8, .int .i64 4, .int .i64 2, .string sTt, .slice (some ⟨gx, 0, none⟩) 2 cx] rfl rfl ?cc1 ?cc2 ?cc3 ?cc4 ?cc5 ?_)
  case cc1 =>
    intro j u hu
    have h := World.news_of_block (heap_alloc_new (w1.alloc (.cells #[.int .i64 8, .int .i64 4, .int .i64 2, .string sTt, .slice (some ⟨gx, 0, none⟩) 2 cx] 89)) (.cells #[.int .i64 8, .int .i64 4, .int .i64 2, .string sTt, .slice (some ⟨gx, 0, none⟩) 2 cx] 89)) j u hu
    rw [show (w1.alloc (.cells #[.int .i64 8, .int .i64 4, .int .i64 2, .string sTt, .slice (some ⟨gx, 0, none⟩) 2 cx] 89)).heap.size = w1.heap.size + 1 by simp] at h
    exact h
  case cc2 => exact l_one _ _ _ _ _ _ _
  case cc3 => unfold maxLen; omega
  case cc4 => omega
  case cc5 => simp; omega
  intro v1 wd hown hgrow _
  obtain ⟨gl, cap, rfl, hgN, hcap, hglt⟩ := own_form (n := 0) hown
  have hK : Below w1.heap.size w1 wd := ((below_a w1 (.cells #[.int .i64 8, .int .i64 4, .int .i64 2, .string sTt, .slice (some ⟨gx, 0, none⟩) 2 cx] 89)).alloc (by simp) (.cells #[.int .i64 8, .int .i64 4, .int .i64 2, .string sTt, .slice (some ⟨gx, 0, none⟩) 2 cx] 89)).grown hgrow (by simp; omega) (fun k hk => by cases hk)
  have HBd := Lib.hid (below_on HB1.out hK HB1.out.size)
  have HRd := Lib.hid (blk_next HR1.out hK)
  have hc : ∀ i u, [Value.int .i64 8, .int .i64 4, .int .i64 2, .string sTt, .slice (some ⟨gx, 0, none⟩) 2 cx][i]? = some u → wd.cell? ⟨gl, i, none⟩ = some u := fun i u hu => by
    have e := hown.cells (g := gl) rfl i u (by simpa using hu)
    have ea : (⟨gl, 0, none⟩ : Addr).add i = ⟨gl, i, none⟩ := by unfold Addr.add; split <;> simp_all
    rwa [ea] at e
  have HKn : Hid (KnAt gl gx wd) := ⟨⟨cx, ⟨hc 0 _ rfl, hc 1 _ rfl, hc 2 _ rfl, hc 3 _ rfl, hc 4 _ rfl⟩, hcx⟩, HM1.out.1.next hK, HM1.out.2.next hK⟩
  clear hown hgrow hK hc hs1 HM1 HB1 HR1
  have r0 : wd.cell? ⟨w.heap.size, 0, none⟩ = some (.int .i64 0) := by rw [Lib.cell_of_heap HRd.out]; rfl
  have r1 : wd.cell? ⟨w.heap.size, 1, none⟩ = some (.int .i64 0) := by rw [Lib.cell_of_heap HRd.out]; rfl
  have f0 := Lib.frozen_of_heap HRd.out 0
  have f1 := Lib.frozen_of_heap HRd.out 1
  go_wp2_with fail
  rw [rounds_succ]
  go_wp2_with fail
  refine bodyPost_ret (v := .tuple #[.slice (some ⟨gl, 0, none⟩) 1 cap, .agg #[.int .i64 0, .int .i64 0]]) (by simp [results, Tryz.results41, go_sem, r0, r1]) rfl ?_
  have hst : Stp w.heap.size wd ((wd.setCell ⟨w.heap.size, 0, none⟩ (.int .i64 0)).setCell ⟨w.heap.size, 1, none⟩ (.int .i64 0)) := (Stp.set w.heap.size 0 wd _).trans (Stp.set w.heap.size 1 _ _)
  exact ⟨gl, cap, gx, rfl, by omega, HKn.out.stp hst _ r0 (by intro e; cases e) (by intro e; cases e), below_stp HBd.out hst (Nat.le_refl _)⟩
theorem five_setL {w : World} {g : Nat} {a0 a1 a2 a3 a4 : Value} {T : TypeId} (h : w.heap[g]? = some (.cells #[a0, a1, a2, a3, a4] T)) (c0 c1 c2 c3 c4 : Value) :
    (((((w.setCell ⟨g, 0, none⟩ c0).setCell ⟨g, 1, none⟩ c1).setCell ⟨g, 2, none⟩ c2).setCell ⟨g, 3, none⟩ c3).setCell ⟨g, 4, none⟩ c4).heap[g]? = some (.cells #[c0, c1, c2, c3, c4] T) :=
  heap_setCell_same _ g 4 _ _ c4 (heap_setCell_same _ g 3 _ _ c3 (heap_setCell_same _ g 2 _ _ c2 (heap_setCell_same _ g 1 _ _ c1 (heap_setCell_same w g 0 _ _ c0 h))))
/-- What rightObject answers of the example. -/
def RoR (gs gm : Nat) (w : World) (e : Ending) (w' : World) : Prop :=
  ∃ a n c gl cap gx, e = .returned (.tuple #[vA a n c, .slice (some ⟨gl, 0, none⟩) 1 cap, .int .i64 0]) ∧ 1 ≤ cap ∧ KnAt gl gx w' ∧ NdIn tA (.slice a n c) w' ∧ Below w.heap.size w w'
set_option maxHeartbeats 4000000 in
theorem c_rightObj (B gs gm cs : Nat) (hcs : 1 ≤ cs) (w : World) (hE : Env B w) (hB : B ≤ w.heap.size) (hX : ExAt gs gm w) :
    Calls Tryz.prog 47 #[.string ⟨#[97, 51, 58, 83, 116, 59]⟩, .slice (some ⟨gs, 0, none⟩) 1 cs] w fun e w' => RoR gs gm w e w' := by
  have HL := Lib.hid (fun w' (hb : Below w.heap.size w w') => c_layOut B gs gm cs hcs w' (hE.next (hb.mono hB)) (Nat.le_trans hB hb.size) (hX.next hb))
  have HO := Lib.hid (fun w' (hb : Below w.heap.size w w') g cap hc ma mn mc hL => c_objA B g cap hc ma mn mc w' (hE.next (hb.mono hB)) (Nat.le_trans hB hb.size) hL)
  clear hE hX
  go_enter Tryz.func47, Tryz.ntmps47
  go_wp2_with fail
  refine (HL.out _ (below_a w zOb)).mono ?_
  rintro e w1 ⟨gl, cap, gx, rfl, hcap, hk, hb⟩
  have HB1 := Lib.hid (below_on (below_a w zOb) hb (by simp))
  have HZ1 := Lib.hid (blk_next (heap_alloc_new w zOb) hb)
  have HK1 := Lib.hid hk
  clear hb hk HL
  go_wp2_with fail
  have HA := Lib.hid (below_a w1 (.cells #[.int .i64 0, .int .i64 0] 27))
  have HB2 := Lib.hid (below_on HB1.out HA.out HB1.out.size)
  have HK2 := Lib.hid (HK1.out.next HA.out)
  have HZ2 := Lib.hid (blk_next HZ1.out HA.out)
  obtain ⟨cl, hl1, hl2⟩ := HK2.out.l
  refine (HO.out _ HB2.out gl cap hcap _ _ _ hl1).mono ?_
  rintro e w3 ⟨⟨a, n, c, rfl, hn⟩, hb⟩
  have HB3 := Lib.hid (below_on HB2.out hb HB2.out.size)
  have HK3 := Lib.hid (HK2.out.next hb)
  have HZ3 := Lib.hid (blk_next HZ2.out hb)
  have HN3 := Lib.hid hn
  have hs2 : w.heap.size < (w1.alloc (.cells #[.int .i64 0, .int .i64 0] 27)).heap.size := (Array.getElem?_eq_some_iff.1 HZ2.out).1
  have HS2 := Lib.hid hs2
  have hs3 : w.heap.size < w3.heap.size := (Array.getElem?_eq_some_iff.1 HZ3.out).1
  clear hb hn HO HA HB1 HZ1 HK1 HB2 HZ2 hl1 hl2 hs2
  obtain ⟨r0, r1, r2, r3, r4, rf⟩ := five_cells HZ3.out
  have rf0 := rf 0
  have rf1 := rf 1
  have rf2 := rf 2
  have rf3 := rf 3
  have rf4 := rf 4
  clear rf
  go_wp2_with fail
  have hst := Stp.five0 w.heap.size w3 (.int .u8 97) (.string ⟨#[97, 51, 58, 83, 116, 59]⟩) (.int .i64 3) (.string ⟨#[]⟩) (.slice a n c)
  have hk9 := HK3.out.stp hst _ r0 (by intro e; cases e) (by intro e; cases e)
  have hb9 := below_stp HB3.out hst (Nat.le_refl _)
  have hn9 : NdIn tA (.slice a n c) _ := HN3.out.mono (fun j hj => by rw [hst.size]; exact hj.2) (fun j hj => hst.blk j (by have := hj.1; have := HS2.out; omega))
  have hz9 := five_setL HZ3.out (.int .u8 97) (.string ⟨#[97, 51, 58, 83, 116, 59]⟩) (.int .i64 3) (.string ⟨#[]⟩) (.slice a n c)
  have hs9 := hst.size
  clear hst
  generalize ((((w3.setCell ⟨w.heap.size, 0, none⟩ (.int .u8 97)).setCell ⟨w.heap.size, 1, none⟩ (.string ⟨#[97, 51, 58, 83, 116, 59]⟩)).setCell ⟨w.heap.size, 2, none⟩ (.int .i64 3)).setCell ⟨w.heap.size, 3, none⟩ (.string ⟨#[]⟩)).setCell ⟨w.heap.size, 4, none⟩ (.slice a n c) = w9 at hk9 hb9 hn9 hz9 hs9 ⊢
  have hlt9 : w.heap.size < w9.heap.size := by rw [hs9]; exact hs3
  have hz10 := (Below.heap_alloc w9 (.cells #[.int .u8 97, .string ⟨#[97, 51, 58, 83, 116, 59]⟩, .int .i64 3, .string ⟨#[]⟩, .slice a n c] 68) _ hlt9).trans hz9
  have hk10 := hk9.next (below_a w9 (.cells #[.int .u8 97, .string ⟨#[97, 51, 58, 83, 116, 59]⟩, .int .i64 3, .string ⟨#[]⟩, .slice a n c] 68))
  have hn10 := hn9.next (below_a w9 (.cells #[.int .u8 97, .string ⟨#[97, 51, 58, 83, 116, 59]⟩, .int .i64 3, .string ⟨#[]⟩, .slice a n c] 68))
  have hb10 := hb9.alloc hb9.size (.cells #[.int .u8 97, .string ⟨#[97, 51, 58, 83, 116, 59]⟩, .int .i64 3, .string ⟨#[]⟩, .slice a n c] 68)
  generalize w9.alloc (.cells #[.int .u8 97, .string ⟨#[97, 51, 58, 83, 116, 59]⟩, .int .i64 3, .string ⟨#[]⟩, .slice a n c] 68) = wx at hk10 hb10 hn10 hz10 ⊢
  obtain ⟨q0, q1, q2, q3, q4, qf⟩ := five_cells hz10
  refine bodyPost_ret (v := .tuple #[vA a n c, .slice (some ⟨gl, 0, none⟩) 1 cap, .int .i64 0]) (by simp [results, Tryz.results47, go_sem, q0, q1, q2, q3, q4]) rfl ?_
  exact ⟨a, n, c, gl, cap, gx, rfl, hcap, hk10, hn10, hb10⟩
set_option maxHeartbeats 4000000 in
theorem c_Size (B gs gm cs : Nat) (hcs : 1 ≤ cs) (w : World) (hE : Env B w) (hB : B ≤ w.heap.size) (hX : ExAt gs gm w) :
    Calls Tryz.prog 16 #[.string ⟨#[97, 51, 58, 83, 116, 59]⟩, .slice (some ⟨gs, 0, none⟩) 1 cs] w fun e w' => e = .returned (.tuple #[.int .i64 24, .int .i64 4, .int .i64 0]) ∧ Below w.heap.size w w' := by
  have HR := Lib.hid (c_rightObj B gs gm cs hcs w hE hB hX)
  clear hE hX
  go_enter Tryz.func16, Tryz.ntmps16
  go_wp2_with fail
  refine HR.out.mono ?_
  rintro e w1 ⟨a, n, c, gl, cap, gx, rfl, hcap, hk, hn, hb⟩
  have HB1 := Lib.hid hb
  have HK1 := Lib.hid (And.intro hk hn)
  clear hb hk hn HR
  go_wp2_with fail
  have HA := Lib.hid (below_a w1 (.cells #[.int .u8 97, .string ⟨#[97, 51, 58, 83, 116, 59]⟩, .int .i64 3, .string ⟨#[]⟩, .slice a n c] 68))
  obtain ⟨cl, hl1, hl2⟩ := (HK1.out.1.next HA.out).l
  refine (c_extentA gl cap hcap _ _ _ a n c _ hl1 (HK1.out.2.next HA.out)).mono ?_
  rintro e w2 ⟨rfl, hb⟩
  have HB2 := Lib.hid (below_on (below_on HB1.out HA.out HB1.out.size) hb (below_on HB1.out HA.out HB1.out.size).size)
  clear hb hl1 hl2
  go_wp2_with fail
  go_region
  all_goals
    go_wp2_with fail
    go_ret3
    exact ⟨rfl, (HB2.out.alloc HB2.out.size _).drew⟩
end Go.Proofs.YtacbjhbiaaieoaaGreatDoor
/-! The contract of a member's place, at the first example, in the code. -/
namespace Go.Proofs.YtacbjhbiaaieoaaGreatDoor
set_option linter.unusedVariables false
set_option linter.unusedSimpArgs false
set_option maxRecDepth 100000
open Go.RowKit

set_option maxHeartbeats 4000000 in
theorem c_Member (B gs gm cs : Nat) (hcs : 1 ≤ cs) (w : World) (hE : Env B w) (hB : B ≤ w.heap.size) (hX : ExAt gs gm w) :
    Calls Tryz.prog 20 #[.slice (some ⟨gs, 0, none⟩) 1 cs, .string sTt, .string sT2] w fun e w' => e = .returned (.tuple #[.int .i64 4, .string ⟨#[105]⟩, .int .i64 0]) ∧ Below w.heap.size w w' := by
  have HL := Lib.hid (c_layOut B gs gm cs hcs w hE hB hX)
  clear hE hX
  go_enter Tryz.func20, Tryz.ntmps20
  go_wp2_with fail
  refine HL.out.mono ?_
  rintro e w1 ⟨gl, cap, gx, rfl, hcap, hk, hb⟩
  have HB1 := Lib.hid hb
  have HK1 := Lib.hid hk
  clear hb hk HL
  go_wp2_with fail
  have HA := Lib.hid (below_a w1 (.cells #[.int .i64 0, .int .i64 0] 27))
  obtain ⟨cl, hl1, hl2⟩ := (HK1.out.next HA.out).l
  refine (c_find1 gl cap hcap 8 4 2 [116] _ _ _ _ hl1).mono ?_
  rintro e w2 ⟨rfl, hb⟩
  have HB2 := Lib.hid (below_on (below_on HB1.out HA.out HB1.out.size) hb (below_on HB1.out HA.out HB1.out.size).size)
  have HK2 := Lib.hid ((HK1.out.next HA.out).next hb)
  clear hb hl1
  have ha := (HK2.out.next (below_a w2 (.cells #[.int .i64 8, .int .i64 4, .int .i64 2, .string sTt, .slice (some ⟨gx, 0, none⟩) 2 cl] 89)))
  have a0 := ha.a.c 0 _ rfl
  have a1 := ha.a.c 1 _ rfl
  have a2 := ha.a.c 2 _ rfl
  have a3 := ha.a.c 3 _ rfl
  have a4 := ha.a.c 4 _ rfl
  have a5 := ha.a.c 5 _ rfl
  have a6 := ha.a.c 6 _ rfl
  have b0 := ha.b.c 0 _ rfl
  have b1 := ha.b.c 1 _ rfl
  have b2 := ha.b.c 2 _ rfl
  have b3 := ha.b.c 3 _ rfl
  have b4 := ha.b.c 4 _ rfl
  have b5 := ha.b.c 5 _ rfl
  have b6 := ha.b.c 6 _ rfl
  have hglt := ha.a.lt
  have hw2 : ∀ k, w2.heap.size < k → True := fun _ _ => trivial
  clear hw2
  have HB3 := Lib.hid (HB2.out.alloc HB2.out.size (.cells #[.int .i64 8, .int .i64 4, .int .i64 2, .string sTt, .slice (some ⟨gx, 0, none⟩) 2 cl] 89))
  obtain ⟨l0, l1, l2, l3, l4, lf⟩ := five_cells (heap_alloc_new w2 (.cells #[.int .i64 8, .int .i64 4, .int .i64 2, .string sTt, .slice (some ⟨gx, 0, none⟩) 2 cl] 89))
  clear ha lf
  generalize hw3 : w2.alloc (.cells #[.int .i64 8, .int .i64 4, .int .i64 2, .string sTt, .slice (some ⟨gx, 0, none⟩) 2 cl] 89) = w3 at a0 a1 a2 a3 a4 a5 a6 b0 b1 b2 b3 b4 b5 b6 hglt HB3 l0 l1 l2 l3 l4
  go_wp2_with fail
  refine wp_loop_rounds 3 ?_
  rw [rounds_succ]
  go_wp2_with fail
  rw [rounds_succ]
  go_wp2_with fail
  go_region
  all_goals
    go_wp2_with fail
    go_ret3
    exact ⟨rfl, ((HB3.out.alloc HB3.out.size _).alloc (HB3.out.alloc HB3.out.size _).size _).drew⟩
end Go.Proofs.YtacbjhbiaaieoaaGreatDoor
