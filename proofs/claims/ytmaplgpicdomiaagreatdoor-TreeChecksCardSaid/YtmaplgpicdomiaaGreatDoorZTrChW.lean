/-
  The walk of the law: any tree is judged, and taken apart, as the document says.
-/
import Derived.Test.YtmaplgpicdomiaaGreatDoorZTrRq
namespace Go.Proofs.YtmaplgpicdomiaaGreatDoor
set_option linter.unusedVariables false
set_option linter.unusedSimpArgs false
set_option maxRecDepth 100000
open Go.RowKit

/-- A row of nodes that may be written over. -/
def WrOk (g m : Nat) (w : World) : Prop := 0 < m → ∃ cur, w.heap[g]? = some (.cells cur 36) ∧ m * 6 ≤ cur.size
theorem wr_cells {g m : Nat} {w : World} (h : WrOk g m w) {q j : Nat} (hq : q < m) (hj : j < 6) : ∃ u, w.cell? ⟨g, q * 6 + j, none⟩ = some u ∧ w.frozen? ⟨g, q * 6 + j, none⟩ = false := by
  obtain ⟨cur, h1, h2⟩ := h (by omega)
  exact ⟨cur[q * 6 + j]'(by omega), by rw [Lib.cell_of_heap h1]; exact Array.getElem?_eq_getElem _, Lib.frozen_of_heap h1 _⟩
theorem wr_set {g m : Nat} {w : World} (h : WrOk g m w) (k : Nat) (u : Value) : WrOk g m (w.setCell ⟨g, k, none⟩ u) := fun h0 => by
  obtain ⟨cur, h1, h2⟩ := h h0
  exact ⟨_, heap_setCell_same _ g k _ _ u h1, by simpa using h2⟩
theorem below_drewN {B : Nat} {a w : World} (h : Below B a w) : ∀ n, Below B a (w.drewN n) := fun n => ⟨h.os, h.tape, h.output, h.size, h.block⟩
set_option maxHeartbeats 8000000 in
theorem c_TreeChecks (B : Nat) (t : List NdT) (a : Option Addr) (c : Nat) (i : Int) (w : World) (hE : Env B w) (hB : B ≤ w.heap.size) (hc : t.length ≤ c) (hnil : a = none → t.length = 0 ∧ c = 0) (hr : t.length * 64 ≤ 140737488355328) (ho : ∀ x ∈ t, NdOk x) (hT : TrIn t a w) :
    Calls Tryz.prog 3 #[.slice a t.length c, .int .i64 i] w fun e w' => e = .returned (.bool true) ∧ Below w.heap.size w w' := by
  obtain ⟨N, hN⟩ : ∃ N, t.length = N := ⟨_, rfl⟩
  obtain ⟨ck, hck⟩ : ∃ ck : Int, ((ckA wlB t : Nat) : Int) = ck := ⟨_, rfl⟩
  have HCp := Lib.hid (c_copyT t a c w hnil hr hT)
  have HCk : Hid (∀ oa oc W, Below w.heap.size w W → TrIn t oa W → Calls Tryz.prog 6 #[.slice oa N oc] W fun e w' => e = .returned (.int .i64 ck) ∧ Below W.heap.size W w') := fun oa oc W hb hT2 => by
    have h := c_tCheck B t oa oc W (hE.next (hb.mono hB)) (Nat.le_trans hB hb.size) ho hT2
    rw [hN, hck] at h
    exact h
  have HRk : Hid (∀ W, Below w.heap.size w W → Calls Tryz.prog 7 #[.slice a N c] W fun e w' => e = .returned (.int .i64 ck) ∧ Below W.heap.size W w') := fun W hb => by
    have h := c_rCheckT t a c W ho (hT.next hb)
    rw [hN, hck] at h
    exact h
  have HPa : Hid (∀ oa oc W, Below w.heap.size w W → TrIn t oa W → Calls Tryz.prog 8 #[.slice oa N oc, .int .i64 i] W fun e w' => PaT t i W e w') := fun oa oc W hb hT2 => by
    have h := c_tParts B t oa oc i W (hE.next (hb.mono hB)) (Nat.le_trans hB hb.size) ho hT2
    rw [hN] at h
    exact h
  have HRp : Hid (∀ W, Below w.heap.size w W → Calls Tryz.prog 9 #[.slice a N c, .int .i64 i] W fun e w' => PaT t i W e w') := fun W hb => by
    have h := c_rParts t a c i W ho (hT.next hb)
    rw [hN] at h
    exact h
  have HSu : Hid (∀ oa oc W, N ≤ oc → Below w.heap.size w W → TrIn t oa W → Calls Tryz.prog 11 #[.slice oa N oc, .int .i64 i] W fun e w' => SuT t i W e w') := fun oa oc W hoc hb hT2 => by
    have h := c_tSub B t oa oc (by omega) i W (hE.next (hb.mono hB)) (Nat.le_trans hB hb.size) ho hT2
    rw [hN] at h
    exact h
  have HRs : Hid (∀ W, Below w.heap.size w W → Calls Tryz.prog 12 #[.slice a N c, .int .i64 i] W fun e w' => SuT t i W e w') := fun W hb => by
    have h := c_rSub t a c hc i W ho (hT.next hb)
    rw [hN] at h
    exact h
  have HSa : Hid (∀ oa oc W, Below w.heap.size w W → TrIn t oa W → Calls Tryz.prog 13 #[.slice oa N oc, .slice a N c] W fun e w' => e = .returned (.bool true) ∧ ∃ n, w' = W.drewN n) := fun oa oc W hb hT2 => by
    have h := c_sameT t oa a oc c W (by omega) hT2 (hT.next hb)
    rw [hN] at h
    exact h
  have HN := Lib.hid hN
  rw [hN] at HCp ⊢
  clear hE ho hT hN hck hc hnil hr
  have hcc : (ck != ck) = false := by simp
  go_enter Tryz.func3, Tryz.ntmps3
  go_wp2_with fail
  refine HCp.out.mono ?_
  rintro e w1 ⟨⟨v, rfl, hown⟩, hb1⟩
  have hown' : w1.ownsRow w.heap.size 36 6 v t.length (noCs t) := by rw [HN.out]; exact hown
  obtain ⟨oa, oc, hv, hoc, hoT⟩ := tr_of_own hown'
  rw [HN.out] at hv hoc
  subst hv
  have HB1 := Lib.hid hb1
  have HO1 := Lib.hid hoT
  have HOC := Lib.hid hoc
  clear hb1 hown hown' hoc hoT HCp
  go_wp2_with fail
  refine (HCk.out oa oc w1 HB1.out HO1.out).mono ?_
  rintro e w2 ⟨rfl, hb⟩
  have HB2 := Lib.hid (below_t HB1.out hb HB1.out.size)
  have HO2 := Lib.hid (HO1.out.next hb)
  clear hb
  go_wp2_with fail
  refine (HRk.out w2 HB2.out).mono ?_
  rintro e w3 ⟨rfl, hb⟩
  have HB3 := Lib.hid (below_t HB2.out hb HB2.out.size)
  have HO3 := Lib.hid (HO2.out.next hb)
  clear hb
  go_wp2_with fail
  refine (HPa.out oa oc w3 HB3.out HO3.out).mono ?_
  rintro e w4 ⟨hp1, hb⟩
  have HB4 := Lib.hid (below_t HB3.out hb HB3.out.size)
  have HO4 := Lib.hid (HO3.out.next hb)
  clear hb
  by_cases her : erA t i = 0
  · obtain ⟨ps, k, p, pa, pc, hik, hk, hl, hg, hp, rfl, hpI⟩ : ∃ ps k p pa pc, i = ((k : Nat) : Int) ∧ k < t.length ∧ t.length ≤ 4096 ∧ grow t = some ps ∧ ps[k]? = some p ∧ e = .returned (.tuple #[.slice pa p.length pc, .int .i64 0]) ∧ IntIn any_ p pa w4 := by
      rcases hp1 with ⟨_, h⟩ | ⟨h, _⟩
      · exact h
      · exact absurd her h
    obtain ⟨ml, hml⟩ : ∃ ml, p.length = ml := ⟨_, rfl⟩
    have HQ := Lib.hid (And.intro hik (And.intro hg (And.intro hp (And.intro hpI (And.intro hml (And.intro her (And.intro hk hl)))))))
    rw [hml]
    clear hp1 her hik hk hg hp hpI hml hl
    go_wp2_with fail
    refine (HRp.out w4 HB4.out).mono ?_
    rintro e w5 ⟨hp2, hb⟩
    have HB5 := Lib.hid (below_t HB4.out hb HB4.out.size)
    have HO5 := Lib.hid (HO4.out.next hb)
    have HPI := Lib.hid (HQ.out.2.2.2.1.next hb)
    clear hb
    obtain ⟨pa2, pc2, rfl, hpI2⟩ : ∃ pa2 pc2, e = .returned (.tuple #[.slice pa2 ml pc2, .int .i64 0]) ∧ IntIn any_ p pa2 w5 := by
      rcases hp2 with ⟨_, ps', k', p', pa', pc', h1, _, _, h3, h4, h5, h6⟩ | ⟨h, _⟩
      · obtain rfl : k = k' := by have := HQ.out.1; omega
        rw [HQ.out.2.1] at h3
        cases h3
        rw [HQ.out.2.2.1] at h4
        cases h4
        exact ⟨pa', pc', by rw [h5, HQ.out.2.2.2.2.1], h6⟩
      · exact absurd HQ.out.2.2.2.2.2.1 h
    have HSI : Hid (Calls Tryz.prog 10 #[.slice pa ml pc, .slice pa2 ml pc2] w5 fun e w' => e = .returned (.bool true) ∧ ∃ n, w' = w5.drewN n) := by
      have h := c_sameI p pa pa2 pc pc2 any_ any_ w5 (by
        obtain ⟨fr, _, hG, _, _⟩ := grow_psG HQ.out.2.1
        have := hG.len HQ.out.2.2.2.2.2.2.2 p (List.mem_of_getElem? HQ.out.2.2.1)
        omega) HPI.out hpI2
      rw [HQ.out.2.2.2.2.1] at h
      exact h
    clear hp2 hpI2
    go_wp2_with fail
    refine HSI.out.mono ?_
    rintro e w6 ⟨rfl, n6, rfl⟩
    have HB6 := Lib.hid (below_drewN HB5.out n6)
    have HO6 : Hid (TrIn t oa (w5.drewN n6)) := HO5.out.next (below_drewN (Below.refl _ _) n6)
    generalize w5.drewN n6 = w6 at HB6 HO6 ⊢
    go_wp2_with fail
    refine (HSu.out oa oc w6 HOC.out HB6.out HO6.out).mono ?_
    rintro e w7 ⟨hs1, hb⟩
    have HB67 := Lib.hid hb
    have HB7 := Lib.hid (below_t HB6.out hb HB6.out.size)
    clear hb
    obtain ⟨fr, F, v, hfr, hF, hFk, rfl, hown⟩ : ∃ (fr : List Nat) (F : Nat) (v : Value), bgn t = some fr ∧ fr[k]? = some F ∧ F ≤ k ∧ e = .returned (.tuple #[v, .int .i64 0]) ∧ w7.ownsRow w6.heap.size 36 6 v (subL t F k).length (noCs (subL t F k)) := by
      rcases hs1 with ⟨_, ps', fr', k', F', v', h1, _, _, h3, h4, h5, h6, h7, h8⟩ | ⟨h, _⟩
      · obtain rfl : k = k' := by have := HQ.out.1; omega
        exact ⟨fr', F', v', h4, h5, h6, h7, h8⟩
      · exact absurd HQ.out.2.2.2.2.2.1 h
    obtain ⟨m, hm⟩ : ∃ m, (subL t F k).length = m := ⟨_, rfl⟩
    obtain ⟨xa, xc, hv, hxc, hxT⟩ := tr_of_own hown
    subst hv
    have hml2 : m ≤ 4096 := by have h1 := sub_len HQ.out.2.2.2.2.2.2.1 hFk; have h2 := HQ.out.2.2.2.2.2.2; omega
    obtain ⟨g, hxg, hWr⟩ : ∃ g, (0 < m → xa = some ⟨g, 0, none⟩ ∧ w6.heap.size ≤ g ∧ g < w7.heap.size) ∧ WrOk g m w7 := by
      rcases hown.2 with ⟨h1, h2⟩ | ⟨g, cap, cur, h1, h2, h3, h4, h5, h6, h7⟩
      · exact ⟨0, fun h => by omega, fun h => by omega⟩
      · cases h1
        exact ⟨g, fun _ => ⟨rfl, h2, (Array.getElem?_eq_some_iff.1 h3).1⟩, fun _ => ⟨cur, h3, by rw [h6]; omega⟩⟩
    have HX := Lib.hid (And.intro hfr (And.intro hF (And.intro hm (And.intro hxg (And.intro hWr hml2)))))
    have HXT := Lib.hid hxT
    rw [hm] at hxc ⊢
    clear hs1 hfr hF hFk hown hxT hxg hWr hml2 hm
    go_wp2_with fail
    refine (HRs.out w7 HB7.out).mono ?_
    rintro e w8 ⟨hs2, hb⟩
    have HB78 := Lib.hid hb
    have HB8 := Lib.hid (below_t HB7.out hb HB7.out.size)
    have HXT8 := Lib.hid (HXT.out.next hb)
    clear hb
    obtain ⟨ya, yc, rfl, hyT⟩ : ∃ ya yc, e = .returned (.tuple #[.slice ya m yc, .int .i64 0]) ∧ TrIn (subL t F k) ya w8 := by
      rcases hs2 with ⟨_, ps', fr', k', F', v', h1, _, _, h3, h4, h5, h6, h7, h8⟩ | ⟨h, _⟩
      · obtain rfl : k = k' := by have := HQ.out.1; omega
        rw [HX.out.1] at h4
        cases h4
        rw [HX.out.2.1] at h5
        cases h5
        obtain ⟨ya, yc, hv, _, hyT⟩ := tr_of_own h8
        rw [HX.out.2.2.1] at hv
        exact ⟨ya, yc, by rw [h7, hv], hyT⟩
      · exact absurd HQ.out.2.2.2.2.2.1 h
    have HST : Hid (Calls Tryz.prog 13 #[.slice xa m xc, .slice ya m yc] w8 fun e w' => e = .returned (.bool true) ∧ ∃ n, w' = w8.drewN n) := by
      have h := c_sameT (subL t F k) xa ya xc yc w8 (by have := HX.out.2.2; omega) HXT8.out hyT
      rw [HX.out.2.2.1] at h
      exact h
    clear hs2 hyT
    go_wp2_with fail
    refine HST.out.mono ?_
    rintro e w9 ⟨rfl, n9, rfl⟩
    have HW9 : Hid (Below w6.heap.size w6 (w8.drewN n9) ∧ WrOk g m (w8.drewN n9)) := ⟨below_drewN (below_t HB67.out HB78.out HB67.out.size) n9, fun h0 => by
      obtain ⟨cur, h1, h2⟩ := HX.out.2.2.2.2.1 h0
      exact ⟨cur, blk_on h1 (below_drewN HB78.out n9), h2⟩⟩
    generalize w8.drewN n9 = w9 at HW9 ⊢
    go_wp2_with fail
    go_loopg [12] m (fun z v12 wr => ∃ q : Nat, q + z = m ∧ v12 = .int .i64 (q : Int) ∧ Hid (Below w6.heap.size w6 wr ∧ WrOk g m wr))
    case atStart => exact ⟨0, by omega, rfl, HW9.out⟩
    case round =>
      obtain ⟨q, hq, rfl, HH⟩ := hrel
      by_cases hlt : q < m
      · have hd : decide ((q : Int) < (m : Int)) = true := by simp; omega
        obtain ⟨hxa, hg6, _⟩ := HX.out.2.2.2.1 (by omega)
        subst hxa
        obtain ⟨u0, a0, f0⟩ := wr_cells HH.out.2 hlt (j := 0) (by omega)
        obtain ⟨u1, a1, f1⟩ := wr_cells HH.out.2 hlt (j := 1) (by omega)
        obtain ⟨u2, a2, f2⟩ := wr_cells HH.out.2 hlt (j := 2) (by omega)
        obtain ⟨u3, a3, f3⟩ := wr_cells HH.out.2 hlt (j := 3) (by omega)
        obtain ⟨u4, a4, f4⟩ := wr_cells HH.out.2 hlt (j := 4) (by omega)
        obtain ⟨u5, a5, f5⟩ := wr_cells HH.out.2 hlt (j := 5) (by omega)
        rw [Nat.add_zero] at a0 f0
        have hq0 : (0 : Int) ≤ (q : Int) := by omega
        have hqm : (q : Int) < (m : Int) := by omega
        have hwq : IntKind.i64.wrap ((q : Int) + 1) = ((q + 1 : Nat) : Int) := by have := HX.out.2.2.2.2.2; rw [IntKind.wrap_i64]; omega
        have HMi : Hid (m - (q + 1) < gk ∧ q + 1 + (m - (q + 1)) = m) := ⟨by omega, by omega⟩
        have HG6 := Lib.hid hg6
        go_wp2_with fail
        go_roundg (m - (q + 1))
        case measure => exact HMi.out.1
        case rel =>
          refine ⟨q + 1, HMi.out.2, rfl, ?_, ?_⟩
          · exact (((((HH.out.1.setCell (p := ⟨g, q * 6, none⟩) HG6.out _).setCell (p := ⟨g, q * 6 + 1, none⟩) HG6.out _).setCell (p := ⟨g, q * 6 + 2, none⟩) HG6.out _).setCell (p := ⟨g, q * 6 + 3, none⟩) HG6.out _).setCell (p := ⟨g, q * 6 + 4, none⟩) HG6.out _).setCell (p := ⟨g, q * 6 + 5, none⟩) HG6.out _
          · exact wr_set (wr_set (wr_set (wr_set (wr_set (wr_set HH.out.2 _ _) _ _) _ _) _ _) _ _) _ _
      · have hd : decide ((q : Int) < (m : Int)) = false := by simp; omega
        have HBe := Lib.hid (below_t HB6.out HH.out.1 HB6.out.size)
        go_wp2_with fail
        refine (HSa.out oa oc wr HBe.out (HO6.out.next HH.out.1)).mono ?_
        rintro e w10 ⟨rfl, n10, rfl⟩
        go_wp2_with fail
        go_ret
        exact ⟨rfl, below_drewN HBe.out n10⟩
  · have HER := Lib.hid her
    obtain ⟨er, her2⟩ : ∃ er : Int, ((erA t i : Nat) : Int) = er := ⟨_, rfl⟩
    have HE2 := Lib.hid her2
    obtain rfl : e = .returned (.tuple #[.slice none 0 0, .int .i64 er]) := by
      rcases hp1 with ⟨h, _⟩ | ⟨_, h⟩
      · exact absurd h her
      · rw [h, her2]
    have hee : (er != er) = false := by simp
    clear hp1 her her2
    go_wp2_with fail
    refine (HRp.out w4 HB4.out).mono ?_
    rintro e w5 ⟨hp2, hb⟩
    have HB5 := Lib.hid (below_t HB4.out hb HB4.out.size)
    have HO5 := Lib.hid (HO4.out.next hb)
    clear hb
    obtain rfl : e = .returned (.tuple #[.slice none 0 0, .int .i64 er]) := by
      rcases hp2 with ⟨h, _⟩ | ⟨_, h⟩
      · exact absurd h HER.out
      · rw [h, HE2.out]
    have HSI : Hid (Calls Tryz.prog 10 #[.slice none 0 0, .slice none 0 0] w5 fun e w' => e = .returned (.bool true) ∧ ∃ n, w' = w5.drewN n) := c_sameI [] none none 0 0 any_ any_ w5 (by simp) (IntIn.nil _ _ _) (IntIn.nil _ _ _)
    clear hp2
    go_wp2_with fail
    refine HSI.out.mono ?_
    rintro e w6 ⟨rfl, n6, rfl⟩
    have HB6 := Lib.hid (below_drewN HB5.out n6)
    have HO6 : Hid (TrIn t oa (w5.drewN n6)) := HO5.out.next (below_drewN (Below.refl _ _) n6)
    generalize w5.drewN n6 = w6 at HB6 HO6 ⊢
    go_wp2_with fail
    refine (HSu.out oa oc w6 HOC.out HB6.out HO6.out).mono ?_
    rintro e w7 ⟨hs1, hb⟩
    have HB7 := Lib.hid (below_t HB6.out hb HB6.out.size)
    have HO7 := Lib.hid (HO6.out.next hb)
    clear hb
    obtain rfl : e = .returned (.tuple #[.slice none 0 0, .int .i64 er]) := by
      rcases hs1 with ⟨h, _⟩ | ⟨_, h⟩
      · exact absurd h HER.out
      · rw [h, HE2.out]
    clear hs1
    go_wp2_with fail
    refine (HRs.out w7 HB7.out).mono ?_
    rintro e w8 ⟨hs2, hb⟩
    have HB8 := Lib.hid (below_t HB7.out hb HB7.out.size)
    have HO8 := Lib.hid (HO7.out.next hb)
    clear hb
    obtain rfl : e = .returned (.tuple #[.slice none 0 0, .int .i64 er]) := by
      rcases hs2 with ⟨h, _⟩ | ⟨_, h⟩
      · exact absurd h HER.out
      · rw [h, HE2.out]
    have HST : Hid (Calls Tryz.prog 13 #[.slice none 0 0, .slice none 0 0] w8 fun e w' => e = .returned (.bool true) ∧ ∃ n, w' = w8.drewN n) := c_sameT [] none none 0 0 w8 (by simp) (TrIn.nil _ _) (TrIn.nil _ _)
    clear hs2
    go_wp2_with fail
    refine HST.out.mono ?_
    rintro e w9 ⟨rfl, n9, rfl⟩
    have HW9 : Hid (Below w.heap.size w (w8.drewN n9) ∧ TrIn t oa (w8.drewN n9)) := ⟨below_drewN HB8.out n9, HO8.out.next (below_drewN (Below.refl _ _) n9)⟩
    generalize w8.drewN n9 = w9 at HW9 ⊢
    go_wp2_with fail
    go_loopg [12] 0 (fun z v12 wr => v12 = .int .i64 0 ∧ wr = w9)
    case atStart => exact ⟨rfl, rfl⟩
    case round =>
      obtain ⟨rfl, rfl⟩ := hrel
      go_wp2_with fail
      refine (HSa.out oa oc _ HW9.out.1 HW9.out.2).mono ?_
      rintro e w10 ⟨rfl, n10, rfl⟩
      go_wp2_with fail
      go_ret
      exact ⟨rfl, below_drewN HW9.out.1 n10⟩
end Go.Proofs.YtmaplgpicdomiaaGreatDoor
