/-
  The law NamesCounts, walked.
-/
import Derived.Test.YtjadckhngalmlaaGreatDoorZNmCo
import Derived.BigQuiet
namespace Go.Proofs.YtjadckhngalmlaaGreatDoor
set_option linter.unusedVariables false
set_option linter.unusedSimpArgs false
set_option maxRecDepth 100000
open Go.RowKit

set_option maxHeartbeats 40000000 in
theorem c_NamesCounts (B : Nat) (u : UnP) (p : UnS) (hU : UnOk u) (nm : List UInt8) (w : World) (hE : Env B w) (hB : B ≤ w.heap.size) (hI : UnIn u p w) :
    Calls Tryz.prog 3 #[unV u p, nmS nm] w fun e w' => e = .returned (.bool true) ∧ Below w.heap.size w w' := by
  have HWo := Lib.hid (fun W (hb : Below w.heap.size w W) => c_works B W (hE.next (hb.mono hB)) (Nat.le_trans hB hb.size))
  have HRe := Lib.hid (fun W (hb : Below w.heap.size w W) => c_ResolveA B u p hU nm W (hE.next (hb.mono hB)) (Nat.le_trans hB hb.size) (hI.next hb))
  have HFu := Lib.hid (fun W (hb : Below w.heap.size w W) => c_Funcs B u p hU W (hE.next (hb.mono hB)) (Nat.le_trans hB hb.size) (hI.next hb))
  have HFi := Lib.hid (fun W (hb : Below w.heap.size w W) => c_File B u p hU W (hE.next (hb.mono hB)) (Nat.le_trans hB hb.size) (hI.next hb))
  have HP : Hid ((rvA u nm).1.2 = 0 → ∃ x k0, CoP u nm x k0) := Lib.hid CoP.of
  have HCo : Hid (∀ {x : FnP} {k0 : Nat} (hp : CoP u nm x k0) {B1 B2 : Nat} {W : World} {sv fv : Value} {D : Nat} {css : List (List Value)}
    (h1 : W.ownsRow B1 51 4 sv (rvA u nm).2.slots.length (slCs (rvA u nm).2.slots)) (h2 : W.heap[D]? = some (.cells (bdCs (rvA u nm).2.bds).toArray 49))
    (h3 : W.ownsRow B2 45 5 fv (rdA u).2.funcs.length css.flatten) (h4 : css.length = (rdA u).2.funcs.length) (h5 : ∀ (k : Nat) (x : FnP) (cs : List Value), (rdA u).2.funcs[k]? = some x → css[k]? = some cs → FoC B2 W x cs),
    ∃ sa sc gf cf gb a3 c3 c4, sv = .slice sa (rvA u nm).2.slots.length sc ∧ fv = .slice (some ⟨gf, 0, none⟩) (rdA u).2.funcs.length cf ∧ CoC x (rdA u).2.funcs (rvA u nm).2.bds (rvA u nm).2.slots gf gb D sa k0 (.slice a3 x.params.length c3) c4 W) := fun hp => CoC.of hp
  unfold ReT at HRe
  unfold FuT at HFu
  unfold FiT at HFi
  obtain ⟨rv, hrv⟩ : ∃ a, rvA u nm = a := ⟨_, rfl⟩
  obtain ⟨ra, hra⟩ : ∃ a, rdA u = a := ⟨_, rfl⟩
  have HEq := Lib.hid (And.intro hrv hra)
  rw [hrv] at HRe HP HCo
  rw [hra] at HFu HFi HCo
  obtain ⟨US, hus⟩ : ∃ x : Value, .slice p.sa u.structs.length p.sc = x := ⟨_, rfl⟩
  obtain ⟨UG, hug⟩ : ∃ x : Value, .slice p.ga u.globals.length p.gc = x := ⟨_, rfl⟩
  obtain ⟨UF, huf⟩ : ∃ x : Value, .slice p.fa u.funcs.length p.fc = x := ⟨_, rfl⟩
  have HOc : Hid (US.oneCell' = true ∧ UG.oneCell' = true ∧ UF.oneCell' = true) := by rw [← hus, ← hug, ← huf]; exact Lib.hid ⟨rfl, rfl, rfl⟩
  simp only [unV] at HRe HFu HFi ⊢
  rw [hus, hug, huf] at HRe HFu HFi ⊢
  clear hE hB hU hI hrv hra hus hug huf
  go_enter Tryz.func3, Tryz.ntmps3
  go_wp2_with fail
  have hb1 := below_o w (.cells #[US, UG, UF] 26)
  have hx1 := heap_alloc_at (w := w) (.cells #[US, UG, UF] 26) _ rfl
  refine (HWo.out _ hb1).mono ?_
  rintro e w2 ⟨rfl, hb2⟩
  have HB2 := Lib.hid (below_t hb1 hb2 hb1.size)
  obtain ⟨UB, hUB⟩ : ∃ n, w.heap.size = n := ⟨_, rfl⟩
  rw [hUB] at hx1 ⊢
  have HX2 := Lib.hid (blk_on hx1 hb2)
  clear hb1 hx1 hb2 HWo
  obtain ⟨u0, u1, u2, _⟩ := cells3 HX2.out
  have hul := (Array.getElem?_eq_some_iff.1 HX2.out).1
  go_wp2_with fail
  refine (HRe.out _ HB2.out).mono ?_
  rintro e w3 ⟨hr, hb3⟩
  have HB3 := Lib.hid (below_t HB2.out hb3 HB2.out.size)
  have HX3 := Lib.hid (blk_on HX2.out hb3)
  clear hb3 HRe u0 u1 u2 hul
  obtain ⟨u0, u1, u2, _⟩ := cells3 HX3.out
  have hul := (Array.getElem?_eq_some_iff.1 HX3.out).1
  rcases hr with ⟨h0, sv, D, rfl, hs, hD, _⟩ | ⟨hne, rfl⟩
  · obtain ⟨x, k0, hp⟩ := HP.out h0
    have HPp := Lib.hid hp
    have HS3 := Lib.hid (And.intro hs hD)
    obtain ⟨sa0, sc0, hsv⟩ := own_slice hs
    clear hp hs hD HP h0
    have hrd : ra.1.2 = 0 := by rw [← HEq.out.2]; exact HPp.out.rd
    have HRd := Lib.hid hrd
    clear hrd hsv
    go_wp2_with fail
    have hb4 := below_o w3 (.cells #[.int .i64 0, .int .i64 0] 32)
    have hf4 := heap_alloc_at (w := w3) (.cells #[.int .i64 0, .int .i64 0] 32) _ rfl
    refine (HFu.out _ (below_t HB3.out hb4 HB3.out.size)).mono ?_
    rintro e w5 ⟨hr5, hb5⟩
    obtain ⟨fv, css, rfl, hfo, hcl, hfc⟩ : ∃ (fv : Value) (css : List (List Value)), e = .returned (.tuple #[fv, faV 0 0]) ∧ w5.ownsRow (w3.alloc (.cells #[.int .i64 0, .int .i64 0] 32)).heap.size 45 5 fv ra.2.funcs.length css.flatten ∧ css.length = ra.2.funcs.length ∧ ∀ (k : Nat) (x : FnP) (cs : List Value), ra.2.funcs[k]? = some x → css[k]? = some cs → FoC (w3.alloc (.cells #[.int .i64 0, .int .i64 0] 32)).heap.size w5 x cs := by
      rcases hr5 with ⟨_, h⟩ | ⟨hne, _⟩
      · exact h
      · exact absurd HRd.out hne
    have hf5 := blk_on hf4 hb5
    have hb35 := below_t hb4 hb5 hb4.size
    have HB5 := Lib.hid (below_t HB3.out hb35 HB3.out.size)
    have hx5 := blk_on HX3.out hb35
    obtain ⟨FB, hFB⟩ : ∃ n, w3.heap.size = n := ⟨_, rfl⟩
    have hFU : w.heap.size ≤ FB := by rw [← hFB]; exact HB3.out.size
    rw [hFB] at hf5 ⊢
    obtain ⟨z0, z1, zf⟩ := two_cells hf5
    have zf0 := zf 0
    have zf1 := zf 1
    have hzl := (Array.getElem?_eq_some_iff.1 hf5).1
    have hne : UB ≠ FB := ne_ty hx5 hf5 (by decide)
    have hF1 := heap_setCell_same w5 FB 0 _ _ (.int .i64 0) hf5
    have hz6 := two_put hf5 (.int .i64 0) (.int .i64 0)
    have hx6 : ((w5.setCell ⟨FB, 0, none⟩ (.int .i64 0)).setCell ⟨FB, 1, none⟩ (.int .i64 0)).heap[UB]? = some (.cells #[US, UG, UF] 26) := (Below.heap_setCell _ _ _ _ hne).trans ((Below.heap_setCell _ _ _ _ hne).trans hx5)
    have hb6 := two_below HB5.out hFU (.int .i64 0) (.int .i64 0)
    have hs6 := nm_set (nm_set (own_on HS3.out.1 hb35) hf5 (by decide) 0 (.int .i64 0)) hF1 (by decide) 1 (.int .i64 0)
    have hd5 := blk_on HS3.out.2 hb35
    have hneD : D ≠ FB := ne_ty hd5 hf5 (by decide)
    have hd6 : ((w5.setCell ⟨FB, 0, none⟩ (.int .i64 0)).setCell ⟨FB, 1, none⟩ (.int .i64 0)).heap[D]? = some (.cells (bdCs rv.2.bds).toArray 49) := (Below.heap_setCell _ _ _ _ hneD).trans ((Below.heap_setCell _ _ _ _ hneD).trans hd5)
    have ho6 := nm_set (nm_set hfo hf5 (by decide) 0 (.int .i64 0)) hF1 (by decide) 1 (.int .i64 0)
    have hc6 : ∀ (k : Nat) (x : FnP) (cs : List Value), ra.2.funcs[k]? = some x → css[k]? = some cs → FoC (w3.alloc (.cells #[.int .i64 0, .int .i64 0] 32)).heap.size ((w5.setCell ⟨FB, 0, none⟩ (.int .i64 0)).setCell ⟨FB, 1, none⟩ (.int .i64 0)) x cs := fun k x cs h1 h2 => ((hfc k x cs h1 h2).set hf5 (by decide) (by decide) 0 _).set hF1 (by decide) (by decide) 1 _
    obtain ⟨u0, u1, u2, _⟩ := cells3 hx6
    have hul6 := (Array.getElem?_eq_some_iff.1 hx6).1
    obtain ⟨BF, hBF⟩ : ∃ n, (w3.alloc (.cells #[.int .i64 0, .int .i64 0] 32)).heap.size = n := ⟨_, rfl⟩
    rw [hBF] at ho6 hc6
    have HM6 := Lib.hid (And.intro hs6 (And.intro hd6 (And.intro ho6 (And.intro hc6 (And.intro hcl (And.intro hz6 hb6))))))
    clear hr5 hb5 hfo hfc hcl hf5 hb35 hx5 hFU hne hF1 hz6 hx6 hb6 hs6 hd5 hneD hd6 ho6 hc6 hb4 hf4 hFB hBF zf HFu hul
    go_wp2_with fail
    refine (HFi.out _ HM6.out.2.2.2.2.2.2).mono ?_
    rintro e w7 ⟨hr7, hb7⟩
    obtain ⟨ba, bc, oa, oc, rfl⟩ : ∃ ba bc oa oc, e = .returned (.tuple #[.slice ba ra.2.order.length bc, .slice oa ra.2.order.length oc, faV 0 0]) := by
      rcases hr7 with ⟨_, bv, ov, h1, h2, h3⟩ | ⟨hne, _⟩
      · obtain ⟨ba, bc, rfl⟩ := own_slice h2
        obtain ⟨oa, oc, rfl⟩ := own_slice h3
        exact ⟨ba, bc, oa, oc, h1⟩
      · exact absurd HRd.out hne
    have HB7 := Lib.hid (below_t HM6.out.2.2.2.2.2.2 hb7 HM6.out.2.2.2.2.2.2.size)
    have hf7 := blk_on HM6.out.2.2.2.2.2.1 hb7
    have hco := HCo.out HPp.out (own_on HM6.out.1 hb7) (blk_on HM6.out.2.1 hb7) (own_on HM6.out.2.2.1 hb7) HM6.out.2.2.2.2.1 (fun k x cs h1 h2 => (HM6.out.2.2.2.1 k x cs h1 h2).next hb7)
    obtain ⟨sa, sc, gf, cf, gb, a3, c3, c4, rfl, rfl, hcc⟩ := hco
    have HCC := Lib.hid hcc
    clear hr7 hb7 HM6 HFi HCo z0 z1 zf0 zf1 hzl u0 u1 u2 hul6 hcc
    obtain ⟨z0, z1, _⟩ := two_cells hf7
    have hzl := (Array.getElem?_eq_some_iff.1 hf7).1
    obtain ⟨OL, hOL⟩ : ∃ n, ra.2.order.length = n := ⟨_, rfl⟩
    obtain ⟨FN, hFN⟩ : ∃ n, ra.2.funcs.length = n := ⟨_, rfl⟩
    obtain ⟨SL, hSL⟩ : ∃ n, rv.2.slots.length = n := ⟨_, rfl⟩
    obtain ⟨BL, hBL⟩ : ∃ n, rv.2.bds.length = n := ⟨_, rfl⟩
    have HLn : Hid (ra.2.funcs.length = FN ∧ rv.2.slots.length = SL ∧ rv.2.bds.length = BL ∧ x.body.length = BL ∧ k0 < FN ∧ FN ≤ 128 ∧ SL ≤ 256 ∧ BL ≤ 4096 ∧ x.params.length ≤ 8) := by
      have h1 := HPp.out.bl
      have h2 := HPp.out.s2
      have h3 := HPp.out.fl
      have h4 := (List.getElem?_eq_some_iff.1 HPp.out.at').1
      rw [HEq.out.1] at h1 h2
      rw [HEq.out.2] at h3 h4
      exact ⟨hFN, hSL, hBL, by omega, by omega, by omega, by omega, by have := HPp.out.b4; omega, HPp.out.p8⟩
    rw [hOL, hFN, hSL, hBL]
    clear hOL hFN hSL hBL hf7
    have hdo : decide (OL = OL) = true := by simp
    go_wp2_with fail
    have hb8 := below_o w7 (.cells #[.int .i64 0, .int .i64 0] 32)
    obtain ⟨w8, hw8⟩ : ∃ w8, w7.alloc (.cells #[.int .i64 0, .int .i64 0] 32) = w8 := ⟨_, rfl⟩
    obtain ⟨EB, hEB⟩ : ∃ n, w7.heap.size = n := ⟨_, rfl⟩
    rw [hw8] at hb8 ⊢
    have HC8 := Lib.hid (And.intro (HCC.out.next hb8) (below_t HB7.out hb8 HB7.out.size))
    rw [hEB]
    clear hw8 hb8 hEB z0 z1 hzl HCC
    obtain ⟨PL, hPL⟩ : ∃ n, x.params.length = n := ⟨_, rfl⟩
    have HPL := Lib.hid hPL
    go_loopg [12] FN (fun g v12 wr => ∃ q : Nat, q + g = FN ∧ v12 = .int .i64 (q : Int) ∧ Hid (q ≤ k0 ∧ CoC x ra.2.funcs rv.2.bds rv.2.slots gf gb D sa k0 (.slice a3 PL c3) c4 wr ∧ Below w.heap.size w wr))
    case atStart => exact ⟨0, by omega, rfl, Nat.zero_le _, by rw [← HPL.out]; exact HC8.out.1, HC8.out.2⟩
    case round =>
      obtain ⟨q, hq, rfl, HR⟩ := hrel
      have hqF : q < FN := by have := HR.out.1; have := HLn.out; omega
      have hd : decide ((q : Int) < (FN : Int)) = true := by simp; omega
      have hq0 : (0 : Int) ≤ (q : Int) := by omega
      have hql : (q : Int) < (FN : Int) := by omega
      obtain ⟨y, hy⟩ : ∃ y, ra.2.funcs[q]? = some y := ⟨_, List.getElem?_eq_getElem (by have := HLn.out; omega)⟩
      have c1 := HR.out.2.1.nm q y hy
      have hgl := HR.out.2.1.l1
      have hwm : IntKind.i64.wrap ((q : Int) + 1) = ((q + 1 : Nat) : Int) := by rw [IntKind.wrap_i64]; have := HLn.out; omega
      have HM : Hid (FN - (q + 1) < gk ∧ q + 1 + (FN - (q + 1)) = FN) := ⟨by omega, by omega⟩
      obtain ⟨yn, hyn⟩ : ∃ n, y.name = n := ⟨_, rfl⟩
      rw [hyn] at c1
      by_cases hqk : q = k0
      · have hyx : y = x := by
          have h1 := HPp.out.at'
          rw [HEq.out.2, ← hqk, hy] at h1
          exact Option.some.inj h1
        have hnn : yn = nm := by rw [← hyn, hyx]; exact HPp.out.nx
        subst hnn
        have d3 := HR.out.2.1.pa
        have c4' := HR.out.2.1.bo
        rw [← hqk] at d3 c4'
        rw [HLn.out.2.2.2.1] at c4'
        have HCn : Hid (CoC x ra.2.funcs rv.2.bds rv.2.slots gf gb D sa q (.slice a3 PL c3) c4 wr ∧ Below w.heap.size w wr) := by rw [hqk]; exact Lib.hid HR.out.2
        have hq4 : (0 : Int) ≤ (q : Int) := hq0
        clear hy hyn hqk hyx hq HM hwm
        go_wp2_with fail
        obtain ⟨cn, hcn⟩ : ∃ cn : Nat → Nat, cn = fun j => cnR (fun k => (x.body.getD k nd0).kind == 22) 0 j := ⟨_, rfl⟩
        have HCc : Hid (cn 0 = 0 ∧ (∀ j, cn (j + 1) = cn j + if ((x.body.getD j nd0).kind == 22) = true then 1 else 0) ∧ (∀ j, cn j ≤ j) ∧ SL = PL + cn BL) := by
          subst hcn
          refine ⟨cnR_self _ _, fun j => ?_, fun j => ?_, ?_⟩
          · show cnR _ 0 (j + 1) = _
            rw [cnR_add _ (Nat.zero_le j) (Nat.le_succ j), cnR_one]
          · show cnR _ 0 j ≤ j
            unfold cnR
            exact Nat.le_trans List.countP_le_length (by simp)
          · have h1 := HPp.out.sl
            rw [HEq.out.1, HLn.out.2.1, HPL.out, HLn.out.2.2.2.1] at h1
            exact h1
        clear hcn c1 d3 c4' hgl
        obtain ⟨v0, hv0⟩ : ∃ v : Int, (PL : Int) = v := ⟨_, rfl⟩
        have HV0 : Hid (v0 = ((PL + cn 0 : Nat) : Int)) := by rw [← hv0, HCc.out.1]; exact Lib.hid rfl
        rw [hv0]
        clear hv0
        go_loopg [13, 14] BL (fun g v13 v14 wq => ∃ (j : Nat) (v : Int), j + g = BL ∧ v14 = .int .i64 (j : Int) ∧ v13 = .int .i64 v ∧ Hid (v = ((PL + cn j : Nat) : Int) ∧ CoC x ra.2.funcs rv.2.bds rv.2.slots gf gb D sa q (.slice a3 PL c3) c4 wq ∧ Below w.heap.size w wq))
        case atStart => exact ⟨0, v0, by omega, rfl, rfl, HV0.out, HCn.out.1, HCn.out.2⟩
        case round =>
          obtain ⟨j, v, hj, rfl, rfl, HR2⟩ := hrel
          by_cases hlt : j < BL
          · obtain ⟨y, hy⟩ : ∃ y, x.body[j]? = some y := ⟨_, List.getElem?_eq_getElem (by have := HLn.out; omega)⟩
            obtain ⟨b, hb⟩ : ∃ b, rv.2.bds[j]? = some b := ⟨_, List.getElem?_eq_getElem (by have := HLn.out; omega)⟩
            have hyd : x.body.getD j nd0 = y := by rw [List.getD_eq_getElem?_getD, hy]; rfl
            have hnb := HPp.out.nb j y b hy (by rw [HEq.out.1]; exact hb)
            have hbs := HPp.out.bs j y b hy (by rw [HEq.out.1]; exact hb)
            rw [HEq.out.1] at hbs
            have hcs := HCc.out.2.1 j
            rw [hyd] at hcs
            have hcj := HCc.out.2.2.1 j
            have n0 := HR2.out.2.1.nd j y hy 0 _ rfl
            have n1 := HR2.out.2.1.nd j y hy 1 _ rfl
            have n2 := HR2.out.2.1.nd j y hy 2 _ rfl
            have n3 := HR2.out.2.1.nd j y hy 3 _ rfl
            have n4 := HR2.out.2.1.nd j y hy 4 _ rfl
            have n5 := HR2.out.2.1.nd j y hy 5 _ rfl
            have e0 := HR2.out.2.1.bd j b hb 0 _ rfl
            have e1 := HR2.out.2.1.bd j b hb 1 _ rfl
            have e2 := HR2.out.2.1.bd j b hb 2 _ rfl
            rw [Nat.add_zero] at n0 e0
            have hbo := HR2.out.2.1.bo
            rw [HLn.out.2.2.2.1] at hbo
            have hl1 := HR2.out.2.1.l1
            have hl2 := HR2.out.2.1.l2
            have hl3 := HR2.out.2.1.l3
            have hdj : decide ((j : Int) < (BL : Int)) = true := by simp; omega
            have hj0 : (0 : Int) ≤ (j : Int) := by omega
            have hjl : (j : Int) < (BL : Int) := by omega
            have hwj : IntKind.i64.wrap ((j : Int) + 1) = ((j + 1 : Nat) : Int) := by rw [IntKind.wrap_i64]; have := HLn.out; omega
            have hwv : IntKind.i64.wrap (v + 1) = v + 1 := by rw [IntKind.wrap_i64]; have h1 := HR2.out.1; have h2 := HLn.out; have h3 := HPL.out; omega
            have HM2 : Hid (BL - (j + 1) < gk ∧ j + 1 + (BL - (j + 1)) = BL) := ⟨by omega, by omega⟩
            obtain ⟨yk, yn2, ya, yi, yt, yy⟩ := y
            obtain ⟨bk, bi, bt⟩ := b
            simp only at n0 n1 n2 n3 n4 n5 e0 e1 e2 hnb hbs hcs
            have hbx := below_o wr (.cells #[.int .i64 yk, .int .i64 yn2, .int .i64 ya, .int .i64 yi, .string ⟨yt.toArray⟩, .string ⟨yy.toArray⟩] 47)
            have HNx : Hid (∀ v' : Int, v' = ((PL + cn (j + 1) : Nat) : Int) → ∀ W, Below (wr.alloc (.cells #[.int .i64 yk, .int .i64 yn2, .int .i64 ya, .int .i64 yi, .string ⟨yt.toArray⟩, .string ⟨yy.toArray⟩] 47)).heap.size (wr.alloc (.cells #[.int .i64 yk, .int .i64 yn2, .int .i64 ya, .int .i64 yi, .string ⟨yt.toArray⟩, .string ⟨yy.toArray⟩] 47)) W → v' = ((PL + cn (j + 1) : Nat) : Int) ∧ CoC x ra.2.funcs rv.2.bds rv.2.slots gf gb D sa q (.slice a3 PL c3) c4 W ∧ Below w.heap.size w W) := fun v' hv W hW => ⟨hv, (HR2.out.2.1.next hbx).next hW, below_t (below_t HR2.out.2.2 hbx HR2.out.2.2.size) hW (Nat.le_trans HR2.out.2.2.size hbx.size)⟩
            have HSl : Hid (bk = 3 → ∃ s gs, rv.2.slots[bi]? = some s ∧ s.name = yt ∧ s.type = bt ∧ bi < SL ∧ sa = some ⟨gs, 0, none⟩ ∧ gs < wr.heap.size ∧ wr.cell? ⟨gs, bi * 4, none⟩ = some (nmS s.name) ∧ wr.cell? ⟨gs, bi * 4 + 1, none⟩ = some (nmS s.type)) := fun h3 => by
              obtain ⟨s, h1, h2, h4⟩ := hbs h3
              obtain ⟨gs, g1, g2, g3⟩ := HR2.out.2.1.sl bi s h1
              exact ⟨s, gs, h1, h2, h4, by have := (List.getElem?_eq_some_iff.1 h1).1; have := HLn.out; omega, g1, g2, by have := g3 0 _ rfl; rw [Nat.add_zero] at this; exact this, g3 1 _ rfl⟩
            have HVv := Lib.hid (And.intro HR2.out.1 hcs)
            clear hy hb hyd hbs hcs hcj hj hlt hbx
            by_cases h22 : yk = 22
            · have hbn := hnb.1 (.inr h22)
              have hnq : ∀ W : World, (binOp .neq 49 (.agg #[.int .i64 bk, .int .i64 (bi : Int), .string ⟨bt.toArray⟩]) (.agg #[.int .i64 0, .int .i64 0, .string ⟨#[]⟩])).run Tryz.prog W = .ok (.bool true) W := fun W => by
                have h := neq_bind ⟨bk, bi, bt⟩ bd0 W
                rw [decide_eq_false hbn] at h
                exact h
              subst h22
              have HV1 : Hid (v + 1 = ((PL + cn (j + 1) : Nat) : Int)) := by have h1 := HVv.out.1; have h2 := HVv.out.2; rw [if_pos (by rfl)] at h2; rw [h1, h2]; show _ = _; omega
              clear hnb hbn
              go_wp2_with fail
              obtain ⟨W9, hW9⟩ : ∃ W, wr.alloc (.cells #[.int .i64 22, .int .i64 yn2, .int .i64 ya, .int .i64 yi, .string ⟨yt.toArray⟩, .string ⟨yy.toArray⟩] 47) = W := ⟨_, rfl⟩
              have hb9 : Below wr.heap.size wr W9 := by rw [← hW9]; exact below_o _ _
              have hx9 : W9.heap[wr.heap.size]? = some (.cells #[.int .i64 22, .int .i64 yn2, .int .i64 ya, .int .i64 yi, .string ⟨yt.toArray⟩, .string ⟨yy.toArray⟩] 47) := by rw [← hW9]; exact heap_alloc_at _ _ rfl
              rw [hW9] at HNx ⊢
              obtain ⟨VB, hVB⟩ : ∃ n, wr.heap.size = n := ⟨_, rfl⟩
              rw [hVB] at hx9 ⊢
              have e0 := (hb9.cell hl3).trans e0
              have e1 := (hb9.cell hl3).trans e1
              have e2 := (hb9.cell hl3).trans e2
              obtain ⟨y0, y1, y2, y3, y4, y5, _⟩ := six_cells hx9
              have hyl := (Array.getElem?_eq_some_iff.1 hx9).1
              have hl3 := Nat.lt_of_lt_of_le hl3 hb9.size
              have HB9 := Lib.hid hb9
              clear n0 n1 n2 n3 n4 n5 hbo hl1 hl2 hW9 hb9 hx9 hVB
              clear y1 y2 y3 y5
              go_quiet (fail)
              go_wp2_with fail
              by_cases h3 : bk = 3
              · obtain ⟨s, gs, s1, s2, s3, s4, s5, s6, s7, s8⟩ := HSl.out h3
                subst h3
                rw [s2] at s7
                rw [s3] at s8
                have hbw := HB9.out
                have s7 := (hbw.cell s6).trans s7
                have s8 := (hbw.cell s6).trans s8
                have s6 := Nat.lt_of_lt_of_le s6 hbw.size
                subst s5
                have hb0 : decide ((bi : Int) < 0) = false := by simp
                have hbS : decide ((SL : Int) ≤ (bi : Int)) = false := by simp; omega
                have hbS2 : decide (SL ≤ bi) = false := by simp; omega
                have hbi0 : (0 : Int) ≤ (bi : Int) := by omega
                have hbiS : (bi : Int) < (SL : Int) := by omega
                clear s1 s2 s3 s4 hbw
                go_quiet (fail)
                clear e0 e1 e2 y4 hyl hl3 s7 s8 s6
                go_wp2_with fail
                go_roundg (BL - (j + 1))
                case measure => exact HM2.out.1
                case rel => exact ⟨j + 1, _, HM2.out.2, rfl, rfl, HNx.out _ HV1.out _ (by first | exact (Below.refl _ W9).drew.drew | exact _root_.Go.below_drewN (Below.refl _ W9) _)⟩
              · have h3b : (bk == 3) = false := by simpa using h3
                clear h3
                go_quiet (fail)
                clear e0 e1 e2 y4 hyl hl3 
                go_wp2_with fail
                go_roundg (BL - (j + 1))
                case measure => exact HM2.out.1
                case rel => exact ⟨j + 1, _, HM2.out.2, rfl, rfl, HNx.out _ HV1.out _ (by first | exact (Below.refl _ W9).drew.drew | exact _root_.Go.below_drewN (Below.refl _ W9) _)⟩
            · by_cases h33 : yk = 3
              · have hbn := hnb.1 (.inl h33)
                have hnq : ∀ W : World, (binOp .neq 49 (.agg #[.int .i64 bk, .int .i64 (bi : Int), .string ⟨bt.toArray⟩]) (.agg #[.int .i64 0, .int .i64 0, .string ⟨#[]⟩])).run Tryz.prog W = .ok (.bool true) W := fun W => by
                  have h := neq_bind ⟨bk, bi, bt⟩ bd0 W
                  rw [decide_eq_false hbn] at h
                  exact h
                subst h33
                have HV1 : Hid (v = ((PL + cn (j + 1) : Nat) : Int)) := by have h1 := HVv.out.1; have h2 := HVv.out.2; rw [if_neg (by decide)] at h2; rw [h1, h2]; show _ = _; omega
                clear hnb hbn h22
                go_wp2_with fail
                obtain ⟨W9, hW9⟩ : ∃ W, wr.alloc (.cells #[.int .i64 3, .int .i64 yn2, .int .i64 ya, .int .i64 yi, .string ⟨yt.toArray⟩, .string ⟨yy.toArray⟩] 47) = W := ⟨_, rfl⟩
                have hb9 : Below wr.heap.size wr W9 := by rw [← hW9]; exact below_o _ _
                have hx9 : W9.heap[wr.heap.size]? = some (.cells #[.int .i64 3, .int .i64 yn2, .int .i64 ya, .int .i64 yi, .string ⟨yt.toArray⟩, .string ⟨yy.toArray⟩] 47) := by rw [← hW9]; exact heap_alloc_at _ _ rfl
                rw [hW9] at HNx ⊢
                obtain ⟨VB, hVB⟩ : ∃ n, wr.heap.size = n := ⟨_, rfl⟩
                rw [hVB] at hx9 ⊢
                have e0 := (hb9.cell hl3).trans e0
                have e1 := (hb9.cell hl3).trans e1
                have e2 := (hb9.cell hl3).trans e2
                obtain ⟨y0, y1, y2, y3, y4, y5, _⟩ := six_cells hx9
                have hyl := (Array.getElem?_eq_some_iff.1 hx9).1
                have hl3 := Nat.lt_of_lt_of_le hl3 hb9.size
                have HB9 := Lib.hid hb9
                clear n0 n1 n2 n3 n4 n5 hbo hl1 hl2 hW9 hb9 hx9 hVB
                clear y1 y2 y3 y5
                go_quiet (fail)
                go_wp2_with fail
                by_cases h3 : bk = 3
                · obtain ⟨s, gs, s1, s2, s3, s4, s5, s6, s7, s8⟩ := HSl.out h3
                  subst h3
                  rw [s2] at s7
                  rw [s3] at s8
                  have hbw := HB9.out
                  have s7 := (hbw.cell s6).trans s7
                  have s8 := (hbw.cell s6).trans s8
                  have s6 := Nat.lt_of_lt_of_le s6 hbw.size
                  subst s5
                  have hb0 : decide ((bi : Int) < 0) = false := by simp
                  have hbS : decide ((SL : Int) ≤ (bi : Int)) = false := by simp; omega
                  have hbS2 : decide (SL ≤ bi) = false := by simp; omega
                  have hbi0 : (0 : Int) ≤ (bi : Int) := by omega
                  have hbiS : (bi : Int) < (SL : Int) := by omega
                  clear s1 s2 s3 s4 hbw
                  go_quiet (fail)
                  clear e0 e1 e2 y4 hyl hl3 s7 s8 s6
                  go_wp2_with fail
                  go_roundg (BL - (j + 1))
                  case measure => exact HM2.out.1
                  case rel => exact ⟨j + 1, _, HM2.out.2, rfl, rfl, HNx.out _ HV1.out _ (by first | exact (Below.refl _ W9).drew.drew | exact _root_.Go.below_drewN (Below.refl _ W9) _)⟩
                · have h3b : (bk == 3) = false := by simpa using h3
                  clear h3
                  go_quiet (fail)
                  clear e0 e1 e2 y4 hyl hl3 
                  go_wp2_with fail
                  go_roundg (BL - (j + 1))
                  case measure => exact HM2.out.1
                  case rel => exact ⟨j + 1, _, HM2.out.2, rfl, rfl, HNx.out _ HV1.out _ (by first | exact (Below.refl _ W9).drew.drew | exact _root_.Go.below_drewN (Below.refl _ W9) _)⟩
              · have hbz : (⟨bk, bi, bt⟩ : BdP) = bd0 := Decidable.of_not_not fun hne => by rcases hnb.2 hne with h | h <;> contradiction
                have hk1 : bk = 0 := congrArg BdP.kind hbz
                have hk2 : bi = 0 := congrArg BdP.idx hbz
                have hk3 : bt = [] := congrArg BdP.type hbz
                have hnq : ∀ W : World, (binOp .neq 49 (.agg #[.int .i64 0, .int .i64 0, .string ⟨#[]⟩]) (.agg #[.int .i64 0, .int .i64 0, .string ⟨#[]⟩])).run Tryz.prog W = .ok (.bool false) W := fun W => by
                  have h := neq_bind bd0 bd0 W
                  rw [decide_eq_true rfl] at h
                  exact h
                subst hk1 hk2 hk3
                have e1 : wr.cell? ⟨D, j * 3 + 1, none⟩ = some (.int .i64 0) := e1
                have e2 : wr.cell? ⟨D, j * 3 + 2, none⟩ = some (.string ⟨#[]⟩) := e2
                have h22b : (yk == 22) = false := by simpa using h22
                have h33b : (yk == 3) = false := by simpa using h33
                have HV1 : Hid (v = ((PL + cn (j + 1) : Nat) : Int)) := by have h1 := HVv.out.1; have h2 := HVv.out.2; rw [h22b] at h2; rw [h1, h2]; show _ = _; simp
                clear hnb hbz h22 h33
                go_wp2_with fail
                obtain ⟨W9, hW9⟩ : ∃ W, wr.alloc (.cells #[.int .i64 yk, .int .i64 yn2, .int .i64 ya, .int .i64 yi, .string ⟨yt.toArray⟩, .string ⟨yy.toArray⟩] 47) = W := ⟨_, rfl⟩
                have hb9 : Below wr.heap.size wr W9 := by rw [← hW9]; exact below_o _ _
                have hx9 : W9.heap[wr.heap.size]? = some (.cells #[.int .i64 yk, .int .i64 yn2, .int .i64 ya, .int .i64 yi, .string ⟨yt.toArray⟩, .string ⟨yy.toArray⟩] 47) := by rw [← hW9]; exact heap_alloc_at _ _ rfl
                rw [hW9] at HNx ⊢
                obtain ⟨VB, hVB⟩ : ∃ n, wr.heap.size = n := ⟨_, rfl⟩
                rw [hVB] at hx9 ⊢
                have e0 := (hb9.cell hl3).trans e0
                have e1 := (hb9.cell hl3).trans e1
                have e2 := (hb9.cell hl3).trans e2
                obtain ⟨y0, y1, y2, y3, y4, y5, _⟩ := six_cells hx9
                have hyl := (Array.getElem?_eq_some_iff.1 hx9).1
                have hl3 := Nat.lt_of_lt_of_le hl3 hb9.size
                have HB9 := Lib.hid hb9
                clear n0 n1 n2 n3 n4 n5 hbo hl1 hl2 hW9 hb9 hx9 hVB
                clear y1 y2 y3 y5
                go_quiet (fail)
                go_wp2_with fail
                go_quiet (fail)
                clear e0 e1 e2 y4 hyl hl3 
                go_wp2_with fail
                go_roundg (BL - (j + 1))
                case measure => exact HM2.out.1
                case rel => exact ⟨j + 1, _, HM2.out.2, rfl, rfl, HNx.out _ HV1.out _ (by first | exact (Below.refl _ W9).drew.drew | exact _root_.Go.below_drewN (Below.refl _ W9) _)⟩
          · obtain rfl : j = BL := by omega
            have hdj : decide ((j : Int) < (j : Int)) = false := by simp
            have hve : v = ((SL : Nat) : Int) := by rw [HR2.out.1, HCc.out.2.2.2]
            have HB9 := Lib.hid HR2.out.2.2
            subst hve
            go_wp2_with fail
            refine bodyPost_ret (v := .bool true) (by simp [results, Tryz.results3, go_sem]) rfl ?_
            exact ⟨rfl, HB9.out⟩
      · have hnn : ¬ yn = nm := by
          rw [← hyn]
          exact HPp.out.ne q y (by rw [HEq.out.2]; exact hy) hqk
        have HN : Hid (q + 1 ≤ k0) := by have := HR.out.1; show _ ≤ _; omega
        have hnb : (yn == nm) = false := by simpa using hnn
        clear hy hyn hqk hq hqF hnn
        go_wp2_with fail
        go_roundg (FN - (q + 1))
        case measure => exact HM.out.1
        case rel => exact ⟨q + 1, HM.out.2, rfl, HN.out, HR.out.2⟩
  · obtain ⟨gei, hgei⟩ : ∃ x : Int, ((rv.1.2 : Nat) : Int) = x := ⟨_, rfl⟩
    have hne2 : (gei != 0) = true := by simp; omega
    rw [hgei]
    clear hne hgei
    go_wp2_with fail
    refine bodyPost_ret (v := .bool true) (by simp [results, Tryz.results3, go_sem]) rfl ?_
    exact ⟨rfl, below_t HB3.out (below_o _ _) HB3.out.size⟩
end Go.Proofs.YtjadckhngalmlaaGreatDoor
