/-
  The law NamesKnown, walked.
-/
import Derived.Test.YtjadckhngalmlaaGreatDoorZNmKp
import Derived.BigQuiet
namespace Go.Proofs.YtjadckhngalmlaaGreatDoor
set_option linter.unusedVariables false
set_option linter.unusedSimpArgs false
set_option maxRecDepth 100000
open Go.RowKit

attribute [local irreducible] Go.wpQuiet in
set_option maxHeartbeats 8000000 in
theorem c_NamesKnown (B : Nat) (u : UnP) (p : UnS) (hU : UnOk u) (nm : List UInt8) (w : World) (hE : Env B w) (hB : B ≤ w.heap.size) (hI : UnIn u p w) :
    Calls Tryz.prog 5 #[unV u p, nmS nm] w fun e w' => e = .returned (.bool true) ∧ Below w.heap.size w w' := by
  have HWo := Lib.hid (fun W (hb : Below w.heap.size w W) => c_works B W (hE.next (hb.mono hB)) (Nat.le_trans hB hb.size))
  have HUs := Lib.hid (fun W (hb : Below w.heap.size w W) => c_UsesA B u p hU nm W (hE.next (hb.mono hB)) (Nat.le_trans hB hb.size) (hI.next hb))
  have HRe := Lib.hid (fun W (hb : Below w.heap.size w W) => c_ResolveA B u p hU nm W (hE.next (hb.mono hB)) (Nat.le_trans hB hb.size) (hI.next hb))
  have HFi := Lib.hid (fun W (hb : Below w.heap.size w W) => c_File B u p hU W (hE.next (hb.mono hB)) (Nat.le_trans hB hb.size) (hI.next hb))
  have HP : Hid ((rvA u nm).1.2 = 0 → KnP u nm) := Lib.hid KnP.of
  unfold UsT at HUs
  unfold ReT at HRe
  unfold FiT at HFi
  obtain ⟨rv, hrv⟩ : ∃ a, rvA u nm = a := ⟨_, rfl⟩
  obtain ⟨ra, hra⟩ : ∃ a, rdA u = a := ⟨_, rfl⟩
  have HP2 : Hid (rv.1.2 = 0 → ra.1.2 = 0 ∧ (∀ n ∈ rv.2.uses, n ∈ ra.2.order) ∧ rv.2.uses.Nodup ∧ (seenP [] rv.2.bds).length = rv.2.uses.length ∧ rv.2.bds.length ≤ 4096 ∧ rv.2.uses.length ≤ 4096 ∧ ra.2.order.length ≤ 512) := fun h => by
    rw [← hrv] at h ⊢
    rw [← hra]
    have k := HP.out h
    exact ⟨k.rd, k.us, k.nd, k.ct, k.bl, k.ul, k.ol⟩
  rw [hrv] at HUs HRe
  rw [hra] at HFi
  obtain ⟨US, hus⟩ : ∃ x : Value, .slice p.sa u.structs.length p.sc = x := ⟨_, rfl⟩
  obtain ⟨UG, hug⟩ : ∃ x : Value, .slice p.ga u.globals.length p.gc = x := ⟨_, rfl⟩
  obtain ⟨UF, huf⟩ : ∃ x : Value, .slice p.fa u.funcs.length p.fc = x := ⟨_, rfl⟩
  simp only [unV] at HUs HRe HFi ⊢
  rw [hus, hug, huf] at HUs HRe HFi ⊢
  clear hE hB hU hI hrv hra hus hug huf HP
  go_enter Tryz.func5, Tryz.ntmps5
  go_wp2_with fail
  have hb1 := below_o w (.cells #[US, UG, UF] 26)
  have hx1 := heap_alloc_at (w := w) (.cells #[US, UG, UF] 26) _ rfl
  refine (HWo.out _ hb1).mono ?_
  rintro e w2 ⟨rfl, hb2⟩
  have HB2 := Lib.hid (below_t hb1 hb2 hb1.size)
  obtain ⟨UB, hUB⟩ : ∃ n, w.heap.size = n := ⟨_, rfl⟩
  rw [hUB] at hx1 ⊢
  have HX2 := Lib.hid (blk_on hx1 hb2)
  clear hb1 hx1 hb2 HWo
  obtain ⟨u0, u1, u2, _⟩ := cells3 HX2.out
  have hul := (Array.getElem?_eq_some_iff.1 HX2.out).1
  go_wp2_with fail
  refine (HUs.out _ HB2.out).mono ?_
  rintro e w3 ⟨hr, hb3⟩
  have HB3 := Lib.hid (below_t HB2.out hb3 HB2.out.size)
  have HX3 := Lib.hid (blk_on HX2.out hb3)
  clear hb3 HUs u0 u1 u2 hul
  obtain ⟨u0, u1, u2, _⟩ := cells3 HX3.out
  have hul := (Array.getElem?_eq_some_iff.1 HX3.out).1
  rcases hr with ⟨h0, uv, rfl, hs⟩ | ⟨hne, rfl⟩
  · obtain ⟨hrd, hp1, hp2, hp3, hp4, hp5, hp6⟩ := HP2.out h0
    have HPp := Lib.hid (And.intro hp1 (And.intro hp2 hp3))
    have HRd := Lib.hid (And.intro hrd h0)
    have HS3 := Lib.hid hs
    obtain ⟨ua, uc, rfl⟩ := own_slice hs
    have HLn : Hid (rv.2.bds.length ≤ 4096 ∧ rv.2.uses.length ≤ 4096 ∧ ra.2.order.length ≤ 512) := ⟨hp4, hp5, hp6⟩
    clear hs HP2 h0 hrd hp1 hp2 hp3 hp4 hp5 hp6
    go_wp2_with fail
    -- File
    have hb4 := below_o w3 (.cells #[.int .i64 0, .int .i64 0] 32)
    have hf4 := heap_alloc_at (w := w3) (.cells #[.int .i64 0, .int .i64 0] 32) _ rfl
    refine (HFi.out _ (below_t HB3.out hb4 HB3.out.size)).mono ?_
    rintro e w5 ⟨hr5, hb5⟩
    have hb35 := below_t hb4 hb5 hb4.size
    obtain ⟨ba, bc, oa, oc, rfl, ho5⟩ : ∃ ba bc oa oc, e = .returned (.tuple #[.slice ba ra.2.order.length bc, .slice oa ra.2.order.length oc, faV 0 0]) ∧ ∃ BO, w5.ownsRow BO 9 1 (.slice oa ra.2.order.length oc) ra.2.order.length (usC ra.2.order) := by
      rcases hr5 with ⟨_, bv, ov, h1, h2, h3⟩ | ⟨hne, _⟩
      · obtain ⟨ba, bc, rfl⟩ := own_slice h2
        obtain ⟨oa, oc, rfl⟩ := own_slice h3
        exact ⟨ba, bc, oa, oc, h1, _, h3⟩
      · exact absurd HRd.out.1 hne
    have HB5 := Lib.hid (below_t HB3.out hb35 HB3.out.size)
    have HX5 := Lib.hid (And.intro (blk_on HX3.out hb35) (And.intro (blk_on hf4 hb5) (And.intro (own_on HS3.out hb35) ho5)))
    obtain ⟨FB, hFB⟩ : ∃ n, w3.heap.size = n := ⟨_, rfl⟩
    rw [hFB] at HX5 ⊢
    clear hb4 hf4 hr5 hb5 hb35 ho5 hFB HFi u0 u1 u2 hul
    obtain ⟨u0, u1, u2, _⟩ := cells3 HX5.out.1
    have hul := (Array.getElem?_eq_some_iff.1 HX5.out.1).1
    go_wp2_with fail
    -- Resolve
    have hb6 := below_o w5 (.cells #[.int .i64 0, .int .i64 0] 32)
    have hf6 := heap_alloc_at (w := w5) (.cells #[.int .i64 0, .int .i64 0] 32) _ rfl
    refine (HRe.out _ (below_t HB5.out hb6 HB5.out.size)).mono ?_
    rintro e w7 ⟨hr7, hb7⟩
    have hb57 := below_t hb6 hb7 hb6.size
    obtain ⟨sa, sc, D, rfl, hD⟩ : ∃ sa sc D, e = .returned (.tuple #[.slice sa rv.2.slots.length sc, .slice (some ⟨D, 0, none⟩) rv.2.bds.length rv.2.bds.length, faV 0 0]) ∧ w7.heap[D]? = some (.cells (bdCs rv.2.bds).toArray 49) := by
      rcases hr7 with ⟨_, sv, D, h1, h2, h3, _⟩ | ⟨hne, _⟩
      · obtain ⟨sa, sc, rfl⟩ := own_slice h2
        exact ⟨sa, sc, D, h1, h3⟩
      · exact absurd HRd.out.2 hne
    obtain ⟨_, hfo, huo, BO, hoo⟩ := HX5.out
    have HB7 := Lib.hid (below_t HB5.out hb57 HB5.out.size)
    obtain ⟨EB, hEB⟩ : ∃ n, w5.heap.size = n := ⟨_, rfl⟩
    have hf7 := blk_on hf6 hb7
    have hf5 := blk_on hfo hb57
    rw [hEB] at hf7 ⊢
    have HM7 := Lib.hid (And.intro (own_on huo hb57) (And.intro (own_on hoo hb57) hD))
    clear hb6 hf6 hr7 hb7 hb57 hD hfo huo hoo hEB HRe HX5 u0 u1 u2 hul
    obtain ⟨z0, z1, _⟩ := two_cells hf5
    have hzl := (Array.getElem?_eq_some_iff.1 hf5).1
    obtain ⟨y0, y1, _⟩ := two_cells hf7
    have hyl := (Array.getElem?_eq_some_iff.1 hf7).1
    go_wp2_with fail
    have hb8 := below_o w7 (.cells #[.int .i64 0, .int .i64 0] 32)
    obtain ⟨w8, hw8⟩ : ∃ w8, w7.alloc (.cells #[.int .i64 0, .int .i64 0] 32) = w8 := ⟨_, rfl⟩
    obtain ⟨GB, hGB⟩ : ∃ n, w7.heap.size = n := ⟨_, rfl⟩
    rw [hw8] at hb8 ⊢
    have HM8 := Lib.hid (And.intro (own_on HM7.out.1 hb8) (And.intro (own_on HM7.out.2.1 hb8) (And.intro (blk_on HM7.out.2.2 hb8) (below_t HB7.out hb8 HB7.out.size))))
    rw [hGB]
    obtain ⟨OL, hOL⟩ : ∃ n, ra.2.order.length = n := ⟨_, rfl⟩
    obtain ⟨UL, hUL⟩ : ∃ n, rv.2.uses.length = n := ⟨_, rfl⟩
    obtain ⟨SL, hSL⟩ : ∃ n, rv.2.slots.length = n := ⟨_, rfl⟩
    obtain ⟨BL, hBL⟩ : ∃ n, rv.2.bds.length = n := ⟨_, rfl⟩
    have HLe : Hid (ra.2.order.length = OL ∧ rv.2.uses.length = UL ∧ rv.2.bds.length = BL ∧ OL ≤ 512 ∧ UL ≤ 4096 ∧ BL ≤ 4096) := ⟨hOL, hUL, hBL, by have := HLn.out; omega, by have := HLn.out; omega, by have := HLn.out; omega⟩
    rw [hOL, hUL, hSL, hBL]
    clear hw8 hb8 hGB hOL hUL hSL hBL hf7 hf5 z0 z1 hzl y0 y1 hyl HM7
    obtain ⟨va, hva⟩ : ∃ v : Value, .slice oa OL oc = v := ⟨_, rfl⟩
    rw [hva]
    have HVa := Lib.hid hva
    clear hva
    go_loopg [13] UL (fun g v13 wr => ∃ q : Nat, q + g = UL ∧ v13 = .int .i64 (q : Int) ∧ Hid (Below w8.heap.size w8 wr))
    case atStart => exact ⟨0, by omega, rfl, Below.refl _ _⟩
    case round =>
      obtain ⟨q, hq, rfl, HR⟩ := hrel
      by_cases hlt : q < UL
      · have hd : decide ((q : Int) < (UL : Int)) = true := by simp; omega
        have hq0 : (0 : Int) ≤ (q : Int) := by omega
        have hql : (q : Int) < (UL : Int) := by omega
        have hwm : IntKind.i64.wrap ((q : Int) + 1) = ((q + 1 : Nat) : Int) := by rw [IntKind.wrap_i64]; have := HLe.out; omega
        have HM : Hid (UL - (q + 1) < gk ∧ q + 1 + (UL - (q + 1)) = UL) := ⟨by omega, by omega⟩
        obtain ⟨s, hs⟩ : ∃ s, rv.2.uses[q]? = some s := ⟨_, List.getElem?_eq_getElem (by have := HLe.out; omega)⟩
        have hso := HPp.out.1 s (List.mem_of_getElem? hs)
        obtain ⟨gu, hgu, hgl, huc, huC⟩ := own_cell HM8.out.1 (by have := HLe.out; omega)
        obtain ⟨go, hgo, hgl2, hoc, hoC⟩ := own_cell HM8.out.2.1 (by have := List.length_pos_of_mem hso; omega)
        have hcu : ∀ k s, rv.2.uses[k]? = some s → wr.cell? ⟨gu, k, none⟩ = some (nmS s) := fun k s hk => (HR.out.cell (p := ⟨gu, k, none⟩) hgl).trans (huC k _ (usC_at hk))
        have hco : ∀ k s, ra.2.order[k]? = some s → wr.cell? ⟨go, k, none⟩ = some (nmS s) := fun k s hk => (HR.out.cell (p := ⟨go, k, none⟩) hgl2).trans (hoC k _ (usC_at hk))
        have HI1 : Hid (∀ n, Calls Tryz.prog 14 #[va, nmS s] (wr.drewN n) fun e w' => e = .returned (.bool true) ∧ w' = wr.drewN n) := fun n => by
          have h := c_bIn go oc OL ra.2.order s (wr.drewN n) HLe.out.1 (by have := HLe.out; omega) (by have := HLe.out; omega) (fun k s hk => (World.cell?_drewN _ _ _).trans (hco k s hk))
          rw [show ra.2.order.contains s = true by simpa using hso, ← hgo, HVa.out] at h
          exact h
        have HI2 : Hid (∀ n, Calls Tryz.prog 14 #[.slice (some ⟨gu, 0, none⟩) q uc, nmS s] (wr.drewN n) fun e w' => e = .returned (.bool false) ∧ w' = wr.drewN n) := fun n => by
          have hlen : (rv.2.uses.take q).length = q := by rw [List.length_take]; have := HLe.out; omega
          have h := c_bIn gu uc q (rv.2.uses.take q) s (wr.drewN n) hlen (by have := HLe.out; omega) (by have := HLe.out; omega) (fun k s hk => (World.cell?_drewN _ _ _).trans (hcu k s (by
            rw [List.getElem?_take] at hk
            split at hk
            · exact hk
            · cases hk)))
          have hnin : (rv.2.uses.take q).contains s = false := by
            rw [List.contains_eq_mem, decide_eq_false_iff_not]
            intro hm
            obtain ⟨k, hk⟩ := List.getElem?_of_mem hm
            rw [List.getElem?_take] at hk
            split at hk
            · rename_i hkq
              obtain ⟨i1, e1⟩ := List.getElem?_eq_some_iff.1 hk
              obtain ⟨i2, e2⟩ := List.getElem?_eq_some_iff.1 hs
              exact (List.pairwise_iff_getElem.1 HPp.out.2.1 k q i1 i2 hkq) (e1.trans e2.symm)
            · cases hk
          rw [hnin] at h
          exact h
        have c1 := hcu q s hs
        have hguc : (q : Int) ≤ (uc : Int) := by have := HLe.out; omega
        have hgl' : gu < wr.heap.size := Nat.lt_of_lt_of_le hgl HR.out.size
        subst hgu
        clear hgo
        clear hs hso huC hoC hcu hco hgl hgl2 hlt hq
        go_wp2_with fail
        refine wp_region_quiet_lit (by kernel_rfl) (by kernel_rfl) ?_
        iterate 5 (go_big_quiet_step (fail))
        go_big_quiet_want
        go_big_quiet_op
        go_big_quiet_call (exact Calls.quiet_of_same (HI1.out _))
        iterate 9 (go_big_quiet_step (fail))
        go_big_quiet_want
        go_big_quiet_op
        go_big_quiet_call (exact Calls.quiet_of_same (HI2.out _))
        repeat (go_big_quiet_step (fail))
        refine wpQuiet_nil ?_
        rintro w9 ⟨n9, hw9⟩
        have HB9 : Hid (Below w8.heap.size w8 w9) := by rw [hw9]; exact _root_.Go.below_drewN HR.out n9
        clear hw9 c1 hguc hgl' HI1 HI2
        go_wp2_with fail
        go_roundg (UL - (q + 1))
        case measure => exact HM.out.1
        case rel => exact ⟨q + 1, HM.out.2, rfl, HB9.out⟩
      · obtain rfl : q = UL := by omega
        have hd : decide ((q : Int) < (q : Int)) = false := by simp
        obtain ⟨hdD, hdl⟩ : wr.heap[D]? = some (.cells (bdCs rv.2.bds).toArray 49) ∧ D < w8.heap.size := ⟨blk_on HM8.out.2.2.1 HR.out, (Array.getElem?_eq_some_iff.1 HM8.out.2.2.1).1⟩
        have HBw : Hid (Below w.heap.size w wr) := below_t HM8.out.2.2.2 HR.out HM8.out.2.2.2.size
        have HD := Lib.hid hdD
        clear hdD hdl
        go_wp2_with fail
        -- the second loop
        have hbs := below_o wr (.cells #[] 49)
        have hrow : (wr.alloc (.cells #[] 49)).ownsRow wr.heap.size 49 3 (.slice (some ⟨wr.heap.size, 0, none⟩) 0 0) 0 (bdCs []) := World.ownsRow_made wr (base := wr.heap.size) (e := 49) (size := 3) #[] 0 (by simp) (Nat.zero_le _) (by simp)
        obtain ⟨ws, hws⟩ : ∃ ws, wr.alloc (.cells #[] 49) = ws := ⟨_, rfl⟩
        rw [hws] at hbs hrow ⊢
        obtain ⟨NB, hNB⟩ : ∃ n, wr.heap.size = n := ⟨_, rfl⟩
        have HS0 : Hid (w.heap.size ≤ NB ∧ D < NB) := by rw [← hNB]; exact ⟨HBw.out.size, (Array.getElem?_eq_some_iff.1 HD.out).1⟩
        rw [hNB] at hrow ⊢
        have HQ0 : Hid (ws.ownsRow NB 49 3 (.slice (some ⟨NB, 0, none⟩) 0 0) 0 (bdCs (seenP [] (rv.2.bds.take 0))) ∧ Below NB ws ws ∧ NB ≤ ws.heap.size) := ⟨hrow, Below.refl _ _, by rw [← hNB]; exact hbs.size⟩
        have HDs := Lib.hid (And.intro (blk_on HD.out hbs) (below_t HBw.out hbs HBw.out.size))
        clear hws hbs hrow hNB
        go_loopg [14, 15, 16] BL (fun g v14 v15 v16 wq => ∃ (k m : Nat) (va : Option Addr) (vc : Nat), k + g = BL ∧ v14 = .int .i64 (m : Int) ∧ v15 = .slice va m vc ∧ v16 = .int .i64 (k : Int) ∧ Hid (m = (seenP [] (rv.2.bds.take k)).length ∧ m ≤ k ∧ wq.ownsRow NB 49 3 (.slice va m vc) m (bdCs (seenP [] (rv.2.bds.take k))) ∧ Below NB ws wq))
        case atStart => exact ⟨0, 0, _, _, by omega, rfl, rfl, rfl, rfl, Nat.le_refl _, HQ0.out.1, Below.refl _ _⟩
        case round =>
          obtain ⟨k, m, sva, svc, hk, rfl, rfl, rfl, HK⟩ := hrel
          by_cases hlt : k < BL
          · obtain ⟨b, hb⟩ : ∃ b, rv.2.bds[k]? = some b := ⟨_, List.getElem?_eq_getElem (by have := HLe.out; omega)⟩
            have hD' := (HK.out.2.2.2.block D HS0.out.2).trans HDs.out.1
            have row0 : ∀ (i : Nat) (v : Value), (bdC b)[i]? = some v → wr.cell? ⟨D, k * 3 + i, none⟩ = some v := fun i v hi => by
              rw [Lib.cell_of_heap hD']
              simpa using bdC_at hb hi
            have e0 := row0 0 _ rfl
            have e1 := row0 1 _ rfl
            have e2 := row0 2 _ rfl
            rw [Nat.add_zero] at e0
            have hdl := (Array.getElem?_eq_some_iff.1 hD').1
            have hdk : decide ((k : Int) < (BL : Int)) = true := by simp; omega
            have hk0 : (0 : Int) ≤ (k : Int) := by omega
            have hkl : (k : Int) < (BL : Int) := by omega
            have hwk : IntKind.i64.wrap ((k : Int) + 1) = ((k + 1 : Nat) : Int) := by rw [IntKind.wrap_i64]; have := HLe.out; omega
            have HM2 : Hid (BL - (k + 1) < gk ∧ k + 1 + (BL - (k + 1)) = BL) := ⟨by omega, by omega⟩
            have HT : Hid (seenP [] (rv.2.bds.take (k + 1)) = if (ofF b && !(seenP [] (rv.2.bds.take k)).contains b) = true then seenP [] (rv.2.bds.take k) ++ [b] else seenP [] (rv.2.bds.take k)) := by
              show _ = _
              rw [List.take_add_one, hb]
              exact seen_snoc _ _ _
            have HBk : Hid (Below NB ws wr) := HK.out.2.2.2
            obtain ⟨bk, bi, bt⟩ := b
            simp only at e0 e1 e2
            clear hb hD' row0 hk hlt
            by_cases hbk : bk = 1
            · subst hbk
              have HT2 : Hid (seenP [] (rv.2.bds.take (k + 1)) = if (seenP [] (rv.2.bds.take k)).contains ⟨1, bi, bt⟩ = true then seenP [] (rv.2.bds.take k) else seenP [] (rv.2.bds.take k) ++ [⟨1, bi, bt⟩]) := by
                have h := HT.out
                show _ = _
                rw [h]
                cases (seenP [] (rv.2.bds.take k)).contains ⟨1, bi, bt⟩ <;> rfl
              clear HT
              obtain ⟨S, hS⟩ : ∃ S, seenP [] (rv.2.bds.take k) = S := ⟨_, rfl⟩
              rw [hS] at HK HT2
              clear hS
              obtain ⟨wk, hwk⟩ : ∃ x : World, x = wr := ⟨_, rfl⟩
              rw [← hwk] at HK e0 e1 e2 hdl HBk ⊢
              clear hwk
              go_wp2_with fail
              have HJ0 : Hid ((false : Bool) = (S.take 0).contains ⟨1, bi, bt⟩ ∧ Below wk.heap.size wk wk) := ⟨by simp, Below.refl _ _⟩
              go_loopg [17, 18] m (fun g v17 v18 wq => ∃ (j : Nat) (tj : Bool), j + g = m ∧ v18 = .int .i64 (j : Int) ∧ v17 = .bool tj ∧ Hid (tj = (S.take j).contains ⟨1, bi, bt⟩ ∧ Below wk.heap.size wk wq))
              case atStart => exact ⟨0, false, by omega, rfl, rfl, HJ0.out⟩
              case round =>
                obtain ⟨j, tj, hj, rfl, rfl, HJ⟩ := hrel
                have hbw := HJ.out.2
                have e0 := (hbw.cell hdl).trans e0
                have e1 := (hbw.cell hdl).trans e1
                have e2 := (hbw.cell hdl).trans e2
                have hdl := Nat.lt_of_lt_of_le hdl hbw.size
                by_cases hjm : j < m
                · obtain ⟨c, hc⟩ : ∃ c, S[j]? = some c := ⟨_, List.getElem?_eq_getElem (by have := HK.out.1; omega)⟩
                  obtain ⟨gs, hgs, hgl, hgc, hC⟩ := own_cell HK.out.2.2.1 (by omega)
                  have row : ∀ (i : Nat) (v : Value), (bdC c)[i]? = some v → wr.cell? ⟨gs, j * 3 + i, none⟩ = some v := fun i v hi => (hbw.cell hgl).trans (hC _ v (bdC_at hc hi))
                  have f0 := row 0 _ rfl
                  have f1 := row 1 _ rfl
                  have f2 := row 2 _ rfl
                  rw [Nat.add_zero] at f0
                  have hgl2 := Nat.lt_of_lt_of_le hgl hbw.size
                  have hdj : decide ((j : Int) < (m : Int)) = true := by simp; omega
                  have hj0 : (0 : Int) ≤ (j : Int) := by omega
                  have hjl : (j : Int) < (m : Int) := by omega
                  have hwj : IntKind.i64.wrap ((j : Int) + 1) = ((j + 1 : Nat) : Int) := by rw [IntKind.wrap_i64]; have := HK.out.2.1; have := HLe.out; omega
                  have HM3 : Hid (m - (j + 1) < gk ∧ j + 1 + (m - (j + 1)) = m) := ⟨by omega, by omega⟩
                  have HTk : Hid ((S.take (j + 1)).contains ⟨1, bi, bt⟩ = (tj || decide (c = ⟨1, bi, bt⟩))) := by
                    show _ = _
                    rw [HJ.out.1, List.take_add_one, hc]
                    rw [Bool.eq_iff_iff]
                    simp only [List.contains_eq_mem, Option.toList_some, List.mem_append, List.mem_singleton, Bool.or_eq_true, decide_eq_true_eq]
                    exact ⟨fun h => h.imp id Eq.symm, fun h => h.imp id Eq.symm⟩
                  have HBj : Hid (∀ W, Below wr.heap.size wr W → Below wk.heap.size wk W) := fun W hW => below_t HJ.out.2 hW HJ.out.2.size
                  have hq : ∀ W : World, (binOp .eql 49 (.agg #[.int .i64 c.kind, .int .i64 (c.idx : Int), .string ⟨c.type.toArray⟩]) (.agg #[.int .i64 1, .int .i64 (bi : Int), .string ⟨bt.toArray⟩])).run Tryz.prog W = .ok (.bool (decide (c = ⟨1, bi, bt⟩))) W := fun W => eq_bind c ⟨1, bi, bt⟩ W
                  obtain ⟨r, hr⟩ : ∃ r, decide (c = ⟨1, bi, bt⟩) = r := ⟨_, rfl⟩
                  rw [hr] at HTk hq
                  obtain ⟨c0, c1, c2⟩ := c
                  simp only at f0 f1 f2 hq
                  subst hgs
                  clear hr row hC hgl hc hj hjm hbw HJ
                  cases tj
                  · go_wp2_with fail
                    go_quiet (fail)
                    go_wp2_with fail
                    go_roundg (m - (j + 1))
                    case measure => exact HM3.out.1
                    case rel => exact ⟨j + 1, r, HM3.out.2, rfl, rfl, by rw [HTk.out]; simp, HBj.out _ (by first | exact (Below.refl _ wr).drew | exact _root_.Go.below_drewN (Below.refl _ wr) _)⟩
                  · go_wp2_with fail
                    go_quiet (fail)
                    go_wp2_with fail
                    go_roundg (m - (j + 1))
                    case measure => exact HM3.out.1
                    case rel => exact ⟨j + 1, true, HM3.out.2, rfl, rfl, by rw [HTk.out]; simp, HBj.out _ (by first | exact (Below.refl _ wr).drew | exact _root_.Go.below_drewN (Below.refl _ wr) _)⟩
                · obtain rfl : j = m := by omega
                  have hdj : decide ((j : Int) < (j : Int)) = false := by simp
                  have htj : tj = S.contains ⟨1, bi, bt⟩ := by
                    have h := HJ.out.1
                    rw [List.take_of_length_le (by have := HK.out.1; omega)] at h
                    exact h
                  rw [← htj] at HT2
                  have hgrow : Below NB ws wr := HK.out.2.2.2.trans (HJ.out.2.mono (Nat.le_trans HQ0.out.2.2 HK.out.2.2.2.size))
                  have HG := Lib.hid (And.intro hgrow (own_on HK.out.2.2.1 HJ.out.2))
                  clear htj hbw hgrow
                  cases tj
                  · have HS2 : Hid (seenP [] (rv.2.bds.take (k + 1)) = S ++ [⟨1, bi, bt⟩]) := by have h := HT2.out; rw [if_neg (by simp)] at h; exact h
                    obtain ⟨i0, hi, hz0, hz1, hz2⟩ := info_parts infoBd
                    have HA : Hid (Below NB ws (wr.alloc (.cells #[.int .i64 1, .int .i64 (bi : Int), .string ⟨bt.toArray⟩] 49))) := HG.out.1.trans ((below_o wr _).mono (Nat.le_trans HQ0.out.2.2 HG.out.1.size))
                    have HOr : Hid ((wr.alloc (.cells #[.int .i64 1, .int .i64 (bi : Int), .string ⟨bt.toArray⟩] 49)).ownsRow NB 49 3 (.slice sva j svc) j (bdCs S)) := own_on HG.out.2 (below_o _ _)
                    have hwm1 : IntKind.i64.wrap ((j : Int) + 1) = ((j + 1 : Nat) : Int) := by rw [IntKind.wrap_i64]; have := HK.out.2.1; have := HLe.out; omega
                    clear HT2
                    go_wp2_with (at_builtin; refine wpList_append_lies _ rfl _ _ 29 rfl NB 49 i0 (.agg #[.int .i64 0, .int .i64 0, .string ByteArray.empty]) 3 32 Tryz.underlying29 hi hz0 hz1 hz2 rfl (by decide) (.slice sva j svc) j (bdCs S) rfl (by exact HOr.out) ⟨wr.heap.size, 0, none⟩ 1 1 (bdC ⟨1, bi, bt⟩) rfl rfl ?cc1 ?cc2 (by decide) ?cc3 ?cc4 ?cc5 (wr.heap.size + 1) ?cc6 ?_)
                    case cc1 =>
                      intro i u hi2
                      exact World.news_of_block (heap_alloc_new wr (.cells #[.int .i64 1, .int .i64 (bi : Int), .string ⟨bt.toArray⟩] 49)) i u (by simpa [bdC] using hi2)
                    case cc2 => exact bdC_one ⟨1, bi, bt⟩
                    case cc3 => have := HK.out.2.1; have := HLe.out; unfold maxLen; omega
                    case cc4 => have := HK.out.2.1; have := HLe.out; omega
                    case cc5 => exact Nat.le_trans HQ0.out.2.2 HA.out.size
                    case cc6 => simp
                    intro g6 cap6 w6 hown6 hgrow6 hat6 hlt6
                    have HO6 : Hid (j + 1 = (seenP [] (rv.2.bds.take (k + 1))).length ∧ j + 1 ≤ k + 1 ∧ w6.ownsRow NB 49 3 (.slice (some ⟨g6, 0, none⟩) (j + 1) cap6) (j + 1) (bdCs (seenP [] (rv.2.bds.take (k + 1)))) ∧ Below NB ws w6) := by
                      refine ⟨by rw [HS2.out, List.length_append, ← HK.out.1]; rfl, Nat.succ_le_succ HK.out.2.1, by rw [HS2.out, bdCs_snoc]; exact hown6, HA.out.grown hgrow6 (Nat.le_trans HQ0.out.2.2 HA.out.size) (fun q hq => (HOr.out.lt q hq).1)⟩
                    clear hown6 hgrow6 hat6 e0 e1 e2 hdl
                    go_wp2_with fail
                    go_roundg (BL - (k + 1))
                    case measure => exact HM2.out.1
                    case rel => exact ⟨k + 1, j + 1, _, _, HM2.out.2, rfl, rfl, rfl, HO6.out⟩
                  · have HS2 : Hid (seenP [] (rv.2.bds.take (k + 1)) = S) := by have h := HT2.out; rw [if_pos (by simp)] at h; exact h
                    clear HT2 e0 e1 e2 hdl
                    go_wp2_with fail
                    go_roundg (BL - (k + 1))
                    case measure => exact HM2.out.1
                    case rel => exact ⟨k + 1, j, _, _, HM2.out.2, rfl, rfl, rfl, by rw [HS2.out]; exact ⟨HK.out.1, Nat.le_succ_of_le HK.out.2.1, HG.out.2, HG.out.1⟩⟩
            · have hbk1 := hbk
              clear hbk
              by_cases hbk : bk = 2
              · clear hbk1
                subst hbk
                have HT2 : Hid (seenP [] (rv.2.bds.take (k + 1)) = if (seenP [] (rv.2.bds.take k)).contains ⟨2, bi, bt⟩ = true then seenP [] (rv.2.bds.take k) else seenP [] (rv.2.bds.take k) ++ [⟨2, bi, bt⟩]) := by
                  have h := HT.out
                  show _ = _
                  rw [h]
                  cases (seenP [] (rv.2.bds.take k)).contains ⟨2, bi, bt⟩ <;> rfl
                clear HT
                obtain ⟨S, hS⟩ : ∃ S, seenP [] (rv.2.bds.take k) = S := ⟨_, rfl⟩
                rw [hS] at HK HT2
                clear hS
                obtain ⟨wk, hwk⟩ : ∃ x : World, x = wr := ⟨_, rfl⟩
                rw [← hwk] at HK e0 e1 e2 hdl HBk ⊢
                clear hwk
                go_wp2_with fail
                have HJ0 : Hid ((false : Bool) = (S.take 0).contains ⟨2, bi, bt⟩ ∧ Below wk.heap.size wk wk) := ⟨by simp, Below.refl _ _⟩
                go_loopg [17, 18] m (fun g v17 v18 wq => ∃ (j : Nat) (tj : Bool), j + g = m ∧ v18 = .int .i64 (j : Int) ∧ v17 = .bool tj ∧ Hid (tj = (S.take j).contains ⟨2, bi, bt⟩ ∧ Below wk.heap.size wk wq))
                case atStart => exact ⟨0, false, by omega, rfl, rfl, HJ0.out⟩
                case round =>
                  obtain ⟨j, tj, hj, rfl, rfl, HJ⟩ := hrel
                  have hbw := HJ.out.2
                  have e0 := (hbw.cell hdl).trans e0
                  have e1 := (hbw.cell hdl).trans e1
                  have e2 := (hbw.cell hdl).trans e2
                  have hdl := Nat.lt_of_lt_of_le hdl hbw.size
                  by_cases hjm : j < m
                  · obtain ⟨c, hc⟩ : ∃ c, S[j]? = some c := ⟨_, List.getElem?_eq_getElem (by have := HK.out.1; omega)⟩
                    obtain ⟨gs, hgs, hgl, hgc, hC⟩ := own_cell HK.out.2.2.1 (by omega)
                    have row : ∀ (i : Nat) (v : Value), (bdC c)[i]? = some v → wr.cell? ⟨gs, j * 3 + i, none⟩ = some v := fun i v hi => (hbw.cell hgl).trans (hC _ v (bdC_at hc hi))
                    have f0 := row 0 _ rfl
                    have f1 := row 1 _ rfl
                    have f2 := row 2 _ rfl
                    rw [Nat.add_zero] at f0
                    have hgl2 := Nat.lt_of_lt_of_le hgl hbw.size
                    have hdj : decide ((j : Int) < (m : Int)) = true := by simp; omega
                    have hj0 : (0 : Int) ≤ (j : Int) := by omega
                    have hjl : (j : Int) < (m : Int) := by omega
                    have hwj : IntKind.i64.wrap ((j : Int) + 1) = ((j + 1 : Nat) : Int) := by rw [IntKind.wrap_i64]; have := HK.out.2.1; have := HLe.out; omega
                    have HM3 : Hid (m - (j + 1) < gk ∧ j + 1 + (m - (j + 1)) = m) := ⟨by omega, by omega⟩
                    have HTk : Hid ((S.take (j + 1)).contains ⟨2, bi, bt⟩ = (tj || decide (c = ⟨2, bi, bt⟩))) := by
                      show _ = _
                      rw [HJ.out.1, List.take_add_one, hc]
                      rw [Bool.eq_iff_iff]
                      simp only [List.contains_eq_mem, Option.toList_some, List.mem_append, List.mem_singleton, Bool.or_eq_true, decide_eq_true_eq]
                      exact ⟨fun h => h.imp id Eq.symm, fun h => h.imp id Eq.symm⟩
                    have HBj : Hid (∀ W, Below wr.heap.size wr W → Below wk.heap.size wk W) := fun W hW => below_t HJ.out.2 hW HJ.out.2.size
                    have hq : ∀ W : World, (binOp .eql 49 (.agg #[.int .i64 c.kind, .int .i64 (c.idx : Int), .string ⟨c.type.toArray⟩]) (.agg #[.int .i64 2, .int .i64 (bi : Int), .string ⟨bt.toArray⟩])).run Tryz.prog W = .ok (.bool (decide (c = ⟨2, bi, bt⟩))) W := fun W => eq_bind c ⟨2, bi, bt⟩ W
                    obtain ⟨r, hr⟩ : ∃ r, decide (c = ⟨2, bi, bt⟩) = r := ⟨_, rfl⟩
                    rw [hr] at HTk hq
                    obtain ⟨c0, c1, c2⟩ := c
                    simp only at f0 f1 f2 hq
                    subst hgs
                    clear hr row hC hgl hc hj hjm hbw HJ
                    cases tj
                    · go_wp2_with fail
                      go_quiet (fail)
                      go_wp2_with fail
                      go_roundg (m - (j + 1))
                      case measure => exact HM3.out.1
                      case rel => exact ⟨j + 1, r, HM3.out.2, rfl, rfl, by rw [HTk.out]; simp, HBj.out _ (by first | exact (Below.refl _ wr).drew | exact _root_.Go.below_drewN (Below.refl _ wr) _)⟩
                    · go_wp2_with fail
                      go_quiet (fail)
                      go_wp2_with fail
                      go_roundg (m - (j + 1))
                      case measure => exact HM3.out.1
                      case rel => exact ⟨j + 1, true, HM3.out.2, rfl, rfl, by rw [HTk.out]; simp, HBj.out _ (by first | exact (Below.refl _ wr).drew | exact _root_.Go.below_drewN (Below.refl _ wr) _)⟩
                  · obtain rfl : j = m := by omega
                    have hdj : decide ((j : Int) < (j : Int)) = false := by simp
                    have htj : tj = S.contains ⟨2, bi, bt⟩ := by
                      have h := HJ.out.1
                      rw [List.take_of_length_le (by have := HK.out.1; omega)] at h
                      exact h
                    rw [← htj] at HT2
                    have hgrow : Below NB ws wr := HK.out.2.2.2.trans (HJ.out.2.mono (Nat.le_trans HQ0.out.2.2 HK.out.2.2.2.size))
                    have HG := Lib.hid (And.intro hgrow (own_on HK.out.2.2.1 HJ.out.2))
                    clear htj hbw hgrow
                    cases tj
                    · have HS2 : Hid (seenP [] (rv.2.bds.take (k + 1)) = S ++ [⟨2, bi, bt⟩]) := by have h := HT2.out; rw [if_neg (by simp)] at h; exact h
                      obtain ⟨i0, hi, hz0, hz1, hz2⟩ := info_parts infoBd
                      have HA : Hid (Below NB ws (wr.alloc (.cells #[.int .i64 2, .int .i64 (bi : Int), .string ⟨bt.toArray⟩] 49))) := HG.out.1.trans ((below_o wr _).mono (Nat.le_trans HQ0.out.2.2 HG.out.1.size))
                      have HOr : Hid ((wr.alloc (.cells #[.int .i64 2, .int .i64 (bi : Int), .string ⟨bt.toArray⟩] 49)).ownsRow NB 49 3 (.slice sva j svc) j (bdCs S)) := own_on HG.out.2 (below_o _ _)
                      have hwm1 : IntKind.i64.wrap ((j : Int) + 1) = ((j + 1 : Nat) : Int) := by rw [IntKind.wrap_i64]; have := HK.out.2.1; have := HLe.out; omega
                      clear HT2
                      go_wp2_with (at_builtin; refine wpList_append_lies _ rfl _ _ 29 rfl NB 49 i0 (.agg #[.int .i64 0, .int .i64 0, .string ByteArray.empty]) 3 32 Tryz.underlying29 hi hz0 hz1 hz2 rfl (by decide) (.slice sva j svc) j (bdCs S) rfl (by exact HOr.out) ⟨wr.heap.size, 0, none⟩ 1 1 (bdC ⟨2, bi, bt⟩) rfl rfl ?cc1 ?cc2 (by decide) ?cc3 ?cc4 ?cc5 (wr.heap.size + 1) ?cc6 ?_)
                      case cc1 =>
                        intro i u hi2
                        exact World.news_of_block (heap_alloc_new wr (.cells #[.int .i64 2, .int .i64 (bi : Int), .string ⟨bt.toArray⟩] 49)) i u (by simpa [bdC] using hi2)
                      case cc2 => exact bdC_one ⟨2, bi, bt⟩
                      case cc3 => have := HK.out.2.1; have := HLe.out; unfold maxLen; omega
                      case cc4 => have := HK.out.2.1; have := HLe.out; omega
                      case cc5 => exact Nat.le_trans HQ0.out.2.2 HA.out.size
                      case cc6 => simp
                      intro g6 cap6 w6 hown6 hgrow6 hat6 hlt6
                      have HO6 : Hid (j + 1 = (seenP [] (rv.2.bds.take (k + 1))).length ∧ j + 1 ≤ k + 1 ∧ w6.ownsRow NB 49 3 (.slice (some ⟨g6, 0, none⟩) (j + 1) cap6) (j + 1) (bdCs (seenP [] (rv.2.bds.take (k + 1)))) ∧ Below NB ws w6) := by
                        refine ⟨by rw [HS2.out, List.length_append, ← HK.out.1]; rfl, Nat.succ_le_succ HK.out.2.1, by rw [HS2.out, bdCs_snoc]; exact hown6, HA.out.grown hgrow6 (Nat.le_trans HQ0.out.2.2 HA.out.size) (fun q hq => (HOr.out.lt q hq).1)⟩
                      clear hown6 hgrow6 hat6 e0 e1 e2 hdl
                      go_wp2_with fail
                      go_roundg (BL - (k + 1))
                      case measure => exact HM2.out.1
                      case rel => exact ⟨k + 1, j + 1, _, _, HM2.out.2, rfl, rfl, rfl, HO6.out⟩
                    · have HS2 : Hid (seenP [] (rv.2.bds.take (k + 1)) = S) := by have h := HT2.out; rw [if_pos (by simp)] at h; exact h
                      clear HT2 e0 e1 e2 hdl
                      go_wp2_with fail
                      go_roundg (BL - (k + 1))
                      case measure => exact HM2.out.1
                      case rel => exact ⟨k + 1, j, _, _, HM2.out.2, rfl, rfl, rfl, by rw [HS2.out]; exact ⟨HK.out.1, Nat.le_succ_of_le HK.out.2.1, HG.out.2, HG.out.1⟩⟩
              · have hb1 : (bk == 1) = false := by simpa using hbk1
                have hb2 : (bk == 2) = false := by simpa using hbk
                have hb3 : (bk != 1) = true := by simpa using hbk1
                have hb4 : (bk != 2) = true := by simpa using hbk
                have HS2 : Hid (seenP [] (rv.2.bds.take (k + 1)) = seenP [] (rv.2.bds.take k)) := by
                  have h := HT.out
                  show _ = _
                  rw [h, if_neg]
                  unfold ofF
                  simp [hb1, hb2]
                clear hbk hbk1 HT
                go_wp2_with fail
                go_roundg (BL - (k + 1))
                case measure => exact HM2.out.1
                case rel => exact ⟨k + 1, m, _, _, HM2.out.2, rfl, rfl, rfl, by rw [HS2.out]; exact ⟨HK.out.1, Nat.le_succ_of_le HK.out.2.1, HK.out.2.2⟩⟩
          · obtain rfl : k = BL := by omega
            have hdk : decide ((k : Int) < (k : Int)) = false := by simp
            have hmU : m = q := by
              have h1 := HK.out.1
              rw [List.take_of_length_le (by have := HLe.out; omega), HPp.out.2.2, HLe.out.2.1] at h1
              exact h1
            subst hmU
            have HBe := Lib.hid (HDs.out.2.trans (HK.out.2.2.2.mono HS0.out.1))
            go_wp2_with fail
            refine bodyPost_ret (v := .bool true) (by simp [results, Tryz.results5, go_sem]) rfl ?_
            exact ⟨rfl, HBe.out⟩
  · obtain ⟨gei, hgei⟩ : ∃ x : Int, ((rv.1.2 : Nat) : Int) = x := ⟨_, rfl⟩
    have hne2 : (gei != 0) = true := by simp; omega
    rw [hgei]
    clear hne hgei
    go_wp2_with fail
    refine bodyPost_ret (v := .bool true) (by simp [results, Tryz.results5, go_sem]) rfl ?_
    exact ⟨rfl, below_t HB3.out (below_o _ _) HB3.out.size⟩
end Go.Proofs.YtjadckhngalmlaaGreatDoor
