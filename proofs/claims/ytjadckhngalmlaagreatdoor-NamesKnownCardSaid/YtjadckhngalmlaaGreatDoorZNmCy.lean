/-
  CheckUnit, in the code.
-/
import Derived.Test.YtjadckhngalmlaaGreatDoorZNmCw
namespace Go.Proofs.YtjadckhngalmlaaGreatDoor
set_option linter.unusedVariables false
set_option linter.unusedSimpArgs false
set_option maxRecDepth 100000
open Go.RowKit

/-- While a unit is looked at. -/
structure FaI (sa : Option Addr) (sc : Nat) (ga : Option Addr) (gc : Nat) (fa : Option Addr) (fc SN GN FN : Nat) (w : World) (UB RB : Nat) (wr : World) : Prop where
  bel : Below w.heap.size w wr
  hu : wr.heap[UB]? = some (.cells #[.slice sa SN sc, .slice ga GN gc, .slice fa FN fc] 106)
  hr : wr.heap[RB]? = some (.cells #[.int .i64 0, .int .i64 0] 32)
  lu : w.heap.size ≤ UB
  lr : w.heap.size ≤ RB
theorem FaI.next {sa : Option Addr} {sc : Nat} {ga : Option Addr} {gc : Nat} {fa : Option Addr} {fc SN GN FN : Nat} {w : World} {UB RB : Nat} {wr w' : World} (h : FaI sa sc ga gc fa fc SN GN FN w UB RB wr) (hb : Below wr.heap.size wr w') : FaI sa sc ga gc fa fc SN GN FN w UB RB w' :=
  ⟨below_t h.bel hb h.bel.size, blk_on h.hu hb, blk_on h.hr hb, h.lu, h.lr⟩
theorem FaI.cells {sa : Option Addr} {sc : Nat} {ga : Option Addr} {gc : Nat} {fa : Option Addr} {fc SN GN FN : Nat} {w : World} {UB RB : Nat} {wr : World} (h : FaI sa sc ga gc fa fc SN GN FN w UB RB wr) :
    wr.cell? ⟨UB, 0, none⟩ = some (.slice sa SN sc) ∧ wr.cell? ⟨UB, 1, none⟩ = some (.slice ga GN gc) ∧ wr.cell? ⟨UB, 2, none⟩ = some (.slice fa FN fc) ∧ wr.cell? ⟨RB, 0, none⟩ = some (.int .i64 0) ∧ wr.cell? ⟨RB, 1, none⟩ = some (.int .i64 0) ∧ wr.frozen? ⟨RB, 0, none⟩ = false ∧ wr.frozen? ⟨RB, 1, none⟩ = false ∧ UB < wr.heap.size ∧ RB < wr.heap.size := by
  obtain ⟨a, b, c, _⟩ := cells3 h.hu
  obtain ⟨d, e, f⟩ := two_cells h.hr
  exact ⟨a, b, c, d, e, f 0, f 1, (Array.getElem?_eq_some_iff.1 h.hu).1, (Array.getElem?_eq_some_iff.1 h.hr).1⟩
set_option maxHeartbeats 4000000 in
theorem c_fault (B : Nat) (u : UnP) (p : UnS) (hU : UnOk u) (w : World) (hE : Env B w) (hB : B ≤ w.heap.size) (hI : UnIn u p w) :
    Calls Tryz.prog 40 #[unV u p] w fun e w' => e = .returned (.agg #[.int .i64 ((cuA u).1 : Nat), .int .i64 ((cuA u).2 : Nat)]) ∧ Below w.heap.size w w' := by
  have HEn := Lib.hid (fun w' (hb : Below w.heap.size w w') => And.intro (hE.next (hb.mono hB)) (Nat.le_trans hB hb.size))
  have HIn := Lib.hid (fun w' (hb : Below w.heap.size w w') => hI.next hb)
  have HOk := Lib.hid hU
  have HSt := Lib.hid (fun w' (hb : Below w.heap.size w w') => c_StructsX B u.structs p.sa p.sc hU.st hU.sl w' (HEn.out w' hb).1 (HEn.out w' hb).2 (st_next hI.st hb))
  have HGl : Hid (∀ g ∈ u.globals, ∀ ia ic w', Below w.heap.size w w' → TsIn g.init ia w' → Calls Tryz.prog 51 #[unV u p, .agg #[.int .i64 g.at', nmS g.var.name, nmS g.var.type, .bool g.var.vol, .slice ia g.init.length ic]] w' fun e w'' => e = .returned (.int .i64 (glA u.structs g : Nat)) ∧ Below w'.heap.size w' w'') := fun g hg ia ic w' hb hT =>
    c_uGlobal B u.structs p.sa p.sc p.ga u.globals.length p.gc p.fa u.funcs.length p.fc hU.st hU.sl g ia ic (hU.gl g hg) w' (HEn.out w' hb).1 (HEn.out w' hb).2 (hI.st.next hb) hT
  have HFn : Hid (∀ f ∈ u.funcs, ∀ pa pc ba bc w', Below w.heap.size w w' → VrIn f.params pa w' → TrIn f.body ba w' → Calls Tryz.prog 52 #[unV u p, fnV f.at' ⟨f.name.toArray⟩ ⟨f.type.toArray⟩ pa f.params.length pc ba f.body.length bc] w' fun e w'' => e = .returned (.int .i64 (fnA u.structs f : Nat)) ∧ Below w'.heap.size w' w'') := fun f hf pa pc ba bc w' hb hV hT =>
    c_uFunction B u.structs p.sa p.sc p.ga u.globals.length p.gc p.fa u.funcs.length p.fc hU.st hU.sl f pa pc ba bc (hU.fn f hf) w' (HEn.out w' hb).1 (HEn.out w' hb).2 (hI.st.next hb) hV hT
  obtain ⟨r0, r1, hr0, hr1⟩ : ∃ r0 r1 : Int, (((cuA u).1 : Nat) : Int) = r0 ∧ (((cuA u).2 : Nat) : Int) = r1 := ⟨_, _, rfl, rfl⟩
  rw [hr0, hr1]
  have HRr := Lib.hid (And.intro hr0 hr1)
  obtain ⟨S, G, F⟩ := u
  obtain ⟨sa, sc, ga, gc, fa, fc⟩ := p
  simp only [unV] at HSt HGl HFn ⊢
  obtain ⟨SN, hSN⟩ : ∃ N, S.length = N := ⟨_, rfl⟩
  obtain ⟨GN, hGN⟩ : ∃ N, G.length = N := ⟨_, rfl⟩
  obtain ⟨FN, hFN⟩ : ∃ N, F.length = N := ⟨_, rfl⟩
  obtain ⟨f0, f1, hf0, hf1⟩ : ∃ f0 f1 : Int, ((loA S).1 : Int) = f0 ∧ ((loA S).2.1 : Int) = f1 := ⟨_, _, rfl, rfl⟩
  rw [hSN, hf0, hf1] at HSt
  rw [hSN, hGN, hFN] at HGl HFn ⊢
  have HL := Lib.hid (And.intro hSN (And.intro hGN (And.intro hFN (And.intro hf0 hf1))))
  clear hE hB hI hU hr0 hr1 hSN hGN hFN hf0 hf1
  have HCu : Hid (cuA ⟨S, G, F⟩ = if 64 < SN ∨ 256 < GN ∨ 256 < FN then (0, 3) else if (loA S).2.1 = 0 then if (firstI (glA S) 0 G).2 = 0 then firstI (fnA S) 0 F else firstI (glA S) 0 G else ((loA S).1, (loA S).2.1)) := by
    show _ = _
    rw [← HL.out.1, ← HL.out.2.1, ← HL.out.2.2.1]
    rfl
  by_cases hbig : 64 < SN ∨ 256 < GN ∨ 256 < FN
  · have hv := HCu.out.trans (if_pos hbig)
    obtain rfl : r0 = 0 := by rw [← HRr.out.1, hv]; rfl
    obtain rfl : r1 = 3 := by rw [← HRr.out.2, hv]; rfl
    obtain ⟨d1, hd1⟩ : ∃ d, decide ((64 : Int) < (SN : Int)) = d := ⟨_, rfl⟩
    obtain ⟨d2, hd2⟩ : ∃ d, decide ((256 : Int) < (GN : Int)) = d := ⟨_, rfl⟩
    obtain ⟨d3, hd3⟩ : ∃ d, decide ((256 : Int) < (FN : Int)) = d := ⟨_, rfl⟩
    have hor : (d1 || (d2 || d3)) = true := by rw [← hd1, ← hd2, ← hd3]; simp; omega
    clear hv hbig
    cases d1 <;> cases d2 <;> cases d3
    case false.false.false => cases hor
    all_goals
      clear hor
      go_enter Tryz.func40, Tryz.ntmps40
      go_wp2_with fail
      refine bodyPost_ret (v := .agg #[.int .i64 0, .int .i64 3]) (by simp [results, Tryz.results40, go_sem]) rfl ?_
      exact ⟨rfl, below_t (below_o _ _) (below_o _ _) (by simp)⟩
  · have hg1 : decide ((64 : Int) < (SN : Int)) = false := by simp; omega
    have hg2 : decide ((256 : Int) < (GN : Int)) = false := by simp; omega
    have hg3 : decide ((256 : Int) < (FN : Int)) = false := by simp; omega
    have HBig := Lib.hid hbig
    have HCv := Lib.hid (HCu.out.trans (if_neg hbig))
    clear hbig
    go_enter Tryz.func40, Tryz.ntmps40
    go_wp2_with fail
    have hb0 : Below w.heap.size w ((w.alloc (.cells #[.slice sa SN sc, .slice ga GN gc, .slice fa FN fc] 106)).alloc (.cells #[.int .i64 0, .int .i64 0] 32)) := below_t (below_o _ _) (below_o _ _) (by simp)
    refine (HSt.out _ hb0).mono ?_
    rintro e w1 ⟨rfl, hb⟩
    have HB1 := Lib.hid (below_t hb0 hb hb0.size)
    have HU1 := Lib.hid (blk_on (blk_on (heap_alloc_at (w := w) _ _ rfl) (below_o _ _)) hb)
    have HZ1 := Lib.hid (blk_on (heap_alloc_at (w := w.alloc (.cells #[.slice sa SN sc, .slice ga GN gc, .slice fa FN fc] 106)) _ (w.heap.size + 1) (by simp)) hb)
    clear hb hb0 hg1 hg2 hg3
    obtain ⟨UB, hUB⟩ : ∃ UB, w.heap.size = UB := ⟨_, rfl⟩
    obtain ⟨RB, hRB⟩ : ∃ RB, UB + 1 = RB := ⟨_, rfl⟩
    have HUR := Lib.hid (And.intro hUB hRB)
    have HI1 : Hid (FaI sa sc ga gc fa fc SN GN FN w UB RB w1) := ⟨HB1.out, by rw [← hUB]; exact HU1.out, by rw [← hRB, ← hUB]; exact HZ1.out, by omega, by omega⟩
    rw [hUB, hRB]
    clear hUB hRB HB1 HU1 HZ1
    obtain ⟨u0, u1, u2, z0, z1, zf0, zf1, hul, hzl⟩ := HI1.out.cells
    by_cases hf1 : f1 = 0
    · subst hf1
      go_wp2_with fail
      have HI2 := Lib.hid (HI1.out.next (below_o w1 (.cells #[.int .i64 f0, .int .i64 0] 32)))
      clear u0 u1 u2 z0 z1 zf0 zf1 hul hzl
      have hcv : cuA ⟨S, G, F⟩ = if (firstI (glA S) 0 G).2 = 0 then firstI (fnA S) 0 F else firstI (glA S) 0 G := HCv.out.trans (if_pos (by have := HL.out.2.2.2.2; omega))
      have HCg := Lib.hid hcv
      clear hcv HCv HCu
      obtain ⟨w2, hw2⟩ : ∃ w2, w1.alloc (.cells #[.int .i64 f0, .int .i64 0] 32) = w2 := ⟨_, rfl⟩
      rw [hw2] at HI2 ⊢
      clear hw2 HI1
      go_loopg [37] GN (fun g v37 wr => ∃ q : Nat, q + g = GN ∧ v37 = .int .i64 (q : Int) ∧ Hid (FaI sa sc ga gc fa fc SN GN FN w UB RB wr ∧ firstI (glA S) 0 G = firstI (glA S) q (G.drop q)))
      case atStart => exact ⟨0, by omega, rfl, HI2.out, rfl⟩
      case round =>
        obtain ⟨q, hq, rfl, HRl⟩ := hrel
        obtain ⟨u0, u1, u2, z0, z1, zf0, zf1, hul, hzl⟩ := HRl.out.1.cells
        by_cases hlt : q < GN
        · have hd : decide ((q : Int) < (GN : Int)) = true := by simp; omega
          obtain ⟨g, hg⟩ : ∃ g, G[q]? = some g := ⟨_, List.getElem?_eq_getElem (by have := HL.out; omega)⟩
          obtain ⟨gb, go, hga, hgb, hgr⟩ := (HIn.out wr HRl.out.1.bel).gl (by show 0 < G.length; have := HL.out; omega)
          obtain ⟨cs, ⟨ia, ic, rfl, hTs, _⟩, hcs⟩ := hgr q g hg
          have c0 := hcs 0 _ rfl
          have c1 := hcs 1 _ rfl
          have c2 := hcs 2 _ rfl
          have c3 := hcs 3 _ rfl
          have c4 := hcs 4 _ rfl
          rw [Nat.add_zero] at c0
          have HBx := Lib.hid (below_o wr (.cells #[.int .i64 g.at', nmS g.var.name, nmS g.var.type, .bool g.var.vol, .slice ia g.init.length ic] 66))
          have HI3 := Lib.hid (HRl.out.1.next HBx.out)
          have HC := Lib.hid (HGl.out g (List.mem_of_getElem? hg) ia ic _ HI3.out.bel (hTs.next HBx.out))
          have HST : Hid (firstI (glA S) q (G.drop q) = if glA S g = 0 then firstI (glA S) (q + 1) (G.drop (q + 1)) else (q, glA S g)) := by
            show _ = _
            obtain ⟨h1, e1⟩ := List.getElem?_eq_some_iff.1 hg
            rw [List.drop_eq_getElem_cons h1, e1]
            rfl
          have hq0 : (0 : Int) ≤ (q : Int) := by omega
          have hql : (q : Int) < (GN : Int) := by omega
          have hwm : IntKind.i64.wrap ((q : Int) + 1) = ((q + 1 : Nat) : Int) := by rw [IntKind.wrap_i64]; have := HBig.out; omega
          have HM : Hid (GN - (q + 1) < gk ∧ q + 1 + (GN - (q + 1)) = GN) := ⟨by omega, by omega⟩
          obtain ⟨ev, hev⟩ : ∃ ev : Int, ((glA S g : Nat) : Int) = ev := ⟨_, rfl⟩
          rw [hev] at HC
          have HEv := Lib.hid hev
          subst hga
          obtain ⟨gat, ⟨gnm, gty, gvo⟩, gin⟩ := g
          simp only at c0 c1 c2 c3 c4 HC HI3 HBx
          obtain ⟨gil, hgil⟩ : ∃ gil, gin.length = gil := ⟨_, rfl⟩
          rw [hgil] at c4 HC HI3 HBx
          clear hg hgr hTs hcs hlt hq hev hgil
          by_cases he0 : ev = 0
          · subst he0
            have HNx : Hid (firstI (glA S) 0 G = firstI (glA S) (q + 1) (G.drop (q + 1))) := by
              show _ = _
              rw [HRl.out.2, HST.out, if_pos (by have := HEv.out; omega)]
            go_wp2_with fail
            refine HC.out.mono ?_
            rintro e w' ⟨rfl, hb⟩
            have HN2 := Lib.hid (And.intro (HI3.out.next hb) HNx.out)
            clear hb c0 c1 c2 c3 c4 u0 u1 u2 z0 z1 zf0 zf1 hul hzl
            go_wp2_with fail
            go_roundg (GN - (q + 1))
            case measure => exact HM.out.1
            case rel => exact ⟨q + 1, HM.out.2, rfl, HN2.out⟩
          · have hne : (ev != 0) = true := by simpa using he0
            have hge : firstI (glA S) 0 G = (q, glA S ⟨gat, ⟨gnm, gty, gvo⟩, gin⟩) := by
              rw [HRl.out.2, HST.out, if_neg (by have := HEv.out; omega)]
            have hv : cuA ⟨S, G, F⟩ = (q, glA S ⟨gat, ⟨gnm, gty, gvo⟩, gin⟩) := by
              rw [HCg.out, hge, if_neg (by have := HEv.out; show ¬ glA S _ = 0; omega)]
            obtain rfl : r0 = (q : Int) := by rw [← HRr.out.1, hv]
            obtain rfl : r1 = ev := by rw [← HRr.out.2, hv]; exact HEv.out
            clear he0 hge hv
            go_wp2_with fail
            refine HC.out.mono ?_
            rintro e w' ⟨rfl, hb⟩
            have HN2 := Lib.hid (HI3.out.next hb)
            clear hb c0 c1 c2 c3 c4 u0 u1 u2 z0 z1 zf0 zf1 hul hzl
            obtain ⟨u0, u1, u2, z0, z1, zf0, zf1, hul, hzl⟩ := HN2.out.cells
            go_wp2_with fail
            have hz9 := two_put HN2.out.hr (.int .i64 (q : Int)) (.int .i64 r1)
            have hb9 := two_below HN2.out.bel HN2.out.lr (.int .i64 (q : Int)) (.int .i64 r1)
            generalize ((w'.setCell ⟨RB, 0, none⟩ (.int .i64 (q : Int))).setCell ⟨RB, 1, none⟩ (.int .i64 r1)) = w9 at hz9 hb9 ⊢
            obtain ⟨p0, p1, _⟩ := two_cells hz9
            refine bodyPost_ret (v := .agg #[.int .i64 (q : Int), .int .i64 r1]) (by simp [results, Tryz.results40, go_sem, p0, p1]) rfl ?_
            exact ⟨rfl, hb9⟩
        · have hd : decide ((q : Int) < (GN : Int)) = false := by simp; omega
          have hgz : firstI (glA S) 0 G = (0, 0) := by
            rw [HRl.out.2, List.drop_eq_nil_of_le (by have := HL.out; omega)]
            rfl
          have HFz : Hid (cuA ⟨S, G, F⟩ = firstI (fnA S) 0 F) := by show _ = _; rw [HCg.out, hgz, if_pos rfl]
          clear hgz
          go_wp2_with fail
          have HI4 := Lib.hid HRl.out.1
          clear u0 u1 u2 z0 z1 zf0 zf1 hul hzl HRl hlt hd hq
          obtain ⟨w3, hw3⟩ : ∃ w3, wr = w3 := ⟨_, rfl⟩
          rw [hw3] at HI4 ⊢
          clear hw3
          go_loopg [54] FN (fun g v54 wr => ∃ q : Nat, q + g = FN ∧ v54 = .int .i64 (q : Int) ∧ Hid (FaI sa sc ga gc fa fc SN GN FN w UB RB wr ∧ firstI (fnA S) 0 F = firstI (fnA S) q (F.drop q)))
          case atStart => exact ⟨0, by omega, rfl, HI4.out, rfl⟩
          case round =>
            obtain ⟨q, hq, rfl, HRl⟩ := hrel
            obtain ⟨u0, u1, u2, z0, z1, zf0, zf1, hul, hzl⟩ := HRl.out.1.cells
            by_cases hlt : q < FN
            · have hd : decide ((q : Int) < (FN : Int)) = true := by simp; omega
              obtain ⟨g, hg⟩ : ∃ g, F[q]? = some g := ⟨_, List.getElem?_eq_getElem (by have := HL.out; omega)⟩
              obtain ⟨gb, go, hga, hgb, hgr⟩ := (HIn.out wr HRl.out.1.bel).fn (by show 0 < F.length; have := HL.out; omega)
              obtain ⟨cs, ⟨pa, pc, ba, bc, rfl, hVs, hTs, _⟩, hcs⟩ := hgr q g hg
              have c0 := hcs 0 _ rfl
              have c1 := hcs 1 _ rfl
              have c2 := hcs 2 _ rfl
              have c3 := hcs 3 _ rfl
              have c4 := hcs 4 _ rfl
              rw [Nat.add_zero] at c0
              have HBx := Lib.hid (below_o wr (.cells #[.int .i64 g.at', nmS g.name, nmS g.type, .slice pa g.params.length pc, .slice ba g.body.length bc] 45))
              have HI3 := Lib.hid (HRl.out.1.next HBx.out)
              have HC := Lib.hid (HFn.out g (List.mem_of_getElem? hg) pa pc ba bc _ HI3.out.bel (hVs.next HBx.out) (hTs.next HBx.out))
              have HST : Hid (firstI (fnA S) q (F.drop q) = if fnA S g = 0 then firstI (fnA S) (q + 1) (F.drop (q + 1)) else (q, fnA S g)) := by
                show _ = _
                obtain ⟨h1, e1⟩ := List.getElem?_eq_some_iff.1 hg
                rw [List.drop_eq_getElem_cons h1, e1]
                rfl
              have hq0 : (0 : Int) ≤ (q : Int) := by omega
              have hql : (q : Int) < (FN : Int) := by omega
              have hwm : IntKind.i64.wrap ((q : Int) + 1) = ((q + 1 : Nat) : Int) := by rw [IntKind.wrap_i64]; have := HBig.out; omega
              have HM : Hid (FN - (q + 1) < gk ∧ q + 1 + (FN - (q + 1)) = FN) := ⟨by omega, by omega⟩
              obtain ⟨ev, hev⟩ : ∃ ev : Int, ((fnA S g : Nat) : Int) = ev := ⟨_, rfl⟩
              rw [hev] at HC
              have HEv := Lib.hid hev
              subst hga
              obtain ⟨gat, gnm, gty, gps, gbo⟩ := g
              simp only at c0 c1 c2 c3 c4 HC HI3 HBx
              obtain ⟨gpl, hgpl⟩ : ∃ x, gps.length = x := ⟨_, rfl⟩
              obtain ⟨gbl, hgbl⟩ : ∃ x, gbo.length = x := ⟨_, rfl⟩
              rw [hgpl] at c3
              rw [hgbl] at c4
              rw [hgpl, hgbl] at HC HI3 HBx
              clear hg hgr hVs hTs hcs hlt hq hev hgpl hgbl
              by_cases he0 : ev = 0
              · subst he0
                have HNx : Hid (firstI (fnA S) 0 F = firstI (fnA S) (q + 1) (F.drop (q + 1))) := by
                  show _ = _
                  rw [HRl.out.2, HST.out, if_pos (by have := HEv.out; omega)]
                go_wp2_with fail
                refine HC.out.mono ?_
                rintro e w' ⟨rfl, hb⟩
                have HN2 := Lib.hid (And.intro (HI3.out.next hb) HNx.out)
                clear hb c0 c1 c2 c3 c4 u0 u1 u2 z0 z1 zf0 zf1 hul hzl
                go_wp2_with fail
                go_roundg (FN - (q + 1))
                case measure => exact HM.out.1
                case rel => exact ⟨q + 1, HM.out.2, rfl, HN2.out⟩
              · have hne : (ev != 0) = true := by simpa using he0
                have hge : firstI (fnA S) 0 F = (q, fnA S ⟨gat, gnm, gty, gps, gbo⟩) := by
                  rw [HRl.out.2, HST.out, if_neg (by have := HEv.out; omega)]
                have hv : cuA ⟨S, G, F⟩ = (q, fnA S ⟨gat, gnm, gty, gps, gbo⟩) := by
                  rw [HFz.out, hge]
                obtain rfl : r0 = (q : Int) := by rw [← HRr.out.1, hv]
                obtain rfl : r1 = ev := by rw [← HRr.out.2, hv]; exact HEv.out
                clear he0 hge hv
                go_wp2_with fail
                refine HC.out.mono ?_
                rintro e w' ⟨rfl, hb⟩
                have HN2 := Lib.hid (HI3.out.next hb)
                clear hb c0 c1 c2 c3 c4 u0 u1 u2 z0 z1 zf0 zf1 hul hzl
                obtain ⟨u0, u1, u2, z0, z1, zf0, zf1, hul, hzl⟩ := HN2.out.cells
                go_wp2_with fail
                have hz9 := two_put HN2.out.hr (.int .i64 (q : Int)) (.int .i64 r1)
                have hb9 := two_below HN2.out.bel HN2.out.lr (.int .i64 (q : Int)) (.int .i64 r1)
                generalize ((w'.setCell ⟨RB, 0, none⟩ (.int .i64 (q : Int))).setCell ⟨RB, 1, none⟩ (.int .i64 r1)) = w9 at hz9 hb9 ⊢
                obtain ⟨p0, p1, _⟩ := two_cells hz9
                refine bodyPost_ret (v := .agg #[.int .i64 (q : Int), .int .i64 r1]) (by simp [results, Tryz.results40, go_sem, p0, p1]) rfl ?_
                exact ⟨rfl, hb9⟩
            · have hd : decide ((q : Int) < (FN : Int)) = false := by simp; omega
              have hgz : firstI (fnA S) 0 F = (0, 0) := by
                rw [HRl.out.2, List.drop_eq_nil_of_le (by have := HL.out; omega)]
                rfl
              obtain rfl : r0 = 0 := by rw [← HRr.out.1, HFz.out, hgz]; rfl
              obtain rfl : r1 = 0 := by rw [← HRr.out.2, HFz.out, hgz]; rfl
              clear hgz
              go_wp2_with fail
              have hz9 := two_put HRl.out.1.hr (.int .i64 0) (.int .i64 0)
              have hb9 := two_below HRl.out.1.bel HRl.out.1.lr (.int .i64 0) (.int .i64 0)
              first
                | (generalize ((wr.setCell ⟨RB, 0, none⟩ (.int .i64 0)).setCell ⟨RB, 1, none⟩ (.int .i64 0)) = w9 at hz9 hb9 ⊢
                   obtain ⟨p0, p1, _⟩ := two_cells hz9
                   refine bodyPost_ret (v := .agg #[.int .i64 0, .int .i64 0]) (by simp [results, Tryz.results40, go_sem, p0, p1]) rfl ?_
                   exact ⟨rfl, hb9⟩)
    · have hne : (f1 != 0) = true := by simpa using hf1
      have h21 : (loA S).2.1 ≠ 0 := by have := HL.out.2.2.2.2; omega
      have hv := HCv.out.trans (if_neg h21)
      obtain rfl : r0 = f0 := by rw [← HRr.out.1, hv]; exact HL.out.2.2.2.1
      obtain rfl : r1 = f1 := by rw [← HRr.out.2, hv]; exact HL.out.2.2.2.2
      clear hf1 h21 hv
      go_wp2_with fail
      have hz9 := blk_on (two_put HI1.out.hr (.int .i64 r0) (.int .i64 r1)) (below_o _ (.cells #[.int .i64 r0, .int .i64 r1] 32))
      have hb9 := (two_below HI1.out.bel HI1.out.lr (.int .i64 r0) (.int .i64 r1)).alloc (by simpa using HI1.out.bel.size) (.cells #[.int .i64 r0, .int .i64 r1] 32)
      generalize ((w1.setCell ⟨RB, 0, none⟩ (.int .i64 r0)).setCell ⟨RB, 1, none⟩ (.int .i64 r1)).alloc (.cells #[.int .i64 r0, .int .i64 r1] 32) = w9 at hz9 hb9 ⊢
      obtain ⟨p0, p1, _⟩ := two_cells hz9
      refine bodyPost_ret (v := .agg #[.int .i64 r0, .int .i64 r1]) (by simp [results, Tryz.results40, go_sem, p0, p1]) rfl ?_
      exact ⟨rfl, hb9⟩
end Go.Proofs.YtjadckhngalmlaaGreatDoor
namespace Go.Proofs.YtjadckhngalmlaaGreatDoor
set_option linter.unusedVariables false
set_option linter.unusedSimpArgs false
set_option maxRecDepth 100000
open Go.RowKit

abbrev faV (a b : Int) : Value := .agg #[.int .i64 a, .int .i64 b]
set_option maxHeartbeats 2000000 in
theorem c_CheckUnit (B : Nat) (u : UnP) (p : UnS) (hU : UnOk u) (w : World) (hE : Env B w) (hB : B ≤ w.heap.size) (hI : UnIn u p w) :
    Calls Tryz.prog 26 #[unV u p] w fun e w' => e = .returned (faV ((cuA u).1 : Nat) ((cuA u).2 : Nat)) ∧ Below w.heap.size w w' := by
  have HC := Lib.hid (fun w' (hb : Below w.heap.size w w') => c_fault B u p hU w' (hE.next (hb.mono hB)) (Nat.le_trans hB hb.size) (hI.next hb))
  obtain ⟨r0, r1, hr0, hr1⟩ : ∃ r0 r1 : Int, (((cuA u).1 : Nat) : Int) = r0 ∧ (((cuA u).2 : Nat) : Int) = r1 := ⟨_, _, rfl, rfl⟩
  rw [hr0, hr1] at HC ⊢
  obtain ⟨S, G, F⟩ := u
  obtain ⟨sa, sc, ga, gc, fa, fc⟩ := p
  simp only [unV] at HC ⊢
  obtain ⟨SN, hSN⟩ : ∃ N, S.length = N := ⟨_, rfl⟩
  obtain ⟨GN, hGN⟩ : ∃ N, G.length = N := ⟨_, rfl⟩
  obtain ⟨FN, hFN⟩ : ∃ N, F.length = N := ⟨_, rfl⟩
  rw [hSN, hGN, hFN] at HC ⊢
  clear hE hB hI hU hr0 hr1 hSN hGN hFN
  go_enter Tryz.func26, Tryz.ntmps26
  go_wp2_with fail
  have hb0 : Below w.heap.size w ((w.alloc (.cells #[.slice sa SN sc, .slice ga GN gc, .slice fa FN fc] 26)).alloc (.cells #[.int .i64 0, .int .i64 0] 32)) := below_t (below_o _ _) (below_o _ _) (by simp)
  refine (HC.out _ hb0).mono ?_
  rintro e w1 ⟨rfl, hb⟩
  have HB1 := Lib.hid (below_t hb0 hb hb0.size)
  have HZ1 := Lib.hid (blk_on (heap_alloc_at (w := w.alloc (.cells #[.slice sa SN sc, .slice ga GN gc, .slice fa FN fc] 26)) _ (w.heap.size + 1) (by simp)) hb)
  obtain ⟨z0, z1, zf⟩ := two_cells HZ1.out
  have zf0 := zf 0
  have zf1 := zf 1
  have hl1 := (Array.getElem?_eq_some_iff.1 HZ1.out).1
  clear hb hb0 zf
  go_wp2_with fail
  have hz9 := two_put HZ1.out (.int .i64 r0) (.int .i64 r1)
  have hb9 := two_below HB1.out (Nat.le_succ _) (.int .i64 r0) (.int .i64 r1)
  generalize ((w1.setCell ⟨w.heap.size + 1, 0, none⟩ (.int .i64 r0)).setCell ⟨w.heap.size + 1, 1, none⟩ (.int .i64 r1)) = w9 at hz9 hb9 ⊢
  obtain ⟨p0, p1, _⟩ := two_cells hz9
  refine bodyPost_ret (v := .agg #[.int .i64 r0, .int .i64 r1]) (by simp [results, Tryz.results26, go_sem, p0, p1]) rfl ?_
  exact ⟨rfl, hb9⟩
end Go.Proofs.YtjadckhngalmlaaGreatDoor
