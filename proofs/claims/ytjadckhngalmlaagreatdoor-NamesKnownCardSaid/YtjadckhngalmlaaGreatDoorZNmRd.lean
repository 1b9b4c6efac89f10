/-
  The names of a file, in the code: read.
-/
import Derived.Test.YtjadckhngalmlaaGreatDoorZNmFf
import Derived.Test.YtjadckhngalmlaaGreatDoorZNmPn
import Derived.Test.YtjadckhngalmlaaGreatDoorZNmCy
namespace Go.Proofs.YtjadckhngalmlaaGreatDoor
set_option linter.unusedVariables false
set_option linter.unusedSimpArgs false
set_option maxRecDepth 100000
open Go.RowKit

/-- What read answers. -/
def RdT (u : UnP) (w : World) (e : Ending) (w' : World) : Prop :=
  (((rdA u).1.2 = 0 ∧ ∃ Fb p L ov fv css K, e = .returned (.tuple #[.pointer (some ⟨Fb, 0, none⟩), faV 0 0]) ∧ FlM w Fb (rdA u).2 p L ov fv css K w' ∧ K ≤ 1000) ∨ ((rdA u).1.2 ≠ 0 ∧ e = .returned (.tuple #[.pointer none, faV (rdA u).1.1 ((rdA u).1.2 : Nat)]))) ∧ Below w.heap.size w w'
/-- While a file is read. -/
structure RdI (w : World) (sa : Option Addr) (sc : Nat) (ga : Option Addr) (gc : Nat) (fa : Option Addr) (fc SN GN FN UB RB Fb : Nat) (f : FlP) (p : Option Addr) (L : List ScM) (ov fv : Value) (css : List (List Value)) (K : Nat) (wr : World) : Prop where
  fl : FlM w Fb f p L ov fv css K wr
  hu : wr.heap[UB]? = some (.cells #[.slice sa SN sc, .slice ga GN gc, .slice fa FN fc] 26)
  hr : wr.heap[RB]? = some (.cells #[.int .i64 0, .int .i64 0] 32)
theorem RdI.next {w : World} {sa : Option Addr} {sc : Nat} {ga : Option Addr} {gc : Nat} {fa : Option Addr} {fc SN GN FN UB RB Fb : Nat} {f : FlP} {p : Option Addr} {L : List ScM} {ov fv : Value} {css : List (List Value)} {K : Nat} {wr w' : World} (h : RdI w sa sc ga gc fa fc SN GN FN UB RB Fb f p L ov fv css K wr) (hb : Below wr.heap.size wr w') : RdI w sa sc ga gc fa fc SN GN FN UB RB Fb f p L ov fv css K w' :=
  ⟨h.fl.next hb, blk_on h.hu hb, blk_on h.hr hb⟩
/-- Another block turns, of the file's own kinds none. -/
theorem FlM.turn {w0 : World} {Fb : Nat} {f : FlP} {p : Option Addr} {L : List ScM} {ov fv : Value} {css : List (List Value)} {K : Nat} {w w' : World} (h : FlM w0 Fb f p L ov fv css K w) {g : Nat} (hg : w.grownBy w' (some g)) (hgb : w0.heap.size ≤ g) {x : Array Value} {T : TypeId} {fr : Nat × Nat} (ho : w.heap[g]? = some (.cells x T fr)) (h1 : T ≠ 9) (h2 : T ≠ 45) (h3 : T ≠ 77) (h4 : T ≠ 98) : FlM w0 Fb f p L ov fv css K w' := by
  refine { h with blk := ?_, sc := h.sc.turn hg ho h4, oo := ?_, fo := ?_, bel := h.bel.grown hg h.bel.size (fun k e => by injection e with e; rw [← e]; exact hgb) }
  · exact (hg.block _ (Array.getElem?_eq_some_iff.1 h.blk).1 (fun e => by injection e with e; exact ne_ty h.blk ho (Ne.symm h3) e)).trans h.blk
  · refine own_turn h.oo hg fun k hk e => ?_
    obtain ⟨cur, hh⟩ := own_ty h.oo hk
    exact ne_ty hh ho (Ne.symm h1) e
  · refine own_turn h.fo hg fun k hk e => ?_
    obtain ⟨cur, hh⟩ := own_ty h.fo hk
    exact ne_ty hh ho (Ne.symm h2) e
set_option maxHeartbeats 8000000 in
theorem c_read (B : Nat) (u : UnP) (p : UnS) (hU : UnOk u) (w : World) (hE : Env B w) (hB : B ≤ w.heap.size) (hI : UnIn u p w) :
    Calls Tryz.prog 16 #[unV u p] w fun e w' => RdT u w e w' := by
  have HC := Lib.hid (fun w' (hb : Below w.heap.size w w') => c_CheckUnit B u p hU w' (hE.next (hb.mono hB)) (Nat.le_trans hB hb.size) (hI.next hb))
  have HIn := Lib.hid (fun w' (hb : Below w.heap.size w w') => hI.next hb)
  have HI0 := Lib.hid hI
  have HOk := Lib.hid hU
  have HLen := Lib.hid (fun h => cu_lens (u := u) h)
  have HRd : Hid (rdA u = if (cuA u).2 = 0 then if (goG fl0 u.globals).1.2 = 0 then goF (goG fl0 u.globals).2 u.funcs else goG fl0 u.globals else (((cuA u).1, (cuA u).2), fl0)) := Lib.hid rfl
  obtain ⟨r0, r1, hr0, hr1⟩ : ∃ r0 r1 : Int, (((cuA u).1 : Nat) : Int) = r0 ∧ (((cuA u).2 : Nat) : Int) = r1 := ⟨_, _, rfl, rfl⟩
  rw [hr0, hr1] at HC
  have HRr := Lib.hid (And.intro hr0 hr1)
  obtain ⟨ra, hra⟩ : ∃ ra, rdA u = ra := ⟨_, rfl⟩
  unfold RdT
  rw [hra] at HRd ⊢
  obtain ⟨S, G, F⟩ := u
  obtain ⟨sa, sc, ga, gc, fa, fc⟩ := p
  simp only [unV] at HC HLen HRd ⊢
  obtain ⟨SN, hSN⟩ : ∃ N, S.length = N := ⟨_, rfl⟩
  obtain ⟨GN, hGN⟩ : ∃ N, G.length = N := ⟨_, rfl⟩
  obtain ⟨FN, hFN⟩ : ∃ N, F.length = N := ⟨_, rfl⟩
  rw [hSN, hGN, hFN] at HC HLen ⊢
  have HL := Lib.hid (And.intro hSN (And.intro hGN hFN))
  clear hE hB hI hU hr0 hr1 hSN hGN hFN hra
  go_enter Tryz.func16, Tryz.ntmps16
  go_wp2_with fail
  have hb0 : Below w.heap.size w ((w.alloc (.cells #[.slice sa SN sc, .slice ga GN gc, .slice fa FN fc] 26)).alloc (.cells #[.int .i64 0, .int .i64 0] 32)) := below_t (below_o _ _) (below_o _ _) (by simp)
  refine (HC.out _ hb0).mono ?_
  rintro e w1 ⟨rfl, hb⟩
  have HB1 := Lib.hid (below_t hb0 hb hb0.size)
  have HU1 := Lib.hid (blk_on (blk_on (heap_alloc_at (w := w) _ _ rfl) (below_o _ _)) hb)
  have HZ1 := Lib.hid (blk_on (heap_alloc_at (w := w.alloc (.cells #[.slice sa SN sc, .slice ga GN gc, .slice fa FN fc] 26)) _ (w.heap.size + 1) (by simp)) hb)
  clear hb hb0
  obtain ⟨UB, hUB⟩ : ∃ UB, w.heap.size = UB := ⟨_, rfl⟩
  obtain ⟨RB, hRB⟩ : ∃ RB, UB + 1 = RB := ⟨_, rfl⟩
  have HUR := Lib.hid (And.intro hUB hRB)
  have HU1' : Hid (w1.heap[UB]? = some (.cells #[.slice sa SN sc, .slice ga GN gc, .slice fa FN fc] 26)) := by rw [← hUB]; exact HU1.out
  have HZ1' : Hid (w1.heap[RB]? = some (.cells #[.int .i64 0, .int .i64 0] 32)) := by rw [← hRB, ← hUB]; exact HZ1.out
  rw [hUB, hRB]
  clear hUB hRB HU1 HZ1
  obtain ⟨u0, u1, u2, _⟩ := cells3 HU1'.out
  obtain ⟨z0, z1, zf⟩ := two_cells HZ1'.out
  have zf0 := zf 0
  have zf1 := zf 1
  have hul := (Array.getElem?_eq_some_iff.1 HU1'.out).1
  have hzl := (Array.getElem?_eq_some_iff.1 HZ1'.out).1
  clear zf
  by_cases h1 : r1 = 0
  · subst h1
    have hcu : (cuA ⟨S, G, F⟩).2 = 0 := by have := HRr.out.2; omega
    have HV : Hid (ra = if (goG fl0 G).1.2 = 0 then goF (goG fl0 G).2 F else goG fl0 G) := HRd.out.trans (if_pos hcu)
    have HLn := Lib.hid (HLen.out hcu)
    clear hcu
    go_wp2_with fail
    have hb1 := below_o w1 (.cells #[.int .i64 r0, .int .i64 0] 32)
    refine (c_builtScope _).mono ?_
    rintro e w2 ⟨BX, BM, rfl, hsc, hmp, hlx, hlm, hb2⟩
    have HB2 := Lib.hid (below_t (below_t HB1.out hb1 HB1.out.size) hb2 (below_t HB1.out hb1 HB1.out.size).size)
    have HBb := Lib.hid hb2
    have HS2 := Lib.hid (And.intro hsc (And.intro hmp (And.intro (Nat.le_trans hb1.size hlx) (Nat.le_trans hb1.size hlm))))
    clear hb1 hb2 hsc hmp hlx hlm u0 u1 u2 hul
    have HU2 := Lib.hid (blk_on (blk_on HU1'.out (below_o w1 (.cells #[.int .i64 r0, .int .i64 0] 32))) HBb.out)
    have HZ2 := Lib.hid (blk_on (blk_on HZ1'.out (below_o w1 (.cells #[.int .i64 r0, .int .i64 0] 32))) HBb.out)
    obtain ⟨u0, u1, u2, _⟩ := cells3 HU2.out
    have hul := (Array.getElem?_eq_some_iff.1 HU2.out).1
    obtain ⟨FB, hFB⟩ : ∃ FB, w2.heap.size + 1 + 1 = FB := ⟨_, rfl⟩
    have HR3 : Hid (RdI w sa sc ga gc fa fc SN GN FN UB RB FB fl0 (some ⟨w2.heap.size + 1, 0, none⟩) [⟨w2.heap.size + 1, w2.heap.size, 0, ⟨mp0, 0⟩⟩, ⟨BX, BM, 10, bltS⟩] (.slice none 0 0) (.slice none 0 0) [] 10 (((w2.alloc (.map #[] 0)).alloc (scO (some ⟨BX, 0, none⟩) w2.heap.size 0)).alloc (.cells #[.pointer (some ⟨w2.heap.size + 1, 0, none⟩), .int .i64 0, .slice none 0 0, .slice none 0 0] 77))) := by
      have k1 : Below w2.heap.size w2 ((w2.alloc (.map #[] 0)).alloc (scO (some ⟨BX, 0, none⟩) w2.heap.size 0)) := below_t (below_o _ _) (below_o _ _) (by simp)
      have k2 : Below w2.heap.size w2 (((w2.alloc (.map #[] 0)).alloc (scO (some ⟨BX, 0, none⟩) w2.heap.size 0)).alloc (.cells #[.pointer (some ⟨w2.heap.size + 1, 0, none⟩), .int .i64 0, .slice none 0 0, .slice none 0 0] 77)) := below_t k1 (below_o _ _) k1.size
      have hm : MpIn dcV w2.heap.size 0 mp0 (((w2.alloc (.map #[] 0)).alloc (scO (some ⟨BX, 0, none⟩) w2.heap.size 0)).alloc (.cells #[.pointer (some ⟨w2.heap.size + 1, 0, none⟩), .int .i64 0, .slice none 0 0, .slice none 0 0] 77)) := ((MpIn.made dcV w2).next (below_o _ _)).next (below_o _ _)
      have hx : (((w2.alloc (.map #[] 0)).alloc (scO (some ⟨BX, 0, none⟩) w2.heap.size 0)).alloc (.cells #[.pointer (some ⟨w2.heap.size + 1, 0, none⟩), .int .i64 0, .slice none 0 0, .slice none 0 0] 77)).heap[w2.heap.size + 1]? = some (scO (some ⟨BX, 0, none⟩) w2.heap.size 0) := blk_on (heap_alloc_at (w := w2.alloc (.map #[] 0)) _ _ (by simp)) (below_o _ _)
      have hms := HS2.out.2.1.lt
      refine ⟨⟨by rw [← hFB]; exact heap_alloc_at _ _ (by simp), ⟨rfl, ⟨some ⟨BX, 0, none⟩, hx, ⟨rfl, ⟨none, blk_on HS2.out.1 k2, rfl⟩, HS2.out.2.1.next k2⟩⟩, hm⟩, rfl, ?_, ?_, World.ownsRow_nil _ _ _ _, World.ownsRow_nil _ _ _ _, rfl, (fun k x cs hx => by cases hx), ?_, ?_, below_t HB2.out k2 HB2.out.size⟩, blk_on HU2.out k2, blk_on HZ2.out k2⟩
      · simp
        omega
      · intro c hc
        simp only [List.mem_cons, List.not_mem_nil, or_false] at hc
        rcases hc with rfl | rfl
        · show 0 ≤ 10; omega
        · show 10 ≤ 10; omega
      · have := HB2.out.size; omega
      · intro c hc
        simp only [List.mem_cons, List.not_mem_nil, or_false] at hc
        rcases hc with rfl | rfl
        · exact HB2.out.size
        · exact Nat.le_trans HB1.out.size HS2.out.2.2.2
    clear z0 z1 zf0 zf1 hzl u0 u1 u2 hul
    obtain ⟨u0, u1, u2, _⟩ := cells3 HR3.out.hu
    go_wp2_with (go_at_call 24; refine (c_within _ 0 _).mono ?_; rintro e w3 ⟨rfl, rfl⟩)
    clear u0 u1 u2
    obtain ⟨PX, hPX⟩ : ∃ PX, (some ⟨w2.heap.size + 1, 0, none⟩ : Option Addr) = PX := ⟨_, rfl⟩
    have HR4 : Hid (∃ f L ov fv css K, RdI w sa sc ga gc fa fc SN GN FN UB RB FB f PX L ov fv css K (((w2.alloc (.map #[] 0)).alloc (scO (some ⟨BX, 0, none⟩) w2.heap.size 0)).alloc (.cells #[.pointer (some ⟨w2.heap.size + 1, 0, none⟩), .int .i64 0, .slice none 0 0, .slice none 0 0] 77)) ∧ goG fl0 G = goG f (G.drop 0) ∧ f.Wf ∧ f.order.length ≤ 0 ∧ f.ng ≤ 0 ∧ f.funcs = [] ∧ K ≤ 10 + 0) :=
      ⟨fl0, _, _, _, _, 10, by rw [← hPX]; exact HR3.out, rfl, fl0_wf, Nat.le_refl _, Nat.le_refl _, rfl, Nat.le_refl _⟩
    obtain ⟨w3, hw3⟩ : ∃ w3, ((w2.alloc (.map #[] 0)).alloc (scO (some ⟨BX, 0, none⟩) w2.heap.size 0)).alloc (.cells #[.pointer (some ⟨w2.heap.size + 1, 0, none⟩), .int .i64 0, .slice none 0 0, .slice none 0 0] 77) = w3 := ⟨_, rfl⟩
    rw [hw3] at HR4 ⊢
    clear hw3 HR3 HU2 HZ2 HS2 HB2 HBb hFB hPX HC
    go_loopg [25] GN (fun g v25 wr => ∃ q : Nat, q + g = GN ∧ v25 = .int .i64 (q : Int) ∧ Hid (∃ f L ov fv css K, RdI w sa sc ga gc fa fc SN GN FN UB RB FB f PX L ov fv css K wr ∧ goG fl0 G = goG f (G.drop q) ∧ f.Wf ∧ f.order.length ≤ q ∧ f.ng ≤ q ∧ f.funcs = [] ∧ K ≤ 10 + q))
    case atStart => exact ⟨0, by omega, rfl, HR4.out⟩
    case round =>
      obtain ⟨q, hq, rfl, HRl⟩ := hrel
      obtain ⟨f, L, ov, fv, css, K, hI, hgo, hwf, hol, hng, hfu, hKq⟩ := HRl.out
      have HI := Lib.hid hI
      have HQ := Lib.hid (And.intro hgo (And.intro hwf (And.intro hol (And.intro hng (And.intro hfu hKq)))))
      obtain ⟨z0, z1, zf⟩ := two_cells hI.hr
      have zf0 := zf 0
      have zf1 := zf 1
      have hzl := (Array.getElem?_eq_some_iff.1 hI.hr).1
      obtain ⟨u0, u1, u2, _⟩ := cells3 hI.hu
      have hul := (Array.getElem?_eq_some_iff.1 hI.hu).1
      clear hI hgo hwf hol hng hfu hKq HRl zf
      by_cases hlt : q < GN
      · have hd : decide ((q : Int) < (GN : Int)) = true := by simp; omega
        obtain ⟨g, hg⟩ : ∃ g, G[q]? = some g := ⟨_, List.getElem?_eq_getElem (by have := HL.out; omega)⟩
        obtain ⟨gb, go, hga, hgb, hgr⟩ := (HIn.out wr HI.out.fl.bel).gl (by show 0 < G.length; have := HL.out; omega)
        obtain ⟨cs, ⟨ia, ic, rfl, hTs, _⟩, hcs⟩ := hgr q g hg
        have c0 := hcs 0 _ rfl
        have c1 := hcs 1 _ rfl
        have c2 := hcs 2 _ rfl
        have c3 := hcs 3 _ rfl
        have c4 := hcs 4 _ rfl
        rw [Nat.add_zero] at c0
        have hvo : VrOk g.var := (HOk.out.gl g (List.mem_of_getElem? hg)).1
        have HBx := Lib.hid (below_o wr (.cells #[.int .i64 g.at', nmS g.var.name, nmS g.var.type, .bool g.var.vol, .slice ia g.init.length ic] 66))
        have HXb := Lib.hid (heap_alloc_at (w := wr) (.cells #[.int .i64 g.at', nmS g.var.name, nmS g.var.type, .bool g.var.vol, .slice ia g.init.length ic] 66) _ rfl)
        have HI3 := Lib.hid (HI.out.next HBx.out)
        have HC := Lib.hid (c_fGlobal g.var hvo _ HI3.out.fl (by have := HQ.out.2.2.2.2.2; have := HLn.out; omega) (by have := HQ.out.2.2.1; have := HLn.out; omega) (by have := HQ.out.2.2.2.1; have := HLn.out; omega))
        have HST : Hid (goG f (G.drop q) = if glE f g.var = 0 then goG (glF f g.var) (G.drop (q + 1)) else ((g.at', glE f g.var), f)) := by
          show _ = _
          obtain ⟨h1, e1⟩ := List.getElem?_eq_some_iff.1 hg
          rw [List.drop_eq_getElem_cons h1, e1]
          rfl
        have hq0 : (0 : Int) ≤ (q : Int) := by omega
        have hql : (q : Int) < (GN : Int) := by omega
        have hwm : IntKind.i64.wrap ((q : Int) + 1) = ((q + 1 : Nat) : Int) := by rw [IntKind.wrap_i64]; have := HLn.out; omega
        have HM : Hid (GN - (q + 1) < gk ∧ q + 1 + (GN - (q + 1)) = GN) := ⟨by omega, by omega⟩
        obtain ⟨ge, hge⟩ : ∃ a, glE f g.var = a := ⟨_, rfl⟩
        have HWf : Hid (ge = 0 → (glF f g.var).Wf) := fun h => glF_wf HQ.out.2.1 (by rw [hge]; exact h)
        have HLe := Lib.hid (glF_len f g.var)
        obtain ⟨gf, hgf⟩ : ∃ a, glF f g.var = a := ⟨_, rfl⟩
        rw [hge, hgf] at HC HST
        rw [hgf] at HWf HLe
        subst hga
        obtain ⟨gat, ⟨gnm, gty, gvo⟩, gin⟩ := g
        simp only at c0 c1 c2 c3 c4 HC HI3 HBx HST HXb
        obtain ⟨gil, hgil⟩ : ∃ gil, gin.length = gil := ⟨_, rfl⟩
        rw [hgil] at c4 HC HI3 HBx HXb
        clear hg hgr hTs hcs hlt hq hge hgf hgil hvo
        by_cases he0 : ge = 0
        · subst he0
          go_wp2_with fail
          refine HC.out.mono ?_
          rintro e w' ⟨rfl, h1, _, hkd⟩
          obtain ⟨L', ov', h5⟩ := h1 (by trivial)
          have HN : Hid (∃ f L ov fv css K, RdI w sa sc (some ⟨gb, go, none⟩) gc fa fc SN GN FN UB RB FB f PX L ov fv css K w' ∧ goG fl0 G = goG f (G.drop (q + 1)) ∧ f.Wf ∧ f.order.length ≤ q + 1 ∧ f.ng ≤ q + 1 ∧ f.funcs = [] ∧ K ≤ 10 + (q + 1)) :=
            ⟨gf, L', ov', fv, css, K + 1, ⟨h5, (hkd _ _ _ _ HI3.out.hu (by decide) (by decide) (by decide)).trans HI3.out.hu, (hkd _ _ _ _ HI3.out.hr (by decide) (by decide) (by decide)).trans HI3.out.hr⟩, by rw [HQ.out.1, HST.out, if_pos trivial], HWf.out (by trivial), by have := HLe.out.1; have := HQ.out.2.2.1; omega, by have := HLe.out.2.1; have := HQ.out.2.2.2.1; omega, by rw [HLe.out.2.2]; exact HQ.out.2.2.2.2.1, by have := HQ.out.2.2.2.2.2; omega⟩
          clear h1 hkd h5 c0 c1 c2 c3 c4 u0 u1 u2 z0 z1 zf0 zf1 hul hzl
          go_wp2_with fail
          go_roundg (GN - (q + 1))
          case measure => exact HM.out.1
          case rel => exact ⟨q + 1, HM.out.2, rfl, HN.out⟩
        · have hne : (((ge : Nat) : Int) != 0) = true := by simpa using he0
          obtain ⟨gei, hgei⟩ : ∃ x : Int, ((ge : Nat) : Int) = x := ⟨_, rfl⟩
          have HGe := Lib.hid (And.intro hgei he0)
          rw [hgei] at hne HC
          go_wp2_with fail
          refine HC.out.mono ?_
          rintro e w' ⟨rfl, _, hb, _⟩
          have hb := hb he0
          have HI5 := Lib.hid (HI3.out.next hb)
          have HX5 := Lib.hid (blk_on HXb.out hb)
          clear hb c0 c1 c2 c3 c4 u0 u1 u2 z0 z1 zf0 zf1 hul hzl he0 hgei
          obtain ⟨z0, z1, zf⟩ := two_cells HI5.out.hr
          have zf0 := zf 0
          have zf1 := zf 1
          have hzl := (Array.getElem?_eq_some_iff.1 HI5.out.hr).1
          obtain ⟨x0, x1, x2, x3, x4, _⟩ := five_cells HX5.out
          clear zf
          have hgo : goG fl0 G = ((gat, ge), f) := by rw [HQ.out.1, HST.out, if_neg HGe.out.2]
          have hra : ra = ((gat, ge), f) := by rw [HV.out, hgo, if_neg HGe.out.2]
          have HRa := Lib.hid hra
          have hz9 := two_put HI5.out.hr (.int .i64 gat) (.int .i64 gei)
          have hb9 := (two_below HI5.out.fl.bel (show w.heap.size ≤ RB by have := HUR.out; omega) (.int .i64 gat) (.int .i64 gei)).drew
          clear hgo hra
          go_wp2_with fail
          go_region
          all_goals
            go_wp2_with fail
            have hz9 : ((w'.setCell ⟨RB, 0, none⟩ (.int .i64 gat)).setCell ⟨RB, 1, none⟩ (.int .i64 gei)).drew.heap[RB]? = _ := hz9
            generalize ((w'.setCell ⟨RB, 0, none⟩ (.int .i64 gat)).setCell ⟨RB, 1, none⟩ (.int .i64 gei)).drew = w9 at hz9 hb9 ⊢
            obtain ⟨p0, p1, _⟩ := two_cells hz9
            refine bodyPost_ret (v := .tuple #[.pointer none, faV gat gei]) (by simp [results, Tryz.results16, go_sem, p0, p1]) rfl ?_
            exact ⟨.inr ⟨by rw [HRa.out]; exact HGe.out.2, by rw [HRa.out]; show _ = Ending.returned (.tuple #[.pointer none, faV gat ((ge : Nat) : Int)]); rw [HGe.out.1]⟩, hb9⟩
      · have hd : decide ((q : Int) < (GN : Int)) = false := by simp; omega
        have hgo : goG fl0 G = ((0, 0), f) := by
          rw [HQ.out.1, List.drop_eq_nil_of_le (by have := HL.out; omega)]
          rfl
        have HVf : Hid (ra = goF f F) := by show _ = _; rw [HV.out, hgo, if_pos rfl]
        clear hgo
        have hKG : K ≤ 266 := by have := HQ.out.2.2.2.2.2; have := HLn.out; omega
        have hoG : f.order.length ≤ 256 := by have := HQ.out.2.2.1; have := HLn.out; omega
        have HR5 : Hid (∃ f L ov fv css K, RdI w sa sc ga gc fa fc SN GN FN UB RB FB f PX L ov fv css K wr ∧ ra = goF f (F.drop 0) ∧ f.Wf ∧ f.order.length ≤ 256 + 0 ∧ f.funcs.length ≤ 128 ∧ K ≤ 266 + 0) :=
          ⟨f, L, ov, fv, css, K, HI.out, HVf.out, HQ.out.2.1, hoG, by rw [HQ.out.2.2.2.2.1]; exact Nat.zero_le _, hKG⟩
        clear hKG hoG
        go_wp2_with fail
        clear HI HQ u0 u1 u2 z0 z1 zf0 zf1 hul hzl hlt hd hq HVf HV
        obtain ⟨w4, hw4⟩ : ∃ w4, wr = w4 := ⟨_, rfl⟩
        rw [hw4] at HR5 ⊢
        clear hw4 f L ov fv css K
        go_loopg [43] FN (fun g v43 wr => ∃ q : Nat, q + g = FN ∧ v43 = .int .i64 (q : Int) ∧ Hid (∃ f L ov fv css K, RdI w sa sc ga gc fa fc SN GN FN UB RB FB f PX L ov fv css K wr ∧ ra = goF f (F.drop q) ∧ f.Wf ∧ f.order.length ≤ 256 + q ∧ f.funcs.length ≤ 128 ∧ K ≤ 266 + q))
        case atStart => exact ⟨0, by omega, rfl, HR5.out⟩
        case round =>
          obtain ⟨q, hq, rfl, HRl⟩ := hrel
          obtain ⟨f, L, ov, fv, css, K, hI, hgo, hwf, hol, hfu, hKq⟩ := HRl.out
          have HI := Lib.hid hI
          have HQ := Lib.hid (And.intro hgo (And.intro hwf (And.intro hol (And.intro hfu hKq))))
          obtain ⟨z0, z1, zf⟩ := two_cells hI.hr
          have zf0 := zf 0
          have zf1 := zf 1
          have hzl := (Array.getElem?_eq_some_iff.1 hI.hr).1
          obtain ⟨u0, u1, u2, _⟩ := cells3 hI.hu
          have hul := (Array.getElem?_eq_some_iff.1 hI.hu).1
          clear hI hgo hwf hol hfu hKq HRl zf
          by_cases hlt : q < FN
          · have hd : decide ((q : Int) < (FN : Int)) = true := by simp; omega
            obtain ⟨x, hx⟩ : ∃ x, F[q]? = some x := ⟨_, List.getElem?_eq_getElem (by have := HL.out; omega)⟩
            obtain ⟨gb, go, hga, hgb, hgr⟩ := HI0.out.fn (by show 0 < F.length; have := HL.out; omega)
            obtain ⟨cs, hC, hcs⟩ := hgr q x hx
            obtain ⟨pa, pc, ba, bc, rfl, _⟩ := id hC
            have e := HI.out.fl.bel.block gb hgb
            have c0 := (blk_cell e _).trans (hcs 0 _ rfl)
            have c1 := (blk_cell e _).trans (hcs 1 _ rfl)
            have c2 := (blk_cell e _).trans (hcs 2 _ rfl)
            have c3 := (blk_cell e _).trans (hcs 3 _ rfl)
            have c4 := (blk_cell e _).trans (hcs 4 _ rfl)
            have hgl : gb < wr.heap.size := Nat.lt_of_lt_of_le hgb HI.out.fl.bel.size
            rw [Nat.add_zero] at c0
            have hxo := (HOk.out.fn x (List.mem_of_getElem? hx)).1
            have HBx := Lib.hid (below_o wr (.cells #[.int .i64 x.at', nmS x.name, nmS x.type, .slice pa x.params.length pc, .slice ba x.body.length bc] 45))
            have HXb := Lib.hid (heap_alloc_at (w := wr) (.cells #[.int .i64 x.at', nmS x.name, nmS x.type, .slice pa x.params.length pc, .slice ba x.body.length bc] 45) _ rfl)
            have HI3 := Lib.hid (HI.out.next HBx.out)
            have HC := Lib.hid (c_fFunction x hxo pa pc ba bc hC (fun h => HQ.out.2.1.idx h) (by have := HQ.out.2.2.2.1; omega) (by have := HQ.out.2.2.1; have := HLn.out; omega) (by have := HQ.out.2.2.2.2; have := HLn.out; omega) _ HI3.out.fl)
            have HST : Hid (goF f (F.drop q) = if fnE f x = 0 then goF (fnF f x) (F.drop (q + 1)) else ((x.at', fnE f x), f)) := by
              show _ = _
              obtain ⟨h1, e1⟩ := List.getElem?_eq_some_iff.1 hx
              rw [List.drop_eq_getElem_cons h1, e1]
              rfl
            have hq0 : (0 : Int) ≤ (q : Int) := by omega
            have hql : (q : Int) < (FN : Int) := by omega
            have hwm : IntKind.i64.wrap ((q : Int) + 1) = ((q + 1 : Nat) : Int) := by rw [IntKind.wrap_i64]; have := HLn.out; omega
            have HM : Hid (FN - (q + 1) < gk ∧ q + 1 + (FN - (q + 1)) = FN) := ⟨by omega, by omega⟩
            obtain ⟨ge, hge⟩ : ∃ a, fnE f x = a := ⟨_, rfl⟩
            have HWf : Hid (ge = 0 → (fnF f x).Wf) := fun h => fnF_wf HQ.out.2.1 (by rw [hge]; exact h)
            have HLe : Hid (ge = 0 → (fnF f x).order.length ≤ f.order.length + 1 ∧ (fnF f x).ng = f.ng ∧ (fnF f x).funcs.length ≤ 128) := fun h => fnF_len (by rw [hge]; exact h) HQ.out.2.2.2.1
            obtain ⟨gf, hgf⟩ : ∃ a, fnF f x = a := ⟨_, rfl⟩
            rw [hge, hgf] at HC HST
            rw [hgf] at HWf HLe
            have hga' : fa = some ⟨gb, go, none⟩ := hga
            subst hga'
            obtain ⟨gat, gnm, gty, gps, gbo⟩ := x
            simp only at c0 c1 c2 c3 c4 HC HI3 HBx HST HXb
            obtain ⟨gpl, hgpl⟩ : ∃ a, gps.length = a := ⟨_, rfl⟩
            obtain ⟨gbl, hgbl⟩ : ∃ a, gbo.length = a := ⟨_, rfl⟩
            rw [hgpl] at c3
            rw [hgbl] at c4
            rw [hgpl, hgbl] at HC HI3 HBx HXb
            clear hx hgr hC hcs hlt hq hge hgf hgpl hgbl hxo hga e
            by_cases he0 : ge = 0
            · subst he0
              go_wp2_with fail
              refine HC.out.mono ?_
              rintro e w' ⟨rfl, h1, _, hkd⟩
              obtain ⟨L', ov', fv', css', h5⟩ := h1 (by trivial)
              have HN : Hid (∃ f L ov fv css K, RdI w sa sc ga gc (some ⟨gb, go, none⟩) fc SN GN FN UB RB FB f PX L ov fv css K w' ∧ ra = goF f (F.drop (q + 1)) ∧ f.Wf ∧ f.order.length ≤ 256 + (q + 1) ∧ f.funcs.length ≤ 128 ∧ K ≤ 266 + (q + 1)) :=
                ⟨gf, L', ov', fv', css', K + 1, ⟨h5, (hkd _ _ _ _ HI3.out.hu (by decide) (by decide) (by decide)).trans HI3.out.hu, (hkd _ _ _ _ HI3.out.hr (by decide) (by decide) (by decide)).trans HI3.out.hr⟩, by rw [HQ.out.1, HST.out, if_pos trivial], HWf.out (by trivial), by have := (HLe.out (by trivial)).1; have := HQ.out.2.2.1; omega, (HLe.out (by trivial)).2.2, by have := HQ.out.2.2.2.2; omega⟩
              clear h1 hkd h5 c0 c1 c2 c3 c4 u0 u1 u2 z0 z1 zf0 zf1 hul hzl
              go_wp2_with fail
              go_roundg (FN - (q + 1))
              case measure => exact HM.out.1
              case rel => exact ⟨q + 1, HM.out.2, rfl, HN.out⟩
            · have hne : (((ge : Nat) : Int) != 0) = true := by simpa using he0
              obtain ⟨gei, hgei⟩ : ∃ x : Int, ((ge : Nat) : Int) = x := ⟨_, rfl⟩
              have HGe := Lib.hid (And.intro hgei he0)
              rw [hgei] at hne HC
              go_wp2_with fail
              refine HC.out.mono ?_
              rintro e w' ⟨rfl, _, hb, _⟩
              have hb := hb he0
              have HI5 := Lib.hid (HI3.out.next hb)
              have HX5 := Lib.hid (blk_on HXb.out hb)
              clear hb c0 c1 c2 c3 c4 u0 u1 u2 z0 z1 zf0 zf1 hul hzl he0 hgei
              obtain ⟨z0, z1, zf⟩ := two_cells HI5.out.hr
              have zf0 := zf 0
              have zf1 := zf 1
              have hzl := (Array.getElem?_eq_some_iff.1 HI5.out.hr).1
              obtain ⟨x0, x1, x2, x3, x4, _⟩ := five_cells HX5.out
              clear zf
              have hra : ra = ((gat, ge), f) := by rw [HQ.out.1, HST.out, if_neg HGe.out.2]
              have HRa := Lib.hid hra
              have hz9 := two_put HI5.out.hr (.int .i64 gat) (.int .i64 gei)
              have hb9 := (two_below HI5.out.fl.bel (show w.heap.size ≤ RB by have := HUR.out; omega) (.int .i64 gat) (.int .i64 gei)).drew
              clear hra
              go_wp2_with fail
              go_region
              all_goals
                go_wp2_with fail
                have hz9 : ((w'.setCell ⟨RB, 0, none⟩ (.int .i64 gat)).setCell ⟨RB, 1, none⟩ (.int .i64 gei)).drew.heap[RB]? = _ := hz9
                generalize ((w'.setCell ⟨RB, 0, none⟩ (.int .i64 gat)).setCell ⟨RB, 1, none⟩ (.int .i64 gei)).drew = w9 at hz9 hb9 ⊢
                obtain ⟨p0, p1, _⟩ := two_cells hz9
                refine bodyPost_ret (v := .tuple #[.pointer none, faV gat gei]) (by simp [results, Tryz.results16, go_sem, p0, p1]) rfl ?_
                exact ⟨.inr ⟨by rw [HRa.out]; exact HGe.out.2, by rw [HRa.out]; show _ = Ending.returned (.tuple #[.pointer none, faV gat ((ge : Nat) : Int)]); rw [HGe.out.1]⟩, hb9⟩
          · have hd : decide ((q : Int) < (FN : Int)) = false := by simp; omega
            have hra : ra = ((0, 0), f) := by
              rw [HQ.out.1, List.drop_eq_nil_of_le (by have := HL.out; omega)]
              rfl
            have HRa := Lib.hid hra
            have hqF : q ≤ 256 := by have := HLn.out; omega
            have HqF := Lib.hid hqF
            clear hra hqF
            go_wp2_with fail
            have hz9 := two_put HI.out.hr (.int .i64 0) (.int .i64 0)
            have hx1 := heap_setCell_same wr RB 0 _ _ (.int .i64 0) HI.out.hr
            have hF9 := (((HI.out.fl.turn (grown_set wr RB 0 (.int .i64 0)) (by have := HUR.out; omega) HI.out.hr (by decide) (by decide) (by decide) (by decide)).turn (grown_set _ RB 1 (.int .i64 0)) (by have := HUR.out; omega) hx1 (by decide) (by decide) (by decide) (by decide)))
            have hb9 := two_below HI.out.fl.bel (show w.heap.size ≤ RB by have := HUR.out; omega) (.int .i64 0) (.int .i64 0)
            clear hx1
            generalize (wr.setCell ⟨RB, 0, none⟩ (.int .i64 0)).setCell ⟨RB, 1, none⟩ (.int .i64 0) = w9 at hz9 hF9 hb9 ⊢
            obtain ⟨p0, p1, _⟩ := two_cells hz9
            refine bodyPost_ret (v := .tuple #[.pointer (some ⟨FB, 0, none⟩), faV 0 0]) (by simp [results, Tryz.results16, go_sem, p0, p1]) rfl ?_
            exact ⟨.inl ⟨by rw [HRa.out], FB, PX, L, ov, fv, css, K, rfl, by rw [HRa.out]; exact hF9, by have := HQ.out; have := HqF.out; omega⟩, hb9⟩
  · have hne : (r1 != 0) = true := by simpa using h1
    have hcu : (cuA ⟨S, G, F⟩).2 ≠ 0 := by have := HRr.out.2; omega
    have hv := HRd.out.trans (if_neg hcu)
    have HV : Hid (ra.1.2 ≠ 0 ∧ ra.1.1 = r0 ∧ ((ra.1.2 : Nat) : Int) = r1) := by
      rw [hv]
      exact ⟨hcu, HRr.out.1, HRr.out.2⟩
    clear hcu hv
    go_wp2_with fail
    have hz9 := blk_on (two_put HZ1'.out (.int .i64 r0) (.int .i64 r1)) ((below_o _ (.cells #[.int .i64 r0, .int .i64 r1] 32)).drew)
    have hb9 := ((two_below HB1.out (show w.heap.size ≤ RB by have := HUR.out; omega) (.int .i64 r0) (.int .i64 r1)).alloc (by simpa using HB1.out.size) (.cells #[.int .i64 r0, .int .i64 r1] 32)).drew
    go_region
    all_goals
      go_wp2_with fail
      generalize (((w1.setCell ⟨RB, 0, none⟩ (.int .i64 r0)).setCell ⟨RB, 1, none⟩ (.int .i64 r1)).alloc (.cells #[.int .i64 r0, .int .i64 r1] 32)).drew = w9 at hz9 hb9 ⊢
      obtain ⟨p0, p1, _⟩ := two_cells hz9
      refine bodyPost_ret (v := .tuple #[.pointer none, faV r0 r1]) (by simp [results, Tryz.results16, go_sem, p0, p1]) rfl ?_
      exact ⟨.inr ⟨HV.out.1, by rw [HV.out.2.1, HV.out.2.2]⟩, hb9⟩
end Go.Proofs.YtjadckhngalmlaaGreatDoor
