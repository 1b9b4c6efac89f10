/-
  What is wrong with a unit, in the code: functions.
-/
import Derived.Test.YtjadckhngalmlaaGreatDoorZNmCk
namespace Go.Proofs.YtjadckhngalmlaaGreatDoor
set_option linter.unusedVariables false
set_option linter.unusedSimpArgs false
set_option maxRecDepth 100000
open Go.RowKit

theorem st_next {S : List StP} {a : Option Addr} {w w' : World} (h : StL S a w) (hb : Below w.heap.size w w') : StIn S a w' := (h.next hb).in
set_option maxHeartbeats 2000000 in
theorem c_knows (B : Nat) (S : List StP) (sa : Option Addr) (sc : Nat) (ga : Option Addr) (gl gc : Nat) (fa : Option Addr) (fl fc : Nat) (hS : SzS S) (hSl : S.length ≤ 4503599627370496) (l : List UInt8) (hl : l.length ≤ 9223372036854775807) (w : World) (hE : Env B w) (hB : B ≤ w.heap.size) (hI : StL S sa w) :
    Calls Tryz.prog 64 #[.agg #[.slice sa S.length sc, .slice ga gl gc, .slice fa fl fc], nmS l] w fun e w' => e = .returned (.bool (chA S l == 0)) ∧ Below w.heap.size w w' := by
  have HC := Lib.hid (fun w' (hb : Below w.heap.size w w') => c_CheckX B S sa sc hS hSl l w' (hE.next (hb.mono hB)) (Nat.le_trans hB hb.size) hl (st_next hI hb))
  obtain ⟨N, hN⟩ : ∃ N, S.length = N := ⟨_, rfl⟩
  rw [hN] at HC ⊢
  obtain ⟨ck, hck⟩ : ∃ ck : Int, ((chA S l : Nat) : Int) = ck := ⟨_, rfl⟩
  obtain ⟨r, hr⟩ : ∃ r, (chA S l == 0) = r := ⟨_, rfl⟩
  rw [hr]
  rw [hck] at HC
  have hq : (ck == 0) = r := by rw [← hr, ← hck, Bool.eq_iff_iff]; simp
  clear hE hB hI hS hSl hN hck hr hl
  go_enter Tryz.func64, Tryz.ntmps64
  go_wp2_with fail
  refine (HC.out _ (below_o _ _)).mono ?_
  rintro e w1 ⟨rfl, hb⟩
  have HB1 := Lib.hid (below_t (below_o w _) hb (below_o w _).size)
  clear hb
  go_wp2_with fail
  go_ret
  exact ⟨rfl, HB1.out⟩
set_option maxHeartbeats 4000000 in
theorem c_uGlobal (B : Nat) (S : List StP) (sa : Option Addr) (sc : Nat) (ga : Option Addr) (gl gc : Nat) (fa : Option Addr) (fl fc : Nat) (hS : SzS S) (hSl : S.length ≤ 4503599627370496) (g : GlP) (ia : Option Addr) (ic : Nat) (hg : GlOk g) (w : World) (hE : Env B w) (hB : B ≤ w.heap.size) (hI : StL S sa w) (hT : TsIn g.init ia w) :
    Calls Tryz.prog 51 #[.agg #[.slice sa S.length sc, .slice ga gl gc, .slice fa fl fc], .agg #[.int .i64 g.at', nmS g.var.name, nmS g.var.type, .bool g.var.vol, .slice ia g.init.length ic]] w fun e w' => e = .returned (.int .i64 (glA S g : Nat)) ∧ Below w.heap.size w w' := by
  have HEn := Lib.hid (fun w' (hb : Below w.heap.size w w') => And.intro (hE.next (hb.mono hB)) (Nat.le_trans hB hb.size))
  have HK := Lib.hid (fun w' (hb : Below w.heap.size w w') => c_knows B S sa sc ga gl gc fa fl fc hS hSl g.var.type hg.1.2 w' (HEn.out w' hb).1 (HEn.out w' hb).2 (hI.next hb))
  have HV := Lib.hid (fun w' (hb : Below w.heap.size w w') => c_isVariable B g.var.type w' (HEn.out w' hb).1 (HEn.out w' hb).2 hg.1.2)
  have HN := Lib.hid (fun w' => c_IsName g.var.name w' hg.1.1)
  have HP := Lib.hid (fun w' => c_isPlace g.at' w')
  have HT := Lib.hid (fun w' (hb : Below w.heap.size w w') => hT.next hb)
  have HOk := Lib.hid hg
  obtain ⟨ga', ⟨gn, gt, gv⟩, gi⟩ := g
  simp only at HK HV HN HP HT ⊢
  obtain ⟨N, hN⟩ : ∃ N, S.length = N := ⟨_, rfl⟩
  rw [hN] at HK ⊢
  obtain ⟨IL, hIL⟩ : ∃ IL, gi.length = IL := ⟨_, rfl⟩
  have HIL := Lib.hid hIL
  rw [hIL]
  obtain ⟨rv, hrv⟩ : ∃ rv : Int, ((glA S ⟨ga', ⟨gn, gt, gv⟩, gi⟩ : Nat) : Int) = rv := ⟨_, rfl⟩
  have HRV := Lib.hid hrv
  rw [hrv]
  obtain ⟨nb, hnb⟩ : ∃ nb, nameB gn = nb := ⟨_, rfl⟩
  obtain ⟨pb, hpb⟩ : ∃ pb, (decide (0 ≤ ga') && decide (ga' ≤ 65536)) = pb := ⟨_, rfl⟩
  obtain ⟨kb, hkb⟩ : ∃ kb, (chA S gt == 0) = kb := ⟨_, rfl⟩
  obtain ⟨vb, hvb⟩ : ∃ vb, vrB gt = vb := ⟨_, rfl⟩
  have HGB : Hid (glB S ⟨ga', ⟨gn, gt, gv⟩, gi⟩ = (nb && pb && kb && vb)) := by
    show _ = _
    unfold glB plB
    simp only [hnb, hpb, hkb, hvb]
  rw [hnb] at HN
  rw [hpb] at HP
  rw [hkb] at HK
  rw [hvb] at HV
  clear hE hB hI hT hS hSl hg hN hIL hrv hnb hpb hkb hvb
  cases nb <;> cases pb <;> cases kb <;> cases vb
  case true.true.true.true =>
    have hrv : rv = ((if 4096 < IL then 3 else firstA (asA exB) gi : Nat) : Int) := by
      rw [← HRV.out]
      unfold glA
      rw [if_pos (by rw [HGB.out]; rfl)]
      show (((if 4096 < gi.length then 3 else firstA (asA exB) gi : Nat)) : Int) = _
      rw [HIL.out]
    have HRv := Lib.hid hrv
    have HCh : Hid (∀ t ∈ gi, ∀ (ta : Option Addr) (tc : Nat) (w' : World), Below w.heap.size w w' → TrIn t ta w' → Calls Tryz.prog 66 #[.slice ta t.length tc, .func (.func 67) #[] #[]] w' fun e w'' => e = .returned (.int .i64 (asA exB t : Nat)) ∧ Below w'.heap.size w' w'') := fun t ht ta tc w' hb hT =>
      c_checkAs exB 67 (enters_of Tryz.func67 (by kernel_rfl) rfl) c_exprP B t ta tc (HOk.out.2.1 t ht) w' (HEn.out w' hb).1 (HEn.out w' hb).2 hT
    clear hrv
    go_enter Tryz.func51, Tryz.ntmps51
    go_wp2_with fail
    have hb0 : Below w.heap.size w ((w.alloc (.cells #[.slice sa N sc, .slice ga gl gc, .slice fa fl fc] 106)).alloc (.cells #[.int .i64 ga', nmS gn, nmS gt, .bool gv, .slice ia IL ic] 66)) := below_t (below_o _ _) (below_o _ _) (by simp)
    refine (HN.out _).mono ?_
    rintro e w1 ⟨rfl, hb⟩
    have HB1 := Lib.hid (below_t hb0 hb hb0.size)
    have HU1 := Lib.hid (blk_on (blk_on (heap_alloc_at (w := w) _ _ rfl) (below_o _ _)) hb)
    have HG1 := Lib.hid (blk_on (heap_alloc_at (w := w.alloc (.cells #[.slice sa N sc, .slice ga gl gc, .slice fa fl fc] 106)) _ (w.heap.size + 1) (by simp)) hb)
    obtain ⟨g0, g1, g2, g3, g4, _⟩ := five_cells HG1.out
    obtain ⟨u0, u1, u2, _⟩ := cells3 HU1.out
    clear hb hb0
    go_wp2_with fail
    refine (HP.out _).mono ?_
    rintro e w2 ⟨rfl, rfl⟩
    go_wp2_with fail
    refine (HK.out _ HB1.out).mono ?_
    rintro e w3 ⟨rfl, hb⟩
    have HB3 := Lib.hid (below_t HB1.out hb HB1.out.size)
    have HG3 := Lib.hid (blk_on HG1.out hb)
    clear g0 g1 g2 g3 g4 u0 u1 u2
    obtain ⟨g0, g1, g2, g3, g4, _⟩ := five_cells HG3.out
    clear hb
    go_wp2_with fail
    refine (HV.out _ HB3.out).mono ?_
    rintro e w4 ⟨rfl, hb⟩
    have HB4 := Lib.hid (below_t HB3.out hb HB3.out.size)
    have HG4 := Lib.hid (blk_on HG3.out hb)
    clear g0 g1 g2 g3 g4
    obtain ⟨g0, g1, g2, g3, g4, _⟩ := five_cells HG4.out
    clear hb
    by_cases hbig : 4096 < IL
    · have hd : decide ((IL : Int) > 4096) = true := by simp; omega
      have hd2 : decide ((4096 : Int) < (IL : Int)) = true := by simp; omega
      obtain rfl : rv = 3 := by rw [HRv.out, if_pos hbig]; rfl
      clear hbig
      go_wp2_with fail
      go_ret
      exact ⟨rfl, HB4.out⟩
    · have hd : decide ((IL : Int) > 4096) = false := by simp; omega
      have hd2 : decide ((4096 : Int) < (IL : Int)) = false := by simp; omega
      have HFi : Hid (rv = ((firstA (asA exB) gi : Nat) : Int)) := by show _ = _; rw [HRv.out, if_neg hbig]
      have HBig := Lib.hid hbig
      clear hbig
      go_wp2_with fail
      clear hd hd2 g0 g1 g2 g3 g4
      go_loopg [41] IL (fun g v41 wr => ∃ q : Nat, q + g = IL ∧ v41 = .int .i64 (q : Int) ∧ Hid (Below w.heap.size w wr ∧ rv = ((firstA (asA exB) (gi.drop q) : Nat) : Int)))
      case atStart => exact ⟨0, by omega, rfl, HB4.out, HFi.out⟩
      case round =>
        obtain ⟨q, hq, rfl, HRl⟩ := hrel
        by_cases hlt : q < IL
        · have hd : decide ((q : Int) < (IL : Int)) = true := by simp; omega
          obtain ⟨t, ht⟩ : ∃ t, gi[q]? = some t := ⟨_, List.getElem?_eq_getElem (by have := HIL.out; omega)⟩
          obtain ⟨ib, io, hia, hib, hir⟩ := HT.out wr HRl.out.1 (by have := HIL.out; omega)
          obtain ⟨cs, ⟨ta, tc, rfl, hTt, _⟩, hcs⟩ := hir q t ht
          have c0 := hcs 0 _ rfl
          rw [Nat.add_zero, Nat.mul_one] at c0
          have HCc := Lib.hid (HCh.out t (List.mem_of_getElem? ht) ta tc wr HRl.out.1 hTt)
          have HST : Hid (firstA (asA exB) (gi.drop q) = if asA exB t = 0 then firstA (asA exB) (gi.drop (q + 1)) else asA exB t) := by
            show _ = _
            obtain ⟨h1, e1⟩ := List.getElem?_eq_some_iff.1 ht
            rw [List.drop_eq_getElem_cons h1, e1]
            rfl
          have hq0 : (0 : Int) ≤ (q : Int) := by omega
          have hql : (q : Int) < (IL : Int) := by omega
          have hwm : IntKind.i64.wrap ((q : Int) + 1) = ((q + 1 : Nat) : Int) := by rw [IntKind.wrap_i64]; have := HBig.out; omega
          have HM : Hid (IL - (q + 1) < gk ∧ q + 1 + (IL - (q + 1)) = IL) := ⟨by omega, by omega⟩
          obtain ⟨tl, htl⟩ : ∃ tl, t.length = tl := ⟨_, rfl⟩
          obtain ⟨ev, hev⟩ : ∃ ev : Int, ((asA exB t : Nat) : Int) = ev := ⟨_, rfl⟩
          rw [htl] at c0 HCc
          rw [hev] at HCc
          have HEv := Lib.hid hev
          subst hia
          clear ht hir hTt hcs hlt hq htl hev
          by_cases he0 : ev = 0
          · subst he0
            have HNx : Hid (rv = ((firstA (asA exB) (gi.drop (q + 1)) : Nat) : Int)) := by
              show _ = _
              have h0 : asA exB t = 0 := by have := HEv.out; omega
              rw [HRl.out.2, HST.out, if_pos h0]
            go_wp2_with fail
            refine HCc.out.mono ?_
            rintro e w' ⟨rfl, hb⟩
            have HN2 := Lib.hid (And.intro (below_t HRl.out.1 hb HRl.out.1.size) HNx.out)
            clear hb c0
            go_wp2_with fail
            go_roundg (IL - (q + 1))
            case measure => exact HM.out.1
            case rel => exact ⟨q + 1, HM.out.2, rfl, HN2.out⟩
          · have hne : (ev != 0) = true := by simpa using he0
            obtain rfl : rv = ev := by
              have h0 : asA exB t ≠ 0 := by have := HEv.out; omega
              rw [HRl.out.2, HST.out, if_neg h0, HEv.out]
            clear he0
            go_wp2_with fail
            refine HCc.out.mono ?_
            rintro e w' ⟨rfl, hb⟩
            have HN2 := Lib.hid (below_t HRl.out.1 hb HRl.out.1.size)
            clear hb c0
            go_wp2_with fail
            go_ret
            exact ⟨rfl, HN2.out⟩
        · have hd : decide ((q : Int) < (IL : Int)) = false := by simp; omega
          obtain rfl : rv = 0 := by
            rw [HRl.out.2, List.drop_eq_nil_of_le (by have := HIL.out; omega)]
            rfl
          go_wp2_with fail
          go_ret
          exact ⟨rfl, HRl.out.1⟩
  all_goals
    obtain rfl : rv = 90 := by
      rw [← HRV.out]
      unfold glA
      rw [if_neg (by rw [HGB.out]; decide)]
      rfl
    go_enter Tryz.func51, Tryz.ntmps51
    go_wp2_with fail
    have hb0 : Below w.heap.size w ((w.alloc (.cells #[.slice sa N sc, .slice ga gl gc, .slice fa fl fc] 106)).alloc (.cells #[.int .i64 ga', nmS gn, nmS gt, .bool gv, .slice ia IL ic] 66)) := below_t (below_o _ _) (below_o _ _) (by simp)
    refine (HN.out _).mono ?_
    rintro e w1 ⟨rfl, hb⟩
    have HB1 := Lib.hid (below_t hb0 hb hb0.size)
    have HU1 := Lib.hid (blk_on (blk_on (heap_alloc_at (w := w) _ _ rfl) (below_o _ _)) hb)
    have HG1 := Lib.hid (blk_on (heap_alloc_at (w := w.alloc (.cells #[.slice sa N sc, .slice ga gl gc, .slice fa fl fc] 106)) _ (w.heap.size + 1) (by simp)) hb)
    obtain ⟨g0, g1, g2, g3, g4, _⟩ := five_cells HG1.out
    obtain ⟨u0, u1, u2, _⟩ := cells3 HU1.out
    clear hb hb0
    go_wp2_with fail
    first
      | (go_ret; exact ⟨rfl, HB1.out⟩)
      | (refine (HP.out _).mono ?_
         rintro e w2 ⟨rfl, rfl⟩
         go_wp2_with fail
         first
           | (go_ret; exact ⟨rfl, HB1.out⟩)
           | (refine (HK.out _ HB1.out).mono ?_
              rintro e w3 ⟨rfl, hb⟩
              have HB3 := Lib.hid (below_t HB1.out hb HB1.out.size)
              have HG3 := Lib.hid (blk_on HG1.out hb)
              clear g0 g1 g2 g3 g4 u0 u1 u2
              obtain ⟨g0, g1, g2, g3, g4, _⟩ := five_cells HG3.out
              clear hb
              go_wp2_with fail
              first
                | (go_ret; exact ⟨rfl, HB3.out⟩)
                | (refine (HV.out _ HB3.out).mono ?_
                   rintro e w4 ⟨rfl, hb⟩
                   have HB4 := Lib.hid (below_t HB3.out hb HB3.out.size)
                   clear hb
                   go_wp2_with fail
                   go_ret
                   exact ⟨rfl, HB4.out⟩)))
end Go.Proofs.YtjadckhngalmlaaGreatDoor
namespace Go.Proofs.YtjadckhngalmlaaGreatDoor
set_option linter.unusedVariables false
set_option linter.unusedSimpArgs false
set_option maxRecDepth 100000
open Go.RowKit

set_option maxHeartbeats 4000000 in
theorem c_uFunction (B : Nat) (S : List StP) (sa : Option Addr) (sc : Nat) (ga : Option Addr) (gl gc : Nat) (fa : Option Addr) (fl fc : Nat) (hS : SzS S) (hSl : S.length ≤ 4503599627370496) (f : FnP) (pa : Option Addr) (pc : Nat) (ba : Option Addr) (bc : Nat) (hf : FnOk f) (w : World) (hE : Env B w) (hB : B ≤ w.heap.size) (hI : StL S sa w) (hV : VrIn f.params pa w) (hT : TrIn f.body ba w) :
    Calls Tryz.prog 52 #[.agg #[.slice sa S.length sc, .slice ga gl gc, .slice fa fl fc], fnV f.at' ⟨f.name.toArray⟩ ⟨f.type.toArray⟩ pa f.params.length pc ba f.body.length bc] w fun e w' => e = .returned (.int .i64 (fnA S f : Nat)) ∧ Below w.heap.size w w' := by
  have HEn := Lib.hid (fun w' (hb : Below w.heap.size w w') => And.intro (hE.next (hb.mono hB)) (Nat.le_trans hB hb.size))
  have HK := Lib.hid (fun w' (hb : Below w.heap.size w w') => c_knows B S sa sc ga gl gc fa fl fc hS hSl f.type hf.2.1 w' (HEn.out w' hb).1 (HEn.out w' hb).2 (hI.next hb))
  have HR := Lib.hid (fun w' (hb : Below w.heap.size w w') => c_hasRightParams B f pa pc ba bc hf w' (HEn.out w' hb).1 (HEn.out w' hb).2 (hV.next hb))
  have HN := Lib.hid (fun w' => c_IsName f.name w' hf.1)
  have HP := Lib.hid (fun w' => c_isPlace f.at' w')
  have HQ := Lib.hid (fun w' => c_isProto f.at' ⟨f.name.toArray⟩ ⟨f.type.toArray⟩ pa f.params.length pc ba f.body.length bc w')
  have HCh : Hid (∀ w', Below w.heap.size w w' → Calls Tryz.prog 66 #[.slice ba f.body.length bc, .func (.func 70) #[] #[]] w' fun e w'' => e = .returned (.int .i64 (asA (fun k => k == 21) f.body : Nat)) ∧ Below w'.heap.size w' w'') := fun w' hb =>
      c_checkAs (fun k => k == 21) 70 (enters_of Tryz.func70 (by kernel_rfl) rfl) c_blockP B f.body ba bc hf.2.2.2.2 w' (HEn.out w' hb).1 (HEn.out w' hb).2 (hT.next hb)
  have HOk := Lib.hid hf
  obtain ⟨rv, hrv⟩ : ∃ rv : Int, ((fnA S f : Nat) : Int) = rv := ⟨_, rfl⟩
  have HRV := Lib.hid hrv
  rw [hrv]
  obtain ⟨N, hN⟩ : ∃ N, S.length = N := ⟨_, rfl⟩
  rw [hN] at HK ⊢
  obtain ⟨nb, hnb⟩ : ∃ nb, nameB f.name = nb := ⟨_, rfl⟩
  obtain ⟨pb, hpb⟩ : ∃ pb, (decide (0 ≤ f.at') && decide (f.at' ≤ 65536)) = pb := ⟨_, rfl⟩
  obtain ⟨kb, hkb⟩ : ∃ kb, (chA S f.type == 0) = kb := ⟨_, rfl⟩
  obtain ⟨vb, hvb⟩ : ∃ vb, paB f = vb := ⟨_, rfl⟩
  obtain ⟨qb, hqb⟩ : ∃ qb, (f.body.length == 0) = qb := ⟨_, rfl⟩
  have HGB : Hid (fnOk S f = (nb && pb && kb && vb)) := by
    show _ = _
    unfold fnOk plB
    simp only [hnb, hpb, hkb, hvb]
  have HPt : Hid (ptB f = qb) := hqb
  obtain ⟨cv, hcv⟩ : ∃ cv : Int, ((asA (fun k => k == 21) f.body : Nat) : Int) = cv := ⟨_, rfl⟩
  have HCV := Lib.hid hcv
  rw [hnb] at HN
  rw [hpb] at HP
  rw [hkb] at HK
  rw [hvb] at HR
  rw [hqb] at HQ
  rw [hcv] at HCh
  obtain ⟨pl, hpl⟩ : ∃ pl, f.params.length = pl := ⟨_, rfl⟩
  obtain ⟨bl, hbl⟩ : ∃ bl, f.body.length = bl := ⟨_, rfl⟩
  obtain ⟨fat, hfat⟩ : ∃ x, f.at' = x := ⟨_, rfl⟩
  obtain ⟨fnm, hfnm⟩ : ∃ x : ByteArray, ⟨f.name.toArray⟩ = x := ⟨_, rfl⟩
  obtain ⟨fty, hfty⟩ : ∃ x : ByteArray, ⟨f.type.toArray⟩ = x := ⟨_, rfl⟩
  rw [hpl, hbl, hfat, hfnm, hfty] at HQ HR ⊢
  rw [hfnm] at HN
  rw [hfat] at HP
  rw [hbl] at HCh
  have HK' : Hid (∀ w', Below w.heap.size w w' → Calls Tryz.prog 64 #[.agg #[.slice sa N sc, .slice ga gl gc, .slice fa fl fc], .string fty] w' fun e w'' => e = .returned (.bool kb) ∧ Below w'.heap.size w' w'') := fun w' hb => by rw [← hfty]; exact HK.out w' hb
  have HVl : Hid (rv = ((if (nb && pb && kb && vb) = true then if qb = true then 0 else asA (fun k => k == 21) f.body else 90 : Nat) : Int)) := by
    show _ = _
    rw [← hrv]
    unfold fnA
    rw [HGB.out, HPt.out]
  clear hE hB hI hV hT hS hSl hf hN hrv hnb hpb hkb hvb hqb hcv HK hpl hbl hfat hfnm hfty
  cases nb <;> cases pb <;> cases kb <;> cases vb <;> cases qb
  all_goals
    first
    | obtain rfl : rv = 90 := HVl.out
    | obtain rfl : rv = 0 := HVl.out
    | obtain rfl : rv = cv := HVl.out.trans HCV.out
    go_enter Tryz.func52, Tryz.ntmps52
    go_wp2_with fail
    have hb0 : Below w.heap.size w ((w.alloc (.cells #[.slice sa N sc, .slice ga gl gc, .slice fa fl fc] 106)).alloc (.cells #[.int .i64 fat, .string fnm, .string fty, .slice pa pl pc, .slice ba bl bc] 45)) := below_t (below_o _ _) (below_o _ _) (by simp)
    refine (HN.out _).mono ?_
    rintro e w1 ⟨rfl, hb⟩
    have HB1 := Lib.hid (below_t hb0 hb hb0.size)
    have HU1 := Lib.hid (blk_on (blk_on (heap_alloc_at (w := w) _ _ rfl) (below_o _ _)) hb)
    have HG1 := Lib.hid (blk_on (heap_alloc_at (w := w.alloc (.cells #[.slice sa N sc, .slice ga gl gc, .slice fa fl fc] 106)) _ (w.heap.size + 1) (by simp)) hb)
    obtain ⟨g0, g1, g2, g3, g4, _⟩ := five_cells HG1.out
    obtain ⟨u0, u1, u2, _⟩ := cells3 HU1.out
    clear hb hb0
    go_wp2_with fail
    first
      | (go_ret; exact ⟨rfl, HB1.out⟩)
      | (refine (HP.out _).mono ?_
         rintro e w2 ⟨rfl, rfl⟩
         go_wp2_with fail
         first
           | (go_ret; exact ⟨rfl, HB1.out⟩)
           | (refine (HK'.out _ HB1.out).mono ?_
              rintro e w3 ⟨rfl, hb⟩
              have HB3 := Lib.hid (below_t HB1.out hb HB1.out.size)
              have HG3 := Lib.hid (blk_on HG1.out hb)
              clear g0 g1 g2 g3 g4 u0 u1 u2
              obtain ⟨g0, g1, g2, g3, g4, _⟩ := five_cells HG3.out
              clear hb
              go_wp2_with fail
              first
                | (go_ret; exact ⟨rfl, HB3.out⟩)
                | (refine (HR.out _ HB3.out).mono ?_
                   rintro e w4 ⟨rfl, hb⟩
                   have HB4 := Lib.hid (below_t HB3.out hb HB3.out.size)
                   have HG4 := Lib.hid (blk_on HG3.out hb)
                   clear g0 g1 g2 g3 g4
                   obtain ⟨g0, g1, g2, g3, g4, _⟩ := five_cells HG4.out
                   clear hb
                   go_wp2_with fail
                   first
                     | (go_ret; exact ⟨rfl, HB4.out⟩)
                     | (refine (HQ.out _).mono ?_
                        rintro e w5 ⟨rfl, hb⟩
                        have HB5 := Lib.hid (below_t HB4.out hb HB4.out.size)
                        have HG5 := Lib.hid (blk_on HG4.out hb)
                        clear g0 g1 g2 g3 g4
                        obtain ⟨g0, g1, g2, g3, g4, _⟩ := five_cells HG5.out
                        clear hb
                        go_wp2_with fail
                        first
                          | (go_ret; exact ⟨rfl, HB5.out⟩)
                          | (refine (HCh.out _ HB5.out).mono ?_
                             rintro e w6 ⟨rfl, hb⟩
                             have HB6 := Lib.hid (below_t HB5.out hb HB5.out.size)
                             clear hb
                             go_wp2_with fail
                             go_ret
                             exact ⟨rfl, HB6.out⟩)))))
end Go.Proofs.YtjadckhngalmlaaGreatDoor
