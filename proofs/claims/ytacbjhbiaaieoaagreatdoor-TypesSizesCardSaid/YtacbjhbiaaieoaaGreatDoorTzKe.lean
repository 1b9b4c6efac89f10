/-
  The contract of the next struct that is laid out, in the code: the whole.
-/
import Derived.Test.YtacbjhbiaaieoaaGreatDoorTzKc
namespace Go.Proofs.YtacbjhbiaaieoaaGreatDoor
set_option linter.unusedVariables false
set_option linter.unusedSimpArgs false
set_option maxRecDepth 100000
open Go.RowKit

set_option maxHeartbeats 8000000 in
theorem c_nextX (L : List LayP) (ka : Option Addr) (kc : Nat) (hkc : L.length ≤ kc) (hL : GdL L) (hll : L.length ≤ 65536) (B : Nat) (s : StP) (ga : Option Addr) (gc : Nat) (hs1 : s.name.length ≤ 9223372036854775807) (hs2 : ∀ m ∈ s.mems, m.1.length ≤ 9223372036854775807 ∧ m.2.length ≤ 9223372036854775807) (hsl : s.mems.length ≤ 4503599627370496) (w : World) (hE : Env B w) (hB : B ≤ w.heap.size) (hK : KnIn L ka w) (hM : MmIn s.mems ga w) :
    Calls Tryz.prog 70 #[.slice ka L.length kc, .agg #[.string ⟨s.name.toArray⟩, .slice ga s.mems.length gc]] w fun e w' => NxX L s w e w' := by
  have HE := Lib.hid (fun w' (hb : Below w.heap.size w w') => And.intro (hE.next (hb.mono hB)) (Nat.le_trans hB hb.size))
  have HF := Lib.hid (fun w' (hb : Below w.heap.size w w') => c_findX L ka kc hkc s.name w' (hK.next hb) hll)
  have HN := Lib.hid (fun w => c_IsName s.name w hs1)
  have HKn := Lib.hid (fun w' (hb : Below w.heap.size w w') => hK.next hb)
  have HMm := Lib.hid (fun w' (hb : Below w.heap.size w w') => hM.next hb)
  have HC := Lib.hid (And.intro hkc (And.intro hL (And.intro hll (And.intro hs2 hsl))))
  have HNx : Hid (nxE L s = if nameB s.name = true then if (findL L s.name).isSome = true then 6 else if 64 < s.mems.length then 3 else if s.mems = [] then 5 else if (goM L ac0 s.mems).1 = 0 then if 65536 < upN (goM L ac0 s.mems).2.b (goM L ac0 s.mems).2.a then 3 else 0 else (goM L ac0 s.mems).1 else 2) := rfl
  obtain ⟨sn, sm⟩ := s
  simp only at HF HN HMm HC HNx
  obtain ⟨qn, hqn⟩ : ∃ q, nameB sn = q := ⟨_, rfl⟩
  rw [hqn] at HN HNx
  obtain ⟨N, hN1⟩ : ∃ N, L.length = N := ⟨_, rfl⟩
  have HN1 := Lib.hid hN1
  obtain ⟨ML, hML⟩ : ∃ ML, sm.length = ML := ⟨_, rfl⟩
  have HML := Lib.hid hML
  rw [hN1] at HF ⊢
  rw [hML] at HNx ⊢
  clear hE hB hK hM hkc hL hll hs1 hs2 hsl hqn hN1 hML
  go_enter Tryz.func70, Tryz.ntmps70
  go_wp2_with fail
  have HA0 := Lib.hid ((below_a w (.cells #[.string ⟨sn.toArray⟩, .slice ga ML gc] 61)).alloc (by simp) (.cells #[.int .i64 0, .int .i64 0, .int .i64 0, .string ⟨#[]⟩, .slice none 0 0] 89))
  have HS0 : Hid (((w.alloc (.cells #[.string ⟨sn.toArray⟩, .slice ga ML gc] 61)).alloc (.cells #[.int .i64 0, .int .i64 0, .int .i64 0, .string ⟨#[]⟩, .slice none 0 0] 89)).heap[w.heap.size]? = some (.cells #[.string ⟨sn.toArray⟩, .slice ga ML gc] 61)) := (Below.heap_alloc _ _ _ (by simp)).trans (heap_alloc_new w _)
  have HR0 := Lib.hid (new2 w (.cells #[.string ⟨sn.toArray⟩, .slice ga ML gc] 61) (.cells #[.int .i64 0, .int .i64 0, .int .i64 0, .string ⟨#[]⟩, .slice none 0 0] 89))
  refine (HF.out _ HA0.out).mono ?_
  rintro e w1 ⟨hfd, hb⟩
  have HB1 := Lib.hid (below_on HA0.out hb HA0.out.size)
  have HS1 := Lib.hid (blk_next HS0.out hb)
  have HR1 := Lib.hid (blk_next HR0.out hb)
  clear hb HA0 HS0 HR0 HF
  obtain ⟨fx, fy, fz, fnm, fa, fn, fc, fq, hfe, hfq⟩ : ∃ (fx fy fz : Int) (fnm : ByteArray) (fa : Option Addr) (fn fc : Nat) (fq : Bool), e = .returned (.tuple #[lV fx fy fz fnm fa fn fc, .bool fq]) ∧ (findL L sn).isSome = fq := by
    rcases hfd with ⟨x, ma, mc, hx, he, _⟩ | ⟨hx, he⟩
    · exact ⟨_, _, _, _, _, _, _, _, he, by rw [hx]; rfl⟩
    · exact ⟨_, _, _, _, _, _, _, _, he, by rw [hx]; rfl⟩
  subst hfe
  rw [hfq] at HNx
  clear hfd hfq
  have HB2 := Lib.hid (HB1.out.alloc HB1.out.size (.cells #[.int .i64 fx, .int .i64 fy, .int .i64 fz, .string fnm, .slice fa fn fc] 89))
  have HA2 := Lib.hid (below_a w1 (.cells #[.int .i64 fx, .int .i64 fy, .int .i64 fz, .string fnm, .slice fa fn fc] 89))
  have HS2 := Lib.hid (blk_next HS1.out HA2.out)
  have HR2 := Lib.hid (blk_next HR1.out HA2.out)
  have s0 : w1.cell? ⟨w.heap.size, 0, none⟩ = some (.string ⟨sn.toArray⟩) := by rw [Lib.cell_of_heap HS1.out]; rfl
  have hlt : w.heap.size < w1.heap.size := (Array.getElem?_eq_some_iff.1 HS1.out).1
  go_wp2_with fail
  refine (HN.out _).mono ?_
  rintro e w3 ⟨rfl, hb⟩
  have HB3 := Lib.hid (below_on HB2.out hb HB2.out.size)
  have HS3 := Lib.hid (blk_next HS2.out hb)
  have HR3 := Lib.hid (blk_next HR2.out hb)
  clear hb HN HB1 HS1 HR1 HB2 HA2 HS2 HR2 s0 hlt
  have s0 : w3.cell? ⟨w.heap.size, 0, none⟩ = some (.string ⟨sn.toArray⟩) := by rw [Lib.cell_of_heap HS3.out]; rfl
  have s1 : w3.cell? ⟨w.heap.size, 1, none⟩ = some (.slice ga ML gc) := by rw [Lib.cell_of_heap HS3.out]; rfl
  have hlt : w.heap.size < w3.heap.size := (Array.getElem?_eq_some_iff.1 HS3.out).1
  have hXw : w.heap.size + 2 ≤ w3.heap.size := (Array.getElem?_eq_some_iff.1 HR3.out).1
  obtain ⟨r0, r1, r2, r3, r4, rf⟩ := five_cells HR3.out
  have rf0 := rf 0
  have rf1 := rf 1
  have rf2 := rf 2
  have rf3 := rf 3
  have rf4 := rf 4
  cases qn
  · have hv : nxE L ⟨sn, sm⟩ = 2 := HNx.out
    have HV := Lib.hid hv
    clear hv rf
    go_wp2_with fail
    refine bodyPost_ret (v := .tuple #[lV 0 0 0 ⟨#[]⟩ none 0 0, .int .i64 2]) (by simp [results, Tryz.results70, go_sem, r0, r1, r2, r3, r4, hlt, hXw]) rfl ?_
    exact ⟨.inr ⟨by rw [HV.out]; decide, _, _, _, _, _, _, _, by rw [HV.out]; rfl⟩, below_stp HB3.out (Stp.five0 (w.heap.size + 1) w3 _ _ _ _ _) (by omega)⟩
  · cases fq
    · by_cases h64 : 64 < ML
      · have hd : decide ((64 : Int) < (ML : Int)) = true := by simp; omega
        have hv : nxE L ⟨sn, sm⟩ = 3 := HNx.out.trans (if_pos h64)
        have HV := Lib.hid hv
        clear hv rf h64
        go_wp2_with fail
        refine bodyPost_ret (v := .tuple #[lV 0 0 0 ⟨#[]⟩ none 0 0, .int .i64 3]) (by simp [results, Tryz.results70, go_sem, r0, r1, r2, r3, r4, hlt, hXw]) rfl ?_
        exact ⟨.inr ⟨by rw [HV.out]; decide, _, _, _, _, _, _, _, by rw [HV.out]; rfl⟩, below_stp HB3.out (Stp.five0 (w.heap.size + 1) w3 _ _ _ _ _) (by omega)⟩
      · have hd : decide ((64 : Int) < (ML : Int)) = false := by simp; omega
        by_cases h0 : ML = 0
        · have hz : sm = [] := List.eq_nil_of_length_eq_zero (by rw [HML.out]; exact h0)
          have hv : nxE L ⟨sn, sm⟩ = 5 := HNx.out.trans ((if_neg h64).trans (if_pos hz))
          have HV := Lib.hid hv
          subst h0
          clear hv rf h64 hz
          go_wp2_with fail
          refine bodyPost_ret (v := .tuple #[lV 0 0 0 ⟨#[]⟩ none 0 0, .int .i64 5]) (by simp [results, Tryz.results70, go_sem, r0, r1, r2, r3, r4, hlt, hXw]) rfl ?_
          exact ⟨.inr ⟨by rw [HV.out]; decide, _, _, _, _, _, _, _, by rw [HV.out]; rfl⟩, below_stp HB3.out (Stp.five0 (w.heap.size + 1) w3 _ _ _ _ _) (by omega)⟩
        · have hd0 : ((ML : Int) == 0) = false := by simp; omega
          have hz : ¬ sm = [] := fun e => h0 (by rw [← HML.out, e]; rfl)
          have hgo := HNx.out.trans ((if_neg h64).trans (if_neg hz))
          have HGo := Lib.hid hgo
          have H64 := Lib.hid (And.intro h64 h0)
          clear hgo rf h64 hz h0
          go_wp2_with fail
          have HX4 := Lib.hid (heap_alloc_new w3 (.cells #[.int .i64 0, .int .i64 0, .int .i64 0, .string ⟨sn.toArray⟩, .slice none 0 0] 89))
          have hA4 := below_a w3 (.cells #[.int .i64 0, .int .i64 0, .int .i64 0, .string ⟨sn.toArray⟩, .slice none 0 0] 89)
          have HI0 : Hid (NxI L sn sm ga ML gc w w3.heap.size 0 ac0 [] (.slice none 0 0) (w3.alloc (.cells #[.int .i64 0, .int .i64 0, .int .i64 0, .string ⟨sn.toArray⟩, .slice none 0 0] 89))) :=
            ⟨rfl, rfl, acb0, rfl, HB3.out.alloc HB3.out.size _, HX4.out, blk_next HS3.out hA4, blk_next HR3.out hA4, ⟨World.ownsRow_nil _ _ _ _, fun p hp => by cases hp⟩⟩
          clear hA4 HX4 HB3 HS3 HR3 s0 s1 hlt r0 r1 r2 r3 r4 rf0 rf1 rf2 rf3 rf4 hd hd0
          generalize hw4 : w3.alloc (.cells #[.int .i64 0, .int .i64 0, .int .i64 0, .string ⟨sn.toArray⟩, .slice none 0 0] 89) = w4 at HI0 ⊢
          clear hw4
          obtain ⟨X, hX⟩ : ∃ X, w3.heap.size = X := ⟨_, rfl⟩
          rw [hX] at HI0 hXw ⊢
          clear hX
          obtain ⟨i0, hi, hz0, hz1, hz2⟩ := info_parts infoMb
          go_loopg [50] ML (fun g v50 wr => ∃ q : Nat, q + g = ML ∧ v50 = .int .i64 (q : Int) ∧ Hid (∃ x P v, NxI L sn sm ga ML gc w X q x P v wr))
          case atStart => exact ⟨0, by omega, rfl, ac0, [], _, HI0.out⟩
          case round =>
            obtain ⟨q, hq, rfl, HIx⟩ := hrel
            obtain ⟨x, P, v, hI⟩ := HIx.out
            have HI := Lib.hid hI
            obtain ⟨va, vc, hv, hvc, hms⟩ := hI.mo.in
            rw [hI.pl] at hv hvc
            subst hv
            have HMs := Lib.hid hms
            clear hI hms HIx
            by_cases hlt : q < ML
            · have hdq : decide ((q : Int) < (ML : Int)) = true := by simp; omega
              obtain ⟨m, hm⟩ : ∃ m, sm[q]? = some m := ⟨_, List.getElem?_eq_getElem (by have := HML.out; omega)⟩
              obtain ⟨gb, go', hgab, hgb, hrow⟩ := HMm.out wr HI.out.bel (by have := HML.out; omega)
              obtain ⟨g0, g1⟩ := hrow q m hm
              have HMem := Lib.hid hm
              obtain ⟨m1, m2⟩ := m
              simp only at g0 g1
              obtain ⟨x0, x1, x2, x3, x4, xf⟩ := five_cells HI.out.xb
              have hXl : X < wr.heap.size := (Array.getElem?_eq_some_iff.1 HI.out.xb).1
              have HXlt := Lib.hid hXl
              have hq0 : (0 : Int) ≤ (q : Int) := by omega
              have hql : (q : Int) < (ML : Int) := by omega
              have hwm : IntKind.i64.wrap ((q : Int) + 1) = ((q + 1 : Nat) : Int) := by rw [IntKind.wrap_i64]; have := H64.out.1; omega
              have HM : Hid (ML - (q + 1) < gk ∧ q + 1 + (ML - (q + 1)) = ML) := ⟨by omega, by omega⟩
              subst hgab
              clear hrow hm xf
              go_wp2_with fail
              clear g0 g1 x0 x1 x2 x3 x4
              have HAm := Lib.hid (below_a wr (.cells #[.string ⟨m1.toArray⟩, .string ⟨m2.toArray⟩] 77))
              have HMm1 := Lib.hid (heap_alloc_new wr (.cells #[.string ⟨m1.toArray⟩, .string ⟨m2.toArray⟩] 77))
              have HBm := Lib.hid (HI.out.bel.trans (HAm.out.mono HI.out.bel.size))
              have HMs2 : Hid (x.mems.length = q) := by show _ = _; rw [← HI.out.pm, List.length_map, HI.out.pl]
              have hmt := c_memberTypeX L ka kc HC.out.1 HC.out.2.1 HC.out.2.2.1 B x.b x.a x.s ⟨sn.toArray⟩ x.mems va vc (by rw [HMs2.out]; exact hvc) (by rw [HMs2.out]; have := H64.out.1; omega) (m1, m2) (HC.out.2.2.2.1 _ (List.mem_of_getElem? HMem.out)).1 (HC.out.2.2.2.1 _ (List.mem_of_getElem? HMem.out)).2 (wr.alloc (.cells #[.string ⟨m1.toArray⟩, .string ⟨m2.toArray⟩] 77)) (HE.out _ HBm.out).1 (HE.out _ HBm.out).2 (HKn.out _ HBm.out) ((show MbIn x.mems va wr by rw [← HI.out.pm]; exact HMs.out.mono (fun j hj => hj.2) (fun _ _ => rfl)).next HAm.out)
              rw [HN1.out, HMs2.out] at hmt
              refine hmt.mono ?_
              clear hmt
              rintro e wa ⟨hr, hb⟩
              have hIa := HBm.out
              have HBa := Lib.hid (below_on HBm.out hb HBm.out.size)
              have HXa := Lib.hid (blk_next (blk_next HI.out.xb HAm.out) hb)
              have HRa := Lib.hid (blk_next (blk_next HI.out.rb HAm.out) hb)
              have HSa := Lib.hid (blk_next (blk_next HI.out.sb HAm.out) hb)
              have HMa := Lib.hid (blk_next HMm1.out hb)
              have HOa := Lib.hid ((HI.out.mo.next HAm.out).next hb)
              have hsza : wr.heap.size + 1 ≤ wa.heap.size := by have := hb.size; simp at this; omega
              clear hb hIa
              rcases hr with ⟨tt, pa, pn, pc, htk, hme, rfl, hnd⟩ | ⟨hme, rfl⟩
              · have HTk := Lib.hid (And.intro htk hme)
                have HNa : Hid (Nd (fun j => wr.heap.size < j ∧ j < wa.heap.size) wa tt (.slice pa pn pc)) := hnd.mono (fun j hj => ⟨by have := hj.1; simp at this; omega, hj.2⟩) (fun _ _ => rfl)
                obtain ⟨y0, hy0⟩ : ∃ y : Int, (tt.letter.toNat : Int) = y := ⟨_, rfl⟩
                obtain ⟨y2, hy2⟩ : ∃ y : Int, (tt.count : Int) = y := ⟨_, rfl⟩
                obtain ⟨y1, hy1⟩ : ∃ s1, (⟨tt.code.toArray⟩ : ByteArray) = s1 := ⟨_, rfl⟩
                obtain ⟨y3, hy3⟩ : ∃ s3, (⟨tt.tag.toArray⟩ : ByteArray) = s3 := ⟨_, rfl⟩
                have HY := Lib.hid (And.intro hy0 (And.intro hy1 (And.intro hy2 hy3)))
                have hnT : nT tt pa pn pc = nV y0 y1 y2 y3 pa pn pc := by unfold nT; rw [hy0, hy2, hy1, hy3]
                have HnT := Lib.hid hnT
                rw [hnT]
                clear hnd htk hme hy0 hy1 hy2 hy3 hnT
                have HAn := Lib.hid (below_a wa (.cells #[.int .u8 y0, .string y1, .int .i64 y2, .string y3, .slice pa pn pc] 68))
                have HBn := Lib.hid (below_on HBa.out HAn.out HBa.out.size)
                have HXn := Lib.hid (blk_next HXa.out HAn.out)
                have HRn := Lib.hid (blk_next HRa.out HAn.out)
                have HSn := Lib.hid (blk_next HSa.out HAn.out)
                have HMn := Lib.hid (blk_next HMa.out HAn.out)
                have HVn := Lib.hid (heap_alloc_new wa (.cells #[.int .u8 y0, .string y1, .int .i64 y2, .string y3, .slice pa pn pc] 68))
                have HOn := Lib.hid (HOa.out.next HAn.out)
                have HNn : Hid (Nd (fun j => wr.heap.size < j ∧ j < (wa.alloc (.cells #[.int .u8 y0, .string y1, .int .i64 y2, .string y3, .slice pa pn pc] 68)).heap.size) (wa.alloc (.cells #[.int .u8 y0, .string y1, .int .i64 y2, .string y3, .slice pa pn pc] 68)) tt (.slice pa pn pc)) := HNa.out.mono (fun j hj => ⟨hj.1, Nat.lt_of_lt_of_le hj.2 HAn.out.size⟩) (fun j hj => HAn.out.block j hj.2)
                clear HAm HMm1 HBm HBa HXa HRa HSa HMa HOa HNa hXl
                go_wp2_with fail
                have hok := mem_ok HC.out.2.1 HTk.out.2
                have hex := c_extentX L ka kc HC.out.1 HC.out.2.1 HC.out.2.2.1 tt.size tt pa pn pc _ (Nat.le_refl _) (tk_some HTk.out.1).1 (show NdIn tt (.slice pa pn pc) (wa.alloc (.cells #[.int .u8 y0, .string y1, .int .i64 y2, .string y3, .slice pa pn pc] 68)) from HNn.out.mono (fun j hj => hj.2) (fun _ _ => rfl)) (HKn.out _ HBn.out)
                rw [HN1.out, HnT.out] at hex
                have htd : tkD m2 = tt := by unfold tkD; rw [HTk.out.1]; rfl
                have hgo2 : goM L ac0 sm = goM L (addM L x (m1, m2)) (sm.drop (q + 1)) := by
                  rw [HI.out.go, List.drop_eq_getElem_cons (by have := HML.out; omega), (List.getElem?_eq_some_iff.1 HMem.out).2]
                  show goM L x ((m1, m2) :: sm.drop (q + 1)) = _
                  unfold goM
                  rw [if_pos HTk.out.2]
                  cases sm.drop (q + 1) <;> rfl
                have hadd := HI.out.acb.add HC.out.2.1 HTk.out.2
                obtain ⟨⟨E1, E2, E3, qx⟩, hEx⟩ : ∃ E, extT L tt = E := ⟨_, rfl⟩
                have hbd := ext_bd HC.out.2.1 tt
                obtain ⟨_, ht2, hwf, hnm, hhm, hoj, hal, hsm, _⟩ := hok
                obtain rfl := Option.some.inj (HTk.out.1.symm.trans ht2)
                rw [hEx] at hex hbd hal hsm
                refine hex.mono ?_
                clear hex
                rintro e wb ⟨rfl, hb⟩
                have HBb := Lib.hid (below_on HBn.out hb HBn.out.size)
                have HXb := Lib.hid (blk_next HXn.out hb)
                have HRb := Lib.hid (blk_next HRn.out hb)
                have HSb := Lib.hid (blk_next HSn.out hb)
                have HMb := Lib.hid (blk_next HMn.out hb)
                have HVb := Lib.hid (blk_next HVn.out hb)
                have HOb := Lib.hid (HOn.out.next hb)
                have HNb : Hid (Nd (fun j => wr.heap.size < j ∧ j < wb.heap.size) wb tt (.slice pa pn pc)) := HNn.out.mono (fun j hj => ⟨hj.1, Nat.lt_of_lt_of_le hj.2 hb.size⟩) (fun j hj => hb.block j hj.2)
                have hsz2 := hb.size
                have hgw : ∀ g, (Value.slice va q vc).ownBlock = some g → X + 1 ≤ g ∧ g < wr.heap.size := fun g hg => HI.out.mo.own.lt g hg
                have HGw := Lib.hid hgw
                clear hb HAn HBn HXn HRn HSn HMn HVn HOn HNn hgw
                have hszb : wa.heap.size + 1 ≤ wb.heap.size := by simp at hsz2; omega
                clear hsz2
                obtain ⟨x0, x1, x2, x3, x4, xf⟩ := five_cells HXb.out
                obtain ⟨n0, n1, n2, n3, n4, nf⟩ := five_cells HVb.out
                have m0 : wb.cell? ⟨wr.heap.size, 0, none⟩ = some (.string ⟨m1.toArray⟩) := by rw [Lib.cell_of_heap HMb.out]; rfl
                have m1c : wb.cell? ⟨wr.heap.size, 1, none⟩ = some (.string ⟨m2.toArray⟩) := by rw [Lib.cell_of_heap HMb.out]; rfl
                have hXb := (Array.getElem?_eq_some_iff.1 HXb.out).1
                have hMb := (Array.getElem?_eq_some_iff.1 HMb.out).1
                have hNb := (Array.getElem?_eq_some_iff.1 HVb.out).1
                have hxq : x.b ≤ 64 * 65539 := by
                  have h1 := HI.out.acb.b
                  have h2 : x.mems.length = q := HMs2.out
                  have h3 := H64.out.1
                  rw [h2] at h1
                  exact Nat.le_trans h1 (Nat.mul_le_mul_right 65539 (Nat.le_of_not_lt (fun h => h3 (Nat.lt_of_lt_of_le h (Nat.le_of_lt hlt)))))
                have hxa := HI.out.acb.a
                have hxs : x.s ≤ 64 * 65539 := Nat.le_trans HI.out.acb.s hxq
                have hup := up_bd x.b E2 hal hbd.2.1
                have hal2 := c_alignedX x.b E2 (by omega) hal hbd.2.1
                obtain ⟨U, hU⟩ : ∃ U, upN x.b E2 = U := ⟨_, rfl⟩
                rw [hU] at hal2 hup
                have HAl := Lib.hid hal2
                have hw1 : wrap64 ((U : Int) + (E1 : Int)) = ((U + E1 : Nat) : Int) := by unfold wrap64; omega
                have hE3 : E3 ≤ 65537 := Nat.le_trans hbd.2.2 hbd.1
                have hw2 : wrap64 ((x.s : Int) + (E3 : Int)) = ((x.s + E3 : Nat) : Int) := by unfold wrap64; omega
                obtain ⟨B', hB'⟩ : ∃ B', U + E1 = B' := ⟨_, rfl⟩
                obtain ⟨S', hS'⟩ : ∃ S', x.s + E3 = S' := ⟨_, rfl⟩
                obtain ⟨A', hA'⟩ : ∃ A', max x.a E2 = A' := ⟨_, rfl⟩
                rw [hB'] at hw1
                rw [hS'] at hw2
                have hmx : max (x.a : Int) (E2 : Int) = (A' : Int) := by omega
                have hAd : addM L x (m1, m2) = ⟨x.mems ++ [⟨tt, m1, U⟩], B', A', S'⟩ := by
                  unfold addM
                  simp only [htd, hEx]
                  rw [hU, hB', hA', hS']
                rw [hAd] at hgo2 hadd
                have HAd := Lib.hid (And.intro hgo2 hadd)
                clear hE3 xf nf hal2 hgo2 hadd hAd hB' hS' hA' hU hup hxq hxa hxs hal hbd hsm hEx htd hwf hnm hhm hoj ht2
                go_wp2_with fail
                refine (HAl.out _).mono ?_
                rintro e wc ⟨rfl, rfl⟩
                have HEx := Lib.hid (below_a wb (.cells #[.int .i64 E1, .int .i64 E2, .int .i64 E3] 79))
                have HOx := Lib.hid ((HOb.out.next HEx.out).next (below_a (wb.alloc (.cells #[.int .i64 E1, .int .i64 E2, .int .i64 E3] 79)) (.cells #[.int .u8 y0, .string y1, .int .i64 y2, .string y3, .slice pa pn pc, .string ⟨m1.toArray⟩, .int .i64 U] 93)))
                have HBx := Lib.hid (below_on (below_on HBb.out HEx.out HBb.out.size) (below_a (wb.alloc (.cells #[.int .i64 E1, .int .i64 E2, .int .i64 E3] 79)) (.cells #[.int .u8 y0, .string y1, .int .i64 y2, .string y3, .slice pa pn pc, .string ⟨m1.toArray⟩, .int .i64 U] 93)) (below_on HBb.out HEx.out HBb.out.size).size)
                go_wp2_with (at_builtin; refine wpList_append_lies _ rfl _ _ 87 rfl (X + 1) 93 i0 (.agg #[.int .u8 0, .string ByteArray.empty, .int .i64 0, .string ByteArray.empty, .slice none 0 0, .string ByteArray.empty, .int .i64 0]) 7 96 Tryz.underlying87 hi hz0 hz1 hz2 rfl (by decide) (.slice va q vc) q (mbCs P) rfl (by have h := HOx.out.own; rw [HI.out.pl] at h; exact h) ⟨wb.heap.size + 1, 0, none⟩ 1 1 [.int .u8 y0, .string y1, .int .i64 y2, .string y3, .slice pa pn pc, .string ⟨m1.toArray⟩, .int .i64 U] rfl rfl ?cc1 ?cc2 (by decide) ?cc3 ?cc4 ?cc5 (wb.heap.size + 2) ?cc6 ?_)
                case cc1 =>
                  intro j u hu
                  have h := World.news_of_block (heap_alloc_new (wb.alloc (.cells #[.int .i64 E1, .int .i64 E2, .int .i64 E3] 79)) (.cells #[.int .u8 y0, .string y1, .int .i64 y2, .string y3, .slice pa pn pc, .string ⟨m1.toArray⟩, .int .i64 U] 93)) j u hu
                  rw [show (wb.alloc (.cells #[.int .i64 E1, .int .i64 E2, .int .i64 E3] 79)).heap.size = wb.heap.size + 1 by simp] at h
                  exact h
                case cc2 =>
                  intro u hu
                  simp only [List.mem_cons, List.not_mem_nil, or_false] at hu
                  rcases hu with rfl | rfl | rfl | rfl | rfl | rfl | rfl <;> rfl
                case cc3 => have h3 := H64.out.1; unfold maxLen; omega
                case cc4 => have h3 := H64.out.1; omega
                case cc5 => simp; omega
                case cc6 => simp
                intro gr cap1 wd hown hgrow hlies hglt
                have hXd : wd.heap[X]? = some (lyO x.b x.a x.s ⟨sn.toArray⟩ (.slice va q vc)) := by
                  refine (hgrow.block X (by simp; omega) (fun e => by have := (HGw.out X e.symm).1; omega)).trans ?_
                  exact (Below.heap_alloc _ _ _ (by simp; omega)).trans ((Below.heap_alloc _ _ _ hXb).trans HXb.out)
                have hEd : wd.heap[wb.heap.size]? = some (.cells #[.int .i64 E1, .int .i64 E2, .int .i64 E3] 79) := by
                  refine (hgrow.block _ (by simp; omega) (fun e => by have := (HGw.out _ e.symm).2; omega)).trans ?_
                  exact (Below.heap_alloc _ _ _ (by simp)).trans (heap_alloc_new _ _)
                have hMo : MoX X (P ++ [(⟨tt, m1, U⟩, .slice pa pn pc)]) (.slice (some ⟨gr, 0, none⟩) (P.length + 1) cap1) wd := by
                  refine HOx.out.add (w := (wb.alloc (.cells #[.int .i64 E1, .int .i64 E2, .int .i64 E3] 79)).alloc (.cells #[.int .u8 y0, .string y1, .int .i64 y2, .string y3, .slice pa pn pc, .string ⟨m1.toArray⟩, .int .i64 U] 93)) (x := ⟨tt, m1, U⟩) (HNb.out.mono (fun j hj => ⟨?_, ?_, ?_⟩) (fun j hj => ?_)) ?_ hgrow ?_
                  · have := HXlt.out; omega
                  · simp; omega
                  · intro e
                    have := (HGw.out j e).2
                    omega
                  · exact (Below.heap_alloc _ _ _ (by simp; omega)).trans (Below.heap_alloc _ _ _ hj.2)
                  · rw [HI.out.pl]
                    obtain ⟨z0, z1, z2, z3⟩ := HY.out
                    show wd.ownsRow _ _ _ _ _ (mbCs P ++ [.int .u8 tt.letter.toNat, .string ⟨tt.code.toArray⟩, .int .i64 tt.count, .string ⟨tt.tag.toArray⟩, .slice pa pn pc, .string ⟨m1.toArray⟩, .int .i64 U])
                    rw [z0, z1, z2, z3]
                    exact hown
                  · simpa using hlies
                rw [HI.out.pl] at hMo
                have hgx : ∀ k, (Value.slice va q vc).ownBlock = some k → X + 1 ≤ k := fun k hk => (HGw.out k hk).1
                have HMo := Lib.hid hMo
                have HGr := Lib.hid hgrow
                have HXd := Lib.hid hXd
                have HGx := Lib.hid hgx
                clear hMo hown hgrow hlies hgx x0 x1 x2 x3 x4 n0 n1 n2 n3 n4 m0 m1c HMb HVb HNb HOx HOb HEx HGw
                obtain ⟨x0, x1, x2, x3, x4, xf⟩ := five_cells hXd
                have xf0 := xf 0
                have xf1 := xf 1
                have xf2 := xf 2
                have xf4 := xf 4
                have e0 : wd.cell? ⟨wb.heap.size, 0, none⟩ = some (.int .i64 E1) := by rw [Lib.cell_of_heap hEd]; rfl
                have e1 : wd.cell? ⟨wb.heap.size, 1, none⟩ = some (.int .i64 E2) := by rw [Lib.cell_of_heap hEd]; rfl
                have e2 : wd.cell? ⟨wb.heap.size, 2, none⟩ = some (.int .i64 E3) := by rw [Lib.cell_of_heap hEd]; rfl
                have hne : ¬ wb.heap.size = X := by omega
                have hne2 : ¬ X = wb.heap.size := by omega
                clear xf hXd hEd
                go_wp2_with fail
                have hst1 := x_stp X wd (.slice (some ⟨gr, 0, none⟩) (q + 1) cap1) (.int .i64 B') (.int .i64 A') (.int .i64 S')
                have hxs1 := ly_set (x' := B') (y' := A') (z' := S') (v' := .slice (some ⟨gr, 0, none⟩) (q + 1) cap1) HXd.out
                have hre1 := rnd_end (B := w.heap.size) (X := X) HBx.out HGr.out hst1 (by omega) (by have := HBx.out.size; simp at this ⊢; omega) (fun j hj => HGx.out j hj)
                have HNI : Hid (NxI L sn sm _ ML gc w X (q + 1) ⟨x.mems ++ [⟨tt, m1, U⟩], B', A', S'⟩ (P ++ [(⟨tt, m1, U⟩, .slice pa pn pc)]) (.slice (some ⟨gr, 0, none⟩) (q + 1) cap1) ((((wd.setCell ⟨X, 4, none⟩ (.slice (some ⟨gr, 0, none⟩) (q + 1) cap1)).setCell ⟨X, 0, none⟩ (.int .i64 B')).setCell ⟨X, 1, none⟩ (.int .i64 A')).setCell ⟨X, 2, none⟩ (.int .i64 S'))) :=
                  ⟨by rw [List.map_append, HI.out.pm]; rfl, by rw [List.length_append, HI.out.pl]; rfl, HAd.out.2, HAd.out.1, hre1.1, hxs1, hre1.2 w.heap.size _ (by omega) (blk_next (blk_next HSb.out (below_a _ _)) (below_a _ _)), hre1.2 (w.heap.size + 1) _ (by omega) (blk_next (blk_next HRb.out (below_a _ _)) (below_a _ _)), HMo.out.stp hst1⟩
                clear hst1 hxs1 hre1
                go_roundg (ML - (q + 1))
                case measure => exact HM.out.1
                case rel => exact ⟨q + 1, HM.out.2, rfl, _, _, _, HNI⟩
              · obtain ⟨E, hE⟩ : ∃ E : Int, (memE L x.mems (m1, m2) : Int) = E := ⟨_, rfl⟩
                have hE0 : (E == 0) = false := by rw [← hE]; simp; exact hme
                have hgo2 : (goM L ac0 sm).1 = memE L x.mems (m1, m2) := by
                  rw [HI.out.go, List.drop_eq_getElem_cons (by have := HML.out; omega), (List.getElem?_eq_some_iff.1 HMem.out).2]
                  show (goM L x ((m1, m2) :: sm.drop (q + 1))).1 = _
                  unfold goM
                  rw [if_neg hme]
                have hv : nxE L ⟨sn, sm⟩ = memE L x.mems (m1, m2) := by
                  rw [HGo.out, hgo2, if_neg hme]
                have HV := Lib.hid (And.intro hv (And.intro hE hme))
                obtain ⟨r0, r1, r2, r3, r4, rf⟩ := five_cells HRa.out
                have rf0 := rf 0
                have rf1 := rf 1
                have rf2 := rf 2
                have rf3 := rf 3
                have rf4 := rf 4
                have hRl := (Array.getElem?_eq_some_iff.1 HRa.out).1
                rw [hE]
                clear hgo2 hv hE hme rf HAm HMm1 HBm HXa HSa HMa HOa hXl
                go_wp2_with fail
                have hst := Stp.five0 (w.heap.size + 1) wa (.int .i64 0) (.int .i64 0) (.int .i64 0) (.string ⟨#[]⟩) (.slice none 0 0)
                have hb9 := below_stp HBa.out hst (by omega)
                have hz9 := five_set HRa.out (.int .i64 0) (.int .i64 0) (.int .i64 0) (.string ⟨#[]⟩) (.slice none 0 0)
                have hs9 := hst.size
                clear hst
                generalize ((((wa.setCell ⟨w.heap.size + 1, 0, none⟩ (.int .i64 0)).setCell ⟨w.heap.size + 1, 1, none⟩ (.int .i64 0)).setCell ⟨w.heap.size + 1, 2, none⟩ (.int .i64 0)).setCell ⟨w.heap.size + 1, 3, none⟩ (.string ⟨#[]⟩)).setCell ⟨w.heap.size + 1, 4, none⟩ (.slice none 0 0) = w9 at hb9 hz9 hs9 ⊢
                have hlt9 : w.heap.size + 1 < w9.heap.size := by rw [hs9]; exact hRl
                have hz10 := (Below.heap_alloc w9 (.cells #[.int .u8 0, .string ⟨#[]⟩, .int .i64 0, .string ⟨#[]⟩, .slice none 0 0] 68) _ hlt9).trans hz9
                have hb10 := hb9.alloc hb9.size (.cells #[.int .u8 0, .string ⟨#[]⟩, .int .i64 0, .string ⟨#[]⟩, .slice none 0 0] 68)
                generalize w9.alloc (.cells #[.int .u8 0, .string ⟨#[]⟩, .int .i64 0, .string ⟨#[]⟩, .slice none 0 0] 68) = wx at hb10 hz10 ⊢
                obtain ⟨p0, p1, p2, p3, p4, pf⟩ := five_cells hz10
                refine bodyPost_ret (v := .tuple #[lV 0 0 0 ⟨#[]⟩ none 0 0, .int .i64 E]) (by simp [results, Tryz.results70, go_sem, p0, p1, p2, p3, p4]) rfl ?_
                exact ⟨.inr ⟨by rw [HV.out.1]; exact HV.out.2.2, _, _, _, _, _, _, _, by rw [HV.out.1, HV.out.2.1]⟩, hb10⟩
            · have hdq : decide ((q : Int) < (ML : Int)) = false := by simp; omega
              have hqM : q = sm.length := by have := HML.out; omega
              have hgo2 : goM L ac0 sm = (0, x) := by
                rw [HI.out.go, hqM, List.drop_length]
                rfl
              have hMs2 : x.mems.length = q := by rw [← HI.out.pm, List.length_map, HI.out.pl]
              have hxa1 : 1 ≤ x.a := HI.out.acb.a1 (by have := H64.out.2; omega)
              have hxa4 := HI.out.acb.a
              have hxb : x.b ≤ 64 * 65539 := by
                have h1 := HI.out.acb.b
                rw [hMs2] at h1
                exact Nat.le_trans h1 (Nat.mul_le_mul_right 65539 (by have := H64.out.1; omega))
              have hal2 := c_alignedX x.b x.a (by omega) hxa1 hxa4
              obtain ⟨U, hU⟩ : ∃ U, upN x.b x.a = U := ⟨_, rfl⟩
              rw [hU] at hal2
              have HAl := Lib.hid hal2
              have hgo3 : nxE L ⟨sn, sm⟩ = if 65536 < U then 3 else 0 := by
                rw [HGo.out, hgo2]
                show (if (0 : Nat) = 0 then if 65536 < upN x.b x.a then 3 else 0 else 0) = _
                rw [if_pos rfl, hU]
              have hlay : nxL L ⟨sn, sm⟩ = ⟨U, x.a, x.s, sn, x.mems⟩ := by
                unfold nxL layM
                rw [hgo2]
                show (⟨upN x.b x.a, x.a, x.s, sn, x.mems⟩ : LayP) = _
                rw [hU]
              have HG3 := Lib.hid (And.intro hgo3 (And.intro hlay hMs2))
              have HQM := Lib.hid (And.intro hqM hvc)
              obtain ⟨x0, x1, x2, x3, x4, xf⟩ := five_cells HI.out.xb
              obtain ⟨r0, r1, r2, r3, r4, rf⟩ := five_cells HI.out.rb
              have hXl : X < wr.heap.size := (Array.getElem?_eq_some_iff.1 HI.out.xb).1
              have hRl : w.heap.size + 1 < wr.heap.size := (Array.getElem?_eq_some_iff.1 HI.out.rb).1
              have xf0 := xf 0
              have rf0 := rf 0
              have rf1 := rf 1
              have rf2 := rf 2
              have rf3 := rf 3
              have rf4 := rf 4
              have hXR : ¬ X = w.heap.size + 1 := by omega
              have hRX : ¬ w.heap.size + 1 = X := by omega
              clear xf rf hal2 hgo2 hgo3 hlay hU hxb hxa4 hxa1 hMs2
              by_cases hU6 : 65536 < U
              · have hdU : decide ((65536 : Int) < (U : Int)) = true := by simp; omega
                have hv : nxE L ⟨sn, sm⟩ = 3 := HG3.out.1.trans (if_pos hU6)
                have HV := Lib.hid hv
                clear hv hU6
                go_wp2_with fail
                refine (HAl.out _).mono ?_
                rintro e we ⟨rfl, rfl⟩
                go_wp2_with fail
                have hst0 := Stp.set X 0 we (.int .i64 U)
                have hst := Stp.five0 (w.heap.size + 1) (we.setCell ⟨X, 0, none⟩ (.int .i64 U)) (.int .i64 0) (.int .i64 0) (.int .i64 0) (.string ⟨#[]⟩) (.slice none 0 0)
                have hb9 := below_stp (below_stp HI.out.bel hst0 (by omega)) hst (by omega)
                have hz9 := five_set ((hst0.blk _ hRX).trans HI.out.rb) (.int .i64 0) (.int .i64 0) (.int .i64 0) (.string ⟨#[]⟩) (.slice none 0 0)
                have hmo := (HI.out.mo.stp hst0).in
                have hbl := hst.blk
                have hs9 := hst.size
                clear hst hst0 r0 r1 r2 r3 r4 rf0 rf1 rf2 rf3 rf4 x0 x1 x2 x3 x4 xf0
                generalize we.setCell ⟨X, 0, none⟩ (.int .i64 U) = w8 at hb9 hz9 hmo hbl hs9 ⊢
                generalize ((((w8.setCell ⟨w.heap.size + 1, 0, none⟩ (.int .i64 0)).setCell ⟨w.heap.size + 1, 1, none⟩ (.int .i64 0)).setCell ⟨w.heap.size + 1, 2, none⟩ (.int .i64 0)).setCell ⟨w.heap.size + 1, 3, none⟩ (.string ⟨#[]⟩)).setCell ⟨w.heap.size + 1, 4, none⟩ (.slice none 0 0) = w9 at hb9 hz9 hbl hs9 ⊢
                obtain ⟨p0, p1, p2, p3, p4, pf⟩ := five_cells hz9
                refine bodyPost_ret (v := .tuple #[lV 0 0 0 ⟨#[]⟩ none 0 0, .int .i64 3]) (by simp [results, Tryz.results70, go_sem, p0, p1, p2, p3, p4]) rfl ?_
                exact ⟨.inr ⟨by rw [HV.out]; decide, _, _, _, _, _, _, _, by rw [HV.out]; rfl⟩, hb9⟩
              · have hdU : decide ((65536 : Int) < (U : Int)) = false := by simp; omega
                have hv : nxE L ⟨sn, sm⟩ = 0 := HG3.out.1.trans (if_neg hU6)
                have HV := Lib.hid hv
                clear hv hU6
                go_wp2_with fail
                refine (HAl.out _).mono ?_
                rintro e we ⟨rfl, rfl⟩
                go_wp2_with fail
                have hst0 := Stp.set X 0 we (.int .i64 U)
                have hst := Stp.five0 (w.heap.size + 1) (we.setCell ⟨X, 0, none⟩ (.int .i64 U)) (.int .i64 U) (.int .i64 x.a) (.int .i64 x.s) (.string ⟨sn.toArray⟩) (.slice va sm.length vc)
                have hb9 := below_stp (below_stp HI.out.bel hst0 (by omega)) hst (by omega)
                have hz9 := five_set ((hst0.blk _ hRX).trans HI.out.rb) (.int .i64 U) (.int .i64 x.a) (.int .i64 x.s) (.string ⟨sn.toArray⟩) (.slice va sm.length vc)
                have hmo := (HI.out.mo.stp hst0).in
                have hbl := hst.blk
                have hs9 := hst.size
                clear hst hst0 r0 r1 r2 r3 r4 rf0 rf1 rf2 rf3 rf4 x0 x1 x2 x3 x4 xf0
                generalize we.setCell ⟨X, 0, none⟩ (.int .i64 U) = w8 at hb9 hz9 hmo hbl hs9 ⊢
                generalize ((((w8.setCell ⟨w.heap.size + 1, 0, none⟩ (.int .i64 U)).setCell ⟨w.heap.size + 1, 1, none⟩ (.int .i64 x.a)).setCell ⟨w.heap.size + 1, 2, none⟩ (.int .i64 x.s)).setCell ⟨w.heap.size + 1, 3, none⟩ (.string ⟨sn.toArray⟩)).setCell ⟨w.heap.size + 1, 4, none⟩ (.slice va sm.length vc) = w9 at hb9 hz9 hbl hs9 ⊢
                obtain ⟨p0, p1, p2, p3, p4, pf⟩ := five_cells hz9
                refine bodyPost_ret (v := .tuple #[lV U x.a x.s ⟨sn.toArray⟩ va sm.length vc, .int .i64 0]) (by simp [results, Tryz.results70, go_sem, p0, p1, p2, p3, p4]) rfl ?_
                obtain ⟨a', c', hav, hac, hmb⟩ := hmo
                injection hav with hv1 hv2 hv3
                subst hv1
                refine ⟨.inl ⟨HV.out, va, vc, ?_, ?_, ?_⟩, hb9⟩
                · rw [HG3.out.2.1]
                  show _ = Ending.returned (.tuple #[lV U x.a x.s ⟨sn.toArray⟩ va x.mems.length vc, .int .i64 0])
                  rw [HG3.out.2.2, HQM.out.1]
                · rw [HG3.out.2.1]
                  show x.mems.length ≤ vc
                  rw [HG3.out.2.2]
                  exact HQM.out.2
                · rw [HG3.out.2.1]
                  show MbS _ x.mems va w9
                  rw [← HI.out.pm]
                  exact hmb.mono (fun j hj => ⟨by omega, by rw [hs9]; exact hj.2⟩) (fun j hj => hbl j (by omega))
    · have hv : nxE L ⟨sn, sm⟩ = 6 := HNx.out
      have HV := Lib.hid hv
      clear hv rf
      go_wp2_with fail
      refine bodyPost_ret (v := .tuple #[lV 0 0 0 ⟨#[]⟩ none 0 0, .int .i64 6]) (by simp [results, Tryz.results70, go_sem, r0, r1, r2, r3, r4, hlt, hXw]) rfl ?_
      exact ⟨.inr ⟨by rw [HV.out]; decide, _, _, _, _, _, _, _, by rw [HV.out]; rfl⟩, below_stp HB3.out (Stp.five0 (w.heap.size + 1) w3 _ _ _ _ _) (by omega)⟩
end Go.Proofs.YtacbjhbiaaieoaaGreatDoor
