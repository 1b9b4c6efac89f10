/-
  The contracts of whether any type is well made, in the code.
-/
import Derived.Test.YtgplonfhmemhiaaGreatDoorTyCk
namespace Go.Proofs.YtgplonfhmemhiaaGreatDoor
set_option linter.unusedVariables false
set_option linter.unusedSimpArgs false
set_option maxRecDepth 100000
open Go.RowKit

theorem scal_of (t : Ty) (hw : t.wf) (h : scaI t.letter.toNat = true) : t.scal = true := by
  cases t with
  | base c =>
    have hc : baseC c = true := hw
    unfold baseC at hc
    simp at hc
    rcases hc with ((((hc | hc) | hc) | hc) | hc) | hc <;> (subst hc; revert h; decide)
  | ptr t => rfl
  | arr n t => exact absurd (show scaI (97 : Int) = true from h) (by decide)
  | str s => exact absurd (show scaI (83 : Int) = true from h) (by decide)
  | fn ps r => exact absurd (show scaI (102 : Int) = true from h) (by decide)
theorem loose_of (t : Ty) (hw : t.wf) (h : (scaI t.letter.toNat || (t.letter.toNat : Int) == 118) = true) : t.tight = false := by
  cases t with
  | base c => rfl
  | ptr t => rfl
  | arr n t => exact absurd (show (scaI (97 : Int) || (97 : Int) == 118) = true from h) (by decide)
  | str s => rfl
  | fn ps r => exact absurd (show (scaI (102 : Int) || (102 : Int) == 118) = true from h) (by decide)
theorem notfn_of (t : Ty) (h : objI t.letter.toNat = true) : t.isFn = false := by
  cases t with
  | fn ps r => exact absurd (show objI (102 : Int) = true from h) (by decide)
  | _ => rfl
theorem nd_all (t : Ty) (a : Option Addr) (n c : Nat) (w w' : World) (hN : NdIn t (.slice a n c) w) (hb : Below w.heap.size w w') : NdIn t (.slice a n c) w' := NdIn.next hN hb
set_option maxHeartbeats 4000000 in
/-- A function that may be. -/
theorem c_fitFn (ps : Tys) (r : Ty) (hwf : (Ty.fn ps r).wf) (hbig : (Ty.fn ps r).size ≤ 65536) (a : Option Addr) (n c : Nat) (w : World) (hN : NdIn (.fn ps r) (.slice a n c) w) :
    Calls Tryz.prog 107 #[nT (.fn ps r) a n c] w fun e w' => (∃ d : Bool, e = .returned (.bool d) ∧ (d = true → (∀ u ∈ ps.list, u.scal = true) ∧ r.tight = false)) ∧ Below w.heap.size w w' := by
  obtain ⟨g, cap, L, hv, hcap, hP⟩ := hN.pars (A := ps.list) (u := r) rfl
  cases hv
  have hpl : ps.list.length ≤ 65536 := by
    have h1 := parts_le (.fn ps r)
    have h3 : (ps.list ++ [r]).length ≤ (Ty.fn ps r).size := h1
    simp at h3
    omega
  have HP := Lib.hid hP
  have HI := Lib.hid (fun w' (hb : Below w.heap.size w w') => c_inner (fun j => j < w'.heap.size) (.fn ps r) _ w' (nd_all _ _ _ _ w w' hN hb) ps.list r rfl hpl)
  have HPa := Lib.hid (fun (s1 : ByteArray) => c_params ps.list.length 102 s1 0 ⟨#[]⟩ g c hcap hpl)
  have HS := Lib.hid c_isScalar
  have HWf := Lib.hid hwf
  show Calls _ _ #[nV 102 ⟨(Ty.fn ps r).code.toArray⟩ 0 ⟨#[]⟩ (some ⟨g, 0, none⟩) (ps.list.length + 1) c] w _
  obtain ⟨s1, hs1⟩ : ∃ s1, (⟨(Ty.fn ps r).code.toArray⟩ : ByteArray) = s1 := ⟨_, rfl⟩
  obtain ⟨z0, hz0⟩ : ∃ z : Int, (r.letter.toNat : Int) = z := ⟨_, rfl⟩
  obtain ⟨z2, hz2⟩ : ∃ z : Int, (r.count : Int) = z := ⟨_, rfl⟩
  have HZ := Lib.hid hz0
  have HI' : Hid (∀ w', Below w.heap.size w w' → Calls Tryz.prog 41 #[nV 102 s1 0 ⟨#[]⟩ (some ⟨g, 0, none⟩) (ps.list.length + 1) c] w' fun e w'' => (∃ a n c, e = .returned (nV z0 ⟨r.code.toArray⟩ z2 ⟨r.tag.toArray⟩ a n c)) ∧ Below w'.heap.size w' w'') := fun w' hb => by
    have h := HI.out w' hb
    rw [nd_val] at h
    rw [← hs1]
    refine h.mono fun e w'' h => ?_
    obtain ⟨⟨a', n', c', h1, h2⟩, h3⟩ := h
    rw [nd_val, hz0, hz2] at h1
    exact ⟨⟨a', n', c', h1⟩, h3⟩
  rw [hs1]
  clear hN hP HI hwf hbig hs1 hz0 hz2
  go_enter Tryz.func107, Tryz.ntmps107
  go_wp2_with fail
  refine (HPa.out s1 _).mono ?_
  rintro e w2 ⟨rfl, hb⟩
  have HB2 := Lib.hid (below_on (below_a w (.cells #[.int .u8 102, .string s1, .int .i64 0, .string ⟨#[]⟩, .slice (some ⟨g, 0, none⟩) (ps.list.length + 1) c] 61)) hb (by simp))
  have HN2 := Lib.hid (blk_next (heap_alloc_new w (.cells #[.int .u8 102, .string s1, .int .i64 0, .string ⟨#[]⟩, .slice (some ⟨g, 0, none⟩) (ps.list.length + 1) c] 61)) hb)
  clear hb
  go_wp2_with fail
  go_loopg [9] ps.list.length (fun g' v9 wr => ∃ q : Nat, q + g' = ps.list.length ∧ v9 = .int .i64 (q : Int) ∧ Hid (Below w2.heap.size w2 wr ∧ ∀ j u, j < q → ps.list[j]? = some u → u.scal = true))
  case atStart => exact ⟨0, by omega, rfl, Below.refl _ _, fun j u hj => by omega⟩
  case round =>
    obtain ⟨q, hq, rfl, HR⟩ := hrel
    have HBr := Lib.hid (below_on HB2.out HR.out.1 HB2.out.size)
    have HNr := Lib.hid (blk_next HN2.out HR.out.1)
    by_cases hlt : q < ps.list.length
    · have hd : decide ((q : Int) < (ps.list.length : Int)) = true := by simp; omega
      obtain ⟨u, hu⟩ : ∃ u, ps.list[q]? = some u := ⟨_, List.getElem?_eq_getElem hlt⟩
      obtain ⟨a3, n3', c3, hn, hg, n0, n1, n2, n3, n4⟩ := (HP.out.keep (w' := wr) (fun j hj => HBr.out.block j hj)).at hu
      have HU := Lib.hid (And.intro hu (lst_wf ps u HWf.out.1 (List.mem_of_getElem? hu)))
      obtain ⟨y0, hy0⟩ : ∃ z : Int, (u.letter.toNat : Int) = z := ⟨_, rfl⟩
      obtain ⟨y2, hy2⟩ : ∃ z : Int, (u.count : Int) = z := ⟨_, rfl⟩
      rw [hy0] at n0
      rw [hy2] at n2
      have HY := Lib.hid hy0
      have hq0 : (0 : Int) ≤ (q : Int) := by omega
      have hql : (q : Int) < (ps.list.length : Int) := by omega
      have hwm : IntKind.i64.wrap ((q : Int) + 1) = ((q + 1 : Nat) : Int) := by rw [IntKind.wrap_i64]; omega
      have HM : Hid (ps.list.length - (q + 1) < gk ∧ q + 1 + (ps.list.length - (q + 1)) = ps.list.length) := ⟨by omega, by omega⟩
      have HSu := Lib.hid (HS.out y0 ⟨u.code.toArray⟩ y2 ⟨u.tag.toArray⟩ a3 n3' c3)
      clear hu hn hy0 hy2
      cases hsc : scaI y0
      · rw [hsc] at HSu
        clear hsc
        go_wp2_with fail
        refine (HSu.out _).mono ?_
        rintro e w5 ⟨rfl, hb⟩
        have HB5 := Lib.hid (below_on (HBr.out.alloc HBr.out.size (.cells #[.int .u8 y0, .string ⟨u.code.toArray⟩, .int .i64 y2, .string ⟨u.tag.toArray⟩, .slice a3 n3' c3] 61)) hb (HBr.out.alloc HBr.out.size _).size)
        clear hb n0 n1 n2 n3 n4
        go_wp2_with fail
        go_ret
        exact ⟨⟨false, rfl, fun h => by cases h⟩, HB5.out⟩
      · rw [hsc] at HSu
        have HSc := Lib.hid hsc
        clear hsc
        go_wp2_with fail
        refine (HSu.out _).mono ?_
        rintro e w5 ⟨rfl, hb⟩
        have HN5 : Hid (Below w2.heap.size w2 w5 ∧ ∀ j u, j < q + 1 → ps.list[j]? = some u → u.scal = true) := ⟨below_on (HR.out.1.alloc HR.out.1.size (.cells #[.int .u8 y0, .string ⟨u.code.toArray⟩, .int .i64 y2, .string ⟨u.tag.toArray⟩, .slice a3 n3' c3] 61)) hb (HR.out.1.alloc HR.out.1.size _).size, fun j u' hj hu' => by
          by_cases e : j = q
          · subst e
            rw [HU.out.1] at hu'
            cases hu'
            exact scal_of u HU.out.2 (by rw [HY.out]; exact HSc.out)
          · exact HR.out.2 j u' (by omega) hu'⟩
        clear hb n0 n1 n2 n3 n4
        go_wp2_with fail
        go_roundg (ps.list.length - (q + 1))
        case measure => exact HM.out.1
        case rel => exact ⟨q + 1, HM.out.2, rfl, HN5⟩
    · have hd : decide ((q : Int) < (ps.list.length : Int)) = false := by simp; omega
      have HAll : Hid (∀ u ∈ ps.list, u.scal = true) := fun u hu => by
        obtain ⟨j, hj, e⟩ := List.getElem_of_mem hu
        exact HR.out.2 j u (by omega) (by rw [List.getElem?_eq_getElem hj, e])
      obtain ⟨n0, n1, n2, n3, n4, nf⟩ := five_cells HNr.out
      have hltr := (Array.getElem?_eq_some_iff.1 HNr.out).1
      clear nf
      go_wp2_with fail
      refine (HI'.out _ HBr.out).mono ?_
      rintro e w5 ⟨⟨a5, n5, c5, rfl⟩, hb⟩
      have HB5 := Lib.hid (below_on HBr.out hb HBr.out.size)
      have HN5 := Lib.hid (blk_next HNr.out hb)
      clear hb n0 n1 n2 n3 n4 hltr HI'
      have HA6 := Lib.hid (HB5.out.alloc HB5.out.size (.cells #[.int .u8 z0, .string ⟨r.code.toArray⟩, .int .i64 z2, .string ⟨r.tag.toArray⟩, .slice a5 n5 c5] 61))
      have HN6 := Lib.hid (blk_next HN5.out (below_a w5 (.cells #[.int .u8 z0, .string ⟨r.code.toArray⟩, .int .i64 z2, .string ⟨r.tag.toArray⟩, .slice a5 n5 c5] 61)))
      have HV6 := Lib.hid (heap_alloc_new w5 (.cells #[.int .u8 z0, .string ⟨r.code.toArray⟩, .int .i64 z2, .string ⟨r.tag.toArray⟩, .slice a5 n5 c5] 61))
      generalize hw6 : w5.alloc (.cells #[.int .u8 z0, .string ⟨r.code.toArray⟩, .int .i64 z2, .string ⟨r.tag.toArray⟩, .slice a5 n5 c5] 61) = w6 at HA6 HN6 HV6
      obtain ⟨n0, n1, n2, n3, n4, nf⟩ := five_cells HN6.out
      have hltr := (Array.getElem?_eq_some_iff.1 HN6.out).1
      have hltv := (Array.getElem?_eq_some_iff.1 HV6.out).1
      clear nf
      have HSr := Lib.hid (HS.out z0 ⟨r.code.toArray⟩ z2 ⟨r.tag.toArray⟩ a5 n5 c5)
      go_wp2_with fail
      refine (HPa.out s1 _).mono ?_
      rintro e w7 ⟨rfl, hb⟩
      have HB7 := Lib.hid (below_on HA6.out hb HA6.out.size)
      have HV7 := Lib.hid (blk_next HV6.out hb)
      clear hb n0 n1 n2 n3 n4 hltr hltv hw6
      obtain ⟨n0, n1, n2, n3, n4, nf⟩ := five_cells HV7.out
      have hltv := (Array.getElem?_eq_some_iff.1 HV7.out).1
      clear nf
      by_cases h8 : ps.list.length ≤ 8
      · have hd8 : decide ((ps.list.length : Int) ≤ 8) = true := by simp; omega
        clear h8
        cases hsc : scaI z0
        · rw [hsc] at HSr
          cases h118 : z0 == 118
          all_goals
            have HRes : Hid ((z0 == 118) = true → r.tight = false) := fun h => loose_of r HWf.out.2 (by rw [HZ.out, h]; simp)
            rw [h118] at HRes
            clear hsc
            go_wp2_with fail
            refine (HSr.out _).mono ?_
            rintro e w8 ⟨rfl, hb⟩
            have HB8 := Lib.hid (below_on HB7.out hb HB7.out.size)
            have HV8 := Lib.hid (blk_next HV7.out hb)
            clear hb n0 n1 n2 n3 n4 hltv
            obtain ⟨n0, n1, n2, n3, n4, nf⟩ := five_cells HV8.out
            have hltv := (Array.getElem?_eq_some_iff.1 HV8.out).1
            clear nf
            go_wp2_with fail
            go_ret
            exact ⟨⟨_, rfl, fun h => ⟨HAll.out, by first | exact HRes.out h | exact HRes.out trivial⟩⟩, HB8.out⟩
        · rw [hsc] at HSr
          have HRes : Hid (r.tight = false) := loose_of r HWf.out.2 (by rw [HZ.out, hsc]; simp)
          clear hsc
          go_wp2_with fail
          refine (HSr.out _).mono ?_
          rintro e w8 ⟨rfl, hb⟩
          have HB8 := Lib.hid (below_on HB7.out hb HB7.out.size)
          clear hb n0 n1 n2 n3 n4 hltv
          go_wp2_with fail
          go_ret
          exact ⟨⟨_, rfl, fun h => ⟨HAll.out, HRes.out⟩⟩, HB8.out⟩
      · have hd8 : decide ((ps.list.length : Int) ≤ 8) = false := by simp; omega
        clear h8
        go_wp2_with fail
        go_ret
        exact ⟨⟨false, rfl, fun h => by cases h⟩, HB7.out⟩
end Go.Proofs.YtgplonfhmemhiaaGreatDoor
