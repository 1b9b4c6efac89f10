/-
  The contract of the type of a struct's next member, in the code.
-/
import Derived.Test.YtjadckhngalmlaaGreatDoorZTyK3
namespace Go.Proofs.YtjadckhngalmlaaGreatDoor
set_option linter.unusedVariables false
set_option linter.unusedSimpArgs false
set_option maxRecDepth 100000
open Go.RowKit

def DpX (m : Nat) : Prop := ∀ (t : Ty) (a : Option Addr) (n c : Nat) (w : World), t.size ≤ m → NdIn t (.slice a n c) w → t.size ≤ 65536 →
  Calls Tryz.prog 114 #[nT t a n c] w fun e w' => e = .returned (.int .i64 t.dep) ∧ Below w.heap.size w w'
set_option maxHeartbeats 4000000 in
theorem depthX_succ (m : Nat) (hD : DpX m) : DpX (m + 1) := fun t a n c w hsz hN hbig => by
  obtain ⟨rfl, hc, hP⟩ := hN.allp
  have HP := Lib.hid hP
  have HD := Lib.hid hD
  have HSz := Lib.hid (And.intro hsz hbig)
  have hlen : t.parts.length ≤ 65536 := Nat.le_trans (parts_le t) hbig
  obtain ⟨x0, hx0⟩ : ∃ x0 : Int, (t.letter.toNat : Int) = x0 := ⟨_, rfl⟩
  obtain ⟨x2, hx2⟩ : ∃ x2 : Int, (t.count : Int) = x2 := ⟨_, rfl⟩
  obtain ⟨s1, hs1⟩ : ∃ s1, (⟨t.code.toArray⟩ : ByteArray) = s1 := ⟨_, rfl⟩
  obtain ⟨s3, hs3⟩ : ∃ s3, (⟨t.tag.toArray⟩ : ByteArray) = s3 := ⟨_, rfl⟩
  unfold nT
  rw [hx0, hx2, hs1, hs3]
  have HB0 := Lib.hid (below_a w (.cells #[.int .u8 x0, .string s1, .int .i64 x2, .string s3, .slice a t.parts.length c] 173))
  clear hN hP hD hsz hbig hx0 hx2 hs1 hs3
  go_enter Tryz.func114, Tryz.ntmps114
  go_wp2_with fail
  go_loopg [3, 9] t.parts.length (fun g v3 v9 wr => ∃ (q d : Nat), q + g = t.parts.length ∧ v9 = .int .i64 (q : Int) ∧ v3 = .int .i64 (d : Int) ∧ Hid (Below w.heap.size w wr ∧ d = depL (t.parts.take q)))
  case atStart => exact ⟨0, 0, by omega, rfl, rfl, HB0.out, rfl⟩
  case round =>
    obtain ⟨q, d, hq, rfl, rfl, HR⟩ := hrel
    by_cases hlt : q < t.parts.length
    · have hd : decide ((q : Int) < (t.parts.length : Int)) = true := by simp; omega
      obtain ⟨u, hu⟩ : ∃ u, t.parts[q]? = some u := ⟨_, List.getElem?_eq_getElem hlt⟩
      obtain ⟨g, a3, n3', c3, ha, hn, hg, n0, n1, n2, n3, n4⟩ := HP.out.at (fun j hj => hj) (fun j hj => HR.out.1.block j hj) HR.out.1.size hu
      have hus := parts_sub t u (List.mem_of_getElem? hu)
      have HDu := Lib.hid (fun o => HD.out u a3 n3' c3 (wr.alloc o) (by have := HSz.out.1; omega) (hn.next (below_a _ _)) (by have := HSz.out.2; omega))
      unfold nT at HDu
      obtain ⟨z0, hz0⟩ : ∃ z : Int, (u.letter.toNat : Int) = z := ⟨_, rfl⟩
      obtain ⟨z2, hz2⟩ : ∃ z : Int, (u.count : Int) = z := ⟨_, rfl⟩
      rw [hz0] at n0 HDu
      rw [hz2] at n2 HDu
      have hq0 : (0 : Int) ≤ (q : Int) := by omega
      have hql : (q : Int) < (t.parts.length : Int) := by omega
      have hwm : IntKind.i64.wrap ((q : Int) + 1) = ((q + 1 : Nat) : Int) := by rw [IntKind.wrap_i64]; omega
      have HM : Hid (t.parts.length - (q + 1) < gk ∧ q + 1 + (t.parts.length - (q + 1)) = t.parts.length) := ⟨by omega, by omega⟩
      subst ha
      have HTk := Lib.hid (depL_take hu)
      obtain ⟨ud, hud⟩ : ∃ d, u.dep = d := ⟨_, rfl⟩
      rw [hud] at HDu HTk
      have hmx : max (d : Int) (ud : Int) = ((max d ud : Nat) : Int) := by omega
      clear hu hn hz0 hz2 hus hud
      go_wp2_with fail
      refine (HDu.out _).mono ?_
      rintro e w5 ⟨rfl, hb⟩
      have HB5 := Lib.hid (below_on (HR.out.1.alloc HR.out.1.size (.cells #[.int .u8 z0, .string ⟨u.code.toArray⟩, .int .i64 z2, .string ⟨u.tag.toArray⟩, .slice a3 n3' c3] 173)) hb (HR.out.1.alloc HR.out.1.size _).size)
      clear hb n0 n1 n2 n3 n4
      go_wp2_with fail
      go_roundg (t.parts.length - (q + 1))
      case measure => exact HM.out.1
      case rel => exact ⟨q + 1, max d ud, HM.out.2, rfl, by first | rfl | rw [hmx], HB5.out, by rw [HTk.out, HR.out.2]⟩
    · have hd : decide ((q : Int) < (t.parts.length : Int)) = false := by simp; omega
      have hdd : t.dep = d + 1 := by
        rw [dep_parts, HR.out.2, show q = t.parts.length by omega, List.take_length]
      have hds : d + 1 ≤ 65536 := by have := dep_size t; have := HSz.out.2; omega
      have hwd : IntKind.i64.wrap ((d : Int) + 1) = ((d + 1 : Nat) : Int) := by rw [IntKind.wrap_i64]; omega
      have HDd := Lib.hid hdd
      clear hds hdd
      go_wp2_with fail
      go_ret
      exact ⟨by rw [HDd.out]; rfl, HR.out.1⟩
theorem depthX_zero : DpX 0 := fun t a n c w hsz => by
  have : 1 ≤ t.size := by cases t <;> (unfold Ty.size; omega)
  omega
theorem c_depthX : ∀ m, DpX m
  | 0 => depthX_zero
  | m + 1 => depthX_succ m (c_depthX m)
theorem nd_all (t : Ty) (a : Option Addr) (n c : Nat) (w w' : World) (hN : NdIn t (.slice a n c) w) (hb : Below w.heap.size w w') : NdIn t (.slice a n c) w' := NdIn.next hN hb
set_option maxHeartbeats 4000000 in
/-- A function that may be. -/
theorem c_fitFnX (ps : Tys) (r : Ty) (hwf : (Ty.fn ps r).wf) (hbig : (Ty.fn ps r).size ≤ 65536) (a : Option Addr) (n c : Nat) (w : World) (hN : NdIn (.fn ps r) (.slice a n c) w) :
    Calls Tryz.prog 124 #[nT (.fn ps r) a n c] w fun e w' => e = .returned (.bool (!badT (.fn ps r))) ∧ Below w.heap.size w w' := by
  obtain ⟨g, cap, L, hv, hcap, hP⟩ := hN.pars (A := ps.list) (u := r) rfl
  cases hv
  have hpl : ps.list.length ≤ 65536 := by
    have h1 := parts_le (.fn ps r)
    have h3 : (ps.list ++ [r]).length ≤ (Ty.fn ps r).size := h1
    simp at h3
    omega
  have HP := Lib.hid hP
  have HI := Lib.hid (fun w' (hb : Below w.heap.size w w') => c_inner (fun j => j < w'.heap.size) (.fn ps r) _ w' (nd_all _ _ _ _ w w' hN hb) ps.list r rfl hpl)
  have HPa := Lib.hid (fun (s1 : ByteArray) => c_params ps.list.length 102 s1 0 ⟨#[]⟩ g c hcap hpl)
  have HS := Lib.hid c_isScalar
  have HWf := Lib.hid hwf
  have hRd : (!badT (.fn ps r)) = (ps.list.all (fun u => scaI u.letter.toNat) && decide (ps.list.length ≤ 8) && (scaI r.letter.toNat || (r.letter.toNat : Int) == 118)) := by unfold badT; rw [Bool.not_not]
  obtain ⟨R, hR⟩ : ∃ R, (!badT (.fn ps r)) = R := ⟨_, rfl⟩
  rw [hR] at hRd
  show Calls _ _ #[nV 102 ⟨(Ty.fn ps r).code.toArray⟩ 0 ⟨#[]⟩ (some ⟨g, 0, none⟩) (ps.list.length + 1) c] w fun e w' => e = .returned (.bool (!badT (.fn ps r))) ∧ Below w.heap.size w w'
  rw [hR]
  obtain ⟨s1, hs1⟩ : ∃ s1, (⟨(Ty.fn ps r).code.toArray⟩ : ByteArray) = s1 := ⟨_, rfl⟩
  obtain ⟨z0, hz0⟩ : ∃ z : Int, (r.letter.toNat : Int) = z := ⟨_, rfl⟩
  obtain ⟨z2, hz2⟩ : ∃ z : Int, (r.count : Int) = z := ⟨_, rfl⟩
  rw [hz0] at hRd
  have HRd := Lib.hid hRd
  have HI' : Hid (∀ w', Below w.heap.size w w' → Calls Tryz.prog 104 #[nV 102 s1 0 ⟨#[]⟩ (some ⟨g, 0, none⟩) (ps.list.length + 1) c] w' fun e w'' => (∃ a n c, e = .returned (nV z0 ⟨r.code.toArray⟩ z2 ⟨r.tag.toArray⟩ a n c)) ∧ Below w'.heap.size w' w'') := fun w' hb => by
    have h := HI.out w' hb
    rw [nd_val] at h
    rw [← hs1]
    refine h.mono fun e w'' h => ?_
    obtain ⟨⟨a', n', c', h1, h2⟩, h3⟩ := h
    rw [nd_val, hz0, hz2] at h1
    exact ⟨⟨a', n', c', h1⟩, h3⟩
  rw [hs1]
  clear hN hP HI hwf hbig hs1 hz0 hz2 hR hRd
  go_enter Tryz.func124, Tryz.ntmps124
  go_wp2_with fail
  refine (HPa.out s1 _).mono ?_
  rintro e w2 ⟨rfl, hb⟩
  have HB2 := Lib.hid (below_on (below_a w (.cells #[.int .u8 102, .string s1, .int .i64 0, .string ⟨#[]⟩, .slice (some ⟨g, 0, none⟩) (ps.list.length + 1) c] 173)) hb (by simp))
  have HN2 := Lib.hid (blk_next (heap_alloc_new w (.cells #[.int .u8 102, .string s1, .int .i64 0, .string ⟨#[]⟩, .slice (some ⟨g, 0, none⟩) (ps.list.length + 1) c] 173)) hb)
  clear hb
  go_wp2_with fail
  go_loopg [9] ps.list.length (fun g' v9 wr => ∃ q : Nat, q + g' = ps.list.length ∧ v9 = .int .i64 (q : Int) ∧ Hid (Below w2.heap.size w2 wr ∧ ∀ j u, j < q → ps.list[j]? = some u → scaI u.letter.toNat = true))
  case atStart => exact ⟨0, by omega, rfl, Below.refl _ _, fun j u hj => by omega⟩
  case round =>
    obtain ⟨q, hq, rfl, HR⟩ := hrel
    have HBr := Lib.hid (below_on HB2.out HR.out.1 HB2.out.size)
    have HNr := Lib.hid (blk_next HN2.out HR.out.1)
    by_cases hlt : q < ps.list.length
    · have hd : decide ((q : Int) < (ps.list.length : Int)) = true := by simp; omega
      obtain ⟨u, hu⟩ : ∃ u, ps.list[q]? = some u := ⟨_, List.getElem?_eq_getElem hlt⟩
      obtain ⟨a3, n3', c3, hn, hg, n0, n1, n2, n3, n4⟩ := (HP.out.keep (w' := wr) (fun j hj => HBr.out.block j hj)).at hu
      have HU := Lib.hid (And.intro hu (lst_wf ps u HWf.out.1 (List.mem_of_getElem? hu)))
      obtain ⟨y0, hy0⟩ : ∃ z : Int, (u.letter.toNat : Int) = z := ⟨_, rfl⟩
      obtain ⟨y2, hy2⟩ : ∃ z : Int, (u.count : Int) = z := ⟨_, rfl⟩
      rw [hy0] at n0
      rw [hy2] at n2
      have HY := Lib.hid hy0
      have hq0 : (0 : Int) ≤ (q : Int) := by omega
      have hql : (q : Int) < (ps.list.length : Int) := by omega
      have hwm : IntKind.i64.wrap ((q : Int) + 1) = ((q + 1 : Nat) : Int) := by rw [IntKind.wrap_i64]; omega
      have HM : Hid (ps.list.length - (q + 1) < gk ∧ q + 1 + (ps.list.length - (q + 1)) = ps.list.length) := ⟨by omega, by omega⟩
      have HSu := Lib.hid (HS.out y0 ⟨u.code.toArray⟩ y2 ⟨u.tag.toArray⟩ a3 n3' c3)
      clear hu hn hy0 hy2
      cases hsc : scaI y0
      · rw [hsc] at HSu
        have hRf : R = false := by
          rw [HRd.out]
          have h : ps.list.all (fun u => scaI u.letter.toNat) = false := by
            rw [List.all_eq_false]
            exact ⟨u, List.mem_of_getElem? HU.out.1, by rw [HY.out, hsc]; simp⟩
          rw [h]
          rfl
        subst hRf
        clear hsc
        go_wp2_with fail
        refine (HSu.out _).mono ?_
        rintro e w5 ⟨rfl, hb⟩
        have HB5 := Lib.hid (below_on (HBr.out.alloc HBr.out.size (.cells #[.int .u8 y0, .string ⟨u.code.toArray⟩, .int .i64 y2, .string ⟨u.tag.toArray⟩, .slice a3 n3' c3] 173)) hb (HBr.out.alloc HBr.out.size _).size)
        clear hb n0 n1 n2 n3 n4
        go_wp2_with fail
        go_ret
        exact ⟨rfl, HB5.out⟩
      · rw [hsc] at HSu
        have HSc := Lib.hid hsc
        clear hsc
        go_wp2_with fail
        refine (HSu.out _).mono ?_
        rintro e w5 ⟨rfl, hb⟩
        have HN5 : Hid (Below w2.heap.size w2 w5 ∧ ∀ j u, j < q + 1 → ps.list[j]? = some u → scaI u.letter.toNat = true) := ⟨below_on (HR.out.1.alloc HR.out.1.size (.cells #[.int .u8 y0, .string ⟨u.code.toArray⟩, .int .i64 y2, .string ⟨u.tag.toArray⟩, .slice a3 n3' c3] 173)) hb (HR.out.1.alloc HR.out.1.size _).size, fun j u' hj hu' => by
          by_cases e : j = q
          · subst e
            rw [HU.out.1] at hu'
            cases hu'
            rw [HY.out]; exact HSc.out
          · exact HR.out.2 j u' (by omega) hu'⟩
        clear hb n0 n1 n2 n3 n4
        go_wp2_with fail
        go_roundg (ps.list.length - (q + 1))
        case measure => exact HM.out.1
        case rel => exact ⟨q + 1, HM.out.2, rfl, HN5⟩
    · have hd : decide ((q : Int) < (ps.list.length : Int)) = false := by simp; omega
      have HAll : Hid (ps.list.all (fun u => scaI u.letter.toNat) = true) := List.all_eq_true.2 fun u hu => by
        obtain ⟨j, hj, e⟩ := List.getElem_of_mem hu
        exact HR.out.2 j u (by omega) (by rw [List.getElem?_eq_getElem hj, e])
      obtain ⟨n0, n1, n2, n3, n4, nf⟩ := five_cells HNr.out
      have hltr := (Array.getElem?_eq_some_iff.1 HNr.out).1
      clear nf
      go_wp2_with fail
      refine (HI'.out _ HBr.out).mono ?_
      rintro e w5 ⟨⟨a5, n5, c5, rfl⟩, hb⟩
      have HB5 := Lib.hid (below_on HBr.out hb HBr.out.size)
      have HN5 := Lib.hid (blk_next HNr.out hb)
      clear hb n0 n1 n2 n3 n4 hltr HI'
      have HA6 := Lib.hid (HB5.out.alloc HB5.out.size (.cells #[.int .u8 z0, .string ⟨r.code.toArray⟩, .int .i64 z2, .string ⟨r.tag.toArray⟩, .slice a5 n5 c5] 173))
      have HN6 := Lib.hid (blk_next HN5.out (below_a w5 (.cells #[.int .u8 z0, .string ⟨r.code.toArray⟩, .int .i64 z2, .string ⟨r.tag.toArray⟩, .slice a5 n5 c5] 173)))
      have HV6 := Lib.hid (heap_alloc_new w5 (.cells #[.int .u8 z0, .string ⟨r.code.toArray⟩, .int .i64 z2, .string ⟨r.tag.toArray⟩, .slice a5 n5 c5] 173))
      generalize hw6 : w5.alloc (.cells #[.int .u8 z0, .string ⟨r.code.toArray⟩, .int .i64 z2, .string ⟨r.tag.toArray⟩, .slice a5 n5 c5] 173) = w6 at HA6 HN6 HV6
      obtain ⟨n0, n1, n2, n3, n4, nf⟩ := five_cells HN6.out
      have hltr := (Array.getElem?_eq_some_iff.1 HN6.out).1
      have hltv := (Array.getElem?_eq_some_iff.1 HV6.out).1
      clear nf
      have HSr := Lib.hid (HS.out z0 ⟨r.code.toArray⟩ z2 ⟨r.tag.toArray⟩ a5 n5 c5)
      go_wp2_with fail
      refine (HPa.out s1 _).mono ?_
      rintro e w7 ⟨rfl, hb⟩
      have HB7 := Lib.hid (below_on HA6.out hb HA6.out.size)
      have HV7 := Lib.hid (blk_next HV6.out hb)
      clear hb n0 n1 n2 n3 n4 hltr hltv hw6
      obtain ⟨n0, n1, n2, n3, n4, nf⟩ := five_cells HV7.out
      have hltv := (Array.getElem?_eq_some_iff.1 HV7.out).1
      clear nf
      by_cases h8 : ps.list.length ≤ 8
      · have hd8 : decide ((ps.list.length : Int) ≤ 8) = true := by simp; omega
        have hRr : R = (scaI z0 || z0 == 118) := by
          rw [HRd.out, HAll.out, show decide (ps.list.length ≤ 8) = true by simp [h8]]
          rfl
        have HRr := Lib.hid hRr
        clear h8 hRr
        cases hsc : scaI z0
        · rw [hsc] at HSr
          cases h118 : z0 == 118
          all_goals
            have hRv : R = _ := HRr.out.trans (by rw [hsc, h118])
            rw [Bool.false_or] at hRv
            subst hRv
            clear hsc
            go_wp2_with fail
            refine (HSr.out _).mono ?_
            rintro e w8 ⟨rfl, hb⟩
            have HB8 := Lib.hid (below_on HB7.out hb HB7.out.size)
            have HV8 := Lib.hid (blk_next HV7.out hb)
            clear hb n0 n1 n2 n3 n4 hltv
            obtain ⟨n0, n1, n2, n3, n4, nf⟩ := five_cells HV8.out
            have hltv := (Array.getElem?_eq_some_iff.1 HV8.out).1
            clear nf
            go_wp2_with fail
            go_ret
            exact ⟨rfl, HB8.out⟩
        · rw [hsc] at HSr
          have hRv : R = true := HRr.out.trans (by rw [hsc, Bool.true_or])
          subst hRv
          clear hsc
          go_wp2_with fail
          refine (HSr.out _).mono ?_
          rintro e w8 ⟨rfl, hb⟩
          have HB8 := Lib.hid (below_on HB7.out hb HB7.out.size)
          clear hb n0 n1 n2 n3 n4 hltv
          go_wp2_with fail
          go_ret
          exact ⟨rfl, HB8.out⟩
      · have hd8 : decide ((ps.list.length : Int) ≤ 8) = false := by simp; omega
        have hRf : R = false := by
          rw [HRd.out, show decide (ps.list.length ≤ 8) = false by simp; omega]
          simp
        subst hRf
        clear h8
        go_wp2_with fail
        go_ret
        exact ⟨rfl, HB7.out⟩
/-- An array that may be. -/
theorem c_fitArX (k : Nat) (u : Ty) (hwf : (Ty.arr k u).wf) (a : Option Addr) (n c : Nat) (w : World) (hN : NdIn (.arr k u) (.slice a n c) w) :
    Calls Tryz.prog 123 #[nT (.arr k u) a n c] w fun e w' => e = .returned (.bool (!badT (.arr k u))) ∧ Below w.heap.size w w' := by
  have HI := Lib.hid (fun w' (hb : Below w.heap.size w w') => c_inner (fun j => j < w'.heap.size) (.arr k u) _ w' (nd_all _ _ _ _ w w' hN hb) [] u rfl (by simp))
  have HO := Lib.hid c_isObject
  have hRd : (!badT (.arr k u)) = (decide (1 ≤ (k : Int)) && decide ((k : Int) ≤ 65536) && objI u.letter.toNat) := by
    unfold badT
    rw [Bool.not_not, show decide (1 ≤ (k : Int)) = decide (1 ≤ k) from decide_eq_decide.2 (by omega), show decide ((k : Int) ≤ 65536) = decide (k ≤ 65536) from decide_eq_decide.2 (by omega)]
  show Calls _ _ #[nV 97 ⟨(Ty.arr k u).code.toArray⟩ (k : Int) ⟨#[]⟩ a n c] w fun e w' => e = .returned (.bool (!badT (.arr k u))) ∧ Below w.heap.size w w'
  rw [hRd]
  obtain ⟨s1, hs1⟩ : ∃ s1, (⟨(Ty.arr k u).code.toArray⟩ : ByteArray) = s1 := ⟨_, rfl⟩
  obtain ⟨z0, hz0⟩ : ∃ z : Int, (u.letter.toNat : Int) = z := ⟨_, rfl⟩
  obtain ⟨z2, hz2⟩ : ∃ z : Int, (u.count : Int) = z := ⟨_, rfl⟩
  obtain ⟨x2, hx2⟩ : ∃ z : Int, (k : Int) = z := ⟨_, rfl⟩
  have HI' : Hid (∀ w', Below w.heap.size w w' → Calls Tryz.prog 104 #[nV 97 s1 x2 ⟨#[]⟩ a n c] w' fun e w'' => (∃ a n c, e = .returned (nV z0 ⟨u.code.toArray⟩ z2 ⟨u.tag.toArray⟩ a n c)) ∧ Below w'.heap.size w' w'') := fun w' hb => by
    have h := HI.out w' hb
    rw [nd_val] at h
    rw [← hs1, ← hx2]
    refine h.mono fun e w'' h => ?_
    obtain ⟨⟨a', n', c', h1, h2⟩, h3⟩ := h
    rw [nd_val, hz0, hz2] at h1
    exact ⟨⟨a', n', c', h1⟩, h3⟩
  rw [hs1, hx2, hz0]
  clear hN HI hwf hs1 hz0 hz2 hx2 hRd
  cases h1 : decide (1 ≤ x2)
  · go_enter Tryz.func123, Tryz.ntmps123
    go_wp2_with fail
    go_ret
    exact ⟨rfl, below_a _ _⟩
  · cases h2 : decide (x2 ≤ 65536)
    · go_enter Tryz.func123, Tryz.ntmps123
      go_wp2_with fail
      go_ret
      exact ⟨rfl, below_a _ _⟩
    · obtain ⟨qo, hqo⟩ : ∃ q, objI z0 = q := ⟨_, rfl⟩
      rw [hqo]
      have HOu := Lib.hid (HO.out z0 ⟨u.code.toArray⟩ z2 ⟨u.tag.toArray⟩)
      rw [hqo] at HOu
      clear hqo HO
      go_enter Tryz.func123, Tryz.ntmps123
      go_wp2_with fail
      refine (HI'.out _ (below_a _ _)).mono ?_
      rintro e w2 ⟨⟨a2, n2, c2, rfl⟩, hb⟩
      have HB2 := Lib.hid (below_on (below_a w (.cells #[.int .u8 97, .string s1, .int .i64 x2, .string ⟨#[]⟩, .slice a n c] 173)) hb (by simp))
      clear hb
      go_wp2_with fail
      refine (HOu.out a2 n2 c2 _).mono ?_
      rintro e w3 ⟨rfl, hb⟩
      have HB3 := Lib.hid (below_on HB2.out hb HB2.out.size)
      clear hb
      go_wp2_with fail
      go_ret
      exact ⟨by simp, HB3.out⟩
end Go.Proofs.YtjadckhngalmlaaGreatDoor
namespace Go.Proofs.YtjadckhngalmlaaGreatDoor
set_option linter.unusedVariables false
set_option linter.unusedSimpArgs false
set_option maxRecDepth 100000
open Go.RowKit

abbrev exV (r : Nat × Nat × Nat × Bool) : Value := .tuple #[.agg #[.int .i64 r.1, .int .i64 r.2.1, .int .i64 r.2.2.1], .bool r.2.2.2]
def ExX (L : List LayP) (ka : Option Addr) (kc : Nat) (m : Nat) : Prop := ∀ (t : Ty) (a : Option Addr) (n c : Nat) (w : World), t.size ≤ m → t.wf → NdIn t (.slice a n c) w → KnIn L ka w →
  Calls Tryz.prog 97 #[.slice ka L.length kc, nT t a n c] w fun e w' => e = .returned (exV (extT L t)) ∧ Below w.heap.size w w'
theorem wrap_mul (x n : Nat) (hx : x ≤ 65537) (hn : n ≤ 1099511627776) : wrap64 ((x : Int) * (n : Int)) = ((x * n : Nat) : Int) := by
  have h1 : x * n ≤ 65537 * 1099511627776 := Nat.mul_le_mul hx hn
  have h2 : ((x * n : Nat) : Int) = (x : Int) * (n : Int) := by simp
  rw [← h2]
  unfold wrap64
  omega
set_option maxHeartbeats 2000000 in
theorem c_timesX (x y z n : Nat) (hx : x ≤ 65537) (hz : z ≤ 65537) (hn : n ≤ 1099511627776) (w : World) : Calls Tryz.prog 108 #[.agg #[.int .i64 x, .int .i64 y, .int .i64 z], .int .i64 n] w fun e w' => e = .returned (.agg #[.int .i64 ((min (x * n) 65537 : Nat) : Int), .int .i64 y, .int .i64 ((min (z * n) 65537 : Nat) : Int)]) ∧ Below w.heap.size w w' := by
  have e1 := wrap_mul x n hx hn
  have e2 := wrap_mul z n hz hn
  have m1 : min ((x * n : Nat) : Int) 65537 = ((min (x * n) 65537 : Nat) : Int) := by omega
  have m2 : min ((z * n : Nat) : Int) 65537 = ((min (z * n) 65537 : Nat) : Int) := by omega
  rw [← m1, ← m2, ← e1, ← e2]
  obtain ⟨xI, hxI⟩ : ∃ xI : Int, (x : Int) = xI := ⟨_, rfl⟩
  obtain ⟨yI, hyI⟩ : ∃ yI : Int, (y : Int) = yI := ⟨_, rfl⟩
  obtain ⟨zI, hzI⟩ : ∃ zI : Int, (z : Int) = zI := ⟨_, rfl⟩
  obtain ⟨nI, hnI⟩ : ∃ nI : Int, (n : Int) = nI := ⟨_, rfl⟩
  rw [hxI, hyI, hzI, hnI]
  clear e1 e2 m1 m2 hxI hyI hzI hnI hx hz hn
  go_enter Tryz.func108, Tryz.ntmps108
  go_wp2_with fail
  refine bodyPost_ret (v := .agg #[.int .i64 (min (wrap64 (xI * nI)) 65537), .int .i64 yI, .int .i64 (min (wrap64 (zI * nI)) 65537)]) (by simp [results, Tryz.results108, go_sem]) rfl ?_
  exact ⟨rfl, (below_a _ _).alloc (by simp) _⟩
set_option maxHeartbeats 4000000 in
theorem extentX_succ (L : List LayP) (ka : Option Addr) (kc : Nat) (hkc : L.length ≤ kc) (hL : GdL L) (hll : L.length ≤ 65536) (m : Nat) (hD : ExX L ka kc m) : ExX L ka kc (m + 1) := fun t a n c w hsz hwf hN hK => by
  have hz : ∀ (x0 : Int) (r : Nat × Nat × Nat × Bool), (t.letter.toNat : Int) = x0 → ((x0 = 99 ∧ r = (1, 1, 1, true)) ∨ (x0 = 115 ∧ r = (2, 2, 1, true)) ∨ (x0 = 105 ∧ r = (4, 4, 1, true)) ∨ (x0 = 117 ∧ r = (4, 4, 1, true)) ∨ (x0 = 112 ∧ r = (4, 4, 1, true)) ∨ (x0 = 106 ∧ r = (64, 4, 0, true)) ∨ (x0 = 118 ∧ r = (0, 0, 0, false)) ∨ (x0 = 102 ∧ r = (0, 0, 0, false))) → extT L t = r → Calls Tryz.prog 97 #[.slice ka L.length kc, nT t a n c] w fun e w' => e = .returned (exV (extT L t)) ∧ Below w.heap.size w w' := fun x0 r hx0 h1 hr => by
    rw [hr]
    unfold nT
    rw [hx0]
    obtain ⟨x2, hx2⟩ : ∃ x2 : Int, (t.count : Int) = x2 := ⟨_, rfl⟩
    obtain ⟨s1, hs1⟩ : ∃ s1, (⟨t.code.toArray⟩ : ByteArray) = s1 := ⟨_, rfl⟩
    obtain ⟨s3, hs3⟩ : ∃ s3, (⟨t.tag.toArray⟩ : ByteArray) = s3 := ⟨_, rfl⟩
    rw [hx2, hs1, hs3]
    clear hN hD hsz hwf hx0 hx2 hs1 hs3 hr hK hL hll hkc
    rcases h1 with ⟨rfl, rfl⟩ | ⟨rfl, rfl⟩ | ⟨rfl, rfl⟩ | ⟨rfl, rfl⟩ | ⟨rfl, rfl⟩ | ⟨rfl, rfl⟩ | ⟨rfl, rfl⟩ | ⟨rfl, rfl⟩
    · go_enter Tryz.func97, Tryz.ntmps97
      go_wp2_with fail
      refine bodyPost_ret (v := .tuple #[.agg #[.int .i64 1, .int .i64 1, .int .i64 1], .bool true]) (by simp [results, Tryz.results97, go_sem]) rfl ?_
      exact ⟨rfl, (below_a _ _).alloc (by simp) _⟩
    · go_enter Tryz.func97, Tryz.ntmps97
      go_wp2_with fail
      refine bodyPost_ret (v := .tuple #[.agg #[.int .i64 2, .int .i64 2, .int .i64 1], .bool true]) (by simp [results, Tryz.results97, go_sem]) rfl ?_
      exact ⟨rfl, (below_a _ _).alloc (by simp) _⟩
    · go_enter Tryz.func97, Tryz.ntmps97
      go_wp2_with fail
      refine bodyPost_ret (v := .tuple #[.agg #[.int .i64 4, .int .i64 4, .int .i64 1], .bool true]) (by simp [results, Tryz.results97, go_sem]) rfl ?_
      exact ⟨rfl, (below_a _ _).alloc (by simp) _⟩
    · go_enter Tryz.func97, Tryz.ntmps97
      go_wp2_with fail
      refine bodyPost_ret (v := .tuple #[.agg #[.int .i64 4, .int .i64 4, .int .i64 1], .bool true]) (by simp [results, Tryz.results97, go_sem]) rfl ?_
      exact ⟨rfl, (below_a _ _).alloc (by simp) _⟩
    · go_enter Tryz.func97, Tryz.ntmps97
      go_wp2_with fail
      refine bodyPost_ret (v := .tuple #[.agg #[.int .i64 4, .int .i64 4, .int .i64 1], .bool true]) (by simp [results, Tryz.results97, go_sem]) rfl ?_
      exact ⟨rfl, (below_a _ _).alloc (by simp) _⟩
    · go_enter Tryz.func97, Tryz.ntmps97
      go_wp2_with fail
      refine bodyPost_ret (v := .tuple #[.agg #[.int .i64 64, .int .i64 4, .int .i64 0], .bool true]) (by simp [results, Tryz.results97, go_sem]) rfl ?_
      exact ⟨rfl, (below_a _ _).alloc (by simp) _⟩
    · go_enter Tryz.func97, Tryz.ntmps97
      go_wp2_with fail
      refine bodyPost_ret (v := .tuple #[.agg #[.int .i64 0, .int .i64 0, .int .i64 0], .bool false]) (by simp [results, Tryz.results97, go_sem]) rfl ?_
      exact ⟨rfl, (below_a _ _).alloc (by simp) _⟩
    · go_enter Tryz.func97, Tryz.ntmps97
      go_wp2_with fail
      refine bodyPost_ret (v := .tuple #[.agg #[.int .i64 0, .int .i64 0, .int .i64 0], .bool false]) (by simp [results, Tryz.results97, go_sem]) rfl ?_
      exact ⟨rfl, (below_a _ _).alloc (by simp) _⟩
  cases t with
  | ptr u => exact hz 112 (4, 4, 1, true) rfl (by simp) rfl
  | fn ps r => exact hz 102 (0, 0, 0, false) rfl (by simp) rfl
  | base x =>
    have hc : baseC x = true := hwf
    unfold baseC at hc
    simp at hc
    rcases hc with ((((hc | hc) | hc) | hc) | hc) | hc
    · subst hc; exact hz 118 (0, 0, 0, false) rfl (by simp) rfl
    · subst hc; exact hz 99 (1, 1, 1, true) rfl (by simp) rfl
    · subst hc; exact hz 115 (2, 2, 1, true) rfl (by simp) rfl
    · subst hc; exact hz 105 (4, 4, 1, true) rfl (by simp) rfl
    · subst hc; exact hz 117 (4, 4, 1, true) rfl (by simp) rfl
    · subst hc; exact hz 106 (64, 4, 0, true) rfl (by simp) rfl
  | str s =>
    have HF := Lib.hid (fun w' (hb : Below w.heap.size w w') => c_findX L ka kc hkc s w' (hK.next hb) hll)
    obtain ⟨s1, hs1⟩ : ∃ s1, (⟨(Ty.str s).code.toArray⟩ : ByteArray) = s1 := ⟨_, rfl⟩
    obtain ⟨N, hN1⟩ : ∃ N, L.length = N := ⟨_, rfl⟩
    obtain ⟨E, hE⟩ : ∃ E, extT L (.str s) = E := ⟨_, rfl⟩
    have HE : Hid (E = match findL L s with
      | some x => (x.bytes, x.align, x.scal, true)
      | none => (0, 0, 0, false)) := hE.symm
    show Calls _ _ #[_, nV 83 ⟨(Ty.str s).code.toArray⟩ 0 ⟨s.toArray⟩ a n c] w fun e w' => e = .returned (exV (extT L (.str s))) ∧ Below w.heap.size w w'
    rw [hs1, hE]
    rw [hN1] at HF ⊢
    clear hz hN hD hsz hwf hs1 hK hL hll hkc hN1 hE
    go_enter Tryz.func97, Tryz.ntmps97
    go_wp2_with fail
    refine (HF.out _ ((below_a _ _).alloc (by simp) _)).mono ?_
    rintro e w2 ⟨hfd, hb⟩
    have hs := hb.size
    simp at hs
    have hlt : w.heap.size < w2.heap.size := by omega
    have hlt1 : w.heap.size + 1 < w2.heap.size := by omega
    have r0 : w2.cell? ⟨w.heap.size + 1, 0, none⟩ = some (.int .i64 0) := (cell_of_blk (hb.block _ (by simp)) 0).trans (by simp)
    have r1 : w2.cell? ⟨w.heap.size + 1, 1, none⟩ = some (.int .i64 0) := (cell_of_blk (hb.block _ (by simp)) 1).trans (by simp)
    have r2 : w2.cell? ⟨w.heap.size + 1, 2, none⟩ = some (.int .i64 0) := (cell_of_blk (hb.block _ (by simp)) 2).trans (by simp)
    have f0 : w2.frozen? ⟨w.heap.size + 1, 0, none⟩ = false := (frozen_of_blk (hb.block _ (by simp)) 0).trans (by simp)
    have f1 : w2.frozen? ⟨w.heap.size + 1, 1, none⟩ = false := (frozen_of_blk (hb.block _ (by simp)) 1).trans (by simp)
    have f2 : w2.frozen? ⟨w.heap.size + 1, 2, none⟩ = false := (frozen_of_blk (hb.block _ (by simp)) 2).trans (by simp)
    have HB : Hid (Below w.heap.size w w2) := below_on ((below_a w (.cells #[.int .u8 83, .string s1, .int .i64 0, .string ⟨s.toArray⟩, .slice a n c] 173)).alloc (by simp) (.cells #[.int .i64 0, .int .i64 0, .int .i64 0] 149)) hb (by simp; omega)
    clear hb hs HF
    rcases hfd with ⟨x, ma, mc, hx, rfl, _⟩ | ⟨hx, rfl⟩
    · have hq : E = (x.bytes, x.align, x.scal, true) := by rw [HE.out, hx]
      subst hq
      clear hx HE
      obtain ⟨x0, hx0⟩ : ∃ x0 : Int, (x.bytes : Int) = x0 := ⟨_, rfl⟩
      obtain ⟨x1, hx1⟩ : ∃ x1 : Int, (x.align : Int) = x1 := ⟨_, rfl⟩
      obtain ⟨x2, hx2⟩ : ∃ x2 : Int, (x.scal : Int) = x2 := ⟨_, rfl⟩
      have HXs := Lib.hid (And.intro hx0 (And.intro hx1 hx2))
      rw [hx0, hx1, hx2]
      clear hx0 hx1 hx2
      go_wp2_with fail
      refine bodyPost_ret (v := .tuple #[.agg #[.int .i64 x0, .int .i64 x1, .int .i64 x2], .bool true]) (by simp [results, Tryz.results97, go_sem, r0, r1, r2, hlt1]) rfl ?_
      refine ⟨by obtain ⟨g0, g1, g2⟩ := HXs.out; rw [← g0, ← g1, ← g2], ?_⟩
      exact (((HB.out.setCell (p := ⟨w.heap.size + 1, 0, none⟩) (by simp) _).setCell (p := ⟨w.heap.size + 1, 1, none⟩) (by simp) _).setCell (p := ⟨w.heap.size + 1, 2, none⟩) (by simp) _).alloc (by simp; omega) _
    · have hq : E = (0, 0, 0, false) := by rw [HE.out, hx]
      subst hq
      clear hx HE
      go_wp2_with fail
      refine bodyPost_ret (v := .tuple #[.agg #[.int .i64 0, .int .i64 0, .int .i64 0], .bool false]) (by simp [results, Tryz.results97, go_sem, r0, r1, r2, hlt1]) rfl ?_
      refine ⟨rfl, ?_⟩
      exact (((HB.out.setCell (p := ⟨w.heap.size + 1, 0, none⟩) (by simp) _).setCell (p := ⟨w.heap.size + 1, 1, none⟩) (by simp) _).setCell (p := ⟨w.heap.size + 1, 2, none⟩) (by simp) _).alloc (by simp; omega) _
  | arr k u =>
    have hNu : ∀ w', Below w.heap.size w w' → NdIn (.arr k u) (.slice a n c) w' := fun w' hb => Nd.mono hN (fun j hj => Nat.lt_of_lt_of_le hj hb.size) (fun j hj => hb.block j hj)
    have HI := Lib.hid (fun w' (hb : Below w.heap.size w w') => c_inner (fun j => j < w'.heap.size) (.arr k u) (.slice a n c) w' (hNu w' hb) [] u rfl (by simp))
    have HD := Lib.hid (fun a n c w' (hb : Below w.heap.size w w') hn => hD u a n c w' (by have h : u.size + 1 ≤ m + 1 := hsz; omega) hwf.2 hn (hK.next hb))
    have hbd := ext_bd hL u
    obtain ⟨⟨y1, y2, y3, q⟩, hE⟩ : ∃ E, extT L u = E := ⟨_, rfl⟩
    have hEa : extT L (.arr k u) = (min (y1 * k) 65537, y2, min (y3 * k) 65537, q) := by show (min ((extT L u).1 * k) 65537, (extT L u).2.1, min ((extT L u).2.2.1 * k) 65537, (extT L u).2.2.2) = _; rw [hE]
    rw [hE] at HD hbd
    have HT := Lib.hid (c_timesX y1 y2 y3 k hbd.1 (Nat.le_trans hbd.2.2 hbd.1) hwf.1)
    rw [hEa]
    obtain ⟨z0, hz0⟩ : ∃ z : Int, (u.letter.toNat : Int) = z := ⟨_, rfl⟩
    obtain ⟨z2, hz2⟩ : ∃ z : Int, (u.count : Int) = z := ⟨_, rfl⟩
    obtain ⟨x2, hx2⟩ : ∃ x2 : Int, (k : Int) = x2 := ⟨_, rfl⟩
    obtain ⟨s1, hs1⟩ : ∃ s1, (⟨(Ty.arr k u).code.toArray⟩ : ByteArray) = s1 := ⟨_, rfl⟩
    have HI' : Hid (∀ w', Below w.heap.size w w' → Calls Tryz.prog 104 #[nV 97 s1 x2 ⟨#[]⟩ a n c] w' fun e w'' => (∃ a n c, e = .returned (nV z0 ⟨u.code.toArray⟩ z2 ⟨u.tag.toArray⟩ a n c) ∧ NdIn u (.slice a n c) w'') ∧ Below w'.heap.size w' w'') := fun w' hb => by
      have h := HI.out w' hb
      rw [nd_val] at h
      rw [← hs1, ← hx2]
      refine h.mono fun e w'' h => ?_
      obtain ⟨⟨a', n', c', h1, h2⟩, h3⟩ := h
      rw [nd_val, hz0, hz2] at h1
      exact ⟨⟨a', n', c', h1, NdIn.next h2 h3⟩, h3⟩
    have HD' : Hid (∀ a n c w', Below w.heap.size w w' → NdIn u (.slice a n c) w' → Calls Tryz.prog 97 #[.slice ka L.length kc, nV z0 ⟨u.code.toArray⟩ z2 ⟨u.tag.toArray⟩ a n c] w' fun e w'' => e = .returned (exV (y1, y2, y3, q)) ∧ Below w'.heap.size w' w'') := fun a n c w' hb hn => by
      have h := HD.out a n c w' hb hn
      unfold nT at h
      rw [hz0, hz2] at h
      exact h
    show Calls _ _ #[_, nV 97 ⟨(Ty.arr k u).code.toArray⟩ (k : Int) ⟨#[]⟩ a n c] w fun e w' => e = .returned (exV (min (y1 * k) 65537, y2, min (y3 * k) 65537, q)) ∧ Below w.heap.size w w'
    obtain ⟨N, hN1⟩ : ∃ N, L.length = N := ⟨_, rfl⟩
    obtain ⟨v1, hv1⟩ : ∃ v, min (y1 * k) 65537 = v := ⟨_, rfl⟩
    obtain ⟨v3, hv3⟩ : ∃ v, min (y3 * k) 65537 = v := ⟨_, rfl⟩
    rw [hN1] at HD' ⊢
    rw [hv1, hv3] at HT ⊢
    rw [hx2] at HT
    rw [hx2, hs1]
    clear hz hN hD hsz hwf hs1 hx2 hz0 hz2 HI HD hNu hK hL hll hkc hN1 hE hEa hbd hv1 hv3
    go_enter Tryz.func97, Tryz.ntmps97
    go_wp2_with fail
    have hA : Below w.heap.size w ((w.alloc (.cells #[.int .u8 97, .string s1, .int .i64 x2, .string ⟨#[]⟩, .slice a n c] 173)).alloc (.cells #[.int .i64 0, .int .i64 0, .int .i64 0] 149)) := (below_a w _).alloc (by simp) _
    have HN0 : Hid (((w.alloc (.cells #[.int .u8 97, .string s1, .int .i64 x2, .string ⟨#[]⟩, .slice a n c] 173)).alloc (.cells #[.int .i64 0, .int .i64 0, .int .i64 0] 149)).heap[w.heap.size]? = some (.cells #[.int .u8 97, .string s1, .int .i64 x2, .string ⟨#[]⟩, .slice a n c] 173)) := (Below.heap_alloc _ _ _ (by simp)).trans (heap_alloc_new w _)
    have HR0 : Hid (((w.alloc (.cells #[.int .u8 97, .string s1, .int .i64 x2, .string ⟨#[]⟩, .slice a n c] 173)).alloc (.cells #[.int .i64 0, .int .i64 0, .int .i64 0] 149)).heap[w.heap.size + 1]? = some (.cells #[.int .i64 0, .int .i64 0, .int .i64 0] 149)) := new2 w _ _
    have HA := Lib.hid hA
    clear hA
    refine (HI'.out _ HA.out).mono ?_
    rintro e w2 ⟨⟨a', n', c', rfl, hn⟩, hb⟩
    have HB2 := Lib.hid (below_on HA.out hb (by simp; omega))
    have HN2 := Lib.hid (blk_next HN0.out hb)
    have HR2 := Lib.hid (blk_next HR0.out hb)
    have HDn := Lib.hid (HD'.out a' n' c' w2 HB2.out hn)
    clear hb hn HI' HA HN0 HR0 HD'
    go_wp2_with fail
    refine HDn.out.mono ?_
    rintro e w3 ⟨rfl, hb⟩
    have HB3 := Lib.hid (below_on HB2.out hb HB2.out.size)
    have HN3 := Lib.hid (blk_next HN2.out hb)
    have HR3 := Lib.hid (blk_next HR2.out hb)
    have hs3 : w.heap.size + 1 < w3.heap.size := (Array.getElem?_eq_some_iff.1 HR3.out).1
    have hs4 : w.heap.size < w3.heap.size := by omega
    clear hb HDn HB2 HN2 HR2
    obtain ⟨n0, n1, n2, n3, n4, nf⟩ := five_cells HN3.out
    go_wp2_with fail
    have HB4 := Lib.hid (below_on HB3.out (below_a w3 (.cells #[.int .i64 y1, .int .i64 y2, .int .i64 y3] 149)) HB3.out.size)
    have HR4 := Lib.hid (blk_next HR3.out (below_a w3 (.cells #[.int .i64 y1, .int .i64 y2, .int .i64 y3] 149)))
    refine (HT.out _).mono ?_
    rintro e w5 ⟨rfl, hb⟩
    have HB5 := Lib.hid (below_on HB4.out hb HB4.out.size)
    have hR5 := blk_next HR4.out hb
    clear hb HB4 HR4 HB3 HN3 HR3 n0 n1 n2 n3 n4 nf hs3 hs4
    have r0 : w5.cell? ⟨w.heap.size + 1, 0, none⟩ = some (.int .i64 0) := by rw [Lib.cell_of_heap hR5]; rfl
    have r1 : w5.cell? ⟨w.heap.size + 1, 1, none⟩ = some (.int .i64 0) := by rw [Lib.cell_of_heap hR5]; rfl
    have r2 : w5.cell? ⟨w.heap.size + 1, 2, none⟩ = some (.int .i64 0) := by rw [Lib.cell_of_heap hR5]; rfl
    have f0 := Lib.frozen_of_heap hR5 0
    have f1 := Lib.frozen_of_heap hR5 1
    have f2 := Lib.frozen_of_heap hR5 2
    clear hR5
    go_wp2_with fail
    refine bodyPost_ret (v := .tuple #[.agg #[.int .i64 v1, .int .i64 y2, .int .i64 v3], .bool q]) (by simp [results, Tryz.results97, go_sem, r0, r1, r2]) rfl ?_
    exact ⟨rfl, ((HB5.out.setCell (p := ⟨w.heap.size + 1, 0, none⟩) (by simp) _).setCell (p := ⟨w.heap.size + 1, 1, none⟩) (by simp) _).setCell (p := ⟨w.heap.size + 1, 2, none⟩) (by simp) _⟩
theorem c_extentX (L : List LayP) (ka : Option Addr) (kc : Nat) (hkc : L.length ≤ kc) (hL : GdL L) (hll : L.length ≤ 65536) : ∀ m, ExX L ka kc m
  | 0 => fun t a n c w hsz => by
    have : 1 ≤ t.size := by cases t <;> (unfold Ty.size; omega)
    omega
  | m + 1 => extentX_succ L ka kc hkc hL hll m (c_extentX L ka kc hkc hL hll m)
end Go.Proofs.YtjadckhngalmlaaGreatDoor
namespace Go.Proofs.YtjadckhngalmlaaGreatDoor
set_option linter.unusedVariables false
set_option linter.unusedSimpArgs false
set_option maxRecDepth 100000
open Go.RowKit

theorem any_of_take {l : List Ty} {f : Ty → Bool} {q : Nat} (h : (l.take (q + 1)).any f = ((l.take q).any f || true)) : l.any f = true := by
  rw [Bool.or_true, List.any_eq_true] at h
  obtain ⟨x, hx, hf⟩ := h
  exact List.any_eq_true.2 ⟨x, List.mem_of_mem_take hx, hf⟩
def GrX (L : List LayP) (ka : Option Addr) (kc : Nat) (m : Nat) : Prop := ∀ (t : Ty) (a : Option Addr) (n c : Nat) (w : World), t.size ≤ m → t.wf → NdIn t (.slice a n c) w → t.size ≤ 65536 → KnIn L ka w →
  Calls Tryz.prog 117 #[.slice ka L.length kc, nT t a n c] w fun e w' => e = .returned (.bool (anyT (grE L) t)) ∧ Below w.heap.size w w'
set_option maxHeartbeats 4000000 in
theorem greatX_succ (L : List LayP) (ka : Option Addr) (kc : Nat) (hkc : L.length ≤ kc) (hL : GdL L) (hll : L.length ≤ 65536) (m : Nat) (hD : GrX L ka kc m) : GrX L ka kc (m + 1) := fun t a n c w hsz hwf hN hbig hK => by
  obtain ⟨rfl, hc, hP⟩ := hN.allp
  have HP := Lib.hid hP
  have HD := Lib.hid hD
  have HSz := Lib.hid (And.intro hsz (And.intro hbig hwf))
  have hlen : t.parts.length ≤ 65536 := Nat.le_trans (parts_le t) hbig
  have HX := Lib.hid (fun w' (hb : Below w.heap.size w w') => c_extentX L ka kc hkc hL hll t.size t a t.parts.length c w' (Nat.le_refl _) hwf (hN.next hb) (hK.next hb))
  have HKn := Lib.hid (fun w' (hb : Below w.heap.size w w') => hK.next hb)
  have HAn : Hid (anyT (grE L) t = (((extT L t).2.2.2 && decide (65536 < (extT L t).1)) || t.parts.any (anyT (grE L)))) := anyT_eq (grE L) t
  obtain ⟨⟨E1, E2, E3, qx⟩, hE⟩ : ∃ E, extT L t = E := ⟨_, rfl⟩
  obtain ⟨R, hR⟩ : ∃ R, anyT (grE L) t = R := ⟨_, rfl⟩
  rw [hR]
  rw [hR, hE] at HAn
  rw [hE] at HX
  obtain ⟨y1, hy1⟩ : ∃ y : Int, (E1 : Int) = y := ⟨_, rfl⟩
  obtain ⟨y2, hy2⟩ : ∃ y : Int, (E2 : Int) = y := ⟨_, rfl⟩
  obtain ⟨y3, hy3⟩ : ∃ y : Int, (E3 : Int) = y := ⟨_, rfl⟩
  have HX' : Hid (∀ w', Below w.heap.size w w' → Calls Tryz.prog 97 #[.slice ka L.length kc, nT t a t.parts.length c] w' fun e w'' => e = .returned (.tuple #[.agg #[.int .i64 y1, .int .i64 y2, .int .i64 y3], .bool qx]) ∧ Below w'.heap.size w' w'') := fun w' hb => by
    rw [← hy1, ← hy2, ← hy3]
    exact HX.out w' hb
  have HY1 := Lib.hid hy1
  obtain ⟨N, hN1⟩ : ∃ N, L.length = N := ⟨_, rfl⟩
  obtain ⟨x0, hx0⟩ : ∃ x0 : Int, (t.letter.toNat : Int) = x0 := ⟨_, rfl⟩
  obtain ⟨x2, hx2⟩ : ∃ x2 : Int, (t.count : Int) = x2 := ⟨_, rfl⟩
  obtain ⟨s1, hs1⟩ : ∃ s1, (⟨t.code.toArray⟩ : ByteArray) = s1 := ⟨_, rfl⟩
  obtain ⟨s3, hs3⟩ : ∃ s3, (⟨t.tag.toArray⟩ : ByteArray) = s3 := ⟨_, rfl⟩
  unfold nT at HX' ⊢
  rw [hx0, hx2, hs1, hs3, hN1] at HX' ⊢
  have HDn : Hid (∀ (u : Ty) (a3 : Option Addr) (n3 c3 : Nat) (w' : World), Below w.heap.size w w' → u.size ≤ m → u.wf → NdIn u (.slice a3 n3 c3) w' → u.size ≤ 65536 → Calls Tryz.prog 117 #[.slice ka N kc, nT u a3 n3 c3] w' fun e w'' => e = .returned (.bool (anyT (grE L) u)) ∧ Below w'.heap.size w' w'') := fun u a3 n3 c3 w' hb h1 h2 h3 h4 => by
    have h := HD.out u a3 n3 c3 w' h1 h2 h3 h4 (HKn.out w' hb)
    rw [hN1] at h
    exact h
  clear hN hP hD hsz hbig hwf hx0 hx2 hs1 hs3 hK hL hll hkc hE hR hy1 hy2 hy3 HX HD
  go_enter Tryz.func117, Tryz.ntmps117
  go_wp2_with fail
  refine (HX'.out _ (below_a _ _)).mono ?_
  rintro e w2 ⟨rfl, hb⟩
  have HB2 := Lib.hid (below_on (below_a w (.cells #[.int .u8 x0, .string s1, .int .i64 x2, .string s3, .slice a t.parts.length c] 173)) hb (by simp))
  have HN2 := Lib.hid (blk_next (heap_alloc_new w (.cells #[.int .u8 x0, .string s1, .int .i64 x2, .string s3, .slice a t.parts.length c] 173)) hb)
  obtain ⟨n0, n1, n2, n3, n4, nf⟩ := five_cells HN2.out
  have hlt := (Array.getElem?_eq_some_iff.1 HN2.out).1
  clear hb nf
  cases qx
  · have HR0 := Lib.hid (show R = t.parts.any (anyT (grE L)) from by have h := HAn.out; simpa using h)
    go_wp2_with fail
    have HB3 := Lib.hid (HB2.out.alloc HB2.out.size (.cells #[.int .i64 y1, .int .i64 y2, .int .i64 y3] 149))
    clear n0 n1 n2 n3 n4 hlt
    go_loopg [24] t.parts.length (fun g v9 wr => ∃ q : Nat, q + g = t.parts.length ∧ v9 = .int .i64 (q : Int) ∧ Hid (Below w.heap.size w wr ∧ (t.parts.take q).any (anyT (grE L)) = false))
    case atStart => exact ⟨0, by omega, rfl, HB3.out, rfl⟩
    case round =>
      obtain ⟨q, hq, rfl, HR⟩ := hrel
      by_cases hlt : q < t.parts.length
      · have hd : decide ((q : Int) < (t.parts.length : Int)) = true := by simp; omega
        obtain ⟨u, hu⟩ : ∃ u, t.parts[q]? = some u := ⟨_, List.getElem?_eq_getElem hlt⟩
        obtain ⟨g, a3, n3', c3, ha, hn, hg, n0, n1, n2, n3, n4⟩ := HP.out.at (fun j hj => hj) (fun j hj => HR.out.1.block j hj) HR.out.1.size hu
        have hus := parts_sub t u (List.mem_of_getElem? hu)
        have huw := parts_wf t u HSz.out.2.2 (List.mem_of_getElem? hu)
        have HDu := Lib.hid (fun o => HDn.out u a3 n3' c3 (wr.alloc o) (HR.out.1.alloc HR.out.1.size _) (by have := HSz.out.1; omega) huw (hn.next (below_a _ _)) (by have := HSz.out.2.1; omega))
        have HTk := Lib.hid (any_take (f := anyT (grE L)) hu)
        obtain ⟨d', hd'⟩ : ∃ d, anyT (grE L) u = d := ⟨_, rfl⟩
        rw [hd'] at HDu HTk
        unfold nT at HDu
        obtain ⟨z0, hz0⟩ : ∃ z : Int, (u.letter.toNat : Int) = z := ⟨_, rfl⟩
        obtain ⟨z2, hz2⟩ : ∃ z : Int, (u.count : Int) = z := ⟨_, rfl⟩
        rw [hz0] at n0 HDu
        rw [hz2] at n2 HDu
        have hq0 : (0 : Int) ≤ (q : Int) := by omega
        have hql : (q : Int) < (t.parts.length : Int) := by omega
        have hwm : IntKind.i64.wrap ((q : Int) + 1) = ((q + 1 : Nat) : Int) := by rw [IntKind.wrap_i64]; omega
        have HM : Hid (t.parts.length - (q + 1) < gk ∧ q + 1 + (t.parts.length - (q + 1)) = t.parts.length) := ⟨by omega, by omega⟩
        subst ha
        clear hu hn hz0 hz2 hus huw hd'
        go_wp2_with fail
        refine (HDu.out _).mono ?_
        rintro e w5 ⟨rfl, hb⟩
        have HB5 := Lib.hid (below_on (HR.out.1.alloc HR.out.1.size (.cells #[.int .u8 z0, .string ⟨u.code.toArray⟩, .int .i64 z2, .string ⟨u.tag.toArray⟩, .slice a3 n3' c3] 173)) hb (HR.out.1.alloc HR.out.1.size _).size)
        clear hb n0 n1 n2 n3 n4
        cases d'
        · go_wp2_with fail
          go_roundg (t.parts.length - (q + 1))
          case measure => exact HM.out.1
          case rel => exact ⟨q + 1, HM.out.2, rfl, HB5.out, by rw [HTk.out, HR.out.2]; rfl⟩
        · have hRt : R = true := by rw [HR0.out, any_of_take HTk.out]
          subst hRt
          go_wp2_with fail
          go_ret
          exact ⟨rfl, HB5.out⟩
      · have hd : decide ((q : Int) < (t.parts.length : Int)) = false := by simp; omega
        have hRf : R = false := by
          have h := HR.out.2
          rw [show q = t.parts.length by omega, List.take_length] at h
          exact HR0.out.trans h
        subst hRf
        go_wp2_with fail
        go_ret
        exact ⟨rfl, HR.out.1⟩
  · cases hy : decide (65536 < y1)
    · have hR0 : R = t.parts.any (anyT (grE L)) := by
        have h := HAn.out
        have h2 : decide (65536 < E1) = false := by
          have h3 := HY1.out
          simp at hy ⊢
          omega
        rw [h2] at h
        simpa using h
      have HR0 := Lib.hid hR0
      clear hR0
      go_wp2_with fail
      have HB3 := Lib.hid (HB2.out.alloc HB2.out.size (.cells #[.int .i64 y1, .int .i64 y2, .int .i64 y3] 149))
      clear n0 n1 n2 n3 n4 hlt
      go_loopg [24] t.parts.length (fun g v9 wr => ∃ q : Nat, q + g = t.parts.length ∧ v9 = .int .i64 (q : Int) ∧ Hid (Below w.heap.size w wr ∧ (t.parts.take q).any (anyT (grE L)) = false))
      case atStart => exact ⟨0, by omega, rfl, HB3.out, rfl⟩
      case round =>
        obtain ⟨q, hq, rfl, HR⟩ := hrel
        by_cases hlt : q < t.parts.length
        · have hd : decide ((q : Int) < (t.parts.length : Int)) = true := by simp; omega
          obtain ⟨u, hu⟩ : ∃ u, t.parts[q]? = some u := ⟨_, List.getElem?_eq_getElem hlt⟩
          obtain ⟨g, a3, n3', c3, ha, hn, hg, n0, n1, n2, n3, n4⟩ := HP.out.at (fun j hj => hj) (fun j hj => HR.out.1.block j hj) HR.out.1.size hu
          have hus := parts_sub t u (List.mem_of_getElem? hu)
          have huw := parts_wf t u HSz.out.2.2 (List.mem_of_getElem? hu)
          have HDu := Lib.hid (fun o => HDn.out u a3 n3' c3 (wr.alloc o) (HR.out.1.alloc HR.out.1.size _) (by have := HSz.out.1; omega) huw (hn.next (below_a _ _)) (by have := HSz.out.2.1; omega))
          have HTk := Lib.hid (any_take (f := anyT (grE L)) hu)
          obtain ⟨d', hd'⟩ : ∃ d, anyT (grE L) u = d := ⟨_, rfl⟩
          rw [hd'] at HDu HTk
          unfold nT at HDu
          obtain ⟨z0, hz0⟩ : ∃ z : Int, (u.letter.toNat : Int) = z := ⟨_, rfl⟩
          obtain ⟨z2, hz2⟩ : ∃ z : Int, (u.count : Int) = z := ⟨_, rfl⟩
          rw [hz0] at n0 HDu
          rw [hz2] at n2 HDu
          have hq0 : (0 : Int) ≤ (q : Int) := by omega
          have hql : (q : Int) < (t.parts.length : Int) := by omega
          have hwm : IntKind.i64.wrap ((q : Int) + 1) = ((q + 1 : Nat) : Int) := by rw [IntKind.wrap_i64]; omega
          have HM : Hid (t.parts.length - (q + 1) < gk ∧ q + 1 + (t.parts.length - (q + 1)) = t.parts.length) := ⟨by omega, by omega⟩
          subst ha
          clear hu hn hz0 hz2 hus huw hd'
          go_wp2_with fail
          refine (HDu.out _).mono ?_
          rintro e w5 ⟨rfl, hb⟩
          have HB5 := Lib.hid (below_on (HR.out.1.alloc HR.out.1.size (.cells #[.int .u8 z0, .string ⟨u.code.toArray⟩, .int .i64 z2, .string ⟨u.tag.toArray⟩, .slice a3 n3' c3] 173)) hb (HR.out.1.alloc HR.out.1.size _).size)
          clear hb n0 n1 n2 n3 n4
          cases d'
          · go_wp2_with fail
            go_roundg (t.parts.length - (q + 1))
            case measure => exact HM.out.1
            case rel => exact ⟨q + 1, HM.out.2, rfl, HB5.out, by rw [HTk.out, HR.out.2]; rfl⟩
          · have hRt : R = true := by rw [HR0.out, any_of_take HTk.out]
            subst hRt
            go_wp2_with fail
            go_ret
            exact ⟨rfl, HB5.out⟩
        · have hd : decide ((q : Int) < (t.parts.length : Int)) = false := by simp; omega
          have hRf : R = false := by
            have h := HR.out.2
            rw [show q = t.parts.length by omega, List.take_length] at h
            exact HR0.out.trans h
          subst hRf
          go_wp2_with fail
          go_ret
          exact ⟨rfl, HR.out.1⟩
    · have hR0 : R = true := by
        have h := HAn.out
        have h2 : decide (65536 < E1) = true := by
          have h3 := HY1.out
          simp at hy ⊢
          omega
        rw [h2] at h
        simpa using h
      subst hR0
      go_wp2_with fail
      go_ret
      exact ⟨rfl, HB2.out.alloc HB2.out.size _⟩
theorem c_greatX (L : List LayP) (ka : Option Addr) (kc : Nat) (hkc : L.length ≤ kc) (hL : GdL L) (hll : L.length ≤ 65536) : ∀ m, GrX L ka kc m
  | 0 => fun t a n c w hsz => by
    have : 1 ≤ t.size := by cases t <;> (unfold Ty.size; omega)
    omega
  | m + 1 => greatX_succ L ka kc hkc hL hll m (c_greatX L ka kc hkc hL hll m)
end Go.Proofs.YtjadckhngalmlaaGreatDoor
namespace Go.Proofs.YtjadckhngalmlaaGreatDoor
set_option linter.unusedVariables false
set_option linter.unusedSimpArgs false
set_option maxRecDepth 100000
open Go.RowKit

def WmX (m : Nat) : Prop := ∀ (t : Ty) (a : Option Addr) (n c : Nat) (w : World), t.size ≤ m → t.wf → NdIn t (.slice a n c) w → t.size ≤ 65536 →
  Calls Tryz.prog 115 #[nT t a n c] w fun e w' => e = .returned (.bool (!anyT badT t)) ∧ Below w.heap.size w w'
set_option maxHeartbeats 8000000 in
theorem wmX_succ (m : Nat) (hD : WmX m) : WmX (m + 1) := fun t a n c w hsz hwf hN hbig => by
  have hNn := hN
  obtain ⟨rfl, hc, hP⟩ := hN.allp
  have HP := Lib.hid hP
  have HD := Lib.hid hD
  have HSz := Lib.hid (And.intro hsz (And.intro hbig hwf))
  have hlen : t.parts.length ≤ 65536 := Nat.le_trans (parts_le t) hbig
  obtain ⟨x0, hx0⟩ : ∃ x0 : Int, (t.letter.toNat : Int) = x0 := ⟨_, rfl⟩
  obtain ⟨x2, hx2⟩ : ∃ x2 : Int, (t.count : Int) = x2 := ⟨_, rfl⟩
  obtain ⟨s1, hs1⟩ : ∃ s1, (⟨t.code.toArray⟩ : ByteArray) = s1 := ⟨_, rfl⟩
  obtain ⟨s3, hs3⟩ : ∃ s3, (⟨t.tag.toArray⟩ : ByteArray) = s3 := ⟨_, rfl⟩
  have HAr : Hid (x0 = 97 → ∀ w', Below w.heap.size w w' → Calls Tryz.prog 123 #[nV x0 s1 x2 s3 a t.parts.length c] w' fun e w'' => e = .returned (.bool (!badT t)) ∧ Below w'.heap.size w' w'') := fun h w' hb => by
    cases t with
    | arr k u =>
      have h2 := c_fitArX k u hwf a _ c w' (nd_all _ _ _ _ w w' hNn hb)
      unfold nT at h2
      rw [hx0, hx2, hs1, hs3] at h2
      exact h2
    | ptr u => exact absurd (show (112 : Int) = 97 from hx0.trans h) (by decide)
    | str s => exact absurd (show (83 : Int) = 97 from hx0.trans h) (by decide)
    | fn ps r => exact absurd (show (102 : Int) = 97 from hx0.trans h) (by decide)
    | base y =>
      have hc : baseC y = true := hwf
      unfold baseC at hc
      simp at hc
      rcases hc with ((((hc | hc) | hc) | hc) | hc) | hc <;> (subst hc; exact absurd (hx0.trans h) (by decide))
  have HFn : Hid (x0 = 102 → ∀ w', Below w.heap.size w w' → Calls Tryz.prog 124 #[nV x0 s1 x2 s3 a t.parts.length c] w' fun e w'' => e = .returned (.bool (!badT t)) ∧ Below w'.heap.size w' w'') := fun h w' hb => by
    cases t with
    | fn ps r =>
      have h2 := c_fitFnX ps r hwf hbig a _ c w' (nd_all _ _ _ _ w w' hNn hb)
      unfold nT at h2
      rw [hx0, hx2, hs1, hs3] at h2
      exact h2
    | ptr u => exact absurd (show (112 : Int) = 102 from hx0.trans h) (by decide)
    | str s => exact absurd (show (83 : Int) = 102 from hx0.trans h) (by decide)
    | arr k u => exact absurd (show (97 : Int) = 102 from hx0.trans h) (by decide)
    | base y =>
      have hc : baseC y = true := hwf
      unfold baseC at hc
      simp at hc
      rcases hc with ((((hc | hc) | hc) | hc) | hc) | hc <;> (subst hc; exact absurd (hx0.trans h) (by decide))
  have HOt : Hid (x0 ≠ 97 → x0 ≠ 102 → badT t = false) := fun h1 h2 => by
    cases t with
    | arr k u => exact absurd hx0.symm h1
    | fn ps r => exact absurd hx0.symm h2
    | ptr u => rfl
    | str s => rfl
    | base y => rfl
  have HAn : Hid (anyT badT t = (badT t || t.parts.any (anyT badT))) := anyT_eq badT t
  obtain ⟨R, hR⟩ : ∃ R, (!anyT badT t) = R := ⟨_, rfl⟩
  obtain ⟨G, hG⟩ : ∃ G, (!badT t) = G := ⟨_, rfl⟩
  rw [hR]
  have HRd : Hid (R = (G && !(t.parts.any (anyT badT)))) := by rw [← hR, ← hG, HAn.out]; exact Lib.hid (by simp)
  rw [hG] at HAr HFn
  have HGo : Hid (x0 ≠ 97 → x0 ≠ 102 → G = true) := fun h1 h2 => by rw [← hG, HOt.out h1 h2]; rfl
  unfold nT
  rw [hx0, hx2, hs1, hs3]
  clear HAn HOt hR hG hN hNn hP hD hsz hbig hwf hx0 hx2 hs1 hs3
  by_cases h97 : x0 = 97
  · subst h97
    have HF := Lib.hid (HAr.out rfl)
    clear HAr HFn HGo
    go_enter Tryz.func115, Tryz.ntmps115
    go_wp2_with fail
    refine (HF.out _ (below_a _ _)).mono ?_
    rintro e w2 ⟨rfl, hb⟩
    have HB3 := Lib.hid (below_on (below_a w (.cells #[.int .u8 97, .string s1, .int .i64 x2, .string s3, .slice a t.parts.length c] 173)) hb (by simp))
    have HN2 := Lib.hid (blk_next (heap_alloc_new w (.cells #[.int .u8 97, .string s1, .int .i64 x2, .string s3, .slice a t.parts.length c] 173)) hb)
    clear hb HF
    obtain ⟨n0, n1, n2, n3, n4, nf⟩ := five_cells HN2.out
    have hlt2 := (Array.getElem?_eq_some_iff.1 HN2.out).1
    clear nf
    cases G
    · have hRv : R = false := HRd.out.trans rfl
      subst hRv
      go_wp2_with fail
      go_ret
      exact ⟨rfl, HB3.out⟩
    · have HR0 := Lib.hid (show R = !(t.parts.any (anyT badT)) from HRd.out.trans (Bool.true_and _))
      go_wp2_with fail
      clear n0 n1 n2 n3 n4 hlt2
      go_loopg [25] t.parts.length (fun g v9 wr => ∃ q : Nat, q + g = t.parts.length ∧ v9 = .int .i64 (q : Int) ∧ Hid (Below w.heap.size w wr ∧ (t.parts.take q).any (anyT badT) = false))
      case atStart => exact ⟨0, by omega, rfl, HB3.out, rfl⟩
      case round =>
        obtain ⟨q, hq, rfl, HR⟩ := hrel
        by_cases hlt : q < t.parts.length
        · have hd : decide ((q : Int) < (t.parts.length : Int)) = true := by simp; omega
          obtain ⟨u, hu⟩ : ∃ u, t.parts[q]? = some u := ⟨_, List.getElem?_eq_getElem hlt⟩
          obtain ⟨g, a3, n3', c3, ha, hn, hg, n0, n1, n2, n3, n4⟩ := HP.out.at (fun j hj => hj) (fun j hj => HR.out.1.block j hj) HR.out.1.size hu
          have hus := parts_sub t u (List.mem_of_getElem? hu)
          have huw := parts_wf t u HSz.out.2.2 (List.mem_of_getElem? hu)
          have HU := Lib.hid hu
          have HTk := Lib.hid (any_take (f := anyT badT) hu)
          have HDu := Lib.hid (fun o => HD.out u a3 n3' c3 (wr.alloc o) (by have := HSz.out.1; omega) huw (hn.next (below_a _ _)) (by have := HSz.out.2.1; omega))
          unfold nT at HDu
          obtain ⟨z0, hz0⟩ : ∃ z : Int, (u.letter.toNat : Int) = z := ⟨_, rfl⟩
          obtain ⟨z2, hz2⟩ : ∃ z : Int, (u.count : Int) = z := ⟨_, rfl⟩
          rw [hz0] at n0 HDu
          rw [hz2] at n2 HDu
          obtain ⟨d', hd'⟩ : ∃ d, anyT badT u = d := ⟨_, rfl⟩
          rw [hd'] at HDu HTk
          have hq0 : (0 : Int) ≤ (q : Int) := by omega
          have hql : (q : Int) < (t.parts.length : Int) := by omega
          have hwm : IntKind.i64.wrap ((q : Int) + 1) = ((q + 1 : Nat) : Int) := by rw [IntKind.wrap_i64]; omega
          have HM : Hid (t.parts.length - (q + 1) < gk ∧ q + 1 + (t.parts.length - (q + 1)) = t.parts.length) := ⟨by omega, by omega⟩
          subst ha
          clear hu hn hz0 hz2 hus huw hd'
          go_wp2_with fail
          refine (HDu.out _).mono ?_
          rintro e w5 ⟨rfl, hb⟩
          have HB5 := Lib.hid (below_on (HR.out.1.alloc HR.out.1.size (.cells #[.int .u8 z0, .string ⟨u.code.toArray⟩, .int .i64 z2, .string ⟨u.tag.toArray⟩, .slice a3 n3' c3] 173)) hb (HR.out.1.alloc HR.out.1.size _).size)
          clear hb n0 n1 n2 n3 n4
          cases d'
          · have HN5 : Hid (Below w.heap.size w w5 ∧ (t.parts.take (q + 1)).any (anyT badT) = false) := ⟨HB5.out, by rw [HTk.out, HR.out.2]; rfl⟩
            go_wp2_with fail
            go_roundg (t.parts.length - (q + 1))
            case measure => exact HM.out.1
            case rel => exact ⟨q + 1, HM.out.2, rfl, HN5⟩
          · have hRv : R = false := by rw [HR0.out, any_of_take HTk.out]; rfl
            subst hRv
            go_wp2_with fail
            go_ret
            exact ⟨rfl, HB5.out⟩
        · have hd : decide ((q : Int) < (t.parts.length : Int)) = false := by simp; omega
          have hRv : R = true := by
            have h := HR.out.2
            rw [show q = t.parts.length by omega, List.take_length] at h
            rw [HR0.out, h]
            rfl
          subst hRv
          go_wp2_with fail
          go_ret
          exact ⟨rfl, HR.out.1⟩
  · by_cases h102 : x0 = 102
    · subst h102
      have HF := Lib.hid (HFn.out rfl)
      clear HAr HFn HGo h97
      go_enter Tryz.func115, Tryz.ntmps115
      go_wp2_with fail
      refine (HF.out _ (below_a _ _)).mono ?_
      rintro e w2 ⟨rfl, hb⟩
      have HB3 := Lib.hid (below_on (below_a w (.cells #[.int .u8 102, .string s1, .int .i64 x2, .string s3, .slice a t.parts.length c] 173)) hb (by simp))
      have HN2 := Lib.hid (blk_next (heap_alloc_new w (.cells #[.int .u8 102, .string s1, .int .i64 x2, .string s3, .slice a t.parts.length c] 173)) hb)
      clear hb HF
      obtain ⟨n0, n1, n2, n3, n4, nf⟩ := five_cells HN2.out
      have hlt2 := (Array.getElem?_eq_some_iff.1 HN2.out).1
      clear nf
      cases G
      · have hRv : R = false := HRd.out.trans rfl
        subst hRv
        go_wp2_with fail
        go_ret
        exact ⟨rfl, HB3.out⟩
      · have HR0 := Lib.hid (show R = !(t.parts.any (anyT badT)) from HRd.out.trans (Bool.true_and _))
        go_wp2_with fail
        clear n0 n1 n2 n3 n4 hlt2
        go_loopg [25] t.parts.length (fun g v9 wr => ∃ q : Nat, q + g = t.parts.length ∧ v9 = .int .i64 (q : Int) ∧ Hid (Below w.heap.size w wr ∧ (t.parts.take q).any (anyT badT) = false))
        case atStart => exact ⟨0, by omega, rfl, HB3.out, rfl⟩
        case round =>
          obtain ⟨q, hq, rfl, HR⟩ := hrel
          by_cases hlt : q < t.parts.length
          · have hd : decide ((q : Int) < (t.parts.length : Int)) = true := by simp; omega
            obtain ⟨u, hu⟩ : ∃ u, t.parts[q]? = some u := ⟨_, List.getElem?_eq_getElem hlt⟩
            obtain ⟨g, a3, n3', c3, ha, hn, hg, n0, n1, n2, n3, n4⟩ := HP.out.at (fun j hj => hj) (fun j hj => HR.out.1.block j hj) HR.out.1.size hu
            have hus := parts_sub t u (List.mem_of_getElem? hu)
            have huw := parts_wf t u HSz.out.2.2 (List.mem_of_getElem? hu)
            have HU := Lib.hid hu
            have HTk := Lib.hid (any_take (f := anyT badT) hu)
            have HDu := Lib.hid (fun o => HD.out u a3 n3' c3 (wr.alloc o) (by have := HSz.out.1; omega) huw (hn.next (below_a _ _)) (by have := HSz.out.2.1; omega))
            unfold nT at HDu
            obtain ⟨z0, hz0⟩ : ∃ z : Int, (u.letter.toNat : Int) = z := ⟨_, rfl⟩
            obtain ⟨z2, hz2⟩ : ∃ z : Int, (u.count : Int) = z := ⟨_, rfl⟩
            rw [hz0] at n0 HDu
            rw [hz2] at n2 HDu
            obtain ⟨d', hd'⟩ : ∃ d, anyT badT u = d := ⟨_, rfl⟩
            rw [hd'] at HDu HTk
            have hq0 : (0 : Int) ≤ (q : Int) := by omega
            have hql : (q : Int) < (t.parts.length : Int) := by omega
            have hwm : IntKind.i64.wrap ((q : Int) + 1) = ((q + 1 : Nat) : Int) := by rw [IntKind.wrap_i64]; omega
            have HM : Hid (t.parts.length - (q + 1) < gk ∧ q + 1 + (t.parts.length - (q + 1)) = t.parts.length) := ⟨by omega, by omega⟩
            subst ha
            clear hu hn hz0 hz2 hus huw hd'
            go_wp2_with fail
            refine (HDu.out _).mono ?_
            rintro e w5 ⟨rfl, hb⟩
            have HB5 := Lib.hid (below_on (HR.out.1.alloc HR.out.1.size (.cells #[.int .u8 z0, .string ⟨u.code.toArray⟩, .int .i64 z2, .string ⟨u.tag.toArray⟩, .slice a3 n3' c3] 173)) hb (HR.out.1.alloc HR.out.1.size _).size)
            clear hb n0 n1 n2 n3 n4
            cases d'
            · have HN5 : Hid (Below w.heap.size w w5 ∧ (t.parts.take (q + 1)).any (anyT badT) = false) := ⟨HB5.out, by rw [HTk.out, HR.out.2]; rfl⟩
              go_wp2_with fail
              go_roundg (t.parts.length - (q + 1))
              case measure => exact HM.out.1
              case rel => exact ⟨q + 1, HM.out.2, rfl, HN5⟩
            · have hRv : R = false := by rw [HR0.out, any_of_take HTk.out]; rfl
              subst hRv
              go_wp2_with fail
              go_ret
              exact ⟨rfl, HB5.out⟩
          · have hd : decide ((q : Int) < (t.parts.length : Int)) = false := by simp; omega
            have hRv : R = true := by
              have h := HR.out.2
              rw [show q = t.parts.length by omega, List.take_length] at h
              rw [HR0.out, h]
              rfl
            subst hRv
            go_wp2_with fail
            go_ret
            exact ⟨rfl, HR.out.1⟩
    · have HR0 := Lib.hid (show R = !(t.parts.any (anyT badT)) from HRd.out.trans (by rw [HGo.out h97 h102]; exact Bool.true_and _))
      have e97 : (x0 == 97) = false := by simp [h97]
      have e102 : (x0 == 102) = false := by simp [h102]
      have HB3 := Lib.hid (below_a w (.cells #[.int .u8 x0, .string s1, .int .i64 x2, .string s3, .slice a t.parts.length c] 173))
      clear HAr HFn HGo h97 h102
      go_enter Tryz.func115, Tryz.ntmps115
      go_wp2_with fail
      go_loopg [25] t.parts.length (fun g v9 wr => ∃ q : Nat, q + g = t.parts.length ∧ v9 = .int .i64 (q : Int) ∧ Hid (Below w.heap.size w wr ∧ (t.parts.take q).any (anyT badT) = false))
      case atStart => exact ⟨0, by omega, rfl, HB3.out, rfl⟩
      case round =>
        obtain ⟨q, hq, rfl, HR⟩ := hrel
        by_cases hlt : q < t.parts.length
        · have hd : decide ((q : Int) < (t.parts.length : Int)) = true := by simp; omega
          obtain ⟨u, hu⟩ : ∃ u, t.parts[q]? = some u := ⟨_, List.getElem?_eq_getElem hlt⟩
          obtain ⟨g, a3, n3', c3, ha, hn, hg, n0, n1, n2, n3, n4⟩ := HP.out.at (fun j hj => hj) (fun j hj => HR.out.1.block j hj) HR.out.1.size hu
          have hus := parts_sub t u (List.mem_of_getElem? hu)
          have huw := parts_wf t u HSz.out.2.2 (List.mem_of_getElem? hu)
          have HU := Lib.hid hu
          have HTk := Lib.hid (any_take (f := anyT badT) hu)
          have HDu := Lib.hid (fun o => HD.out u a3 n3' c3 (wr.alloc o) (by have := HSz.out.1; omega) huw (hn.next (below_a _ _)) (by have := HSz.out.2.1; omega))
          unfold nT at HDu
          obtain ⟨z0, hz0⟩ : ∃ z : Int, (u.letter.toNat : Int) = z := ⟨_, rfl⟩
          obtain ⟨z2, hz2⟩ : ∃ z : Int, (u.count : Int) = z := ⟨_, rfl⟩
          rw [hz0] at n0 HDu
          rw [hz2] at n2 HDu
          obtain ⟨d', hd'⟩ : ∃ d, anyT badT u = d := ⟨_, rfl⟩
          rw [hd'] at HDu HTk
          have hq0 : (0 : Int) ≤ (q : Int) := by omega
          have hql : (q : Int) < (t.parts.length : Int) := by omega
          have hwm : IntKind.i64.wrap ((q : Int) + 1) = ((q + 1 : Nat) : Int) := by rw [IntKind.wrap_i64]; omega
          have HM : Hid (t.parts.length - (q + 1) < gk ∧ q + 1 + (t.parts.length - (q + 1)) = t.parts.length) := ⟨by omega, by omega⟩
          subst ha
          clear hu hn hz0 hz2 hus huw hd'
          go_wp2_with fail
          refine (HDu.out _).mono ?_
          rintro e w5 ⟨rfl, hb⟩
          have HB5 := Lib.hid (below_on (HR.out.1.alloc HR.out.1.size (.cells #[.int .u8 z0, .string ⟨u.code.toArray⟩, .int .i64 z2, .string ⟨u.tag.toArray⟩, .slice a3 n3' c3] 173)) hb (HR.out.1.alloc HR.out.1.size _).size)
          clear hb n0 n1 n2 n3 n4
          cases d'
          · have HN5 : Hid (Below w.heap.size w w5 ∧ (t.parts.take (q + 1)).any (anyT badT) = false) := ⟨HB5.out, by rw [HTk.out, HR.out.2]; rfl⟩
            go_wp2_with fail
            go_roundg (t.parts.length - (q + 1))
            case measure => exact HM.out.1
            case rel => exact ⟨q + 1, HM.out.2, rfl, HN5⟩
          · have hRv : R = false := by rw [HR0.out, any_of_take HTk.out]; rfl
            subst hRv
            go_wp2_with fail
            go_ret
            exact ⟨rfl, HB5.out⟩
        · have hd : decide ((q : Int) < (t.parts.length : Int)) = false := by simp; omega
          have hRv : R = true := by
            have h := HR.out.2
            rw [show q = t.parts.length by omega, List.take_length] at h
            rw [HR0.out, h]
            rfl
          subst hRv
          go_wp2_with fail
          go_ret
          exact ⟨rfl, HR.out.1⟩
theorem c_wmX : ∀ m, WmX m
  | 0 => fun t a n c w hsz => by
    have : 1 ≤ t.size := by cases t <;> (unfold Ty.size; omega)
    omega
  | m + 1 => wmX_succ m (c_wmX m)
end Go.Proofs.YtjadckhngalmlaaGreatDoor
namespace Go.Proofs.YtjadckhngalmlaaGreatDoor
set_option linter.unusedVariables false
set_option linter.unusedSimpArgs false
set_option maxRecDepth 100000
open Go.RowKit

/-- A node whose rows lie behind a block. -/
def NdX (X : Nat) (t : Ty) (v : Value) (w : World) : Prop := Nd (fun j => X < j ∧ j < w.heap.size) w t v
theorem NdX.in {X : Nat} {t : Ty} {v : Value} {w : World} (h : NdX X t v w) : NdIn t v w := Nd.mono h (fun j hj => hj.2) (fun _ _ => rfl)
theorem NdX.next {X : Nat} {t : Ty} {v : Value} {w w' : World} (h : NdX X t v w) (hb : Below w.heap.size w w') : NdX X t v w' := Nd.mono h (fun j hj => ⟨hj.1, Nat.lt_of_lt_of_le hj.2 hb.size⟩) (fun j hj => hb.block j hj.2)
theorem NdX.stp {X : Nat} {t : Ty} {v : Value} {w w' : World} (h : NdX X t v w) (hs : Stp X w w') : Nd (Fm X w') w' t v := Nd.mono h (fun j hj => ⟨by omega, by rw [hs.size]; exact hj.2⟩) (fun j hj => hs.blk j (by omega))
/-- What right answers. -/
def RnX (L : List LayP) (l : List UInt8) (w : World) (e : Ending) (w' : World) : Prop :=
  ((∃ t a n c, tk l = some t ∧ rgA L l = 0 ∧ e = .returned (.tuple #[nT t a n c, .int .i64 0]) ∧ Nd (Fm w.heap.size w') w' t (.slice a n c)) ∨ (rgA L l ≠ 0 ∧ e = .returned (.tuple #[nV 0 ⟨#[]⟩ 0 ⟨#[]⟩ none 0 0, .int .i64 (rgA L l)]))) ∧ Below w.heap.size w w'
set_option maxHeartbeats 8000000 in
theorem c_rightX (L : List LayP) (ka : Option Addr) (kc : Nat) (hkc : L.length ≤ kc) (hL : GdL L) (hll : L.length ≤ 65536) (B : Nat) (l : List UInt8) (w : World) (hE : Env B w) (hB : B ≤ w.heap.size) (hm : l.length ≤ 9223372036854775807) (hK : KnIn L ka w) :
    Calls Tryz.prog 109 #[.slice ka L.length kc, .string ⟨l.toArray⟩] w fun e w' => RnX L l w e w' := by
  have hEa := hE.next ((below_a w zOb).mono hB)
  rcases ho : tk l with _ | t
  · have HT := Lib.hid (c_tkN B l (w.alloc zOb) hEa (by simp; omega) hm ho)
    have HR0 : Hid (rgA L l = 2) := by show _ = _; unfold rgA; rw [ho]
    obtain ⟨N, hN1⟩ : ∃ N, L.length = N := ⟨_, rfl⟩
    rw [hN1]
    clear hE hEa ho hK hL hll hkc hN1
    go_enter Tryz.func109, Tryz.ntmps109
    go_wp2_with fail
    refine HT.out.mono ?_
    rintro e w1 ⟨rfl, hb⟩
    have HBk := Lib.hid (below_on (below_a w zOb) hb (by simp))
    have HRk := Lib.hid (blk_next (heap_alloc_new w zOb) hb)
    have hltk := (Array.getElem?_eq_some_iff.1 HRk.out).1
    clear hb HT
    obtain ⟨r0, r1, r2, r3, r4, rf⟩ := five_cells HRk.out
    have rf0 := rf 0
    have rf1 := rf 1
    have rf2 := rf 2
    have rf3 := rf 3
    have rf4 := rf 4
    clear rf
    go_wp2_with fail
    refine bodyPost_ret (v := .tuple #[nV 0 ⟨#[]⟩ 0 ⟨#[]⟩ none 0 0, .int .i64 2]) (by simp [results, Tryz.results109, go_sem, r0, r1, r2, r3, r4, hltk]) rfl ?_
    have hst := Stp.five0 w.heap.size w1 (.int .u8 0) (.string ⟨#[]⟩) (.int .i64 0) (.string ⟨#[]⟩) (.slice none 0 0)
    exact ⟨.inr ⟨by rw [HR0.out]; decide, by rw [HR0.out]; rfl⟩, (below_stp HBk.out hst (Nat.le_refl _)).alloc (by rw [hst.size]; exact HBk.out.size) _⟩
  · have HT := Lib.hid (c_tkS B l (w.alloc zOb) hEa (by simp; omega) hm t ho)
    obtain ⟨hwf, hlc, hlen⟩ := tk_some ho
    have hsz : t.size ≤ 65536 := by have := size_code t; rw [← hlc] at this; omega
    have HO := Lib.hid ho
    have HRg : Hid (rgA L l = if 48 < t.dep then 3 else if anyT badT t = true then 5 else if lackT L t = true then 4 else if anyT (grE L) t = true then 3 else 0) := by show _ = _; unfold rgA; rw [ho]; rfl
    obtain ⟨N, hN1⟩ : ∃ N, L.length = N := ⟨_, rfl⟩
    obtain ⟨D, hD⟩ : ∃ D, t.dep = D := ⟨_, rfl⟩
    obtain ⟨q1, hq1⟩ : ∃ q, anyT badT t = q := ⟨_, rfl⟩
    obtain ⟨q2, hq2⟩ : ∃ q, lackT L t = q := ⟨_, rfl⟩
    obtain ⟨q3, hq3⟩ : ∃ q, anyT (grE L) t = q := ⟨_, rfl⟩
    rw [hD, hq1, hq2, hq3] at HRg
    obtain ⟨x0, hx0⟩ : ∃ x0 : Int, (t.letter.toNat : Int) = x0 := ⟨_, rfl⟩
    obtain ⟨x2, hx2⟩ : ∃ x2 : Int, (t.count : Int) = x2 := ⟨_, rfl⟩
    obtain ⟨s1, hs1⟩ : ∃ s1, (⟨t.code.toArray⟩ : ByteArray) = s1 := ⟨_, rfl⟩
    obtain ⟨s3, hs3⟩ : ∃ s3, (⟨t.tag.toArray⟩ : ByteArray) = s3 := ⟨_, rfl⟩
    have HD := Lib.hid (fun a n c w hn => c_depthX t.size t a n c w (Nat.le_refl _) hn hsz)
    have HWm := Lib.hid (fun a n c w hn => c_wmX t.size t a n c w (Nat.le_refl _) hwf hn hsz)
    have HLk := Lib.hid (fun a n c w' (hb : Below w.heap.size w w') hn => c_lacksX L ka kc hkc hL hll t.size t a n c w' (Nat.le_refl _) hwf hn (hK.next hb))
    have HGr := Lib.hid (fun a n c w' (hb : Below w.heap.size w w') hn => c_greatX L ka kc hkc hL hll t.size t a n c w' (Nat.le_refl _) hwf hn hsz (hK.next hb))
    have HXs := Lib.hid (And.intro hx0 (And.intro hx2 (And.intro hs1 hs3)))
    unfold nT at HD HWm HLk HGr
    rw [hx0, hx2, hs1, hs3] at HT HD HWm HLk HGr
    rw [hD] at HD
    rw [hq1] at HWm
    rw [hq2, hN1] at HLk
    rw [hq3, hN1] at HGr
    rw [hN1]
    clear hE hEa ho hwf hlc hlen hsz hx0 hx2 hs1 hs3 hK hL hll hkc hN1 hD hq1 hq2 hq3
    go_enter Tryz.func109, Tryz.ntmps109
    go_wp2_with fail
    refine HT.out.mono ?_
    rintro e w1 ⟨⟨a, n, c, rfl, hn⟩, hb⟩
    have HB1 := Lib.hid (below_on (below_a w zOb) hb (by simp))
    have HR1 := Lib.hid (blk_next (heap_alloc_new w zOb) hb)
    have HQ1 : Hid (NdX w.heap.size t (.slice a n c) w1) := hn.mono (fun j hj => ⟨by have h := hj.1; simp at h; omega, hj.2⟩) (fun _ _ => rfl)
    clear hb hn HT
    go_wp2_with fail
    have hA := below_a w1 (.cells #[.int .u8 x0, .string s1, .int .i64 x2, .string s3, .slice a n c] 173)
    have HBj := Lib.hid (below_on HB1.out hA HB1.out.size)
    have HRj := Lib.hid (blk_next HR1.out hA)
    have HNj := Lib.hid (heap_alloc_new w1 (.cells #[.int .u8 x0, .string s1, .int .i64 x2, .string s3, .slice a n c] 173))
    have HQj := Lib.hid (HQ1.out.next hA)
    clear hA HB1 HR1 HQ1
    refine (HD.out _ _ _ _ HQj.out.in).mono ?_
    rintro e w2 ⟨rfl, hb⟩
    have HBk := Lib.hid (below_on HBj.out hb HBj.out.size)
    have HRk := Lib.hid (blk_next HRj.out hb)
    have HNk := Lib.hid (blk_next HNj.out hb)
    have HQk := Lib.hid (HQj.out.next hb)
    have hltk := (Array.getElem?_eq_some_iff.1 HRk.out).1
    clear hb HBj HRj HNj HQj
    have hde : decide (48 < (D : Int)) = decide (48 < D) := decide_eq_decide.2 (by omega)
    cases hd : decide (48 < D)
    · rw [hd] at hde
      have HRg2 : Hid (rgA L l = if q1 = true then 5 else if q2 = true then 4 else if q3 = true then 3 else 0) := HRg.out.trans (if_neg (by simpa using hd))
      obtain ⟨n0, n1, n2, n3, n4, nf⟩ := five_cells HNk.out
      have hltn := (Array.getElem?_eq_some_iff.1 HNk.out).1
      clear nf
      go_wp2_with fail
      refine (HWm.out _ _ _ _ HQk.out.in).mono ?_
      rintro e w3 ⟨rfl, hb⟩
      have HBj := HBk
      have HRj := HRk
      have HNj := HNk
      have HQj := HQk
      clear HBk HRk HNk HQk hltk hltn n0 n1 n2 n3 n4
      have HBk := Lib.hid (below_on HBj.out hb HBj.out.size)
      have HRk := Lib.hid (blk_next HRj.out hb)
      have HNk := Lib.hid (blk_next HNj.out hb)
      have HQk := Lib.hid (HQj.out.next hb)
      have hltk := (Array.getElem?_eq_some_iff.1 HRk.out).1
      clear hb HBj HRj HNj HQj
      cases q1
      · have HRg3 : Hid (rgA L l = if q2 = true then 4 else if q3 = true then 3 else 0) := HRg2.out
        obtain ⟨n0, n1, n2, n3, n4, nf⟩ := five_cells HNk.out
        have hltn := (Array.getElem?_eq_some_iff.1 HNk.out).1
        clear nf
        go_wp2_with fail
        refine (HLk.out _ _ _ _ HBk.out HQk.out.in).mono ?_
        rintro e w4 ⟨rfl, hb⟩
        have HBj := HBk
        have HRj := HRk
        have HNj := HNk
        have HQj := HQk
        clear HBk HRk HNk HQk hltk hltn n0 n1 n2 n3 n4
        have HBk := Lib.hid (below_on HBj.out hb HBj.out.size)
        have HRk := Lib.hid (blk_next HRj.out hb)
        have HNk := Lib.hid (blk_next HNj.out hb)
        have HQk := Lib.hid (HQj.out.next hb)
        have hltk := (Array.getElem?_eq_some_iff.1 HRk.out).1
        clear hb HBj HRj HNj HQj
        cases q2
        · have HRg4 : Hid (rgA L l = if q3 = true then 3 else 0) := HRg3.out
          obtain ⟨n0, n1, n2, n3, n4, nf⟩ := five_cells HNk.out
          have hltn := (Array.getElem?_eq_some_iff.1 HNk.out).1
          clear nf
          go_wp2_with fail
          refine (HGr.out _ _ _ _ HBk.out HQk.out.in).mono ?_
          rintro e w5 ⟨rfl, hb⟩
          have HBj := HBk
          have HRj := HRk
          have HNj := HNk
          have HQj := HQk
          clear HBk HRk HNk HQk hltk hltn n0 n1 n2 n3 n4
          have HBk := Lib.hid (below_on HBj.out hb HBj.out.size)
          have HRk := Lib.hid (blk_next HRj.out hb)
          have HNk := Lib.hid (blk_next HNj.out hb)
          have HQk := Lib.hid (HQj.out.next hb)
          have hltk := (Array.getElem?_eq_some_iff.1 HRk.out).1
          clear hb HBj HRj HNj HQj
          cases q3
          · obtain ⟨n0, n1, n2, n3, n4, nf⟩ := five_cells HNk.out
            have hltn := (Array.getElem?_eq_some_iff.1 HNk.out).1
            clear nf
            obtain ⟨r0, r1, r2, r3, r4, rf⟩ := five_cells HRk.out
            have rf0 := rf 0
            have rf1 := rf 1
            have rf2 := rf 2
            have rf3 := rf 3
            have rf4 := rf 4
            clear rf
            go_wp2_with fail
            refine bodyPost_ret (v := .tuple #[nV x0 s1 x2 s3 a n c, .int .i64 0]) (by simp [results, Tryz.results109, go_sem, r0, r1, r2, r3, r4, hltk]) rfl ?_
            have hst := Stp.five0 w.heap.size w5 (.int .u8 x0) (.string s1) (.int .i64 x2) (.string s3) (.slice a n c)
            have h0 : rgA L l = 0 := HRg4.out
            obtain ⟨g0, g2, g1, g3⟩ := HXs.out
            exact ⟨.inl ⟨t, a, n, c, HO.out, h0, by unfold nT; rw [g0, g2, g1, g3], HQk.out.stp hst⟩, below_stp HBk.out hst (Nat.le_refl _)⟩
          · obtain ⟨r0, r1, r2, r3, r4, rf⟩ := five_cells HRk.out
            have rf0 := rf 0
            have rf1 := rf 1
            have rf2 := rf 2
            have rf3 := rf 3
            have rf4 := rf 4
            clear rf
            go_wp2_with fail
            refine bodyPost_ret (v := .tuple #[nV 0 ⟨#[]⟩ 0 ⟨#[]⟩ none 0 0, .int .i64 3]) (by simp [results, Tryz.results109, go_sem, r0, r1, r2, r3, r4, hltk]) rfl ?_
            have hst := Stp.five0 w.heap.size w5 (.int .u8 0) (.string ⟨#[]⟩) (.int .i64 0) (.string ⟨#[]⟩) (.slice none 0 0)
            have h3 : rgA L l = 3 := HRg4.out
            exact ⟨.inr ⟨by rw [h3]; decide, by rw [h3]; rfl⟩, below_stp HBk.out hst (Nat.le_refl _)⟩
        · obtain ⟨r0, r1, r2, r3, r4, rf⟩ := five_cells HRk.out
          have rf0 := rf 0
          have rf1 := rf 1
          have rf2 := rf 2
          have rf3 := rf 3
          have rf4 := rf 4
          clear rf
          go_wp2_with fail
          refine bodyPost_ret (v := .tuple #[nV 0 ⟨#[]⟩ 0 ⟨#[]⟩ none 0 0, .int .i64 4]) (by simp [results, Tryz.results109, go_sem, r0, r1, r2, r3, r4, hltk]) rfl ?_
          have hst := Stp.five0 w.heap.size w4 (.int .u8 0) (.string ⟨#[]⟩) (.int .i64 0) (.string ⟨#[]⟩) (.slice none 0 0)
          have h4 : rgA L l = 4 := HRg3.out
          exact ⟨.inr ⟨by rw [h4]; decide, by rw [h4]; rfl⟩, below_stp HBk.out hst (Nat.le_refl _)⟩
      · obtain ⟨r0, r1, r2, r3, r4, rf⟩ := five_cells HRk.out
        have rf0 := rf 0
        have rf1 := rf 1
        have rf2 := rf 2
        have rf3 := rf 3
        have rf4 := rf 4
        clear rf
        go_wp2_with fail
        refine bodyPost_ret (v := .tuple #[nV 0 ⟨#[]⟩ 0 ⟨#[]⟩ none 0 0, .int .i64 5]) (by simp [results, Tryz.results109, go_sem, r0, r1, r2, r3, r4, hltk]) rfl ?_
        have hst := Stp.five0 w.heap.size w3 (.int .u8 0) (.string ⟨#[]⟩) (.int .i64 0) (.string ⟨#[]⟩) (.slice none 0 0)
        have h5 : rgA L l = 5 := HRg2.out
        exact ⟨.inr ⟨by rw [h5]; decide, by rw [h5]; rfl⟩, below_stp HBk.out hst (Nat.le_refl _)⟩
    · rw [hd] at hde
      have HRg2 : Hid (rgA L l = 3) := HRg.out.trans (if_pos (by simpa using hd))
      obtain ⟨r0, r1, r2, r3, r4, rf⟩ := five_cells HRk.out
      have rf0 := rf 0
      have rf1 := rf 1
      have rf2 := rf 2
      have rf3 := rf 3
      have rf4 := rf 4
      clear rf
      go_wp2_with fail
      refine bodyPost_ret (v := .tuple #[nV 0 ⟨#[]⟩ 0 ⟨#[]⟩ none 0 0, .int .i64 3]) (by simp [results, Tryz.results109, go_sem, r0, r1, r2, r3, r4, hltk]) rfl ?_
      have hst := Stp.five0 w.heap.size w2 (.int .u8 0) (.string ⟨#[]⟩) (.int .i64 0) (.string ⟨#[]⟩) (.slice none 0 0)
      exact ⟨.inr ⟨by rw [HRg2.out]; decide, by rw [HRg2.out]; rfl⟩, below_stp HBk.out hst (Nat.le_refl _)⟩
end Go.Proofs.YtjadckhngalmlaaGreatDoor
namespace Go.Proofs.YtjadckhngalmlaaGreatDoor
set_option linter.unusedVariables false
set_option linter.unusedSimpArgs false
set_option maxRecDepth 100000
open Go.RowKit

set_option maxHeartbeats 4000000 in
theorem c_alignedX (n a : Nat) (hn : n ≤ 4503599627370496) (ha : 1 ≤ a) (ha4 : a ≤ 4) (w : World) :
    Calls Tryz.prog 98 #[.int .i64 n, .int .i64 a] w fun e w' => e = .returned (.int .i64 (upN n a)) ∧ w' = w := by
  have h5 : (n + a - 1) / a * a ≤ n + a - 1 := Nat.div_mul_le_self _ _
  have h8 : (n + a - 1) / a ≤ n + a - 1 := Nat.div_le_self _ _
  have e1 : wrap64 (wrap64 ((n : Int) + (a : Int)) - 1) = ((n + a - 1 : Nat) : Int) := by unfold wrap64; omega
  have e2 : ((n + a - 1 : Nat) : Int).tdiv (a : Int) = (((n + a - 1) / a : Nat) : Int) := rfl
  have key : wrap64 (wrap64 ((wrap64 (wrap64 ((n : Int) + (a : Int)) - 1)).tdiv (a : Int)) * (a : Int)) = ((upN n a : Nat) : Int) := by
    rw [e1, e2]
    unfold upN
    obtain ⟨Q, hQ⟩ : ∃ Q, (n + a - 1) / a = Q := ⟨_, rfl⟩
    rw [hQ] at h5 h8 ⊢
    obtain ⟨P, hP⟩ : ∃ P, Q * a = P := ⟨_, rfl⟩
    have hPI : (Q : Int) * (a : Int) = (P : Int) := by rw [← hP]; simp
    rw [hP] at h5 ⊢
    have e3 : wrap64 (Q : Int) = (Q : Int) := by clear e1 e2; unfold wrap64; omega
    rw [e3, hPI]
    clear e1 e2
    unfold wrap64
    omega
  rw [← key]
  have h6 : ¬ (a : Int) = 0 := by omega
  have h7 : ((a : Int) == 0) = false := by simp; omega
  have h9 : ((a : Int) == -1) = false := by simp
  clear hn ha ha4 h5 h8 e1 e2 key
  go_enter Tryz.func98, Tryz.ntmps98
  go_wp2_with fail
  go_ret
  exact ⟨rfl, rfl⟩
theorem has_take {M : List MemP} {q : Nat} {x : MemP} {n : List UInt8} (h : M[q]? = some x) : hasM (M.take (q + 1)) n = (hasM (M.take q) n || x.name == n) := by
  have hk := (List.getElem?_eq_some_iff.1 h).1
  unfold hasM
  rw [List.take_succ_eq_append_getElem hk, (List.getElem?_eq_some_iff.1 h).2, List.any_append]
  simp
theorem has_of_take {M : List MemP} {q : Nat} {n : List UInt8} (h : hasM (M.take (q + 1)) n = true) : hasM M n = true := by
  unfold hasM at h ⊢
  rw [List.any_eq_true] at h
  obtain ⟨x, hx, hf⟩ := h
  exact List.any_eq_true.2 ⟨x, List.mem_of_mem_take hx, hf⟩
set_option maxHeartbeats 4000000 in
theorem c_hasX (x y z : Int) (nm : ByteArray) (M : List MemP) (ma : Option Addr) (mc : Nat) (hmc : M.length ≤ mc) (m : List UInt8) (w : World) (hM : MbIn M ma w) (hl : M.length ≤ 65536) :
    Calls Tryz.prog 106 #[lV x y z nm ma M.length mc, .string ⟨m.toArray⟩] w fun e w' => e = .returned (.bool (hasM M m)) ∧ Below w.heap.size w w' := by
  have HMb := Lib.hid (fun w' (hb : Below w.heap.size w w') => hM.next hb)
  obtain ⟨R, hR⟩ : ∃ R, hasM M m = R := ⟨_, rfl⟩
  rw [hR]
  have HR := Lib.hid hR
  have HL := Lib.hid hl
  obtain ⟨N, hN⟩ : ∃ N, M.length = N := ⟨_, rfl⟩
  have HN := Lib.hid hN
  rw [hN] at HL hmc ⊢
  clear hM hR hl hN
  go_enter Tryz.func106, Tryz.ntmps106
  go_wp2_with fail
  have HB0 := Lib.hid (below_a w (.cells #[.int .i64 x, .int .i64 y, .int .i64 z, .string nm, .slice ma N mc] 152))
  go_loopg [10] N (fun g v10 wr => ∃ q : Nat, q + g = N ∧ v10 = .int .i64 (q : Int) ∧ Hid (Below w.heap.size w wr ∧ hasM (M.take q) m = false))
  case atStart => exact ⟨0, by omega, rfl, HB0.out, rfl⟩
  case round =>
    obtain ⟨q, hq, rfl, HRl⟩ := hrel
    by_cases hlt : q < N
    · have hd : decide ((q : Int) < (N : Int)) = true := by simp; omega
      obtain ⟨x', hx⟩ : ∃ x, M[q]? = some x := ⟨_, List.getElem?_eq_getElem (by have := HN.out; omega)⟩
      obtain ⟨g, hag, hg, hrow⟩ := HMb.out wr HRl.out.1 (by have := HN.out; omega)
      obtain ⟨pa, pn, pc, hnd, hc⟩ := hrow q x' hx
      have c0 := hc 0 _ rfl
      rw [Nat.add_zero] at c0
      have c1 := hc 1 _ rfl
      have c2 := hc 2 _ rfl
      have c3 := hc 3 _ rfl
      have c4 := hc 4 _ rfl
      have c5 := hc 5 _ rfl
      have c6 := hc 6 _ rfl
      have HT := Lib.hid (has_take (n := m) hx)
      obtain ⟨y0, hy0⟩ : ∃ y : Int, (x'.ty.letter.toNat : Int) = y := ⟨_, rfl⟩
      obtain ⟨y1, hy1⟩ : ∃ y, (⟨x'.ty.code.toArray⟩ : ByteArray) = y := ⟨_, rfl⟩
      obtain ⟨y2, hy2⟩ : ∃ y : Int, (x'.ty.count : Int) = y := ⟨_, rfl⟩
      obtain ⟨y3, hy3⟩ : ∃ y, (⟨x'.ty.tag.toArray⟩ : ByteArray) = y := ⟨_, rfl⟩
      obtain ⟨y5, hy5⟩ : ∃ y, x'.name = y := ⟨_, rfl⟩
      obtain ⟨y6, hy6⟩ : ∃ y : Int, (x'.at' : Int) = y := ⟨_, rfl⟩
      rw [hy0] at c0
      rw [hy1] at c1
      rw [hy2] at c2
      rw [hy3] at c3
      rw [hy5] at c5 HT
      rw [hy6] at c6
      have hq0 : (0 : Int) ≤ (q : Int) := by omega
      have hql : (q : Int) < (N : Int) := by omega
      have hwm : IntKind.i64.wrap ((q : Int) + 1) = ((q + 1 : Nat) : Int) := by rw [IntKind.wrap_i64]; have := HL.out; omega
      have HM : Hid (N - (q + 1) < gk ∧ q + 1 + (N - (q + 1)) = N) := ⟨by omega, by omega⟩
      subst hag
      have hg1 : g < wr.heap.size + 1 := by omega
      clear hx hnd hc hrow hy0 hy1 hy2 hy3 hy5 hy6
      cases hne : y5 == m
      · rw [hne] at HT
        go_wp2_with fail
        have HN5 : Hid (Below w.heap.size w (wr.alloc (.cells #[.int .u8 y0, .string y1, .int .i64 y2, .string y3, .slice pa pn pc, .string ⟨y5.toArray⟩, .int .i64 y6] 179)) ∧ hasM (M.take (q + 1)) m = false) := ⟨HRl.out.1.alloc HRl.out.1.size _, by rw [HT.out, HRl.out.2]; rfl⟩
        clear c0 c1 c2 c3 c4 c5 c6
        go_roundg (N - (q + 1))
        case measure => exact HM.out.1
        case rel => exact ⟨q + 1, HM.out.2, rfl, HN5⟩
      · rw [hne] at HT
        have hRv : R = true := by rw [← HR.out]; exact has_of_take (by rw [HT.out, Bool.or_true])
        subst hRv
        go_wp2_with fail
        go_ret
        exact ⟨rfl, HRl.out.1.alloc HRl.out.1.size _⟩
    · have hd : decide ((q : Int) < (N : Int)) = false := by simp; omega
      have hRv : R = false := by
        have h := HRl.out.2
        rw [show q = M.length by have := HN.out; omega, List.take_length] at h
        rw [← HR.out, h]
      subst hRv
      go_wp2_with fail
      go_ret
      exact ⟨rfl, HRl.out.1⟩
end Go.Proofs.YtjadckhngalmlaaGreatDoor
namespace Go.Proofs.YtjadckhngalmlaaGreatDoor
set_option linter.unusedVariables false
set_option linter.unusedSimpArgs false
set_option maxRecDepth 100000
open Go.RowKit

/-- What object answers. -/
def OnX (L : List LayP) (l : List UInt8) (w : World) (e : Ending) (w' : World) : Prop :=
  ((∃ t a n c, tk l = some t ∧ ojA L l = 0 ∧ e = .returned (.tuple #[nT t a n c, .int .i64 0]) ∧ Nd (Fm w.heap.size w') w' t (.slice a n c)) ∨ (ojA L l ≠ 0 ∧ e = .returned (.tuple #[nV 0 ⟨#[]⟩ 0 ⟨#[]⟩ none 0 0, .int .i64 (ojA L l)]))) ∧ Below w.heap.size w w'
set_option maxHeartbeats 4000000 in
theorem c_objectX (L : List LayP) (ka : Option Addr) (kc : Nat) (hkc : L.length ≤ kc) (hL : GdL L) (hll : L.length ≤ 65536) (B : Nat) (l : List UInt8) (w : World) (hE : Env B w) (hB : B ≤ w.heap.size) (hm : l.length ≤ 9223372036854775807) (hK : KnIn L ka w) :
    Calls Tryz.prog 107 #[.slice ka L.length kc, .string ⟨l.toArray⟩] w fun e w' => OnX L l w e w' := by
  have HR := Lib.hid (c_rightX L ka kc hkc hL hll B l (w.alloc zOb) (hE.next ((below_a w zOb).mono hB)) (by simp; omega) hm (hK.next (below_a w zOb)))
  have HO := Lib.hid (c_isObject)
  obtain ⟨N, hN1⟩ : ∃ N, L.length = N := ⟨_, rfl⟩
  rw [hN1] at HR ⊢
  clear hE hB hm hK hL hll hkc hN1
  go_enter Tryz.func107, Tryz.ntmps107
  go_wp2_with fail
  refine HR.out.mono ?_
  rintro e w1 ⟨hr, hb⟩
  have HB1 : Hid (Below w.heap.size w w1) := below_on (below_a w zOb) hb (by simp)
  have HZ1 : Hid (w1.heap[w.heap.size]? = some zOb) := blk_next (heap_alloc_new w zOb) hb
  have hs1 : w.heap.size < w1.heap.size := (Array.getElem?_eq_some_iff.1 HZ1.out).1
  clear hb HR
  rcases hr with ⟨t, a, n, c, ht, h0, rfl, hn⟩ | ⟨h0, rfl⟩
  · have HN1 : Hid (Nd (fun j => w.heap.size < j ∧ j < w1.heap.size) w1 t (.slice a n c)) := hn.mono (fun j hj => ⟨by have := hj.1; simp at this; omega, hj.2⟩) (fun _ _ => rfl)
    have hoj : ojA L l = if objI t.letter.toNat = true then 0 else 5 := by
      unfold ojA
      rw [ht]
      show ojT L t = _
      unfold ojT
      have h2 : rgT L t = 0 := by unfold rgA at h0; rw [ht] at h0; exact h0
      rw [if_pos h2]
    have HT := Lib.hid ht
    have HOj := Lib.hid hoj
    obtain ⟨x0, hx0⟩ : ∃ x0 : Int, (t.letter.toNat : Int) = x0 := ⟨_, rfl⟩
    obtain ⟨x2, hx2⟩ : ∃ x2 : Int, (t.count : Int) = x2 := ⟨_, rfl⟩
    obtain ⟨s1, hs1'⟩ : ∃ s1, (⟨t.code.toArray⟩ : ByteArray) = s1 := ⟨_, rfl⟩
    obtain ⟨s3, hs3⟩ : ∃ s3, (⟨t.tag.toArray⟩ : ByteArray) = s3 := ⟨_, rfl⟩
    have HXs := Lib.hid (And.intro hx0 (And.intro hx2 (And.intro hs1' hs3)))
    have HOb := Lib.hid (HO.out x0 s1 x2 s3)
    have hnT : nT t a n c = nV x0 s1 x2 s3 a n c := by unfold nT; rw [hx0, hx2, hs1', hs3]
    have HnT := Lib.hid hnT
    rw [hnT]
    clear hn ht h0 hoj hx0 hx2 hs1' hs3 HO hnT
    go_wp2_with fail
    refine (HOb.out _ _ _ _).mono ?_
    rintro e w2 ⟨rfl, hb⟩
    have HA := Lib.hid (below_a w1 (.cells #[.int .u8 x0, .string s1, .int .i64 x2, .string s3, .slice a n c] 173))
    have HB2 := Lib.hid (below_on (below_on HB1.out HA.out HB1.out.size) hb (by simp; omega))
    have HK2 := Lib.hid (below_on HA.out hb (by simp))
    obtain ⟨n0, n1, n2, n3, n4, nf⟩ := five_cells (blk_next (heap_alloc_new w1 (.cells #[.int .u8 x0, .string s1, .int .i64 x2, .string s3, .slice a n c] 173)) hb)
    obtain ⟨r0, r1, r2, r3, r4, rf⟩ := five_cells (blk_next (blk_next HZ1.out HA.out) hb)
    have rf0 := rf 0
    have rf1 := rf 1
    have rf2 := rf 2
    have rf3 := rf 3
    have rf4 := rf 4
    clear hb nf rf HOb
    cases ho : objI x0
    · have h5 : ojA L l = 5 := by rw [HOj.out, HXs.out.1, ho]; rfl
      have H5 := Lib.hid h5
      clear h5 ho
      go_wp2_with fail
      have hst := Stp.five0 w.heap.size w2 (.int .u8 0) (.string ⟨#[]⟩) (.int .i64 0) (.string ⟨#[]⟩) (.slice none 0 0)
      have hK := HK2.out
      first
        | (refine bodyPost_ret (v := .tuple #[nV 0 ⟨#[]⟩ 0 ⟨#[]⟩ none 0 0, .int .i64 5]) (by simp [results, Tryz.results107, go_sem, r0, r1, r2, r3, r4]) rfl ?_
           exact ⟨.inr ⟨by rw [H5.out]; decide, by rw [H5.out]; rfl⟩, below_stp HB2.out hst (Nat.le_refl _)⟩)
    · have h5 : ojA L l = 0 := by rw [HOj.out, HXs.out.1, ho]; rfl
      have H5 := Lib.hid h5
      clear h5 ho
      go_wp2_with fail
      refine bodyPost_ret (v := .tuple #[nV x0 s1 x2 s3 a n c, .int .i64 0]) (by simp [results, Tryz.results107, go_sem, r0, r1, r2, r3, r4]) rfl ?_
      have hst := Stp.five0 w.heap.size w2 (.int .u8 x0) (.string s1) (.int .i64 x2) (.string s3) (.slice a n c)
      have hK := HK2.out
      exact ⟨.inl ⟨t, a, n, c, HT.out, H5.out, by rw [HnT.out], HN1.out.mono (fun j hj => ⟨by have := hj.1; omega, by rw [hst.size]; have := hj.2; have := hK.size; omega⟩) (fun j hj => (hst.blk j (by have := hj.1; omega)).trans (hK.block j hj.2))⟩, below_stp HB2.out hst (Nat.le_refl _)⟩
  · have hoj : ojA L l = rgA L l := by
      unfold ojA rgA at *
      cases ht : tk l with
      | none => rfl
      | some t =>
        rw [ht] at h0
        show ojT L t = rgT L t
        unfold ojT
        rw [if_neg h0]
    have HE := Lib.hid (And.intro hoj h0)
    obtain ⟨E, hE⟩ : ∃ E : Int, (rgA L l : Int) = E := ⟨_, rfl⟩
    have hE0 : (E == 0) = false := by rw [← hE]; simp; exact h0
    have HEe := Lib.hid hE
    obtain ⟨r0, r1, r2, r3, r4, rf⟩ := five_cells HZ1.out
    have rf0 := rf 0
    have rf1 := rf 1
    have rf2 := rf 2
    have rf3 := rf 3
    have rf4 := rf 4
    rw [hE]
    clear hoj h0 hE rf
    go_wp2_with fail
    have hst := Stp.five0 w.heap.size w1 (.int .u8 0) (.string ⟨#[]⟩) (.int .i64 0) (.string ⟨#[]⟩) (.slice none 0 0)
    have hb9 := below_stp HB1.out hst (Nat.le_refl _)
    have hz9 := five_set HZ1.out (.int .u8 0) (.string ⟨#[]⟩) (.int .i64 0) (.string ⟨#[]⟩) (.slice none 0 0)
    have hs9 := hst.size
    clear hst
    generalize ((((w1.setCell ⟨w.heap.size, 0, none⟩ (.int .u8 0)).setCell ⟨w.heap.size, 1, none⟩ (.string ⟨#[]⟩)).setCell ⟨w.heap.size, 2, none⟩ (.int .i64 0)).setCell ⟨w.heap.size, 3, none⟩ (.string ⟨#[]⟩)).setCell ⟨w.heap.size, 4, none⟩ (.slice none 0 0) = w9 at hb9 hz9 hs9 ⊢
    have hlt9 : w.heap.size < w9.heap.size := by rw [hs9]; exact hs1
    have hz10 := (Below.heap_alloc w9 (.cells #[.int .u8 0, .string ⟨#[]⟩, .int .i64 0, .string ⟨#[]⟩, .slice none 0 0] 173) _ hlt9).trans hz9
    have hb10 := hb9.alloc hb9.size (.cells #[.int .u8 0, .string ⟨#[]⟩, .int .i64 0, .string ⟨#[]⟩, .slice none 0 0] 173)
    generalize w9.alloc (.cells #[.int .u8 0, .string ⟨#[]⟩, .int .i64 0, .string ⟨#[]⟩, .slice none 0 0] 173) = wx at hb10 hz10 ⊢
    obtain ⟨q0, q1, q2, q3, q4, qf⟩ := five_cells hz10
    refine bodyPost_ret (v := .tuple #[nV 0 ⟨#[]⟩ 0 ⟨#[]⟩ none 0 0, .int .i64 E]) (by simp [results, Tryz.results107, go_sem, q0, q1, q2, q3, q4]) rfl ?_
    exact ⟨.inr ⟨by rw [HE.out.1]; exact HE.out.2, by rw [HE.out.1, HEe.out]⟩, hb10⟩
end Go.Proofs.YtjadckhngalmlaaGreatDoor
namespace Go.Proofs.YtjadckhngalmlaaGreatDoor
set_option linter.unusedVariables false
set_option linter.unusedSimpArgs false
set_option maxRecDepth 100000
open Go.RowKit

/-- What memberType answers. -/
def MtX (L : List LayP) (M : List MemP) (m : List UInt8 × List UInt8) (w : World) (e : Ending) (w' : World) : Prop :=
  ((∃ t a n c, tk m.2 = some t ∧ memE L M m = 0 ∧ e = .returned (.tuple #[nT t a n c, .int .i64 0]) ∧ Nd (Fm w.heap.size w') w' t (.slice a n c)) ∨ (memE L M m ≠ 0 ∧ e = .returned (.tuple #[nV 0 ⟨#[]⟩ 0 ⟨#[]⟩ none 0 0, .int .i64 (memE L M m)]))) ∧ Below w.heap.size w w'
set_option maxHeartbeats 8000000 in
theorem c_memberTypeX (L : List LayP) (ka : Option Addr) (kc : Nat) (hkc : L.length ≤ kc) (hL : GdL L) (hll : L.length ≤ 65536) (B : Nat) (x y z : Int) (nm : ByteArray) (M : List MemP) (ma : Option Addr) (mc : Nat) (hmc : M.length ≤ mc) (hMl : M.length ≤ 65536) (m : List UInt8 × List UInt8) (h1 : m.1.length ≤ 9223372036854775807) (h2 : m.2.length ≤ 9223372036854775807) (w : World) (hE : Env B w) (hB : B ≤ w.heap.size) (hK : KnIn L ka w) (hM : MbIn M ma w) :
    Calls Tryz.prog 96 #[.slice ka L.length kc, lV x y z nm ma M.length mc, .agg #[.string ⟨m.1.toArray⟩, .string ⟨m.2.toArray⟩]] w fun e w' => MtX L M m w e w' := by
  have HI := Lib.hid (fun w => c_IsName m.1 w h1)
  have HH := Lib.hid (fun w' (hb : Below w.heap.size w w') => c_hasX x y z nm M ma mc hmc m.1 w' (hM.next hb) hMl)
  have HO := Lib.hid (fun w' (hb : Below w.heap.size w w') => c_objectX L ka kc hkc hL hll B m.2 w' (hE.next (hb.mono hB)) (Nat.le_trans hB hb.size) h2 (hK.next hb))
  have HE : Hid (memE L M m = if nameB m.1 = true then if hasM M m.1 = true then 6 else ojA L m.2 else 2) := rfl
  obtain ⟨m1, m2⟩ := m
  obtain ⟨N, hN1⟩ : ∃ N, L.length = N := ⟨_, rfl⟩
  obtain ⟨ml, hml⟩ : ∃ ml, M.length = ml := ⟨_, rfl⟩
  obtain ⟨qn, hqn⟩ : ∃ q, nameB m1 = q := ⟨_, rfl⟩
  obtain ⟨qh, hqh⟩ : ∃ q, hasM M m1 = q := ⟨_, rfl⟩
  simp only at HI HH HO HE
  rw [hqn] at HI HE
  rw [hqh, hml] at HH
  rw [hqh] at HE
  rw [hN1] at HO ⊢
  rw [hml]
  clear hE hB hK hM hL hll hkc hmc hMl h1 h2 hN1 hml hqn hqh
  go_enter Tryz.func96, Tryz.ntmps96
  go_wp2_with fail
  have HA0 : Hid (Below w.heap.size w (((w.alloc (.cells #[.int .i64 x, .int .i64 y, .int .i64 z, .string nm, .slice ma ml mc] 152)).alloc (.cells #[.string ⟨m1.toArray⟩, .string ⟨m2.toArray⟩] 170)).alloc zOb)) := ((below_a w _).alloc (by simp) _).alloc (by simp; omega) _
  have HL0 : Hid ((((w.alloc (.cells #[.int .i64 x, .int .i64 y, .int .i64 z, .string nm, .slice ma ml mc] 152)).alloc (.cells #[.string ⟨m1.toArray⟩, .string ⟨m2.toArray⟩] 170)).alloc zOb).heap[w.heap.size]? = some (.cells #[.int .i64 x, .int .i64 y, .int .i64 z, .string nm, .slice ma ml mc] 152)) := (Below.heap_alloc _ _ _ (by simp; omega)).trans ((Below.heap_alloc _ _ _ (by simp)).trans (heap_alloc_new w _))
  have HM0 : Hid ((((w.alloc (.cells #[.int .i64 x, .int .i64 y, .int .i64 z, .string nm, .slice ma ml mc] 152)).alloc (.cells #[.string ⟨m1.toArray⟩, .string ⟨m2.toArray⟩] 170)).alloc zOb).heap[w.heap.size + 1]? = some (.cells #[.string ⟨m1.toArray⟩, .string ⟨m2.toArray⟩] 170)) := by
    exact (Below.heap_alloc _ _ _ (by simp)).trans (new2 w _ _)
  have HR0 : Hid ((((w.alloc (.cells #[.int .i64 x, .int .i64 y, .int .i64 z, .string nm, .slice ma ml mc] 152)).alloc (.cells #[.string ⟨m1.toArray⟩, .string ⟨m2.toArray⟩] 170)).alloc zOb).heap[w.heap.size + 2]? = some zOb) := by
    exact new3 w _ _ _
  refine (HI.out _).mono ?_
  rintro e w1 ⟨rfl, hb⟩
  have HB1 := Lib.hid (below_on HA0.out hb HA0.out.size)
  have HL1 := Lib.hid (blk_next HL0.out hb)
  have HM1 := Lib.hid (blk_next HM0.out hb)
  have HR1 := Lib.hid (blk_next HR0.out hb)
  clear hb HA0 HL0 HM0 HR0 HI
  obtain ⟨l0, l1, l2, l3, l4, lf⟩ := five_cells HL1.out
  have m0 : w1.cell? ⟨w.heap.size + 1, 0, none⟩ = some (.string ⟨m1.toArray⟩) := by rw [Lib.cell_of_heap HM1.out]; rfl
  have m1' : w1.cell? ⟨w.heap.size + 1, 1, none⟩ = some (.string ⟨m2.toArray⟩) := by rw [Lib.cell_of_heap HM1.out]; rfl
  cases qn
  · have hv : memE L M (m1, m2) = 2 := HE.out
    have HV := Lib.hid hv
    obtain ⟨r0, r1, r2, r3, r4, rf⟩ := five_cells HR1.out
    have rf0 := rf 0
    have rf1 := rf 1
    have rf2 := rf 2
    have rf3 := rf 3
    have rf4 := rf 4
    clear hv rf lf
    go_wp2_with fail
    refine bodyPost_ret (v := .tuple #[nV 0 ⟨#[]⟩ 0 ⟨#[]⟩ none 0 0, .int .i64 2]) (by simp [results, Tryz.results96, go_sem, r0, r1, r2, r3, r4]) rfl ?_
    exact ⟨.inr ⟨by rw [HV.out]; decide, by rw [HV.out]; rfl⟩, below_stp HB1.out (Stp.five0 (w.heap.size + 2) w1 _ _ _ _ _) (by omega)⟩
  · clear lf
    go_wp2_with fail
    refine (HH.out _ HB1.out).mono ?_
    rintro e w2 ⟨rfl, hb⟩
    have HB2 := Lib.hid (below_on HB1.out hb HB1.out.size)
    have HM2 := Lib.hid (blk_next HM1.out hb)
    have HR2 := Lib.hid (blk_next HR1.out hb)
    clear hb HB1 HL1 HM1 HR1 l0 l1 l2 l3 l4 m0 m1' HH
    have m1' : w2.cell? ⟨w.heap.size + 1, 1, none⟩ = some (.string ⟨m2.toArray⟩) := by rw [Lib.cell_of_heap HM2.out]; rfl
    cases qh
    · have hv : memE L M (m1, m2) = ojA L m2 := HE.out
      have HV := Lib.hid hv
      have hs2 : w.heap.size + 2 < w2.heap.size := (Array.getElem?_eq_some_iff.1 HR2.out).1
      clear hv
      go_wp2_with fail
      refine (HO.out _ HB2.out).mono ?_
      rintro e w3 ⟨hr, hb⟩
      have HB3 := Lib.hid (below_on HB2.out hb HB2.out.size)
      obtain ⟨r0, r1, r2, r3, r4, rf⟩ := five_cells (blk_next HR2.out hb)
      have rf0 := rf 0
      have rf1 := rf 1
      have rf2 := rf 2
      have rf3 := rf 3
      have rf4 := rf 4
      clear hb rf HO HB2 HM2 HR2 m1'
      rcases hr with ⟨t, a, n, c, ht, h0, rfl, hn⟩ | ⟨h0, rfl⟩
      · have HT := Lib.hid (And.intro ht h0)
        have HN3 : Hid (Nd (fun j => w.heap.size + 2 < j ∧ j < w3.heap.size) w3 t (.slice a n c)) := hn.mono (fun j hj => ⟨by have := hj.1; omega, hj.2⟩) (fun _ _ => rfl)
        obtain ⟨x0, hx0⟩ : ∃ x0 : Int, (t.letter.toNat : Int) = x0 := ⟨_, rfl⟩
        obtain ⟨x2, hx2⟩ : ∃ x2 : Int, (t.count : Int) = x2 := ⟨_, rfl⟩
        obtain ⟨s1, hs1'⟩ : ∃ s1, (⟨t.code.toArray⟩ : ByteArray) = s1 := ⟨_, rfl⟩
        obtain ⟨s3, hs3⟩ : ∃ s3, (⟨t.tag.toArray⟩ : ByteArray) = s3 := ⟨_, rfl⟩
        have hnT : nT t a n c = nV x0 s1 x2 s3 a n c := by unfold nT; rw [hx0, hx2, hs1', hs3]
        have HnT := Lib.hid hnT
        rw [hnT]
        clear hn ht h0 hx0 hx2 hs1' hs3 hnT
        go_wp2_with fail
        refine bodyPost_ret (v := .tuple #[nV x0 s1 x2 s3 a n c, .int .i64 0]) (by simp [results, Tryz.results96, go_sem, r0, r1, r2, r3, r4]) rfl ?_
        have hst := Stp.five0 (w.heap.size + 2) w3 (.int .u8 x0) (.string s1) (.int .i64 x2) (.string s3) (.slice a n c)
        exact ⟨.inl ⟨t, a, n, c, HT.out.1, by rw [HV.out]; exact HT.out.2, by rw [HnT.out], HN3.out.mono (fun j hj => ⟨by have := hj.1; omega, by rw [hst.size]; exact hj.2⟩) (fun j hj => hst.blk j (by have := hj.1; omega))⟩, below_stp HB3.out hst (by omega)⟩
      · obtain ⟨E, hE⟩ : ∃ E : Int, (ojA L m2 : Int) = E := ⟨_, rfl⟩
        have HEe := Lib.hid (And.intro hE h0)
        rw [hE]
        clear hE h0
        go_wp2_with fail
        refine bodyPost_ret (v := .tuple #[nV 0 ⟨#[]⟩ 0 ⟨#[]⟩ none 0 0, .int .i64 E]) (by simp [results, Tryz.results96, go_sem, r0, r1, r2, r3, r4]) rfl ?_
        exact ⟨.inr ⟨by rw [HV.out]; exact HEe.out.2, by rw [HV.out, HEe.out.1]⟩, below_stp HB3.out (Stp.five0 (w.heap.size + 2) w3 _ _ _ _ _) (by omega)⟩
    · have hv : memE L M (m1, m2) = 6 := HE.out
      have HV := Lib.hid hv
      obtain ⟨r0, r1, r2, r3, r4, rf⟩ := five_cells HR2.out
      have rf0 := rf 0
      have rf1 := rf 1
      have rf2 := rf 2
      have rf3 := rf 3
      have rf4 := rf 4
      clear hv rf
      go_wp2_with fail
      refine bodyPost_ret (v := .tuple #[nV 0 ⟨#[]⟩ 0 ⟨#[]⟩ none 0 0, .int .i64 6]) (by simp [results, Tryz.results96, go_sem, r0, r1, r2, r3, r4]) rfl ?_
      exact ⟨.inr ⟨by rw [HV.out]; decide, by rw [HV.out]; rfl⟩, below_stp HB2.out (Stp.five0 (w.heap.size + 2) w2 _ _ _ _ _) (by omega)⟩
end Go.Proofs.YtjadckhngalmlaaGreatDoor
