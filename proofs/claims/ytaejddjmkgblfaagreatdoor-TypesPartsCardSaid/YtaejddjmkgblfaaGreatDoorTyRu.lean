/-
  The contracts of the document's own declaration of a name, and of its function put together, in the code.
-/
import Derived.Test.YtaejddjmkgblfaaGreatDoorTyRr
import Derived.Test.YtaejddjmkgblfaaGreatDoorTyFu
namespace Go.Proofs.YtaejddjmkgblfaaGreatDoor
set_option linter.unusedVariables false
set_option linter.unusedSimpArgs false
set_option maxRecDepth 100000
open Go.RowKit

set_option maxHeartbeats 4000000 in
theorem c_rDeclare (l x : List UInt8) (w : World) (hm : l.length ≤ 9223372036854775807) (hx : x.length ≤ 9223372036854775807) :
    Calls Tryz.prog 36 #[.string ⟨l.toArray⟩, .string ⟨x.toArray⟩] w fun e w' => e = .returned (.tuple #[.string ⟨(dA l x).1.toArray⟩, .int .i64 (dA l x).2]) ∧ Below w.heap.size w w' := by
  have HF := Lib.hid (c_rForm l w hm)
  rcases ho : tk l with _ | t
  · rw [ho] at HF
    have hd : dA l x = ([], 2) := by unfold dA; rw [ho]
    rw [hd]
    clear ho hd
    go_enter Tryz.func36, Tryz.ntmps36
    go_wp2_with fail
    refine HF.out.mono ?_
    rintro e w2 ⟨rfl, hb⟩
    have HB := Lib.hid hb
    clear hb
    rw [show (none : Option Ty).isSome = false from rfl]
    go_wp2_with fail
    go_ret2
    exact ⟨rfl, HB.out⟩
  · rw [ho] at HF
    obtain ⟨hwf, hlc, hln⟩ := tk_some ho
    have hd : dA l x = if x = [] ∨ nameB x = true then (dcl t x, 0) else ([], 2) := by unfold dA; rw [ho]
    rw [hd]
    have HN := Lib.hid (fun w => c_bName x w hx)
    by_cases hz : x = []
    · subst hz
      rw [if_pos (.inl rfl)]
      have HW := Lib.hid (fun w => c_written t.size t [] w (Nat.le_refl _) hwf (by rw [← hlc]; exact hln) (by rw [← hlc]; simp only [List.length_nil]; omega))
      rw [← hlc] at HW
      clear ho hwf hlc hln hd
      go_enter Tryz.func36, Tryz.ntmps36
      go_wp2_with fail
      refine HF.out.mono ?_
      rintro e w2 ⟨rfl, hb⟩
      have HB := Lib.hid hb
      clear hb
      rw [show (some t).isSome = true from rfl]
      go_wp2_with fail
      refine (HW.out _).mono ?_
      rintro e w3 ⟨rfl, hb3⟩
      have HB3 := Lib.hid (below_on HB.out hb3 HB.out.size)
      clear hb3
      go_wp2_with fail
      go_ret2
      exact ⟨rfl, HB3.out⟩
    · have hxb : (x == []) = false := by simp [hz]
      cases hnm : nameB x
      · rw [hnm] at HN
        rw [if_neg (fun h => h.elim hz (fun h => by cases h))]
        clear ho hwf hlc hln hd hnm
        go_enter Tryz.func36, Tryz.ntmps36
        go_wp2_with fail
        refine HF.out.mono ?_
        rintro e w2 ⟨rfl, hb⟩
        have HB := Lib.hid hb
        clear hb
        rw [show (some t).isSome = true from rfl]
        go_wp2_with fail
        refine (HN.out _).mono ?_
        rintro e w3 ⟨rfl, hb3⟩
        have HB3 := Lib.hid (below_on HB.out hb3 HB.out.size)
        clear hb3
        go_wp2_with fail
        go_ret2
        exact ⟨rfl, HB3.out⟩
      · rw [hnm] at HN
        rw [if_pos (.inr rfl)]
        have hxl : x.length ≤ 31 := (name_all hnm).2.2.2
        have HW := Lib.hid (fun w => c_written t.size t x w (Nat.le_refl _) hwf (by rw [← hlc]; exact hln) (by rw [← hlc]; omega))
        rw [← hlc] at HW
        clear ho hwf hlc hln hd hnm
        go_enter Tryz.func36, Tryz.ntmps36
        go_wp2_with fail
        refine HF.out.mono ?_
        rintro e w2 ⟨rfl, hb⟩
        have HB := Lib.hid hb
        clear hb
        rw [show (some t).isSome = true from rfl]
        go_wp2_with fail
        refine (HN.out _).mono ?_
        rintro e w3 ⟨rfl, hb3⟩
        have HB3 := Lib.hid (below_on HB.out hb3 HB.out.size)
        clear hb3
        go_wp2_with fail
        refine (HW.out _).mono ?_
        rintro e w4 ⟨rfl, hb4⟩
        have HB4 := Lib.hid (below_on HB3.out hb4 HB3.out.size)
        clear hb4
        go_wp2_with fail
        go_ret2
        exact ⟨rfl, HB4.out⟩
theorem fc_form {r : List UInt8} {L : List (List UInt8)} (hr : (tk r).isSome = true) (hL : L.all (fun s => (tk s).isSome) = true) : (tk (fnCode L r)).isSome = decide ((fnCode L r).length ≤ 65536) := by
  obtain ⟨t, ht⟩ := Option.isSome_iff_exists.1 hr
  obtain ⟨hw, hc, _⟩ := tk_some ht
  obtain ⟨ts, e1, e2⟩ := all_codes L hL
  have e3 : fnCode L r = (Ty.fn (Tys.of ts) t).code := by rw [e1, hc, fn_code]
  by_cases h : (fnCode L r).length ≤ 65536
  · rw [e3] at h ⊢
    rw [tk_code (t := .fn (Tys.of ts) t) ⟨of_wf ts e2, hw⟩ h]
    simp [h]
  · unfold tk
    rw [if_neg h]
    simp [h]
set_option maxHeartbeats 8000000 in
theorem c_rFunc (r : List UInt8) (a : Option Addr) (c : Nat) (L : List (List UInt8)) (w : World) (hr : r.length ≤ 9223372036854775807) (hL : ∀ s ∈ L, s.length ≤ 9223372036854775807) (hn : L.length ≤ 9223372036854775807) (hS : StrIn w a L) :
    Calls Tryz.prog 28 #[.string ⟨r.toArray⟩, .slice a L.length c] w fun e w' => e = .returned (.tuple #[.string ⟨(fcA r L).1.toArray⟩, .int .i64 (fcA r L).2]) ∧ Below w.heap.size w w' := by
  have HF := Lib.hid (fun (l : List UInt8) w' (hl : l.length ≤ 9223372036854775807) => c_rForm l w' hl)
  have HS := Lib.hid (fun w' (h : Below w.heap.size w w') => hS.next h)
  have HL := Lib.hid hL
  obtain ⟨x, e, hx⟩ : ∃ x e, fcA r L = (x, e) := ⟨_, _, rfl⟩
  rw [hx]
  have HX := Lib.hid hx
  have HFr := Lib.hid (HF.out r w hr)
  have HLr := Lib.hid hr
  clear hS hL hx
  cases hrs : (tk r).isSome
  · rw [hrs] at HFr
    have h2 : fcA r L = ([], 2) := by unfold fcA; rw [hrs]; rfl
    obtain ⟨rfl, rfl⟩ := Prod.mk.inj (HX.out.symm.trans h2)
    clear hrs h2
    go_enter Tryz.func28, Tryz.ntmps28
    go_wp2_with fail
    refine HFr.out.mono ?_
    rintro e w1 ⟨rfl, hb⟩
    have HB := Lib.hid hb
    clear hb
    go_wp2_with fail
    go_ret2
    exact ⟨rfl, HB.out⟩
  · rw [hrs] at HFr
    have HRs := Lib.hid hrs
    clear hrs
    go_enter Tryz.func28, Tryz.ntmps28
    go_wp2_with fail
    refine HFr.out.mono ?_
    rintro e9 w1 ⟨rfl, hb⟩
    have HB := Lib.hid hb
    clear hb
    go_wp2_with fail
    go_loopg [7] L.length (fun m v7 wr => ∃ q : Nat, q + m = L.length ∧ v7 = .int .i64 (q : Int) ∧ Hid (Below w.heap.size w wr ∧ ∀ j s, j < q → L[j]? = some s → (tk s).isSome = true))
    case atStart => exact ⟨0, by omega, rfl, HB.out, fun j s hj => by omega⟩
    case round =>
      obtain ⟨q, hq, rfl, HR⟩ := hrel
      by_cases hlt : q < L.length
      · have hd : decide ((q : Int) < (L.length : Int)) = true := by simp; omega
        obtain ⟨s, hs⟩ : ∃ s, L[q]? = some s := ⟨_, List.getElem?_eq_getElem hlt⟩
        obtain ⟨b1, o1, ha, hx1⟩ := HS.out wr HR.out.1 (by omega)
        have y1 := hx1 q s hs
        have HFs := Lib.hid (HF.out s wr (HL.out s (List.mem_of_getElem? hs)))
        have HSq := Lib.hid hs
        have hq0 : (0 : Int) ≤ (q : Int) := by omega
        have hql : (q : Int) < (L.length : Int) := by omega
        have hwm : IntKind.i64.wrap ((q : Int) + 1) = ((q + 1 : Nat) : Int) := by rw [IntKind.wrap_i64]; omega
        have HM : Hid (L.length - (q + 1) < gk ∧ q + 1 + (L.length - (q + 1)) = L.length) := ⟨by omega, by omega⟩
        subst ha
        clear hx1 hs
        cases hts : (tk s).isSome
        · rw [hts] at HFs
          have h2 : fcA r L = ([], 2) := by
            unfold fcA
            rw [if_pos HRs.out, if_neg]
            intro h
            have := List.all_eq_true.1 h s (List.mem_of_getElem? HSq.out)
            rw [hts] at this
            cases this
          obtain ⟨rfl, rfl⟩ := Prod.mk.inj (HX.out.symm.trans h2)
          clear h2 hts
          go_wp2_with fail
          refine HFs.out.mono ?_
          rintro e9 w2 ⟨rfl, hb⟩
          have HB2 := Lib.hid (below_on HR.out.1 hb HR.out.1.size)
          clear hb
          go_wp2_with fail
          go_ret2
          exact ⟨rfl, HB2.out⟩
        · rw [hts] at HFs
          have HTs := Lib.hid hts
          clear hts
          go_wp2_with fail
          refine HFs.out.mono ?_
          rintro e9 w2 ⟨rfl, hb⟩
          have HN : Hid (Below w.heap.size w w2 ∧ ∀ j s', j < q + 1 → L[j]? = some s' → (tk s').isSome = true) := ⟨below_on HR.out.1 hb HR.out.1.size, fun j s' hj hs' => by
            by_cases e : j = q
            · subst e
              rw [HSq.out] at hs'
              cases hs'
              exact HTs.out
            · exact HR.out.2 j s' (by omega) hs'⟩
          clear hb
          go_wp2_with fail
          go_roundg (L.length - (q + 1))
          case measure => exact HM.out.1
          case rel => exact ⟨q + 1, HM.out.2, rfl, HN⟩
      · have hd : decide ((q : Int) < (L.length : Int)) = false := by simp; omega
        have HAll : Hid (L.all (fun s => (tk s).isSome) = true) := List.all_eq_true.2 fun s hs => by
          obtain ⟨j, hj, e⟩ := List.getElem_of_mem hs
          exact HR.out.2 j s (by omega) (by rw [List.getElem?_eq_getElem hj, e])
        by_cases h8 : L.length ≤ 8
        · have hd8 : decide ((8 : Int) < (L.length : Int)) = false := by simp; omega
          have H8 := Lib.hid h8
          have HFm := Lib.hid (fc_form HRs.out HAll.out)
          have HFc := Lib.hid (fun w' (hl : (fnCode L r).length ≤ 9223372036854775807) => HF.out (fnCode L r) w' hl)
          rw [HFm.out] at HFc
          have HSm : Hid (∀ s ∈ L, s.length ≤ 65536) := fun s hs => by
            obtain ⟨t, ht⟩ := Option.isSome_iff_exists.1 (List.all_eq_true.1 HAll.out s hs)
            exact (tk_some ht).2.2
          have hrl : r.length ≤ 65536 := by
            obtain ⟨t, ht⟩ := Option.isSome_iff_exists.1 HRs.out
            exact (tk_some ht).2.2
          have HIl := Lib.hid (inter_len HSm.out)
          have HRl := Lib.hid hrl
          clear h8 hrl
          have HBr := Lib.hid HR.out.1
          clear HR HFr
          go_wp2_with fail
          go_loopg [6, 8] L.length (fun m v6 v8 w3 => ∃ q : Nat, q + m = L.length ∧ v8 = .int .i64 (q : Int) ∧ v6 = .string ⟨(102 :: 40 :: List.intercalate [44] (L.take q)).toArray⟩ ∧ Hid (Below w.heap.size w w3))
          case atStart => exact ⟨0, by omega, rfl, by simp [List.intercalate], HBr.out⟩
          case round =>
            obtain ⟨q, hq, rfl, rfl, HR⟩ := hrel
            by_cases hlt : q < L.length
            · have hd : decide ((q : Int) < (L.length : Int)) = true := by simp; omega
              obtain ⟨s, hs⟩ : ∃ s, L[q]? = some s := ⟨_, List.getElem?_eq_getElem hlt⟩
              obtain ⟨b1, o1, ha, hx1⟩ := HS.out _ HR.out (by omega)
              have y1 := hx1 q s hs
              have hT := inter_take hs
              have hsl := HSm.out s (List.mem_of_getElem? hs)
              have hil := HIl.out q (by omega)
              have h8 := H8.out
              have hil2 : (List.intercalate [44] (L.take q)).length ≤ 524296 := by omega
              obtain ⟨I, hI⟩ : ∃ I, List.intercalate [44] (L.take q) = I := ⟨_, rfl⟩
              rw [hI] at hT hil2 ⊢
              have HT := Lib.hid hT
              have hq0 : (0 : Int) ≤ (q : Int) := by omega
              have hql : (q : Int) < (L.length : Int) := by omega
              have hwm : IntKind.i64.wrap ((q : Int) + 1) = ((q + 1 : Nat) : Int) := by rw [IntKind.wrap_i64]; omega
              have HM : Hid (L.length - (q + 1) < gk ∧ q + 1 + (L.length - (q + 1)) = L.length) := ⟨by omega, by omega⟩
              subst ha
              by_cases hqz : q = 0
              · have hz : decide ((0 : Int) < (q : Int)) = false := by simp; omega
                have hzn : decide (0 < q) = false := by simp; omega
                have ha1 := add_s (102 :: 40 :: I) s (by simp; omega)
                have HT2 : Hid (List.intercalate [44] (L.take (q + 1)) = I ++ s) := by show _ = _; rw [HT.out, if_pos hqz]; rfl
                clear hx1 hs hsl hil hil2 h8 hT hI hqz
                go_wp2_with fail
                go_roundg (L.length - (q + 1))
                case measure => exact HM.out.1
                case rel => exact ⟨q + 1, HM.out.2, rfl, by rw [HT2.out], HR⟩
              · have hz : decide ((0 : Int) < (q : Int)) = true := by simp; omega
                have hzn : decide (0 < q) = true := by simp; omega
                have ha1 := add_s (102 :: 40 :: I) [44] (by simp; omega)
                have ha2 := add_s (102 :: 40 :: (I ++ [44])) s (by simp; omega)
                have HT2 : Hid (List.intercalate [44] (L.take (q + 1)) = I ++ 44 :: s) := by show _ = _; rw [HT.out, if_neg hqz]; rfl
                clear hx1 hs hsl hil hil2 h8 hT hI hqz
                go_wp2_with fail
                go_roundg (L.length - (q + 1))
                case measure => exact HM.out.1
                case rel => exact ⟨q + 1, HM.out.2, rfl, by rw [HT2.out], HR⟩
            · have hd : decide ((q : Int) < (L.length : Int)) = false := by simp; omega
              have hqe : q = L.length := by omega
              rw [hqe, List.take_length]
              have hil := HIl.out L.length (Nat.le_refl _)
              rw [List.take_length] at hil
              have h8 := H8.out
              have hrl := HRl.out
              have hfc : fnCode L r = 102 :: 40 :: (List.intercalate [44] L ++ 41 :: r) := rfl
              rw [hfc] at HFc
              have HX2 : Hid (x = (if (102 :: 40 :: (List.intercalate [44] L ++ 41 :: r)).length ≤ 65536 then 102 :: 40 :: (List.intercalate [44] L ++ 41 :: r) else []) ∧ e = (if (102 :: 40 :: (List.intercalate [44] L ++ 41 :: r)).length ≤ 65536 then 0 else 3)) := by
                have h := HX.out
                unfold fcA at h
                rw [if_pos HRs.out, if_pos HAll.out, if_pos H8.out, hfc] at h
                split at h
                · rename_i h1
                  rw [if_pos h1, if_pos h1]
                  exact ⟨(Prod.mk.inj h).1.symm, (Prod.mk.inj h).2.symm⟩
                · rename_i h1
                  rw [if_neg h1, if_neg h1]
                  exact ⟨(Prod.mk.inj h).1.symm, (Prod.mk.inj h).2.symm⟩
              obtain ⟨I, hI⟩ : ∃ I, List.intercalate [44] L = I := ⟨_, rfl⟩
              rw [hI] at hil HFc HX2 ⊢
              have hil2 : I.length ≤ 524296 := by omega
              have ha1 := add_s (102 :: 40 :: I) [41] (by simp; omega)
              have ha2 := add_s (102 :: 40 :: (I ++ [41])) r (by simp; omega)
              have HFc2 := Lib.hid (HFc.out wr (by simp; omega))
              obtain ⟨Y, hY⟩ : ∃ Y, I ++ 41 :: r = Y := ⟨_, rfl⟩
              rw [hY] at HFc2 HX2
              by_cases hle : (102 :: 40 :: Y).length ≤ 65536
              · have hdl : decide ((102 :: 40 :: Y).length ≤ 65536) = true := by simpa using hle
                rw [hdl] at HFc2
                have hx2 := HX2.out
                rw [if_pos hle, if_pos hle] at hx2
                obtain ⟨rfl, rfl⟩ := hx2
                clear HX HX2 hfc HFc HFm hI hil hil2 hrl h8 hqe hle hdl
                go_wp2_with fail
                refine HFc2.out.mono ?_
                rintro e9 w5 ⟨rfl, hb5⟩
                have HB5 := Lib.hid (below_on HR.out hb5 HR.out.size)
                clear hb5
                go_wp2_with fail
                go_ret2
                exact ⟨rfl, HB5.out⟩
              · have hdl : decide ((102 :: 40 :: Y).length ≤ 65536) = false := by simpa using hle
                rw [hdl] at HFc2
                have hx2 := HX2.out
                rw [if_neg hle, if_neg hle] at hx2
                obtain ⟨rfl, rfl⟩ := hx2
                clear HX HX2 hfc HFc HFm hI hil hil2 hrl h8 hqe hle hdl
                go_wp2_with fail
                refine HFc2.out.mono ?_
                rintro e9 w5 ⟨rfl, hb5⟩
                have HB5 := Lib.hid (below_on HR.out hb5 HR.out.size)
                clear hb5
                go_wp2_with fail
                go_ret2
                exact ⟨rfl, HB5.out⟩
        · have hd8 : decide ((8 : Int) < (L.length : Int)) = true := by simp; omega
          have h2 : fcA r L = ([], 3) := by
            unfold fcA
            rw [if_pos HRs.out, if_pos HAll.out, if_neg h8]
          obtain ⟨rfl, rfl⟩ := Prod.mk.inj (HX.out.symm.trans h2)
          clear h2 h8
          go_wp2_with fail
          go_ret2
          exact ⟨rfl, HR.out.1⟩
end Go.Proofs.YtaejddjmkgblfaaGreatDoor
