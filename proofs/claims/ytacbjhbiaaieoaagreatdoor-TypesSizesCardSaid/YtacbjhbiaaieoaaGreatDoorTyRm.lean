/-
  The contract of the document's own reader of a type, in the code: a function.
-/
import Derived.Test.YtacbjhbiaaieoaaGreatDoorTyRl
namespace Go.Proofs.YtacbjhbiaaieoaaGreatDoor
set_option linter.unusedVariables false
set_option linter.unusedSimpArgs false
set_option maxRecDepth 100000
open Go.RowKit

/-- What is left behind a type; behind a list of types. -/
def rE (r : List UInt8) : Option (List UInt8) := (rd r).map Prod.snd
def lE (r : List UInt8) : Option (List UInt8) := (rdL r).map Prod.snd
theorem rE_fn (r : List UInt8) : rE (102 :: r) = ((parL r).map Prod.snd).bind rE := by
  unfold rE
  rw [rd_fn]
  cases parL r with
  | none => rfl
  | some p =>
    simp only [Option.bind_some, Option.map_some]
    cases rd p.2 <;> rfl
theorem lE_step (r : List UInt8) : lE r = (rE r).bind fun y => if y.head? = some 44 then lE (y.drop 1) else if y.head? = some 41 then some (y.drop 1) else none := by
  unfold lE rE
  rw [rdL_step]
  cases rd r with
  | none => rfl
  | some p =>
    simp only [Option.bind_some, Option.map_some]
    split
    · cases rdL (p.2.drop 1) <;> rfl
    · split <;> rfl
theorem nx_of {l : List UInt8} {k : Nat} {w w' : World} {j : Int} {q : Bool} (h : (∃ y, rE (l.drop k) = some y ∧ q = true ∧ j = ((plc l y : Nat) : Int)) ∨ (rE (l.drop k) = none ∧ q = false)) (hb : Below w.heap.size w w') : NxR l k w (.returned (.tuple #[.int .i64 j, .bool q])) w' := by
  refine ⟨⟨j, q, rfl, ?_⟩, hb⟩
  unfold rE at h
  rcases h with ⟨y, h1, h2, h3⟩ | ⟨h1, h2⟩
  · obtain ⟨p, hp, hy⟩ := Option.map_eq_some_iff.1 h1
    exact .inl ⟨p.1, y, by rw [hp, ← hy], h2, h3⟩
  · exact .inr ⟨Option.map_eq_none_iff.1 h1, h2⟩
theorem nx_to {l : List UInt8} {k : Nat} (hk : k ≤ l.length) {j : Int} {q : Bool} (h : (∃ t y, rd (l.drop k) = some (t, y) ∧ q = true ∧ j = ((plc l y : Nat) : Int)) ∨ (rd (l.drop k) = none ∧ q = false)) :
    (∃ P : Nat, q = true ∧ j = (P : Int) ∧ rE (l.drop k) = some (l.drop P) ∧ k < P ∧ P ≤ l.length) ∨ (q = false ∧ rE (l.drop k) = none) := by
  rcases h with ⟨t, y, h1, h2, h3⟩ | ⟨h1, h2⟩
  · obtain ⟨hs, hp⟩ := rd_suf2 h1 hk
    exact .inl ⟨plc l y, h2, h3, by unfold rE; rw [h1, drop_plc hs]; rfl, hp, plc_le _ _⟩
  · exact .inr ⟨h2, by unfold rE; rw [h1]; rfl⟩
theorem head_at (l : List UInt8) (k : Nat) : (l.drop k).head? = l[k]? := by
  rw [List.head?_drop]
set_option maxHeartbeats 8000000 in
theorem c_signed (m : Nat) (hN : NxC m) (l : List UInt8) (k : Nat) (hcI : ((l[k]?.getD 0).toNat : Int) = 102) (w : World) (hk : k < l.length) (hl : l.length ≤ 65536) (hm : l.length - k ≤ m + 1) :
    Calls Tryz.prog 76 #[.string ⟨l.toArray⟩, .int .i64 k] w fun e w' => NxR l k w e w' := by
  have hc : l[k]?.getD 0 = 102 := by
    apply UInt8.toNat_inj.1
    show _ = 102
    omega
  have HFn : Hid (rE (l.drop k) = ((parL (l.drop (k + 1))).map Prod.snd).bind rE) := by
    show _ = _
    rw [drop_at hk, hc]
    exact rE_fn _
  have HNx : Hid (∀ p, k < p → p ≤ l.length → ∀ w, Calls Tryz.prog 44 #[.string ⟨l.toArray⟩, .int .i64 (p : Int)] w fun e w' => NxR l p w e w') := fun p h1 h2 w => hN l p w h2 hl (by omega)
  have HNo : Hid (rE (l.drop k) = none → ∀ w', Below w.heap.size w w' → NxR l k w (.returned (.tuple #[.int .i64 0, .bool false])) w') := fun h w' hb => nx_of (.inr ⟨h, rfl⟩) hb
  have hj0 : (0 : Int) ≤ (k : Int) := by omega
  have hwm : IntKind.i64.wrap ((k : Int) + 1) = ((k + 1 : Nat) : Int) := by rw [IntKind.wrap_i64]; omega
  have hwm2 : IntKind.i64.wrap ((k : Int) + 2) = ((k + 2 : Nat) : Int) := by rw [IntKind.wrap_i64]; omega
  have HL := Lib.hid (And.intro hl hk)
  have hPar : parL (l.drop (k + 1)) = if (l.drop (k + 1)).head? = some 40 then if (l.drop (k + 2)).head? = some 41 then some (.nil, l.drop (k + 3)) else rdL (l.drop (k + 2)) else none := by
    unfold parL
    rw [List.drop_drop, List.drop_drop]
  have HPar := Lib.hid hPar
  clear hcI hc hN hm hPar
  by_cases h1 : k + 1 < l.length
  · have hge : decide ((l.length : Int) ≤ (k : Int) + 1) = false := by simp; omega
    have hk1 : (k : Int) + 1 < (l.length : Int) := by omega
    have hk10 : (0 : Int) ≤ (k : Int) + 1 := by omega
    obtain ⟨c1, hc1⟩ : ∃ c : Int, ((l[k + 1]?.getD 0).toNat : Int) = c := ⟨_, rfl⟩
    have hby1 : ∀ h, (((ByteArray.mk l.toArray)[k + 1]'h).toNat : Int) = c1 := fun h => (byte_at l (k + 1) h).trans hc1
    have hh1 : (l.drop (k + 1)).head? = some (l[k + 1]?.getD 0) := by rw [drop_at h1]; rfl
    by_cases h40 : c1 = 40
    · have hne : (c1 != 40) = false := by simp [h40]
      have HPar2 : Hid (parL (l.drop (k + 1)) = if (l.drop (k + 2)).head? = some 41 then some (.nil, l.drop (k + 3)) else rdL (l.drop (k + 2))) := by
        show _ = _
        rw [HPar.out, hh1, if_pos]
        congr 1
        apply UInt8.toNat_inj.1
        show _ = 40
        omega
      have hwm3 : wrap64 ((k : Int) + 2 + 1) = ((k + 3 : Nat) : Int) := by unfold wrap64; omega
      clear hc1 hh1 h40
      by_cases h2 : k + 2 < l.length
      · have hk2 : (k : Int) + 2 < (l.length : Int) := by omega
        have hk20 : (0 : Int) ≤ (k : Int) + 2 := by omega
        have hd2 : decide ((k : Int) + 2 < (l.length : Int)) = true := by simp; omega
        obtain ⟨c2, hc2⟩ : ∃ c : Int, ((l[k + 2]?.getD 0).toNat : Int) = c := ⟨_, rfl⟩
        have hby2 : ∀ h, (((ByteArray.mk l.toArray)[k + 2]'h).toNat : Int) = c2 := fun h => (byte_at l (k + 2) h).trans hc2
        have hh2 : (l.drop (k + 2)).head? = some (l[k + 2]?.getD 0) := by rw [drop_at h2]; rfl
        by_cases h41 : c2 = 41
        · have he : (c2 == 41) = true := by simp [h41]
          have HRE : Hid (rE (l.drop k) = rE (l.drop (k + 3))) := by
            show _ = _
            rw [HFn.out, HPar2.out, hh2, if_pos]
            · rfl
            · congr 1
              apply UInt8.toNat_inj.1
              show _ = 41
              omega
          have HN3 := Lib.hid (HNx.out (k + 3) (by omega) (by omega))
          have hk3 : k + 3 ≤ l.length := by omega
          have HK3 := Lib.hid hk3
          clear hc2 hh2 h41 hk hl h1 h2 hk3
          go_enter Tryz.func76, Tryz.ntmps76
          go_wp2_with fail
          refine (HN3.out _).mono ?_
          rintro e w4 ⟨⟨j, q, rfl, hq⟩, hb⟩
          have HD : Hid (NxR l k w (.returned (.tuple #[.int .i64 j, .bool q])) w4) := by
            refine nx_of ?_ hb
            rw [HRE.out]
            rcases nx_to HK3.out hq with ⟨P, h1, h2, h3, h4, h5⟩ | ⟨h1, h2⟩
            · exact .inl ⟨_, h3, h1, by rw [h2, plc_drop h5]⟩
            · exact .inr ⟨h2, h1⟩
          clear hq hb
          go_wp2_with fail
          refine bodyPost_ret (v := .tuple #[.int .i64 j, .bool q]) (by simp [results, Tryz.results76, go_sem]) rfl ?_
          exact HD.out
        · have he : (c2 == 41) = false := by simp [h41]
          have HRE : Hid (rE (l.drop k) = (lE (l.drop (k + 2))).bind rE) := by
            show _ = _
            rw [HFn.out, HPar2.out, hh2, if_neg]
            · rfl
            · intro e
              apply h41
              rw [← hc2, Option.some.inj e]
              rfl
          have HK2 := Lib.hid (show k + 2 ≤ l.length by omega)
          clear hc2 hh2 h41 hk hl h1 h2
          go_enter Tryz.func76, Tryz.ntmps76
          go_wp2_with fail
          clear hby2 he
          go_loopg [6] (l.length + 1) (fun g v6 wr => ∃ p : Nat, l.length - p < g ∧ v6 = .int .i64 (p : Int) ∧ Hid (k < p ∧ p ≤ l.length ∧ rE (l.drop k) = (lE (l.drop p)).bind rE ∧ Below w.heap.size w wr))
          case atStart => exact ⟨k + 2, by omega, rfl, by omega, HK2.out, HRE.out, Below.refl _ _⟩
          case round =>
            obtain ⟨p, hp, rfl, HR⟩ := hrel
            have HP := Lib.hid hp
            have HNp := Lib.hid (HNx.out p HR.out.1 HR.out.2.1)
            clear hp
            go_wp2_with fail
            refine (HNp.out _).mono ?_
            rintro e w4 ⟨⟨j, q, rfl, hq⟩, hb⟩
            have HB4 := Lib.hid (below_on HR.out.2.2.2 hb HR.out.2.2.2.size)
            have HQ := Lib.hid (nx_to HR.out.2.1 hq)
            clear hq hb HNp
            cases q
            · have hno : rE (l.drop p) = none := by
                rcases HQ.out with ⟨P, h1, _⟩ | ⟨_, h2⟩
                · cases h1
                · exact h2
              have HX := Lib.hid (HNo.out (by rw [HR.out.2.2.1, lE_step, hno]; rfl))
              clear hno
              go_wp2_with fail
              refine bodyPost_ret (v := .tuple #[.int .i64 0, .bool false]) (by simp [results, Tryz.results76, go_sem]) rfl ?_
              exact HX.out _ HB4.out
            · obtain ⟨P, hjP, hrP, hpP, hPl⟩ : ∃ P : Nat, j = (P : Int) ∧ rE (l.drop p) = some (l.drop P) ∧ p < P ∧ P ≤ l.length := by
                rcases HQ.out with ⟨P, _, h2, h3, h4, h5⟩ | ⟨h1, _⟩
                · exact ⟨P, h2, h3, h4, h5⟩
                · cases h1
              subst hjP
              have HRp : Hid (rE (l.drop k) = (if (l.drop P).head? = some 44 then lE (l.drop (P + 1)) else if (l.drop P).head? = some 41 then some (l.drop (P + 1)) else none).bind rE) := by
                show _ = _
                rw [HR.out.2.2.1, lE_step, hrP]
                simp only [Option.bind_some, List.drop_drop]
              have HPp := Lib.hid (And.intro hpP hPl)
              clear hrP HQ hpP
              by_cases hPe : P < l.length
              · have hgeP : decide (l.length ≤ P) = false := by simp; omega
                have hP0 : (0 : Int) ≤ (P : Int) := by omega
                have hP1 : (P : Int) < (l.length : Int) := by omega
                obtain ⟨c3, hc3⟩ : ∃ c : Int, ((l[P]?.getD 0).toNat : Int) = c := ⟨_, rfl⟩
                have hby3 : ∀ h, (((ByteArray.mk l.toArray)[P]'h).toNat : Int) = c3 := fun h => (byte_at l P h).trans hc3
                have hh3 : (l.drop P).head? = some (l[P]?.getD 0) := by rw [drop_at hPe]; rfl
                have hwP : IntKind.i64.wrap ((P : Int) + 1) = ((P + 1 : Nat) : Int) := by rw [IntKind.wrap_i64]; have := HL.out.1; omega
                have HPe := Lib.hid hPe
                by_cases h44 : c3 = 44
                · have hb44 : l[P]?.getD 0 = 44 := by apply UInt8.toNat_inj.1; show _ = 44; omega
                  have HN : Hid (k < P + 1 ∧ P + 1 ≤ l.length ∧ rE (l.drop k) = (lE (l.drop (P + 1))).bind rE ∧ Below w.heap.size w w4) := ⟨by have := HR.out.1; have := HPp.out.1; omega, hPe, by rw [HRp.out, hh3, hb44, if_pos rfl], HB4.out⟩
                  have HM : Hid (l.length - p < gk + 1 ∧ l.length - (P + 1) < l.length - p) := ⟨by have := HP.out; omega, by have := HPp.out.1; have := HPe.out; omega⟩
                  have HMp := Lib.hid (show l.length - p < gk from HP.out)
                  subst h44
                  clear hc3 hh3 hb44 hPe hPl
                  go_wp2_with fail
                  go_roundg (l.length - p)
                  case measure => exact HMp.out
                  case rel => exact ⟨P + 1, HM.out.2, rfl, HN⟩
                · have h44n : l[P]?.getD 0 ≠ 44 := fun e => h44 (by rw [← hc3, e]; rfl)
                  by_cases h41 : c3 = 41
                  · have hb41 : l[P]?.getD 0 = 41 := by apply UInt8.toNat_inj.1; show _ = 41; omega
                    have HRE3 : Hid (rE (l.drop k) = rE (l.drop (P + 1))) := by
                      show _ = _
                      rw [HRp.out, hh3, if_neg (fun e => h44n (Option.some.inj e)), hb41, if_pos rfl]
                      rfl
                    have HN3 := Lib.hid (HNx.out (P + 1) (by have := HR.out.1; have := HPp.out.1; omega) hPe)
                    have HPe1 := Lib.hid (show P + 1 ≤ l.length from hPe)
                    subst h41
                    clear hc3 hh3 hb41 hPe hPl h44 h44n
                    go_wp2_with fail
                    refine (HN3.out _).mono ?_
                    rintro e w5 ⟨⟨j, q, rfl, hq⟩, hb⟩
                    have HD : Hid (NxR l k w (.returned (.tuple #[.int .i64 j, .bool q])) w5) := by
                      refine nx_of ?_ (below_on HB4.out hb HB4.out.size)
                      rw [HRE3.out]
                      rcases nx_to HPe1.out hq with ⟨P', h1, h2, h3, h4, h5⟩ | ⟨h1, h2⟩
                      · exact .inl ⟨_, h3, h1, by rw [h2, plc_drop h5]⟩
                      · exact .inr ⟨h2, h1⟩
                    clear hq hb
                    go_wp2_with fail
                    refine bodyPost_ret (v := .tuple #[.int .i64 j, .bool q]) (by simp [results, Tryz.results76, go_sem]) rfl ?_
                    exact HD.out
                  · have h41n : l[P]?.getD 0 ≠ 41 := fun e => h41 (by rw [← hc3, e]; rfl)
                    have HX := Lib.hid (HNo.out (by
                      rw [HRp.out, hh3, if_neg (fun e => h44n (Option.some.inj e)), if_neg (fun e => h41n (Option.some.inj e))]
                      rfl))
                    have e44 : (c3 == 44) = false := by simp [h44]
                    have e41 : (c3 == 41) = false := by simp [h41]
                    have f44 : (c3 != 44) = true := by simp [h44]
                    have f41 : (c3 != 41) = true := by simp [h41]
                    clear hc3 hh3 hPe hPl h44 h44n h41 h41n
                    go_wp2_with fail
                    refine bodyPost_ret (v := .tuple #[.int .i64 0, .bool false]) (by simp [results, Tryz.results76, go_sem]) rfl ?_
                    exact HX.out _ HB4.out
              · have hgeP : decide (l.length ≤ P) = true := by simp; omega
                have HX := Lib.hid (HNo.out (by
                  rw [HRp.out, List.drop_of_length_le (show l.length ≤ P by omega), if_neg (by simp), if_neg (by simp)]
                  rfl))
                clear hPe hPl
                go_wp2_with fail
                refine bodyPost_ret (v := .tuple #[.int .i64 0, .bool false]) (by simp [results, Tryz.results76, go_sem]) rfl ?_
                exact HX.out _ HB4.out
      · have hd2 : decide ((k : Int) + 2 < (l.length : Int)) = false := by simp; omega
        have hk2' : ¬ (k : Int) + 2 < (l.length : Int) := by omega
        have HRE : Hid (rE (l.drop k) = (lE (l.drop (k + 2))).bind rE) := by
          show _ = _
          rw [HFn.out, HPar2.out, List.drop_of_length_le (show l.length ≤ k + 2 by omega), if_neg (by simp)]
          rfl
        have HK2 := Lib.hid (show k + 2 ≤ l.length by omega)
        clear hk hl h1 h2
        go_enter Tryz.func76, Tryz.ntmps76
        go_wp2_with fail
        go_loopg [6] (l.length + 1) (fun g v6 wr => ∃ p : Nat, l.length - p < g ∧ v6 = .int .i64 (p : Int) ∧ Hid (k < p ∧ p ≤ l.length ∧ rE (l.drop k) = (lE (l.drop p)).bind rE ∧ Below w.heap.size w wr))
        case atStart => exact ⟨k + 2, by omega, rfl, by omega, HK2.out, HRE.out, Below.refl _ _⟩
        case round =>
          obtain ⟨p, hp, rfl, HR⟩ := hrel
          have HP := Lib.hid hp
          have HNp := Lib.hid (HNx.out p HR.out.1 HR.out.2.1)
          clear hp
          go_wp2_with fail
          refine (HNp.out _).mono ?_
          rintro e w4 ⟨⟨j, q, rfl, hq⟩, hb⟩
          have HB4 := Lib.hid (below_on HR.out.2.2.2 hb HR.out.2.2.2.size)
          have HQ := Lib.hid (nx_to HR.out.2.1 hq)
          clear hq hb HNp
          cases q
          · have hno : rE (l.drop p) = none := by
              rcases HQ.out with ⟨P, h1, _⟩ | ⟨_, h2⟩
              · cases h1
              · exact h2
            have HX := Lib.hid (HNo.out (by rw [HR.out.2.2.1, lE_step, hno]; rfl))
            clear hno
            go_wp2_with fail
            refine bodyPost_ret (v := .tuple #[.int .i64 0, .bool false]) (by simp [results, Tryz.results76, go_sem]) rfl ?_
            exact HX.out _ HB4.out
          · obtain ⟨P, hjP, hrP, hpP, hPl⟩ : ∃ P : Nat, j = (P : Int) ∧ rE (l.drop p) = some (l.drop P) ∧ p < P ∧ P ≤ l.length := by
              rcases HQ.out with ⟨P, _, h2, h3, h4, h5⟩ | ⟨h1, _⟩
              · exact ⟨P, h2, h3, h4, h5⟩
              · cases h1
            subst hjP
            have HRp : Hid (rE (l.drop k) = (if (l.drop P).head? = some 44 then lE (l.drop (P + 1)) else if (l.drop P).head? = some 41 then some (l.drop (P + 1)) else none).bind rE) := by
              show _ = _
              rw [HR.out.2.2.1, lE_step, hrP]
              simp only [Option.bind_some, List.drop_drop]
            have HPp := Lib.hid (And.intro hpP hPl)
            clear hrP HQ hpP
            by_cases hPe : P < l.length
            · have hgeP : decide (l.length ≤ P) = false := by simp; omega
              have hP0 : (0 : Int) ≤ (P : Int) := by omega
              have hP1 : (P : Int) < (l.length : Int) := by omega
              obtain ⟨c3, hc3⟩ : ∃ c : Int, ((l[P]?.getD 0).toNat : Int) = c := ⟨_, rfl⟩
              have hby3 : ∀ h, (((ByteArray.mk l.toArray)[P]'h).toNat : Int) = c3 := fun h => (byte_at l P h).trans hc3
              have hh3 : (l.drop P).head? = some (l[P]?.getD 0) := by rw [drop_at hPe]; rfl
              have hwP : IntKind.i64.wrap ((P : Int) + 1) = ((P + 1 : Nat) : Int) := by rw [IntKind.wrap_i64]; have := HL.out.1; omega
              have HPe := Lib.hid hPe
              by_cases h44 : c3 = 44
              · have hb44 : l[P]?.getD 0 = 44 := by apply UInt8.toNat_inj.1; show _ = 44; omega
                have HN : Hid (k < P + 1 ∧ P + 1 ≤ l.length ∧ rE (l.drop k) = (lE (l.drop (P + 1))).bind rE ∧ Below w.heap.size w w4) := ⟨by have := HR.out.1; have := HPp.out.1; omega, hPe, by rw [HRp.out, hh3, hb44, if_pos rfl], HB4.out⟩
                have HM : Hid (l.length - p < gk + 1 ∧ l.length - (P + 1) < l.length - p) := ⟨by have := HP.out; omega, by have := HPp.out.1; have := HPe.out; omega⟩
                have HMp := Lib.hid (show l.length - p < gk from HP.out)
                subst h44
                clear hc3 hh3 hb44 hPe hPl
                go_wp2_with fail
                go_roundg (l.length - p)
                case measure => exact HMp.out
                case rel => exact ⟨P + 1, HM.out.2, rfl, HN⟩
              · have h44n : l[P]?.getD 0 ≠ 44 := fun e => h44 (by rw [← hc3, e]; rfl)
                by_cases h41 : c3 = 41
                · have hb41 : l[P]?.getD 0 = 41 := by apply UInt8.toNat_inj.1; show _ = 41; omega
                  have HRE3 : Hid (rE (l.drop k) = rE (l.drop (P + 1))) := by
                    show _ = _
                    rw [HRp.out, hh3, if_neg (fun e => h44n (Option.some.inj e)), hb41, if_pos rfl]
                    rfl
                  have HN3 := Lib.hid (HNx.out (P + 1) (by have := HR.out.1; have := HPp.out.1; omega) hPe)
                  have HPe1 := Lib.hid (show P + 1 ≤ l.length from hPe)
                  subst h41
                  clear hc3 hh3 hb41 hPe hPl h44 h44n
                  go_wp2_with fail
                  refine (HN3.out _).mono ?_
                  rintro e w5 ⟨⟨j, q, rfl, hq⟩, hb⟩
                  have HD : Hid (NxR l k w (.returned (.tuple #[.int .i64 j, .bool q])) w5) := by
                    refine nx_of ?_ (below_on HB4.out hb HB4.out.size)
                    rw [HRE3.out]
                    rcases nx_to HPe1.out hq with ⟨P', h1, h2, h3, h4, h5⟩ | ⟨h1, h2⟩
                    · exact .inl ⟨_, h3, h1, by rw [h2, plc_drop h5]⟩
                    · exact .inr ⟨h2, h1⟩
                  clear hq hb
                  go_wp2_with fail
                  refine bodyPost_ret (v := .tuple #[.int .i64 j, .bool q]) (by simp [results, Tryz.results76, go_sem]) rfl ?_
                  exact HD.out
                · have h41n : l[P]?.getD 0 ≠ 41 := fun e => h41 (by rw [← hc3, e]; rfl)
                  have HX := Lib.hid (HNo.out (by
                    rw [HRp.out, hh3, if_neg (fun e => h44n (Option.some.inj e)), if_neg (fun e => h41n (Option.some.inj e))]
                    rfl))
                  have e44 : (c3 == 44) = false := by simp [h44]
                  have e41 : (c3 == 41) = false := by simp [h41]
                  have f44 : (c3 != 44) = true := by simp [h44]
                  have f41 : (c3 != 41) = true := by simp [h41]
                  clear hc3 hh3 hPe hPl h44 h44n h41 h41n
                  go_wp2_with fail
                  refine bodyPost_ret (v := .tuple #[.int .i64 0, .bool false]) (by simp [results, Tryz.results76, go_sem]) rfl ?_
                  exact HX.out _ HB4.out
            · have hgeP : decide (l.length ≤ P) = true := by simp; omega
              have HX := Lib.hid (HNo.out (by
                rw [HRp.out, List.drop_of_length_le (show l.length ≤ P by omega), if_neg (by simp), if_neg (by simp)]
                rfl))
              clear hPe hPl
              go_wp2_with fail
              refine bodyPost_ret (v := .tuple #[.int .i64 0, .bool false]) (by simp [results, Tryz.results76, go_sem]) rfl ?_
              exact HX.out _ HB4.out
    · have hne : (c1 != 40) = true := by simp [h40]
      have HX := Lib.hid (HNo.out (by
        rw [HFn.out, HPar.out, hh1, if_neg]
        · rfl
        · intro e
          apply h40
          rw [← hc1, Option.some.inj e]
          rfl))
      clear hc1 hh1 h40 hk hl
      go_enter Tryz.func76, Tryz.ntmps76
      go_wp2_with fail
      refine bodyPost_ret (v := .tuple #[.int .i64 0, .bool false]) (by simp [results, Tryz.results76, go_sem]) rfl ?_
      exact HX.out _ (Below.refl _ _)
  · have hk1' : ¬ (k : Int) + 1 < (l.length : Int) := by omega
    have hge : decide ((l.length : Int) ≤ (k : Int) + 1) = true := by simp; omega
    have HX := Lib.hid (HNo.out (by
      rw [HFn.out, HPar.out, List.drop_of_length_le (show l.length ≤ k + 1 by omega), if_neg (by simp)]
      rfl))
    clear h1 hk hl
    go_enter Tryz.func76, Tryz.ntmps76
    go_wp2_with fail
    refine bodyPost_ret (v := .tuple #[.int .i64 0, .bool false]) (by simp [results, Tryz.results76, go_sem]) rfl ?_
    exact HX.out _ (Below.refl _ _)
end Go.Proofs.YtacbjhbiaaieoaaGreatDoor
