/-
  The contracts of words and names, in the document's answers.
-/
import Derived.Test.YtnenhehnoolhlaaDoorLexRef1
namespace Go.Proofs.YtnenhehnoolhlaaDoor
set_option linter.unusedVariables false
set_option linter.unusedSimpArgs false
set_option maxRecDepth 100000
open Go.RowKit

set_option maxHeartbeats 2000000 in
theorem c_bWord (l : List UInt8) (w : World) (hl : l.length ≤ 140737488355328) :
    Calls Tryd.prog 34 #[.string ⟨l.toArray⟩] w fun e w' => e = .returned (.bool (wordB l)) ∧ w = w' := by
  by_cases h0 : l = []
  · have HV : Hid (wordB l = false) := by show _ = _; unfold wordB; simp [h0]
    rw [HV.out]
    subst h0
    go_enter Tryd.func34, Tryd.ntmps34
    go_wp2_with fail
    go_ret
    exact ⟨rfl, rfl⟩
  have he : l.isEmpty = false := by cases l with
    | nil => exact absurd rfl h0
    | cons => rfl
  have he2 : (l == []) = false := by simp [h0]
  have hpos : 0 < l.length := List.length_pos_iff.2 h0
  obtain ⟨cI, hcI⟩ : ∃ cI : Int, ((l[0]?.getD 0).toNat : Int) = cI := ⟨_, rfl⟩
  have hby : ∀ h, (((ByteArray.mk l.toArray)[0]'h).toNat : Int) = cI := fun h => (byte_at l 0 h).trans hcI
  have hcb : 0 ≤ cI ∧ cI ≤ 255 := by have := (l[0]?.getD 0).toNat_lt; omega
  obtain ⟨hc0, hc1⟩ := hcb
  have HWd : Hid (wordB l = (ltrI cI && l.all wrd8)) := by
    show _ = _
    unfold wordB
    have : ltr8 (l[0]?.getD 0) = ltrI cI := by show ltrI _ = _; rw [hcI]
    rw [this]
    simp [h0]
  clear hcI h0
  cases hL : ltrI cI
  · have HV : Hid (wordB l = false) := by show _ = _; rw [HWd.out, hL]; rfl
    rw [HV.out]
    go_enter Tryd.func34, Tryd.ntmps34
    go_wp2_with fail
    refine (c_bletter cI _ hc0 hc1).mono ?_
    rw [hL]
    rintro e w2 ⟨rfl, rfl⟩
    go_wp2_with fail
    go_ret
    exact ⟨rfl, rfl⟩
  · have HV : Hid (wordB l = l.all wrd8) := by show _ = _; rw [HWd.out, hL]; rfl
    rw [HV.out]
    obtain ⟨r, hr⟩ : ∃ r, l.all wrd8 = r := ⟨_, rfl⟩
    rw [hr]
    have HR := Lib.hid hr
    clear hr
    go_enter Tryd.func34, Tryd.ntmps34
    go_wp2_with fail
    refine (c_bletter cI _ hc0 hc1).mono ?_
    rw [hL]
    rintro e w2 ⟨rfl, rfl⟩
    go_wp2_with fail
    clear hby hc0 hc1
    go_loop [3] (fun i => ∃ k : Nat, k ≤ l.length ∧ i = .int .i64 k ∧ Hid ((l.take k).all wrd8 = true)) (fun i => l.length - (intOf i).toNat)
    case atStart => exact ⟨0, Nat.zero_le _, rfl, rfl⟩
    case round =>
      obtain ⟨k, hk, rfl, HK⟩ := hrel
      by_cases hlt : k < l.length
      · obtain ⟨cI, hcI⟩ : ∃ cI : Int, ((l[k]?.getD 0).toNat : Int) = cI := ⟨_, rfl⟩
        have hby : ∀ h, (((ByteArray.mk l.toArray)[k]'h).toNat : Int) = cI := fun h => (byte_at l k h).trans hcI
        have hcb : 0 ≤ cI ∧ cI ≤ 255 := by have := (l[k]?.getD 0).toNat_lt; omega
        obtain ⟨hc0, hc1⟩ := hcb
        have HW8 : Hid (wrd8 (l[k]?.getD 0) = (ltrI cI || digI cI)) := by show (ltrI _ || digI _) = _; rw [hcI]
        have HTk := Lib.hid (take_snoc hlt)
        have HNx : Hid ((ltrI cI || digI cI) = true → (l.take (k + 1)).all wrd8 = true) := fun h => by
          rw [HTk.out, List.all_append, HK.out, Bool.true_and]
          show (wrd8 _ && true) = true
          rw [HW8.out, h]
          rfl
        have HNo : Hid ((ltrI cI || digI cI) = false → r = false) := fun h => by
          rw [← HR.out, List.all_eq_false]
          refine ⟨l[k]?.getD 0, ?_, by rw [HW8.out, h]; simp⟩
          rw [List.getElem?_eq_getElem hlt]
          exact List.getElem_mem hlt
        have hk0 : (0 : Int) ≤ (k : Int) := by omega
        have hk1 : (k : Int) < (l.length : Int) := by omega
        clear hcI
        cases hLk : ltrI cI
        · cases hD : digI cI
          · have HV2 := Lib.hid (HNo.out (by rw [hLk, hD]; rfl))
            have hor : cI < 48 ∨ 48 ≤ cI ∧ 57 < cI := by unfold digI at hD; simp at hD; omega
            rcases hor with h48 | ⟨h48, h57⟩
            all_goals
              go_wp2_with fail
              refine (c_bletter cI _ hc0 hc1).mono ?_
              rw [hLk]
              rintro e w2 ⟨rfl, rfl⟩
              go_wp2_with fail
              go_ret
              exact ⟨ret_b HV2.out.symm, rfl⟩
          · have HA2 := Lib.hid (HNx.out (by rw [hLk, hD]; rfl))
            have hin : 48 ≤ cI ∧ cI ≤ 57 := by unfold digI at hD; simpa using hD
            obtain ⟨h48, h57⟩ := hin
            go_wp2_with fail
            refine (c_bletter cI _ hc0 hc1).mono ?_
            rw [hLk]
            rintro e w2 ⟨rfl, rfl⟩
            go_wp2_with fail
            go_round
            case rel => exact ⟨k + 1, by omega, by go_num, HA2.out⟩
            case measure => simp [intOf]; omega
        · have HA2 := Lib.hid (HNx.out (by rw [hLk]; rfl))
          go_wp2_with fail
          refine (c_bletter cI _ hc0 hc1).mono ?_
          rw [hLk]
          rintro e w2 ⟨rfl, rfl⟩
          go_wp2_with fail
          go_round
          case rel => exact ⟨k + 1, by omega, by go_num, HA2.out⟩
          case measure => simp [intOf]; omega
      · have hge : decide (k < l.length) = false := by simp; omega
        have HV2 : Hid (r = true) := by
          have h := HK.out
          rw [List.take_of_length_le (by omega)] at h
          exact HR.out.symm.trans h
        clear hk hlt
        go_wp2_with fail
        go_ret
        exact ⟨ret_b HV2.out.symm, rfl⟩
set_option maxHeartbeats 2000000 in
theorem c_bName (l : List UInt8) (w : World) (hl : l.length ≤ 9223372036854775807) :
    Calls Tryd.prog 21 #[.string ⟨l.toArray⟩] w fun e w' => e = .returned (.bool (nameB l)) ∧ Below w.heap.size w w' := by
  have HN : Hid (nameB l = (decide (l.length ≤ 31) && wordB l && !keyB l)) := by show _ = _; unfold nameB; rfl
  rw [HN.out]
  by_cases h1 : l.length ≤ 31
  · have hd : decide ((l.length : Int) ≤ 31) = true := by simp; omega
    have HD : Hid (decide (l.length ≤ 31) = true) := by show _ = _; simp [h1]
    rw [HD.out]
    cases hw : wordB l
    · go_enter Tryd.func21, Tryd.ntmps21
      go_wp2_with fail
      refine (c_bWord l _ (by omega)).mono ?_
      rw [hw]
      rintro e w2 ⟨rfl, rfl⟩
      go_wp2_with fail
      go_ret
      exact ⟨rfl, Below.refl _ _⟩
    · cases hk : keyB l
      all_goals
        go_enter Tryd.func21, Tryd.ntmps21
        go_wp2_with fail
        refine (c_bWord l _ (by omega)).mono ?_
        rw [hw]
        rintro e w2 ⟨rfl, rfl⟩
        go_wp2_with fail
        refine (c_bKey l _).mono ?_
        rw [hk]
        rintro e w2 ⟨rfl, hb⟩
        go_wp2_with fail
        go_ret
        exact ⟨rfl, hb⟩
  · have hd : decide ((l.length : Int) ≤ 31) = false := by simp; omega
    have HD : Hid (decide (l.length ≤ 31) = false) := by show _ = _; simp; omega
    rw [HD.out]
    go_enter Tryd.func21, Tryd.ntmps21
    go_wp2_with fail
    go_ret
    exact ⟨rfl, Below.refl _ _⟩
end Go.Proofs.YtnenhehnoolhlaaDoor
