/-
  The contract of IsSymbol, in the code.
-/
import Derived.Test.YthekokjmdjokgaaDoorAsmSym
namespace Go.Proofs.YthekokjmdjokgaaDoor
set_option linter.unusedVariables false
set_option linter.unusedSimpArgs false
set_option maxRecDepth 100000
open Go.ChangeShapes Go.WideShapes Go.ChangeAt Go.RowKit

theorem symC_cons {l : List UInt8} (h0 : l ≠ []) (h : l.length ≤ 63) : symC l = (!dig8 (l[0]?.getD 0) && l.all (fun c => dig8 c || beg8 c)) := by
  unfold symC
  simp [h0, h]
theorem take_snoc {l : List UInt8} {k : Nat} (hlt : k < l.length) : l.take (k + 1) = l.take k ++ [l[k]?.getD 0] := by
  rw [List.take_add_one, List.getElem?_eq_getElem hlt]; rfl
set_option maxHeartbeats 2000000 in
theorem c_hasB (l : List UInt8) (w : World) (hm : l.length ≤ maxLen) :
    Calls Tryd.prog 13 #[.string ⟨l.toArray⟩] w fun e w' => e = .returned (.bool (symC l)) ∧ w = w' := by
  unfold maxLen at hm
  by_cases h0 : l = []
  · subst h0
    go_enter Tryd.func13, Tryd.ntmps13
    go_wp2
    go_returns
    exact ⟨rfl, rfl⟩
  have hpos : 0 < l.length := List.length_pos_iff.2 h0
  by_cases h : l.length ≤ 63
  · have hd : decide ((63 : Int) < (l.length : Int)) = false := by simp; omega
    have hz : ((l.length : Int) == 0) = false := by simp; omega
    have HN := Lib.hid (symC_cons h0 h)
    have H63 := Lib.hid h
    obtain ⟨c0, hc0⟩ : ∃ c : Int, ((l[0]?.getD 0).toNat : Int) = c := ⟨_, rfl⟩
    have hb0 : ∀ h, (((ByteArray.mk l.toArray)[0]'h).toNat : Int) = c0 := fun h => (byte_at l 0 h).trans hc0
    have hcb : 0 ≤ c0 ∧ c0 ≤ 255 := by have := (l[0]?.getD 0).toNat_lt; omega
    obtain ⟨hcb0, hcb1⟩ := hcb
    have HC0 : Hid (dig8 (l[0]?.getD 0) = digB c0) := by show digB _ = _; rw [hc0]
    clear h0 hc0 h
    cases hdg : digB c0
    · go_enter Tryd.func13, Tryd.ntmps13
      go_wp2_with (go_at_call 25; refine (c_isDigit _ _ (by omega) (by omega)).mono ?_; rw [hdg]; rintro e w2 ⟨rfl, rfl⟩)
      clear hb0 hd hz
      go_loop [19] (fun i => ∃ k : Nat, k ≤ l.length ∧ i = .int .i64 k ∧ Hid (∀ c ∈ l.take k, (dig8 c || beg8 c) = true)) (fun i => l.length - (intOf i).toNat)
      case atStart => exact ⟨0, Nat.zero_le _, rfl, fun c hc => by simp at hc⟩
      case round =>
        obtain ⟨k, hk, rfl, HK⟩ := hrel
        by_cases hlt : k < l.length
        · obtain ⟨c, hc⟩ : ∃ c : Int, ((l[k]?.getD 0).toNat : Int) = c := ⟨_, rfl⟩
          have hby : ∀ h, (((ByteArray.mk l.toArray)[k]'h).toNat : Int) = c := fun h => (byte_at l k h).trans hc
          have hcb : 0 ≤ c ∧ c ≤ 255 := by have := (l[k]?.getD 0).toNat_lt; omega
          obtain ⟨hb0, hb1⟩ := hcb
          have HG : Hid (l[k]?.getD 0 = l[k]'hlt) := by show _ = _; rw [List.getElem?_eq_getElem hlt]; rfl
          have HDg : Hid (dig8 (l[k]?.getD 0) = digB c) := by show digB _ = _; rw [hc]
          have HBg : Hid (beg8 (l[k]?.getD 0) = begB c) := by show begB _ = _; rw [hc]
          have hml : l.length ≤ 63 := H63.out
          have HT := Lib.hid (take_snoc hlt)
          clear hc
          have HYES : Hid ((digB c || begB c) = true → Hid (∀ c ∈ l.take (k + 1), (dig8 c || beg8 c) = true)) := fun hy => by
            show ∀ _, _
            rw [HT.out]
            intro x hx
            rcases List.mem_append.1 hx with hx | hx
            · exact HK.out x hx
            · simp at hx
              subst hx
              rw [HDg.out, HBg.out]
              exact hy
          have HNO : Hid ((digB c || begB c) = false → symC l = false) := fun hy => by
            rw [HN.out]
            have : l.all (fun c => dig8 c || beg8 c) = false := by
              rw [List.all_eq_false]
              refine ⟨l[k]'hlt, List.getElem_mem hlt, ?_⟩
              rw [← HG.out, HDg.out, HBg.out, hy]
              simp
            rw [this, Bool.and_false]
          cases hd1 : digB c
          · cases hd2 : begB c
            · have HV := Lib.hid (HNO.out (by rw [hd1, hd2]; rfl))
              go_wp2_with (first
                | (go_at_call 25; refine (c_isDigit _ _ (by omega) (by omega)).mono ?_; rw [hd1]; rintro e w2 ⟨rfl, rfl⟩)
                | (go_at_call 26; refine (c_begins _ _ (by omega) (by omega)).mono ?_; rw [hd2]; rintro e w2 ⟨rfl, rfl⟩))
              go_ret
              exact ⟨ret_b HV.out.symm, rfl⟩
            · have HV := HYES.out (by rw [hd1, hd2]; rfl)
              go_wp2_with (first
                | (go_at_call 25; refine (c_isDigit _ _ (by omega) (by omega)).mono ?_; rw [hd1]; rintro e w2 ⟨rfl, rfl⟩)
                | (go_at_call 26; refine (c_begins _ _ (by omega) (by omega)).mono ?_; rw [hd2]; rintro e w2 ⟨rfl, rfl⟩))
              go_round
              case rel => exact ⟨k + 1, by omega, by go_num, HV⟩
              case measure => simp [intOf]; omega
          · have HV := HYES.out (by rw [hd1]; rfl)
            go_wp2_with (go_at_call 25; refine (c_isDigit _ _ (by omega) (by omega)).mono ?_; rw [hd1]; rintro e w2 ⟨rfl, rfl⟩)
            go_round
            case rel => exact ⟨k + 1, by omega, by go_num, HV⟩
            case measure => simp [intOf]; omega
        · have hge : decide (k < l.length) = false := by simp; omega
          have HK2 := Lib.hid (show l.take k = l by rw [List.take_of_length_le (by omega)])
          clear hk hlt
          go_wp2
          go_ret
          refine ⟨ret_b ?_, rfl⟩
          rw [HN.out, HC0.out, hdg]
          symm
          have := HK.out
          rw [HK2.out] at this
          rw [List.all_eq_true.2 this]
          rfl
    · have HV : Hid (symC l = false) := by show _ = _; rw [HN.out, HC0.out, hdg]; rfl
      go_enter Tryd.func13, Tryd.ntmps13
      go_wp2_with (go_at_call 25; refine (c_isDigit _ _ (by omega) (by omega)).mono ?_; rw [hdg]; rintro e w2 ⟨rfl, rfl⟩)
      go_ret
      exact ⟨ret_b HV.out.symm, rfl⟩
  · have hd : decide ((63 : Int) < (l.length : Int)) = true := by simp; omega
    have hz : ((l.length : Int) == 0) = false := by simp; omega
    have HV : Hid (symC l = false) := by show _ = _; unfold symC; simp [h]
    clear h h0
    go_enter Tryd.func13, Tryd.ntmps13
    go_wp2
    go_ret
    exact ⟨ret_b HV.out.symm, rfl⟩
theorem symC_len {l : List UInt8} (h : symC l = true) : l.length ≤ 63 ∧ ∀ c ∈ l, c ≠ 32 := by
  unfold symC at h
  simp only [Bool.and_eq_true, decide_eq_true_eq, List.all_eq_true] at h
  refine ⟨h.1.1.2, fun c hc e => ?_⟩
  have := h.2 c hc
  subst e
  revert this
  decide
set_option maxHeartbeats 2000000 in
theorem c_IsSymbol (l : List UInt8) (w : World) (hm : l.length ≤ maxLen) (hg : GW w) :
    Calls Tryd.prog 6 #[.string ⟨l.toArray⟩] w fun e w' => e = .returned (.bool (symB l)) ∧ Below w.heap.size w w' := by
  have HG := Lib.hid hg
  have HM := Lib.hid hm
  clear hg hm
  cases h1 : symC l
  · have HV : Hid (symB l = false) := by show _ = _; unfold symB; rw [h1]; rfl
    rw [HV.out]
    go_enter Tryd.func6, Tryd.ntmps6
    go_wp2_with fail
    refine (c_hasB l _ HM.out).mono ?_
    rw [h1]
    rintro e w1 ⟨rfl, rfl⟩
    go_wp2_with fail
    go_ret
    exact ⟨rfl, Below.refl _ _⟩
  · obtain ⟨hlen, hbl⟩ := symC_len h1
    have HBl := Lib.hid hbl
    have HLen := Lib.hid hlen
    have HV : Hid (symB l = (!ownB l && !regL l && !operB l)) := by show _ = _; unfold symB; rw [h1]; rfl
    rw [HV.out]
    clear hbl hlen
    go_enter Tryd.func6, Tryd.ntmps6
    go_wp2_with fail
    refine (c_hasB l _ HM.out).mono ?_
    rw [h1]
    rintro e w1 ⟨rfl, rfl⟩
    go_wp2_with fail
    refine (c_own l _).mono ?_
    cases h2 : ownB l
    · rintro e w1 ⟨rfl, rfl⟩
      go_wp2_with fail
      refine (c_like l _ HLen.out).mono ?_
      cases h3 : regL l
      · rintro e w2 ⟨rfl, hb2⟩
        have HB2 := Lib.hid hb2
        go_wp2_with fail
        refine (c_oper l _ HLen.out HBl.out (HG.out.next hb2 rfl)).mono ?_
        rintro e w3 ⟨rfl, hb3⟩
        have HB3 : Hid (Below w.heap.size w w3) := below_on HB2.out hb3 HB2.out.size
        clear hb2 hb3
        go_wp2_with fail
        go_ret
        exact ⟨ret_b (by simp [h2, h3]), HB3.out⟩
      · rintro e w2 ⟨rfl, hb2⟩
        go_wp2_with fail
        go_ret
        exact ⟨ret_b (by simp [h2, h3]), hb2⟩
    · rintro e w1 ⟨rfl, rfl⟩
      go_wp2_with fail
      go_ret
      exact ⟨ret_b (by simp [h2]), Below.refl _ _⟩
end Go.Proofs.YthekokjmdjokgaaDoor
