/-
  The contract of the document's IsSymbol.
-/
import Derived.Test.YthekokjmdjokgaaDoorAsmSym2
namespace Go.Proofs.YthekokjmdjokgaaDoor
set_option linter.unusedVariables false
set_option linter.unusedSimpArgs false
set_option maxRecDepth 100000
open Go.ChangeShapes Go.WideShapes Go.ChangeAt Go.RowKit

def extTab : List (List UInt8) := [[108, 97], [99, 111, 110, 115, 116], [104, 105, 103, 104], [108, 111, 119], [46, 116, 101, 120, 116], [46, 100, 97, 116, 97], [46, 103, 108, 111, 98, 97, 108], [46, 97, 108, 105, 103, 110], [46, 119, 111, 114, 100], [46, 98, 121, 116, 101], [46, 115, 112, 97, 99, 101]]
def allTab : List (List UInt8) := nmTab.drop 1 ++ extTab
def allA : Array Value := (allTab.map fun l => Value.string ⟨l.toArray⟩).toArray
theorem c_words (w : World) :
    Calls Tryd.prog 19 #[] w fun e w' => e = .returned (.slice (some ⟨w.heap.size, 0, none⟩) 53 53) ∧ w' = w.alloc (.cells allA 9) := by
  go_enter Tryd.func19, Tryd.ntmps19
  go_wp2
  go_ret
  exact ⟨rfl, rfl⟩
theorem all_at (w : World) (k : Nat) (s : List UInt8) (hs : allTab[k]? = some s) : (w.alloc (.cells allA 9)).cell? ⟨w.heap.size, k, none⟩ = some (.string ⟨s.toArray⟩) := by
  rw [cell_of_row (w.alloc (.cells allA 9)) w.heap.size k allA 9 (0, 0) (heap_alloc_new w _)]
  unfold allA
  rw [List.getElem?_toArray, List.getElem?_map, hs]
  rfl
theorem all_len : allTab.length = 53 := by decide
set_option maxHeartbeats 1000000 in
theorem c_In (g cap n : Nat) (T : List (List UInt8)) (l : List UInt8) (w : World) (hn : T.length = n) (hn2 : n ≤ 64) (hc : n ≤ cap) (hT : ∀ k s, T[k]? = some s → w.cell? ⟨g, k, none⟩ = some (.string ⟨s.toArray⟩)) :
    Calls Tryd.prog 18 #[.slice (some ⟨g, 0, none⟩) n cap, .string ⟨l.toArray⟩] w fun e w' => e = .returned (.bool (T.contains l)) ∧ w = w' := by
  have HT := Lib.hid hT
  have HN := Lib.hid hn
  obtain ⟨r, hr⟩ : ∃ r, r = T.contains l := ⟨_, rfl⟩
  have HRr := Lib.hid hr
  rw [← hr]
  clear hT hn hr
  go_enter Tryd.func18, Tryd.ntmps18
  go_wp2
  go_loop [5] (fun i => ∃ k : Nat, k ≤ n ∧ i = .int .i64 k ∧ Hid ((T.take k).contains l = false)) (fun i => n - (intOf i).toNat)
  case atStart => exact ⟨0, Nat.zero_le _, rfl, rfl⟩
  case round =>
    obtain ⟨k, hk, rfl, HK⟩ := hrel
    by_cases hlt : k < n
    · obtain ⟨s, hs⟩ : ∃ s, T[k]? = some s := ⟨_, List.getElem?_eq_getElem (by rw [HN.out]; exact hlt)⟩
      have hcell := HT.out k s hs
      have HTk : Hid (T.take (k + 1) = T.take k ++ [s]) := by show _ = _; rw [List.take_add_one, hs]; rfl
      have HIn : Hid (s ∈ T) := List.mem_of_getElem? hs
      have hk0 : (0 : Int) ≤ (k : Int) := by omega
      have hk1 : (k : Int) < (n : Int) := by omega
      clear hs
      cases he : (s == l)
      · have HNx : Hid ((T.take (k + 1)).contains l = false) := by
          have h := HK.out
          rw [List.contains_eq_any_beq] at h
          show _ = _
          rw [HTk.out, List.contains_eq_any_beq, List.any_append, h]
          have : (l == s) = false := by rw [Bool.eq_false_iff]; intro h2; rw [beq_iff_eq] at h2; subst h2; simp at he
          simp [this]
        go_wp2
        go_round
        case rel => exact ⟨k + 1, by omega, by go_num, HNx⟩
        case measure => simp [intOf]; omega
      · have HV : Hid (r = true) := by
          rw [beq_iff_eq] at he
          subst he
          show _ = _
          rw [HRr.out, List.contains_iff_mem]
          exact HIn.out
        go_wp2
        go_ret
        exact ⟨ret_b HV.out.symm, rfl⟩
    · have hge : decide (k < n) = false := by simp; omega
      have HV : Hid (r = false) := by
        have h := HK.out
        rw [List.take_of_length_le (by rw [HN.out]; omega)] at h
        exact HRr.out.trans h
      clear hk hlt
      go_wp2
      go_ret
      exact ⟨ret_b HV.out.symm, rfl⟩
theorem all_has (l : List UInt8) : allTab.contains l = (operB l || ownB l) := by
  unfold allTab operB ownB
  rw [List.contains_eq_any_beq, List.any_append]
  have e1 : (nmTab.drop 1).any (fun x => l == x) = ((List.range 43).drop 1).any fun (k : Nat) => nm (k : Int) == l := by
    have : nmTab.drop 1 = ((List.range 43).drop 1).map fun (k : Nat) => nm (k : Int) := by decide +kernel
    rw [this, List.any_map]
    congr 1
    funext k
    exact Bool.beq_comm
  have e2 : extTab.any (fun x => l == x) = ownTab.contains l := by
    rw [List.contains_eq_any_beq]
    unfold extTab ownTab
    simp only [List.any_cons, List.any_nil, Bool.or_false]
    cases l == [108, 97] <;> cases l == [99, 111, 110, 115, 116] <;> cases l == [104, 105, 103, 104] <;> cases l == [108, 111, 119] <;> simp
  rw [e1, e2]
set_option maxHeartbeats 4000000 in
theorem c_rIsSymbol (l : List UInt8) (w : World) (hm : l.length ≤ maxLen) :
    Calls Tryd.prog 7 #[.string ⟨l.toArray⟩] w fun e w' => e = .returned (.bool (symB l)) ∧ Below w.heap.size w w' := by
  unfold maxLen at hm
  obtain ⟨sb, hsb⟩ : ∃ r, r = symB l := ⟨_, rfl⟩
  rw [← hsb]
  by_cases h0 : l = []
  · have HV : Hid (sb = false) := by rw [hsb, h0]; rfl
    subst h0
    clear hsb
    go_enter Tryd.func7, Tryd.ntmps7
    go_wp2
    go_ret
    exact ⟨ret_b HV.out.symm, Below.refl _ _⟩
  have hpos : 0 < l.length := List.length_pos_iff.2 h0
  have he : l.isEmpty = false := by cases l with
    | nil => exact absurd rfl h0
    | cons => rfl
  have he2 : (l == []) = false := by simp [h0]
  by_cases h : l.length ≤ 63
  · have hd : decide ((63 : Int) < (l.length : Int)) = false := by simp; omega
    have HN := Lib.hid (symC_cons h0 h)
    have H63 := Lib.hid h
    obtain ⟨c0, hc0⟩ : ∃ c : Int, ((l[0]?.getD 0).toNat : Int) = c := ⟨_, rfl⟩
    have hb0 : ∀ h, (((ByteArray.mk l.toArray)[0]'h).toNat : Int) = c0 := fun h => (byte_at l 0 h).trans hc0
    have hcb : 0 ≤ c0 ∧ c0 ≤ 255 := by have := (l[0]?.getD 0).toNat_lt; omega
    obtain ⟨hcb0, hcb1⟩ := hcb
    have HG0 : Hid (l[0]?.getD 0 = l[0]'hpos) := by show _ = _; rw [List.getElem?_eq_getElem hpos]; rfl
    have HC0 : Hid (dig8 (l[0]?.getD 0) = digB c0) := by show digB _ = _; rw [hc0]
    have HB0 : Hid (beg8 (l[0]?.getD 0) = begB c0) := by show begB _ = _; rw [hc0]
    have HCc := Lib.hid hc0
    clear h0 hc0 h
    cases hbg : begB c0
    · have HV : Hid (sb = false) := by
        rw [hsb]
        have : symC l = false := by
          rw [HN.out]
          cases hx : digB c0
          · have : l.all (fun c => dig8 c || beg8 c) = false := by
              rw [List.all_eq_false]
              refine ⟨l[0]'hpos, List.getElem_mem hpos, ?_⟩
              rw [← HG0.out, HC0.out, HB0.out, hbg, hx]
              simp
            rw [this, Bool.and_false]
          · rw [HC0.out, hx]; rfl
        show _ = _
        unfold symB
        rw [this]
        rfl
      clear hsb
      go_enter Tryd.func7, Tryd.ntmps7
      go_wp2_with (go_at_call 17; refine (c_rLetter _ _ (by omega) (by omega)).mono ?_; rw [hbg]; rintro e w2 ⟨rfl, rfl⟩)
      go_ret
      exact ⟨ret_b HV.out.symm, Below.refl _ _⟩
    · have hnd : digB c0 = false := by
        unfold begB at hbg
        unfold digB
        simp at hbg ⊢
        omega
      have HSb : Hid (sb = (symC l && !ownB l && !regL l && !operB l)) := hsb
      have HAll := Lib.hid (all_has l)
      clear hsb
      cases hin : allTab.contains l
      · go_enter Tryd.func7, Tryd.ntmps7
        go_wp2_with fail
        refine (c_rLetter _ _ (by omega) (by omega)).mono ?_
        rw [hbg]
        rintro e w2 ⟨rfl, rfl⟩
        go_wp2_with fail
        refine (c_words _).mono ?_
        rintro e w3 ⟨rfl, rfl⟩
        go_wp2_with fail
        refine (c_In w.heap.size 53 53 allTab l _ all_len (by decide) (by decide) (fun k s hs => all_at w k s hs)).mono ?_
        rw [hin]
        rintro e w4 ⟨rfl, rfl⟩
        have HBw : Hid (Below w.heap.size w (w.alloc (.cells allA 9))) := below_new w _
        generalize w.alloc (.cells allA 9) = w5 at HBw ⊢
        have h114 : (l[0]? = some 114) ↔ c0 = 114 := by
          have h1 := HCc.out
          have h2 := HG0.out
          rw [List.getElem?_eq_getElem hpos] at h1 ⊢
          simp at h1 ⊢
          rw [← UInt8.toNat_inj]
          show _ = 114 ↔ _
          omega
        obtain ⟨r0, hr0⟩ : ∃ r0 : Bool, r0 = ((c0 == 114) && decide ((1 : Int) < (l.length : Int))) := ⟨_, rfl⟩
        have HReg : Hid (regL l = (r0 && (l.drop 1).all dig8)) := by
          show _ = _
          unfold regL
          rw [hr0]
          congr 2
          · rw [Bool.eq_iff_iff]; simp [h114]
          · exact decide_eq_decide.2 (by omega)
        have HFin : Hid ((∀ c ∈ l, (dig8 c || beg8 c) = true) → sb = !(r0 && (l.drop 1).all dig8)) := fun hall => by
          have h1 : symC l = true := by rw [HN.out, HC0.out, hnd, List.all_eq_true.2 hall]; rfl
          have h2 := HAll.out
          rw [hin] at h2
          have h3 : operB l = false ∧ ownB l = false := by
            cases ho : operB l <;> cases hw : ownB l <;> simp [ho, hw] at h2 ⊢
          rw [HSb.out, h1, h3.1, h3.2, HReg.out]
          simp
        have HBad : Hid (∀ k, k < l.length → (digB ((l[k]?.getD 0).toNat) || begB ((l[k]?.getD 0).toNat)) = false → sb = false) := fun k hk hb => by
          have : symC l = false := by
            rw [HN.out]
            have : l.all (fun c => dig8 c || beg8 c) = false := by
              rw [List.all_eq_false]
              refine ⟨l[k]'hk, List.getElem_mem hk, ?_⟩
              rw [List.getElem?_eq_getElem hk] at hb
              simp only [Option.getD_some] at hb
              show ¬ (digB _ || begB _) = true
              rw [hb]
              simp
            rw [this, Bool.and_false]
          rw [HSb.out, this]
          rfl
        clear h114 hin hnd
        have hr1 := hr0
        cases h1 : (c0 == 114) <;> cases h2 : decide ((1 : Int) < (l.length : Int)) <;> rw [h1, h2] at hr1 <;> simp only [Bool.and_true, Bool.and_false] at hr1
        all_goals
          have HR0 := Lib.hid hr1
          clear hr0
          go_wp2_with fail
          clear hb0 hd he he2 h1 h2
          go_loop [3, 4] (fun s i => ∃ k : Nat, k ≤ l.length ∧ i = .int .i64 k ∧ (∃ q : Bool, s = .bool q ∧ Hid (q = (r0 && ((l.take k).drop 1).all dig8))) ∧ Hid (∀ c ∈ l.take k, (dig8 c || beg8 c) = true)) (fun _ i => l.length - (intOf i).toNat)
          case atStart => exact ⟨0, Nat.zero_le _, rfl, ⟨_, rfl, by show _ = _; rw [HR0.out]; rfl⟩, fun c hc => by simp at hc⟩
          case round =>
            clear hr1
            obtain ⟨k, hk, rfl, ⟨q, rfl, HQ⟩, HK⟩ := hrel
            by_cases hlt : k < l.length
            · obtain ⟨c, hc⟩ : ∃ c : Int, ((l[k]?.getD 0).toNat : Int) = c := ⟨_, rfl⟩
              have hby : ∀ h, (((ByteArray.mk l.toArray)[k]'h).toNat : Int) = c := fun h => (byte_at l k h).trans hc
              have hcb : 0 ≤ c ∧ c ≤ 255 := by have := (l[k]?.getD 0).toNat_lt; omega
              obtain ⟨hb0, hb1⟩ := hcb
              have hml : l.length ≤ 63 := H63.out
              have HBd : Hid ((digB c || begB c) = false → sb = false) := fun hy => HBad.out k hlt (by rw [hc]; exact hy)
              have HYes : Hid ((digB c || begB c) = true → ∀ c ∈ l.take (k + 1), (dig8 c || beg8 c) = true) := fun hy x hx => by
                rw [take_snoc hlt] at hx
                rcases List.mem_append.1 hx with hx | hx
                · exact HK.out x hx
                · simp at hx
                  subst hx
                  show (digB _ || begB _) = true
                  rw [hc]
                  exact hy
              have HAl : Hid (((l.take (k + 1)).drop 1).all dig8 = if k = 0 then true else (((l.take k).drop 1).all dig8 && digB c)) := by
                show _ = _
                rw [take_snoc hlt]
                split
                · rename_i hk0; subst hk0; rfl
                · rename_i hk0
                  rw [List.drop_append_of_le_length (by simp; omega), List.all_append]
                  congr 1
                  show (digB _ && true) = _
                  rw [hc, Bool.and_true]
              have HAz : Hid (k = 0 → ((l.take k).drop 1).all dig8 = true) := fun h => by subst h; rfl
              clear hc
              by_cases hk0 : 0 < k
              · have hkd : decide ((0 : Int) < (k : Int)) = true := by simp; omega
                have HAl2 : Hid (((l.take (k + 1)).drop 1).all dig8 = (((l.take k).drop 1).all dig8 && digB c)) := by show _ = _; rw [HAl.out, if_neg (by omega)]
                cases hd1 : begB c <;> cases hd2 : digB c
                · have HV := Lib.hid (HBd.out (by rw [hd1, hd2]; rfl))
                  go_wp2_with (first
                    | (go_at_call 17; refine (c_rLetter _ _ (by omega) (by omega)).mono ?_; rw [hd1]; rintro e w2 ⟨rfl, rfl⟩)
                    | (go_at_call 20; refine (c_rDigit _ _ (by omega) (by omega)).mono ?_; rw [hd2]; rintro e w2 ⟨rfl, rfl⟩))
                  go_ret
                  exact ⟨ret_b HV.out.symm, HBw.out⟩
                · have HV := HYes.out (by rw [hd1, hd2]; rfl)
                  have HQ2 : Hid (q = (r0 && ((l.take (k + 1)).drop 1).all dig8)) := by show _ = _; rw [HAl2.out, hd2, Bool.and_true]; exact HQ.out
                  go_wp2_with (first
                    | (go_at_call 17; refine (c_rLetter _ _ (by omega) (by omega)).mono ?_; rw [hd1]; rintro e w2 ⟨rfl, rfl⟩)
                    | (go_at_call 20; refine (c_rDigit _ _ (by omega) (by omega)).mono ?_; rw [hd2]; rintro e w2 ⟨rfl, rfl⟩))
                  go_round
                  case rel => exact ⟨k + 1, by omega, by go_num, ⟨q, rfl, HQ2⟩, HV⟩
                  case measure => simp [intOf]; omega
                · have HV := HYes.out (by rw [hd1, hd2]; rfl)
                  have HQ2 : Hid (false = (r0 && ((l.take (k + 1)).drop 1).all dig8)) := by show _ = _; rw [HAl2.out, hd2, Bool.and_false, Bool.and_false]
                  go_wp2_with (first
                    | (go_at_call 17; refine (c_rLetter _ _ (by omega) (by omega)).mono ?_; rw [hd1]; rintro e w2 ⟨rfl, rfl⟩)
                    | (go_at_call 20; refine (c_rDigit _ _ (by omega) (by omega)).mono ?_; rw [hd2]; rintro e w2 ⟨rfl, rfl⟩))
                  go_round
                  case rel => exact ⟨k + 1, by omega, by go_num, ⟨false, rfl, HQ2⟩, HV⟩
                  case measure => simp [intOf]; omega
                · exfalso
                  unfold begB at hd1
                  unfold digB at hd2
                  simp at hd1 hd2
                  omega
              · have hkd : decide ((0 : Int) < (k : Int)) = false := by simp; omega
                have HQ2 : Hid (q = (r0 && ((l.take (k + 1)).drop 1).all dig8)) := by show _ = _; rw [HAl.out, if_pos (by omega), HQ.out, HAz.out (by omega)]
                cases hd1 : begB c <;> cases hd2 : digB c
                · have HV := Lib.hid (HBd.out (by rw [hd1, hd2]; rfl))
                  go_wp2_with (first
                    | (go_at_call 17; refine (c_rLetter _ _ (by omega) (by omega)).mono ?_; rw [hd1]; rintro e w2 ⟨rfl, rfl⟩)
                    | (go_at_call 20; refine (c_rDigit _ _ (by omega) (by omega)).mono ?_; rw [hd2]; rintro e w2 ⟨rfl, rfl⟩))
                  go_ret
                  exact ⟨ret_b HV.out.symm, HBw.out⟩
                all_goals
                  have HV := HYes.out (by rw [hd1, hd2]; rfl)
                  go_wp2_with (first
                    | (go_at_call 17; refine (c_rLetter _ _ (by omega) (by omega)).mono ?_; rw [hd1]; rintro e w2 ⟨rfl, rfl⟩)
                    | (go_at_call 20; refine (c_rDigit _ _ (by omega) (by omega)).mono ?_; rw [hd2]; rintro e w2 ⟨rfl, rfl⟩))
                  go_round
                  case rel => exact ⟨k + 1, by omega, by go_num, ⟨q, rfl, HQ2⟩, HV⟩
                  case measure => simp [intOf]; omega
            · have hge : decide (k < l.length) = false := by simp; omega
              have HK2 : Hid (l.take k = l) := List.take_of_length_le (by omega)
              clear hk hlt
              go_wp2
              go_ret
              refine ⟨ret_b ?_, HBw.out⟩
              have h1 := HFin.out (fun c hc => HK.out c (by rw [HK2.out]; exact hc))
              rw [h1, HQ.out, HK2.out]
      · have HV : Hid (sb = false) := by
          have h2 := HAll.out
          rw [hin] at h2
          show _ = _
          rw [HSb.out]
          cases ho : operB l <;> cases hw : ownB l <;> simp [ho, hw] at h2 ⊢
        go_enter Tryd.func7, Tryd.ntmps7
        go_wp2_with fail
        refine (c_rLetter _ _ (by omega) (by omega)).mono ?_
        rw [hbg]
        rintro e w2 ⟨rfl, rfl⟩
        go_wp2_with fail
        refine (c_words _).mono ?_
        rintro e w3 ⟨rfl, rfl⟩
        go_wp2_with fail
        refine (c_In w.heap.size 53 53 allTab l _ all_len (by decide) (by decide) (fun k s hs => all_at w k s hs)).mono ?_
        rw [hin]
        rintro e w4 ⟨rfl, rfl⟩
        go_wp2_with fail
        go_ret
        exact ⟨ret_b HV.out.symm, below_new w _⟩
  · have hd : decide ((63 : Int) < (l.length : Int)) = true := by simp; omega
    have HV : Hid (sb = false) := by rw [hsb]; show _ = _; unfold symB symC; simp [h]
    clear hsb h h0
    go_enter Tryd.func7, Tryd.ntmps7
    go_wp2
    go_ret
    exact ⟨ret_b HV.out.symm, Below.refl _ _⟩
end Go.Proofs.YthekokjmdjokgaaDoor
