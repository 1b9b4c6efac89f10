/-
  The contracts of IsName and isMark, in the code.
-/
import Derived.Test.YtbccabpcljkamaaDoorLexTok2
namespace Go.Proofs.YtbccabpcljkamaaDoor
set_option linter.unusedVariables false
set_option linter.unusedSimpArgs false
set_option maxRecDepth 100000
open Go.RowKit

theorem name_no (l : List UInt8) (h : l = [] ∨ 31 < l.length ∨ ltr8 (l[0]?.getD 0) = false ∨ l.all wrd8 = false ∨ keyB l = true) : nameB l = false := by
  unfold nameB wordB
  rcases h with h | h | h | h | h
  · simp [h]
  · have : decide (l.length ≤ 31) = false := by simp; omega
    rw [this]; rfl
  · rw [h]; simp
  · rw [h]; simp
  · rw [h]; simp
theorem name_yes (l : List UInt8) (h0 : l ≠ []) (h1 : l.length ≤ 31) (h2 : ltr8 (l[0]?.getD 0) = true) (h3 : l.all wrd8 = true) (h4 : keyB l = false) : nameB l = true := by
  unfold nameB wordB
  simp [h0, h1, h2, h3, h4]
theorem all_take : ∀ (l : List UInt8), (l.takeWhile wrd8 == l) = l.all wrd8
  | [] => rfl
  | c :: l => by
    have ih := all_take l
    rw [List.takeWhile_cons, List.all_cons]
    cases h : wrd8 c
    · rfl
    · rw [← ih, Bool.true_and, if_pos rfl]
      simp
theorem run_whole (l : List UInt8) : ((l.drop 0).take (runE l 0 - 0) == l) = l.all wrd8 := by
  rw [← all_take]
  unfold runE
  have h2 := List.takeWhile_prefix (p := wrd8) (l := l)
  have h3 := List.prefix_iff_eq_take.1 h2
  simp only [List.drop_zero, Nat.zero_add, Nat.sub_zero]
  rw [← h3]
set_option maxHeartbeats 2000000 in
theorem c_IsName (l : List UInt8) (w : World) (hl : l.length ≤ 9223372036854775807) :
    Calls Tryd.prog 21 #[.string ⟨l.toArray⟩] w fun e w' => e = .returned (.bool (nameB l)) ∧ Below w.heap.size w w' := by
  by_cases h0 : l = []
  · have HV : Hid (nameB l = false) := name_no l (.inl h0)
    rw [HV.out]
    subst h0
    go_enter Tryd.func21, Tryd.ntmps21
    go_wp2_with fail
    go_ret
    exact ⟨rfl, (Below.refl _ _).alloc (Nat.le_refl _) _⟩
  have he : l.isEmpty = false := by cases l with
    | nil => exact absurd rfl h0
    | cons => rfl
  have he2 : (l == []) = false := by simp [h0]
  have hpos : 0 < l.length := List.length_pos_iff.2 h0
  by_cases h1 : l.length ≤ 31
  · have hd : decide ((l.length : Int) ≤ 31) = true := by simp; omega
    obtain ⟨cI, hcI⟩ : ∃ cI : Int, ((l[0]?.getD 0).toNat : Int) = cI := ⟨_, rfl⟩
    have hby : ∀ h, (((ByteArray.mk l.toArray)[0]'h).toNat : Int) = cI := fun h => (byte_at l 0 h).trans hcI
    have hcb : 0 ≤ cI ∧ cI ≤ 255 := by have := (l[0]?.getD 0).toNat_lt; omega
    obtain ⟨hc0, hc1⟩ := hcb
    have HL : Hid (ltr8 (l[0]?.getD 0) = ltrI cI) := by show ltrI _ = _; rw [hcI]
    have H0 := Lib.hid h0
    have H1 := Lib.hid h1
    have HR := Lib.hid (run_whole l)
    clear hcI
    cases hL : ltrI cI
    · have HV : Hid (nameB l = false) := name_no l (.inr (.inr (.inl (by rw [HL.out, hL]))))
      rw [HV.out]
      go_enter Tryd.func21, Tryd.ntmps21
      go_wp2_with fail
      refine (c_isLetter cI _ hc0 hc1).mono ?_
      rw [hL]
      rintro e w2 ⟨rfl, rfl⟩
      go_wp2_with fail
      go_ret
      exact ⟨rfl, (Below.refl _ _).alloc (Nat.le_refl _) _⟩
    · cases hA : l.all wrd8
      · have HV : Hid (nameB l = false) := name_no l (.inr (.inr (.inr (.inl hA))))
        rw [HV.out]
        have hq := HR.out.trans hA
        obtain ⟨m, hm⟩ : ∃ m, (l.drop 0).take (runE l 0 - 0) = m := ⟨_, rfl⟩
        have HC := Lib.hid (c_letters w.heap.size 0 l 0)
        rw [hm] at hq HC
        clear hm
        go_enter Tryd.func21, Tryd.ntmps21
        go_wp2_with fail
        refine (c_isLetter cI _ hc0 hc1).mono ?_
        rw [hL]
        rintro e w2 ⟨rfl, rfl⟩
        go_wp2_with fail
        refine (HC.out (w.alloc _) (Nat.zero_le _) (by have := H1.out; omega) (by simp) (by simp) (by simp)).mono ?_
        rintro e w2 ⟨rfl, hw⟩
        have HB := Lib.hid (hw.below (Nat.le_refl w.heap.size))
        clear hw
        go_wp2_with fail
        go_ret
        exact ⟨rfl, ((Below.refl _ _).alloc (Nat.le_refl _) _).trans HB.out⟩
      · have hq := HR.out.trans hA
        obtain ⟨m, hm⟩ : ∃ m, (l.drop 0).take (runE l 0 - 0) = m := ⟨_, rfl⟩
        have HC := Lib.hid (c_letters w.heap.size 0 l 0)
        rw [hm] at hq HC
        clear hm
        have hml : m = l := by simpa using hq
        subst hml
        have HVy : Hid (nameB m = !keyB m) := by
          show _ = _
          cases hK : keyB m
          · exact name_yes m H0.out H1.out (by rw [HL.out, hL]) hA hK
          · exact name_no m (.inr (.inr (.inr (.inr hK))))
        rw [HVy.out]
        go_enter Tryd.func21, Tryd.ntmps21
        go_wp2_with fail
        refine (c_isLetter cI _ hc0 hc1).mono ?_
        rw [hL]
        rintro e w2 ⟨rfl, rfl⟩
        go_wp2_with fail
        refine (HC.out (w.alloc _) (Nat.zero_le _) (by have := H1.out; omega) (by simp) (by simp) (by simp)).mono ?_
        rintro e w2 ⟨rfl, hw⟩
        have HB := Lib.hid (hw.below (Nat.le_refl w.heap.size))
        clear hw
        go_wp2_with fail
        refine (c_IsKey m _).mono ?_
        rintro e w3 ⟨rfl, rfl⟩
        cases hK : keyB m
        all_goals
          go_wp2_with fail
          go_ret
          exact ⟨by rw [hK]; rfl, ((Below.refl _ _).alloc (Nat.le_refl _) _).trans HB.out⟩
  · have HV : Hid (nameB l = false) := name_no l (.inr (.inl (by omega)))
    rw [HV.out]
    have hd : decide ((l.length : Int) ≤ 31) = false := by simp; omega
    go_enter Tryd.func21, Tryd.ntmps21
    go_wp2_with fail
    go_ret
    exact ⟨rfl, (Below.refl _ _).alloc (Nat.le_refl _) _⟩
def markA : Array Value := (markTab.map fun l => Value.string ⟨l.toArray⟩).toArray
/-- The table of marks holds them. -/
def MkH (w : World) : Prop := ∃ T fr, w.heap[0]? = some (.cells markA T fr)
theorem MkH.next {N : Nat} {w w' : World} (h : MkH w) (hb : Below N w w') (hN : N = w.heap.size) : MkH w' := by
  subst hN
  obtain ⟨T, fr, h1⟩ := h
  exact ⟨T, fr, (hb.block _ (Array.getElem?_eq_some_iff.1 h1).1).trans h1⟩
theorem infoMk : (Tryd.prog.info? 68).map (·.size) = some 45 := by kernel_rfl
theorem sizeMk : markA.size = 45 := by unfold markA; simp; decide
theorem index_marks (k : Nat) (s : List UInt8) (hs : markTab[k]? = some s) (h45 : k < 45) (w : World) :
    (Instr.index 68 (.agg markA) (.int .i64 k)).run Tryd.prog w = .ok (.string ⟨s.toArray⟩) w := by
  have h0 : 0 ≤ (k : Int) ∧ (k : Int) < 45 := by omega
  have hk : markA[k]? = some (.string ⟨s.toArray⟩) := by
    unfold markA
    rw [List.getElem?_toArray, List.getElem?_map, hs]
    rfl
  simp [Instr.index, run_underlying Tryd.underlying68, asIntOf, h0, h45, hk, go_sem]
set_option maxHeartbeats 2000000 in
theorem c_isMark (l : List UInt8) (w : World) (hM : MkH w) :
    Calls Tryd.prog 23 #[.string ⟨l.toArray⟩] w fun e w' => e = .returned (.bool (markB l)) ∧ w = w' := by
  obtain ⟨T, fr, hg⟩ := hM
  have HIx := Lib.hid index_marks
  have hsz := sizeMk
  have HG := Lib.hid hg
  obtain ⟨mb, hmb⟩ : ∃ b, markB l = b := ⟨_, rfl⟩
  rw [hmb]
  have HM : Hid (markTab.contains l = mb) := by show _ = _; rw [← hmb]; unfold markB; rfl
  have HLn : Hid (markTab.length = 45) := by show _ = _; decide
  clear hmb
  generalize markA = A at hg HG HIx hsz
  go_enter Tryd.func23, Tryd.ntmps23
  go_wp2_with (refine wpList_load_row rfl 68 _ rfl 0 rfl T A fr _ hg Tryd.underlying68 rfl (infoMk.trans (by rw [hsz])) ?_)
  clear hg
  go_wp2_with fail
  go_loop [6] (fun i => ∃ k : Nat, k ≤ 45 ∧ i = .int .i64 k ∧ Hid ((markTab.take k).contains l = false)) (fun i => 45 - (intOf i).toNat)
  case atStart => exact ⟨0, Nat.zero_le _, rfl, rfl⟩
  case round =>
    obtain ⟨k, hk, rfl, HK⟩ := hrel
    by_cases hlt : k < 45
    · obtain ⟨s, hs⟩ : ∃ s, markTab[k]? = some s := ⟨_, List.getElem?_eq_getElem (by rw [HLn.out]; exact hlt)⟩
      have hix := HIx.out k s hs hlt
      have HTk : Hid (markTab.take (k + 1) = markTab.take k ++ [s]) := by show _ = _; rw [List.take_add_one, hs]; rfl
      have HIn : Hid (s ∈ markTab) := List.mem_of_getElem? hs
      have hk0 : (0 : Int) ≤ (k : Int) := by omega
      have hk1 : (k : Int) < 45 := by omega
      clear hs
      cases he : (s == l)
      · have HNx : Hid ((markTab.take (k + 1)).contains l = false) := by
          have h := HK.out
          rw [List.contains_eq_any_beq] at h
          show _ = _
          rw [HTk.out, List.contains_eq_any_beq, List.any_append, h]
          have : (l == s) = false := by rw [Bool.eq_false_iff]; intro h2; rw [beq_iff_eq] at h2; subst h2; simp at he
          simp [this]
        go_wp2_with fail
        go_round
        case rel => exact ⟨k + 1, by omega, by go_num, HNx⟩
        case measure => simp [intOf]; omega
      · have HV : Hid (mb = true) := by
          rw [beq_iff_eq] at he
          subst he
          show _ = _
          rw [← HM.out, List.contains_iff_mem]
          exact HIn.out
        go_wp2_with fail
        go_ret
        exact ⟨ret_b HV.out.symm, rfl⟩
    · have hge : decide (k < 45) = false := by simp; omega
      have HV : Hid (mb = false) := by
        have h := HK.out
        rw [List.take_of_length_le (by rw [HLn.out]; omega)] at h
        exact HM.out.symm.trans h
      obtain rfl : k = 45 := by omega
      clear hk hlt
      go_wp2_with fail
      go_ret
      exact ⟨ret_b HV.out.symm, rfl⟩
end Go.Proofs.YtbccabpcljkamaaDoor
