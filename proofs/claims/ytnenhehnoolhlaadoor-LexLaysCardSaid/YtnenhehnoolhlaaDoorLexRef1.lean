/-
  The contracts of keywords, names and marks, in the document's answers.
-/
import Derived.Test.YtnenhehnoolhlaaDoorLexTok3
namespace Go.Proofs.YtnenhehnoolhlaaDoor
set_option linter.unusedVariables false
set_option linter.unusedSimpArgs false
set_option maxRecDepth 100000
open Go.RowKit

def strA (T : List (List UInt8)) : Array Value := (T.map fun l => Value.string ⟨l.toArray⟩).toArray
theorem str_at (T : List (List UInt8)) (w : World) (k : Nat) (s : List UInt8) (hs : T[k]? = some s) : (w.alloc (.cells (strA T) 9)).cell? ⟨w.heap.size, k, none⟩ = some (.string ⟨s.toArray⟩) := by
  rw [cell_of_row (w.alloc (.cells (strA T) 9)) w.heap.size k (strA T) 9 (0, 0) (heap_alloc_new w _)]
  unfold strA
  rw [List.getElem?_toArray, List.getElem?_map, hs]
  rfl
set_option maxHeartbeats 1000000 in
theorem c_In (g cap n : Nat) (T : List (List UInt8)) (l : List UInt8) (w : World) (hn : T.length = n) (hn2 : n ≤ 64) (hc : n ≤ cap) (hT : ∀ k s, T[k]? = some s → w.cell? ⟨g, k, none⟩ = some (.string ⟨s.toArray⟩)) :
    Calls Tryd.prog 23 #[.slice (some ⟨g, 0, none⟩) n cap, .string ⟨l.toArray⟩] w fun e w' => e = .returned (.bool (T.contains l)) ∧ w = w' := by
  have HT := Lib.hid hT
  have HN := Lib.hid hn
  obtain ⟨r, hr⟩ : ∃ r, r = T.contains l := ⟨_, rfl⟩
  have HRr := Lib.hid hr
  rw [← hr]
  clear hT hn hr
  go_enter Tryd.func23, Tryd.ntmps23
  go_wp2
  go_loop [5] (fun i => ∃ k : Nat, k ≤ n ∧ i = .int .i64 k ∧ Hid ((T.take k).contains l = false)) (fun i => n - (intOf i).toNat)
  case atStart => exact ⟨0, Nat.zero_le _, rfl, rfl⟩
  case round =>
    obtain ⟨k, hk, rfl, HK⟩ := hrel
    by_cases hlt : k < n
    · obtain ⟨s, hs⟩ : ∃ s, T[k]? = some s := ⟨_, List.getElem?_eq_getElem (by rw [HN.out]; exact hlt)⟩
      have hcell := HT.out k s hs
      have HTk : Hid (T.take (k + 1) = T.take k ++ [s]) := by show _ = _; rw [List.take_add_one, hs]; rfl
      have HIn : Hid (s ∈ T) := List.mem_of_getElem? hs
      have hk0 : (0 : Int) ≤ (k : Int) := by omega
      have hk1 : (k : Int) < (n : Int) := by omega
      clear hs
      cases he : (s == l)
      · have HNx : Hid ((T.take (k + 1)).contains l = false) := by
          have h := HK.out
          rw [List.contains_eq_any_beq] at h
          show _ = _
          rw [HTk.out, List.contains_eq_any_beq, List.any_append, h]
          have : (l == s) = false := by rw [Bool.eq_false_iff]; intro h2; rw [beq_iff_eq] at h2; subst h2; simp at he
          simp [this]
        go_wp2
        go_round
        case rel => exact ⟨k + 1, by omega, by go_num, HNx⟩
        case measure => simp [intOf]; omega
      · have HV : Hid (r = true) := by
          rw [beq_iff_eq] at he
          subst he
          show _ = _
          rw [HRr.out, List.contains_iff_mem]
          exact HIn.out
        go_wp2
        go_ret
        exact ⟨ret_b HV.out.symm, rfl⟩
    · have hge : decide (k < n) = false := by simp; omega
      have HV : Hid (r = false) := by
        have h := HK.out
        rw [List.take_of_length_le (by rw [HN.out]; omega)] at h
        exact HRr.out.trans h
      clear hk hlt
      go_wp2
      go_ret
      exact ⟨ret_b HV.out.symm, rfl⟩
set_option maxHeartbeats 1000000 in
theorem c_bKey (l : List UInt8) (w : World) :
    Calls Tryd.prog 22 #[.string ⟨l.toArray⟩] w fun e w' => e = .returned (.bool (keyB l)) ∧ Below w.heap.size w w' := by
  have HI : Hid (Calls Tryd.prog 23 #[.slice (some ⟨w.heap.size, 0, none⟩) 20 20, .string ⟨l.toArray⟩] (w.alloc (.cells (strA keyTab) 9)) fun e w' => e = .returned (.bool (keyB l)) ∧ w.alloc (.cells (strA keyTab) 9) = w') := by
    have h := c_In w.heap.size 20 20 keyTab l (w.alloc (.cells (strA keyTab) 9)) (by decide) (by decide) (by decide) (fun k s hs => str_at keyTab w k s hs)
    have e : keyB l = keyTab.contains l := by unfold keyB; rfl
    rw [e]
    exact h
  go_enter Tryd.func22, Tryd.ntmps22
  go_wp2_with fail
  refine HI.out.mono ?_
  rintro e w2 ⟨rfl, rfl⟩
  go_wp2_with fail
  go_ret
  exact ⟨rfl, (Below.refl _ _).alloc (Nat.le_refl _) _⟩
theorem c_marks (w : World) :
    Calls Tryd.prog 24 #[] w fun e w' => e = .returned (.slice (some ⟨w.heap.size, 0, none⟩) 45 45) ∧ w' = w.alloc (.cells (strA markTab) 9) := by
  go_enter Tryd.func24, Tryd.ntmps24
  go_wp2
  go_ret
  exact ⟨rfl, rfl⟩
theorem c_bletter (c : Int) (w : World) (h0 : 0 ≤ c) (h1 : c ≤ 255) :
    Calls Tryd.prog 40 #[.int .u8 c] w fun e w' => e = .returned (.bool (ltrI c)) ∧ w = w' := by
  go_enter Tryd.func40, Tryd.ntmps40
  go_wp2
  all_goals
    go_ret
    refine ⟨ret_b ?_, rfl⟩
    unfold ltrI
    rw [Bool.eq_iff_iff]
    simp
    omega
end Go.Proofs.YtnenhehnoolhlaaDoor
