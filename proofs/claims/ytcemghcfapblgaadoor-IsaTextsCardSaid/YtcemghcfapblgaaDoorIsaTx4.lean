/-
  The contracts of Whole and number, in the document's answers: the number that digits are, perhaps with a sign ahead.
-/
import Derived.Test.YtcemghcfapblgaaDoorIsaTx3
namespace Go.Proofs.YtcemghcfapblgaaDoor
set_option linter.unusedVariables false
set_option linter.unusedSimpArgs false
open Go.ChangeShapes Go.WideShapes Go.ChangeAt Go.RowKit

def wv (l : List UInt8) : Int := l.foldl (fun n c => 10 * n + (c.toNat : Int) - 48) 0
theorem wv_snoc (l : List UInt8) (c : UInt8) : wv (l ++ [c]) = 10 * wv l + (c.toNat : Int) - 48 := by
  unfold wv
  rw [List.foldl_append]
  rfl
theorem pow15 (n : Nat) (h : n ≤ 15) : (10 : Int) ^ n ≤ 1000000000000000 := by
  have h1 : 10 ^ n ≤ 10 ^ 15 := Nat.pow_le_pow_right (by decide) h
  have h2 := Int.ofNat_le.2 h1
  rw [Int.natCast_pow, Int.natCast_pow] at h2
  exact h2
def dgB (c : UInt8) : Bool := decide (48 ≤ c.toNat) && decide (c.toNat ≤ 57)
theorem wv_bd : ∀ (n : Nat) (l : List UInt8), l.length = n → (∀ c ∈ l, dgB c = true) → 0 ≤ wv l ∧ wv l < 10 ^ n
  | 0, l, h, _ => by rw [List.length_eq_zero_iff.1 h]; simp [wv]
  | n + 1, l, h, hd => by
    have hne : l ≠ [] := by rintro rfl; simp at h
    have e : l = l.dropLast ++ [l.getLast hne] := (List.dropLast_concat_getLast hne).symm
    have ih := wv_bd n l.dropLast (by rw [List.length_dropLast]; omega) (fun c hc => hd c (List.dropLast_subset _ hc))
    have hc := hd _ (List.getLast_mem hne)
    unfold dgB at hc
    simp at hc
    rw [e, wv_snoc, Int.pow_succ]
    omega
@[irreducible] def whB (l : List UInt8) : Bool := !l.isEmpty && decide (l.length ≤ 15) && !(decide (1 < l.length) && decide (l[0]?.getD 0 = 48)) && l.all dgB
@[irreducible] def whN (l : List UInt8) : Int := if whB l then wv l else 0
@[irreducible] def whO (l : List UInt8) : Bool := whB l && decide (wv l ≤ 16777216)
theorem wh_no (l : List UInt8) (h : whB l = false) : whN l = 0 ∧ whO l = false := by
  unfold whN whO
  rw [h]
  exact ⟨rfl, rfl⟩
theorem wh_yes (l : List UInt8) (h : whB l = true) : whN l = wv l ∧ whO l = decide (wv l ≤ 16777216) := by
  unfold whN whO
  rw [h]
  exact ⟨rfl, rfl⟩
theorem ret_ib {a b : Int} {c d : Bool} (h : a = b) (g : c = d) : Ending.returned (.tuple #[.int .i64 a, .bool c]) = .returned (.tuple #[.int .i64 b, .bool d]) := by rw [h, g]
theorem byte_is (l : List UInt8) (k : Nat) (hlt : k < l.length) (h : k < (ByteArray.mk l.toArray).size) : (((ByteArray.mk l.toArray)[k]'h).toNat : Int) = ((l[k]'hlt).toNat : Int) := by
  rw [byte_at l k h, List.getElem?_eq_getElem hlt]
  rfl
set_option maxRecDepth 100000 in
set_option maxHeartbeats 1000000 in
theorem c_Whole_one (l : List UInt8) (w : World) (h1 : l.length = 1) (hB : whB l = l.all dgB) :
    Calls Tryd.prog 49 #[.string ⟨l.toArray⟩, .int .i64 16777216] w fun e w' => e = .returned (.tuple #[.int .i64 (whN l), .bool (whO l)]) ∧ w = w' := by
  have HB := Lib.hid hB
  have h2 : l.length ≤ 15 := by omega
  have t0 : ((l.length : Int) == 0) = false := beq_no (by omega)
  have t1 : decide ((15 : Int) < (l.length : Int)) = false := by simp; omega
  have t2 : decide ((1 : Int) < (l.length : Int)) = false := by simp; omega
  clear hB h1
  go_enter Tryd.func49, Tryd.ntmps49
  go_wp2
  clear t0 t1 t2
  go_loop [6, 7] (fun n i => ∃ k : Nat, k ≤ l.length ∧ i = .int .i64 k ∧ n = .int .i64 (wv (l.take k)) ∧ Hid (∀ c ∈ l.take k, dgB c = true)) (fun _ i => l.length - (intOf i).toNat)
  case atStart => exact ⟨0, Nat.zero_le _, rfl, rfl, fun c hc => by simp at hc⟩
  case round =>
    obtain ⟨k, hk, rfl, rfl, hd⟩ := hrel
    have hwb := wv_bd _ (l.take k) rfl hd.out
    have hw0 := hwb.1
    have hw1 : wv (l.take k) < 1000000000000000 := by
      have := pow15 (l.take k).length (by rw [List.length_take]; omega)
      omega
    clear hwb
    by_cases hlt : k < l.length
    · have HT := Lib.hid (take_one l k hlt)
      obtain ⟨c, hc⟩ : ∃ c : Int, ((l[k]'hlt).toNat : Int) = c := ⟨_, rfl⟩
      have hby : ∀ h, (((ByteArray.mk l.toArray)[k]'h).toNat : Int) = c := fun h => (byte_is l k hlt h).trans hc
      have hcb : 0 ≤ c ∧ c ≤ 255 := by have := (l[k]'hlt).toNat_lt; omega
      obtain ⟨hc0, hc1⟩ := hcb
      have HG : Hid (l[k]?.getD 0 = l[k]'hlt) := by show _ = _; rw [List.getElem?_eq_getElem hlt]; rfl
      have HC := Lib.hid hc
      have HM := Lib.hid (List.getElem_mem hlt)
      clear hc
      by_cases hdg : 48 ≤ c ∧ c ≤ 57
      · obtain ⟨hd0, hd1⟩ := hdg
        go_wp2
        go_round
        case rel =>
          refine ⟨k + 1, by omega, by go_num, ?_, ?_⟩
          · rw [HT.out, HG.out, wv_snoc, HC.out]
          · show ∀ _, _
            rw [HT.out, HG.out]
            intro x hx
            rcases List.mem_append.1 hx with hx | hx
            · exact hd.out x hx
            · simp at hx
              subst hx
              have := HC.out
              unfold dgB
              simp
              omega
        case measure => simp [intOf]; omega
      · have HF : Hid (whB l = false) := by
          show _ = _
          rw [HB.out]
          have := HC.out
          rw [List.all_eq_false]
          exact ⟨_, HM.out, by unfold dgB; simp; omega⟩
        have hdg' : c < 48 ∨ 57 < c := by omega
        clear hdg
        rcases hdg' with hx | hx
        · go_wp2
          go_ret2
          exact ⟨ret_ib (wh_no l HF.out).1.symm (wh_no l HF.out).2.symm, rfl⟩
        · have hx' : decide (c < 48) = false := by simp; omega
          go_wp2
          go_ret2
          exact ⟨ret_ib (wh_no l HF.out).1.symm (wh_no l HF.out).2.symm, rfl⟩
    · have hge : decide (k < l.length) = false := by simp; omega
      have HK := Lib.hid (show l.take k = l by rw [List.take_of_length_le (by omega)])
      clear hk hlt
      go_wp2
      go_ret2
      have hT : whB l = true := by
        rw [HB.out, List.all_eq_true]
        have := hd.out
        rw [HK.out] at this
        exact this
      obtain ⟨e1, e2⟩ := wh_yes l hT
      refine ⟨ret_ib ?_ ?_, rfl⟩
      · rw [e1, HK.out]
      · rw [e2, HK.out]
set_option maxRecDepth 100000 in
set_option maxHeartbeats 1000000 in
theorem c_Whole_more (l : List UInt8) (w : World) (h1 : 1 < l.length) (h2 : l.length ≤ 15) (h3 : ¬ l[0]?.getD 0 = 48) (hB : whB l = l.all dgB) :
    Calls Tryd.prog 49 #[.string ⟨l.toArray⟩, .int .i64 16777216] w fun e w' => e = .returned (.tuple #[.int .i64 (whN l), .bool (whO l)]) ∧ w = w' := by
  have HB := Lib.hid hB
  have t0 : ((l.length : Int) == 0) = false := beq_no (by omega)
  have t1 : decide ((15 : Int) < (l.length : Int)) = false := by simp; omega
  have t2 : decide ((1 : Int) < (l.length : Int)) = true := by simp; omega
  have t3 : 0 < l.length := by omega
  obtain ⟨c0, hc0⟩ : ∃ c : Int, ((l[0]'t3).toNat : Int) = c := ⟨_, rfl⟩
  have hb0 : ∀ h, (((ByteArray.mk l.toArray)[0]'h).toNat : Int) = c0 := fun h => (byte_is l 0 t3 h).trans hc0
  have hn0 : (c0 == 48) = false := by
    simp only [beq_eq_false_iff_ne, ne_eq]
    intro e
    apply h3
    rw [List.getElem?_eq_getElem t3]
    apply UInt8.toNat_inj.1
    show (l[0]'t3).toNat = 48
    omega
  have H2 := Lib.hid h2
  clear hB h1 h2 h3 hc0
  go_enter Tryd.func49, Tryd.ntmps49
  go_wp2
  clear t0 t1 t2 hb0 hn0
  have h2 := H2.out
  go_loop [6, 7] (fun n i => ∃ k : Nat, k ≤ l.length ∧ i = .int .i64 k ∧ n = .int .i64 (wv (l.take k)) ∧ Hid (∀ c ∈ l.take k, dgB c = true)) (fun _ i => l.length - (intOf i).toNat)
  case atStart => exact ⟨0, Nat.zero_le _, rfl, rfl, fun c hc => by simp at hc⟩
  case round =>
    obtain ⟨k, hk, rfl, rfl, hd⟩ := hrel
    have hwb := wv_bd _ (l.take k) rfl hd.out
    have hw0 := hwb.1
    have hw1 : wv (l.take k) < 1000000000000000 := by
      have := pow15 (l.take k).length (by rw [List.length_take]; omega)
      omega
    clear hwb
    by_cases hlt : k < l.length
    · have HT := Lib.hid (take_one l k hlt)
      obtain ⟨c, hc⟩ : ∃ c : Int, ((l[k]'hlt).toNat : Int) = c := ⟨_, rfl⟩
      have hby : ∀ h, (((ByteArray.mk l.toArray)[k]'h).toNat : Int) = c := fun h => (byte_is l k hlt h).trans hc
      have hcb : 0 ≤ c ∧ c ≤ 255 := by have := (l[k]'hlt).toNat_lt; omega
      obtain ⟨hc0, hc1⟩ := hcb
      have HG : Hid (l[k]?.getD 0 = l[k]'hlt) := by show _ = _; rw [List.getElem?_eq_getElem hlt]; rfl
      have HC := Lib.hid hc
      have HM := Lib.hid (List.getElem_mem hlt)
      clear hc
      by_cases hdg : 48 ≤ c ∧ c ≤ 57
      · obtain ⟨hd0, hd1⟩ := hdg
        go_wp2
        go_round
        case rel =>
          refine ⟨k + 1, by omega, by go_num, ?_, ?_⟩
          · rw [HT.out, HG.out, wv_snoc, HC.out]
          · show ∀ _, _
            rw [HT.out, HG.out]
            intro x hx
            rcases List.mem_append.1 hx with hx | hx
            · exact hd.out x hx
            · simp at hx
              subst hx
              have := HC.out
              unfold dgB
              simp
              omega
        case measure => simp [intOf]; omega
      · have HF : Hid (whB l = false) := by
          show _ = _
          rw [HB.out]
          have := HC.out
          rw [List.all_eq_false]
          exact ⟨_, HM.out, by unfold dgB; simp; omega⟩
        have hdg' : c < 48 ∨ 57 < c := by omega
        clear hdg
        rcases hdg' with hx | hx
        · go_wp2
          go_ret2
          exact ⟨ret_ib (wh_no l HF.out).1.symm (wh_no l HF.out).2.symm, rfl⟩
        · have hx' : decide (c < 48) = false := by simp; omega
          go_wp2
          go_ret2
          exact ⟨ret_ib (wh_no l HF.out).1.symm (wh_no l HF.out).2.symm, rfl⟩
    · have hge : decide (k < l.length) = false := by simp; omega
      have HK := Lib.hid (show l.take k = l by rw [List.take_of_length_le (by omega)])
      clear hk hlt
      go_wp2
      go_ret2
      have hT : whB l = true := by
        rw [HB.out, List.all_eq_true]
        have := hd.out
        rw [HK.out] at this
        exact this
      obtain ⟨e1, e2⟩ := wh_yes l hT
      refine ⟨ret_ib ?_ ?_, rfl⟩
      · rw [e1, HK.out]
      · rw [e2, HK.out]
set_option maxRecDepth 100000 in
set_option maxHeartbeats 1000000 in
theorem c_Whole_zero (l : List UInt8) (w : World) (h1 : 1 < l.length) (h2 : l.length ≤ 15) (h3 : l[0]?.getD 0 = 48) (hB : whB l = false) :
    Calls Tryd.prog 49 #[.string ⟨l.toArray⟩, .int .i64 16777216] w fun e w' => e = .returned (.tuple #[.int .i64 (whN l), .bool (whO l)]) ∧ w = w' := by
  have HB := Lib.hid hB
  have t0 : ((l.length : Int) == 0) = false := beq_no (by omega)
  have t1 : decide ((15 : Int) < (l.length : Int)) = false := by simp; omega
  have t2 : decide ((1 : Int) < (l.length : Int)) = true := by simp; omega
  have t3 : 0 < l.length := by omega
  have hb0 : ∀ h, (((ByteArray.mk l.toArray)[0]'h).toNat : Int) = 48 := fun h => (byte_at l 0 h).trans (by rw [h3]; rfl)
  clear hB h1 h2 h3
  go_enter Tryd.func49, Tryd.ntmps49
  go_wp2
  go_ret2
  exact ⟨ret_ib (wh_no l HB.out).1.symm (wh_no l HB.out).2.symm, rfl⟩
set_option maxRecDepth 100000 in
theorem c_Whole_long (l : List UInt8) (w : World) (h1 : 15 < l.length) (hm : l.length ≤ 65536) (hB : whB l = false) :
    Calls Tryd.prog 49 #[.string ⟨l.toArray⟩, .int .i64 16777216] w fun e w' => e = .returned (.tuple #[.int .i64 (whN l), .bool (whO l)]) ∧ w = w' := by
  have HB := Lib.hid hB
  have t0 : ((l.length : Int) == 0) = false := beq_no (by omega)
  have t1 : decide ((15 : Int) < (l.length : Int)) = true := by simp; omega
  clear hB h1
  go_enter Tryd.func49, Tryd.ntmps49
  go_wp2
  go_ret2
  exact ⟨ret_ib (wh_no l HB.out).1.symm (wh_no l HB.out).2.symm, rfl⟩
theorem c_Whole_none (w : World) :
    Calls Tryd.prog 49 #[.string ⟨#[]⟩, .int .i64 16777216] w fun e w' => e = .returned (.tuple #[.int .i64 0, .bool false]) ∧ w = w' := by
  go_enter Tryd.func49, Tryd.ntmps49
  go_wp2
  go_ret2
  exact ⟨rfl, rfl⟩
theorem c_Whole (l : List UInt8) (w : World) (hm : l.length ≤ 65536) :
    Calls Tryd.prog 49 #[.string ⟨l.toArray⟩, .int .i64 16777216] w fun e w' => e = .returned (.tuple #[.int .i64 (whN l), .bool (whO l)]) ∧ w = w' := by
  by_cases h0 : l = []
  · subst h0
    have hB : whB [] = false := by unfold whB; rfl
    obtain ⟨e1, e2⟩ := wh_no [] hB
    rw [e1, e2]
    exact c_Whole_none w
  · have hl : 0 < l.length := List.length_pos_iff.2 h0
    have hE : l.isEmpty = false := by simpa using h0
    by_cases h15 : 15 < l.length
    · exact c_Whole_long l w h15 hm (by unfold whB; simp; omega)
    · by_cases h1 : l.length = 1
      · exact c_Whole_one l w h1 (by unfold whB; simp [hE, h1])
      · by_cases h48 : l[0]?.getD 0 = 48
        · exact c_Whole_zero l w (by omega) (by omega) h48 (by unfold whB; simp [h48]; omega)
        · exact c_Whole_more l w (by omega) (by omega) h48 (by unfold whB; simp [hE, h48]; omega)

/-! ### number -/
@[irreducible] def numN (l : List UInt8) : Int := if 1 < l.length ∧ l[0]?.getD 0 = 45 then -(whN l.tail) else whN l
@[irreducible] def numO (l : List UInt8) : Bool := if 1 < l.length ∧ l[0]?.getD 0 = 45 then whO l.tail else whO l
theorem num_neg (l : List UInt8) (h : 1 < l.length ∧ l[0]?.getD 0 = 45) : numN l = -(whN l.tail) ∧ numO l = whO l.tail := by
  unfold numN numO
  rw [if_pos h, if_pos h]
  exact ⟨rfl, rfl⟩
theorem num_pos (l : List UInt8) (h : ¬ (1 < l.length ∧ l[0]?.getD 0 = 45)) : numN l = whN l ∧ numO l = whO l := by
  unfold numN numO
  rw [if_neg h, if_neg h]
  exact ⟨rfl, rfl⟩
theorem drop_one (l : List UInt8) : (ByteArray.mk l.toArray).extract 1 l.length = ⟨l.tail.toArray⟩ := by
  apply ByteArray.ext
  rw [ByteArray.data_extract]
  apply Array.toList_inj.1
  simp [List.extract_eq_take_drop]
  rw [List.take_of_length_le (by simp)]
theorem whN_bd (l : List UInt8) : 0 ≤ whN l ∧ whN l ≤ 1000000000000000 := by
  cases h : whB l
  · rw [(wh_no l h).1]; omega
  · rw [(wh_yes l h).1]
    unfold whB at h
    simp at h
    obtain ⟨⟨⟨_, h1⟩, _⟩, h2⟩ := h
    have h3 := wv_bd _ l rfl (fun c hc => h2 c hc)
    have h4 := pow15 l.length h1
    omega
theorem numN_bd (l : List UInt8) : -1000000000000000 ≤ numN l ∧ numN l ≤ 1000000000000000 := by
  by_cases h : 1 < l.length ∧ l[0]?.getD 0 = 45
  · rw [(num_neg l h).1]
    have := whN_bd l.tail
    omega
  · rw [(num_pos l h).1]
    have := whN_bd l
    omega
set_option maxRecDepth 100000 in
theorem c_rNumber_neg (l : List UInt8) (w : World) (hm : l.length ≤ 65536) (h1 : 1 < l.length) (h45 : l[0]?.getD 0 = 45) :
    Calls Tryd.prog 31 #[.string ⟨l.toArray⟩] w fun e w' => e = .returned (.tuple #[.int .i64 (numN l), .bool (numO l)]) ∧ w = w' := by
  have HN := Lib.hid (num_neg l ⟨h1, h45⟩)
  have hx := drop_one l
  have t2 : decide ((1 : Int) < (l.length : Int)) = true := by simp; omega
  have hb0 : ∀ h, (((ByteArray.mk l.toArray)[0]'h).toNat : Int) = 45 := fun h => (byte_at l 0 h).trans (by rw [h45]; rfl)
  have hl1 : 1 ≤ l.length := by omega
  have HC := Lib.hid (c_Whole l.tail w (by rw [List.length_tail]; omega))
  have ⟨hw0, hw1⟩ := whN_bd l.tail
  clear h1 h45
  go_enter Tryd.func31, Tryd.ntmps31
  go_wp2_with fail
  ((with_reducible refine (HC.out).mono ?_); rintro e w1 ⟨rfl, rfl⟩)
  go_wp2
  go_ret2
  exact ⟨ret_ib HN.out.1.symm HN.out.2.symm, rfl⟩
set_option maxRecDepth 100000 in
theorem c_rNumber_short (l : List UInt8) (w : World) (h1 : l.length ≤ 1) :
    Calls Tryd.prog 31 #[.string ⟨l.toArray⟩] w fun e w' => e = .returned (.tuple #[.int .i64 (numN l), .bool (numO l)]) ∧ w = w' := by
  have HN := Lib.hid (num_pos l (by omega))
  have t2 : decide ((1 : Int) < (l.length : Int)) = false := by simp; omega
  have HC := Lib.hid (c_Whole l w (by omega))
  clear h1
  go_enter Tryd.func31, Tryd.ntmps31
  go_wp2_with fail
  refine (HC.out).mono ?_
  rintro e w1 ⟨rfl, rfl⟩
  go_wp2
  go_ret2
  exact ⟨ret_ib HN.out.1.symm HN.out.2.symm, rfl⟩
set_option maxRecDepth 100000 in
theorem c_rNumber_plain (l : List UInt8) (w : World) (hm : l.length ≤ 65536) (h1 : 1 < l.length) (h45 : ¬ l[0]?.getD 0 = 45) :
    Calls Tryd.prog 31 #[.string ⟨l.toArray⟩] w fun e w' => e = .returned (.tuple #[.int .i64 (numN l), .bool (numO l)]) ∧ w = w' := by
  have HN := Lib.hid (num_pos l (fun h => h45 h.2))
  have t2 : decide ((1 : Int) < (l.length : Int)) = true := by simp; omega
  have t3 : 0 < l.length := by omega
  obtain ⟨c0, hc0⟩ : ∃ c : Int, ((l[0]'t3).toNat : Int) = c := ⟨_, rfl⟩
  have hb0 : ∀ h, (((ByteArray.mk l.toArray)[0]'h).toNat : Int) = c0 := fun h => (byte_is l 0 t3 h).trans hc0
  have hn0 : (c0 == 45) = false := by
    simp only [beq_eq_false_iff_ne, ne_eq]
    intro e
    apply h45
    rw [List.getElem?_eq_getElem t3]
    apply UInt8.toNat_inj.1
    show (l[0]'t3).toNat = 45
    omega
  have HC := Lib.hid (c_Whole l w hm)
  clear h1 h45 hc0
  go_enter Tryd.func31, Tryd.ntmps31
  go_wp2_with fail
  refine (HC.out).mono ?_
  rintro e w1 ⟨rfl, rfl⟩
  go_wp2
  go_ret2
  exact ⟨ret_ib HN.out.1.symm HN.out.2.symm, rfl⟩
theorem c_rNumber (l : List UInt8) (w : World) (hm : l.length ≤ 65536) :
    Calls Tryd.prog 31 #[.string ⟨l.toArray⟩] w fun e w' => e = .returned (.tuple #[.int .i64 (numN l), .bool (numO l)]) ∧ w = w' := by
  by_cases h1 : 1 < l.length
  · by_cases h45 : l[0]?.getD 0 = 45
    · exact c_rNumber_neg l w hm h1 h45
    · exact c_rNumber_plain l w hm h1 h45
  · exact c_rNumber_short l w (by omega)
end Go.Proofs.YtcemghcfapblgaaDoor
