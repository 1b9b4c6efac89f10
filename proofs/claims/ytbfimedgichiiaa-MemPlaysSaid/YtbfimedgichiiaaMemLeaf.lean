/-
  Contracts of the small calls on names and ranges, in the code.
-/
import Derived.Test.YtbfimedgichiiaaMemPure
import Derived.Test.YtbfimedgichiiaaProg
import Derived.ProofKit
import Derived.OpenShut
import Derived.Lib.Hide
import Derived.Below
import Derived.Handy
import Derived.Outline
import Derived.Deep.QuietTactic
import Derived.BigQuiet
namespace Go.Proofs.Ytbfimedgichiiaa
set_option linter.unusedVariables false
set_option linter.unusedSimpArgs false
open Go.ChangeShapes Go.WideShapes Go.ChangeAt Go.RowKit

theorem ret_b {a b : Bool} (h : a = b) : Ending.returned (.bool a) = .returned (.bool b) := by rw [h]
theorem ret_i {a b : Int} (h : a = b) : Ending.returned (.int .i64 a) = .returned (.int .i64 b) := by rw [h]
theorem c_isLetter (c : Int) (w : World) (h0 : 0 ≤ c) (h1 : c ≤ 255) :
    Calls Try.prog 71 #[.int .u8 c] w fun e w' => e = .returned (.bool (decide (97 ≤ c ∧ c ≤ 122))) ∧ w = w' := by
  go_enter Try.func71, Try.ntmps71
  go_wp2
  all_goals
    go_ret
    refine ⟨ret_b ?_, rfl⟩
    rw [Bool.eq_iff_iff]
    simp
    omega
theorem c_end (nm : ByteArray) (fr sz : Int) (wr ex : Bool) (w : World) (h0 : 0 ≤ fr) (h1 : fr ≤ 4294967296) (h2 : 0 ≤ sz) (h3 : sz ≤ 16777216) :
    Calls Try.prog 55 #[.agg #[.string nm, .int .i64 fr, .int .i64 sz, .bool wr, .bool ex]] w fun e w' => e = .returned (.int .i64 (fr + sz)) ∧ Below w.heap.size w w' := by
  go_enter Try.func55, Try.ntmps55
  go_wp2
  go_returns
  exact ⟨rfl, by go_grown⟩
abbrev spanV (nm : ByteArray) (fr sz : Int) (wr ex : Bool) : Value := .agg #[.string nm, .int .i64 fr, .int .i64 sz, .bool wr, .bool ex]
theorem c_place (nm : ByteArray) (fr sz a : Int) (wr ex : Bool) (w : World) (h0 : 0 ≤ fr) (h1 : fr ≤ 4294967296) (h2 : 0 ≤ a) (h3 : a ≤ 4294967295) :
    Calls Try.prog 60 #[.agg #[.string nm, .int .i64 fr, .int .i64 sz, .bool wr, .bool ex], .int .u32 a] w fun e w' => e = .returned (.int .i64 (a - fr)) ∧ Below w.heap.size w w' := by
  go_enter Try.func60, Try.ntmps60
  go_wp2
  go_returns
  exact ⟨rfl, by go_grown⟩
theorem c_holds (nm : ByteArray) (fr sz a n : Int) (wr ex : Bool) (w : World) (h0 : 0 ≤ fr) (h1 : fr ≤ 4294967296) (h2 : 0 ≤ sz) (h3 : sz ≤ 16777216) (h4 : 0 ≤ a) (h5 : a ≤ 4294967295) (h6 : 0 ≤ n) (h7 : n ≤ 140737488355328) :
    Calls Try.prog 59 #[.agg #[.string nm, .int .i64 fr, .int .i64 sz, .bool wr, .bool ex], .int .u32 a, .int .i64 n] w fun e w' => e = .returned (.bool (decide (fr ≤ a ∧ a + n ≤ fr + sz))) ∧ Below w.heap.size w w' := by
  go_enter Try.func59, Try.ntmps59
  go_wp2_with (go_at_call 55; refine (c_end _ _ _ _ _ _ h0 h1 h2 h3).mono ?_; rintro e w2 ⟨rfl, hb2⟩)
  all_goals
    go_returns
    refine ⟨ret_b ?_, ?_⟩
    · rw [Bool.eq_iff_iff]
      simp
      omega
    · first
      | exact ((Below.refl _ _).alloc (Nat.le_refl _) _).trans (hb2.mono (by simp))
      | go_grown
theorem byte_at (l : List UInt8) (k : Nat) (h : k < (ByteArray.mk l.toArray).size) : (((ByteArray.mk l.toArray)[k]'h).toNat : Int) = ((l[k]?.getD 0).toNat : Int) := by
  have h' : k < l.length := h
  rw [List.getElem?_eq_getElem h']
  simp [ByteArray.getElem_eq_getElem_data]
theorem c_isName_none (w : World) :
    Calls Try.prog 54 #[.string ⟨#[]⟩] w fun e w' => e = .returned (.bool false) ∧ w = w' := by
  go_enter Try.func54, Try.ntmps54
  go_wp2
  go_returns
  exact ⟨rfl, rfl⟩
theorem c_isName_long (l : List UInt8) (w : World) (h : 31 < l.length) (hm : l.length ≤ maxLen) :
    Calls Try.prog 54 #[.string ⟨l.toArray⟩] w fun e w' => e = .returned (.bool false) ∧ w = w' := by
  have hd : decide ((31 : Int) < (l.length : Int)) = true := by simp; omega
  have he : l.isEmpty = false := by cases l with
    | nil => simp at h
    | cons => rfl
  unfold maxLen at hm
  clear h
  go_enter Try.func54, Try.ntmps54
  go_wp2
  go_returns
  exact ⟨rfl, rfl⟩
theorem beq_no {a b : Int} (h : ¬ a = b) : (a == b) = false := by simp [h]
set_option maxRecDepth 100000 in
set_option maxHeartbeats 1000000 in
theorem c_isName_short (l : List UInt8) (w : World) (h0 : l ≠ []) (h : l.length ≤ 31) :
    Calls Try.prog 54 #[.string ⟨l.toArray⟩] w fun e w' => e = .returned (.bool (nameB l)) ∧ w = w' := by
  have hd : decide ((31 : Int) < (l.length : Int)) = false := by simp; omega
  have he : l.isEmpty = false := by cases l with
    | nil => exact absurd rfl h0
    | cons => rfl
  have hN : nameB l = (lowB (l[0]?.getD 0) && l.all namB) := by unfold nameB; simp [he, h]
  have HN := Lib.hid hN
  have H31 := Lib.hid h
  have hpos : 0 < l.length := List.length_pos_iff.2 h0
  obtain ⟨c0, hc0⟩ : ∃ c : Int, ((l[0]?.getD 0).toNat : Int) = c := ⟨_, rfl⟩
  have hb0 : ∀ h, (((ByteArray.mk l.toArray)[0]'h).toNat : Int) = c0 := fun h => (byte_at l 0 h).trans hc0
  have hcb : 0 ≤ c0 ∧ c0 ≤ 255 := by have := (l[0]?.getD 0).toNat_lt; omega
  obtain ⟨hcb0, hcb1⟩ := hcb
  have HC0 := Lib.hid hc0
  clear hN h0 hc0 h
  by_cases hlow : 97 ≤ c0 ∧ c0 ≤ 122
  · have HLow : Hid (lowB (l[0]?.getD 0) = true) := by
      have := HC0.out
      show _ = _
      unfold lowB
      simp
      omega
    have hdl : decide (97 ≤ c0 ∧ c0 ≤ 122) = true := by simpa using hlow
    clear hlow
    go_enter Try.func54, Try.ntmps54
    go_wp2_with (go_at_call 71; refine (c_isLetter _ _ (by omega) (by omega)).mono ?_; rw [hdl]; rintro e w2 ⟨rfl, rfl⟩)
    clear hb0 hdl hd he
    go_loop [20] (fun i => ∃ k : Nat, k ≤ l.length ∧ i = .int .i64 k ∧ Hid (∀ c ∈ l.take k, namB c = true)) (fun i => l.length - (intOf i).toNat)
    case atStart => exact ⟨0, Nat.zero_le _, rfl, fun c hc => by simp at hc⟩
    case round =>
      obtain ⟨k, hk, rfl, HK⟩ := hrel
      by_cases hlt : k < l.length
      · obtain ⟨c, hc⟩ : ∃ c : Int, ((l[k]?.getD 0).toNat : Int) = c := ⟨_, rfl⟩
        have hby : ∀ h, (((ByteArray.mk l.toArray)[k]'h).toNat : Int) = c := fun h => (byte_at l k h).trans hc
        have hcb : 0 ≤ c ∧ c ≤ 255 := by have := (l[k]?.getD 0).toNat_lt; omega
        obtain ⟨hb0, hb1⟩ := hcb
        have HC := Lib.hid hc
        have HG : Hid (l[k]?.getD 0 = l[k]'hlt) := by show _ = _; rw [List.getElem?_eq_getElem hlt]; rfl
        have hml : l.length ≤ 31 := H31.out
        have HT : Hid (l.take (k + 1) = l.take k ++ [l[k]?.getD 0]) := by show _ = _; rw [List.take_add_one, List.getElem?_eq_getElem hlt]; rfl
        clear hc
        have hyes : namB (l[k]?.getD 0) = true → Hid (∀ c ∈ l.take (k + 1), namB c = true) := fun hy => by
          show ∀ _, _
          rw [HT.out]
          intro x hx
          rcases List.mem_append.1 hx with hx | hx
          · exact HK.out x hx
          · simp at hx
            subst hx
            exact hy
        have hno : namB (l[k]?.getD 0) = false → Hid (nameB l = false) := fun hy => by
          show _ = _
          rw [HN.out]
          have : l.all namB = false := by
            rw [List.all_eq_false]
            refine ⟨l[k]'hlt, List.getElem_mem hlt, ?_⟩
            rw [← HG.out, hy]
            simp
          rw [this, Bool.and_false]
        have HYES := Lib.hid hyes
        have HNO := Lib.hid hno
        clear hyes hno
        have hval : namB (l[k]?.getD 0) = (decide (97 ≤ c ∧ c ≤ 122) || decide (48 ≤ c ∧ c ≤ 57) || decide (c = 95)) := by
          have hcc := HC.out
          unfold namB lowB
          have e95 : (l[k]?.getD 0 = 95) ↔ c = 95 := by
            rw [← UInt8.toNat_inj]
            show _ = 95 ↔ _
            omega
          rw [Bool.eq_iff_iff]
          simp [e95]
          omega
        have HV := Lib.hid hval
        clear hval
        go_wp2_with (go_at_call 71; refine (c_isLetter _ _ (by omega) (by omega)).mono ?_; rintro e w2 ⟨rfl, rfl⟩)
        all_goals
          first
          | (go_ret
             refine ⟨ret_b ?_, rfl⟩
             symm
             refine (HNO.out ?_).out
             rw [HV.out]
             simp only [Bool.not_eq_true', Bool.not_eq_false', decide_eq_false_iff_not, decide_eq_true_eq, bne_iff_ne, ne_eq, bne_eq_false_iff_eq, Bool.or_eq_false_iff] at *
             omega)
          | (go_round
             case rel =>
               refine ⟨k + 1, by omega, by go_num, HYES.out ?_⟩
               rw [HV.out]
               simp only [Bool.not_eq_true', Bool.not_eq_false', decide_eq_false_iff_not, decide_eq_true_eq, bne_iff_ne, ne_eq, bne_eq_false_iff_eq, Bool.or_eq_true] at *
               omega
             case measure => simp [intOf]; omega)
      · have hge : decide (k < l.length) = false := by simp; omega
        have HK2 := Lib.hid (show l.take k = l by rw [List.take_of_length_le (by omega)])
        clear hk hlt
        go_wp2
        go_ret
        refine ⟨ret_b ?_, rfl⟩
        rw [HN.out, HLow.out, Bool.true_and]
        symm
        rw [List.all_eq_true]
        have := HK.out
        rw [HK2.out] at this
        exact this
  · have HLow : Hid (nameB l = false) := by
      have := HC0.out
      show _ = _
      rw [HN.out]
      have : lowB (l[0]?.getD 0) = false := by
        unfold lowB
        simp
        omega
      rw [this, Bool.false_and]
    have hdl : decide (97 ≤ c0 ∧ c0 ≤ 122) = false := by simpa using hlow
    clear hlow
    go_enter Try.func54, Try.ntmps54
    go_wp2_with (go_at_call 71; refine (c_isLetter _ _ (by omega) (by omega)).mono ?_; rw [hdl]; rintro e w2 ⟨rfl, rfl⟩)
    go_ret
    exact ⟨ret_b HLow.out.symm, rfl⟩
theorem c_isName (l : List UInt8) (w : World) (hm : l.length ≤ maxLen) :
    Calls Try.prog 54 #[.string ⟨l.toArray⟩] w fun e w' => e = .returned (.bool (nameB l)) ∧ w = w' := by
  by_cases h0 : l = []
  · subst h0
    have : nameB [] = false := by unfold nameB; rfl
    rw [this]
    exact c_isName_none w
  · by_cases h : l.length ≤ 31
    · exact c_isName_short l w h0 h
    · have : nameB l = false := by unfold nameB; simp; omega
      rw [this]
      exact c_isName_long l w (by omega) hm
/-! ### Is a range right? -/
set_option maxHeartbeats 2000000 in
theorem c_isRight (r : Rg) (w : World) (hm : r.nm.length ≤ maxLen) (f0 : -9223372036854775808 ≤ r.fr) (f1 : r.fr ≤ 9223372036854775807) (s0 : -9223372036854775808 ≤ r.sz) (s1 : r.sz ≤ 9223372036854775807) :
    Calls Try.prog 24 #[.agg #[.string ⟨r.nm.toArray⟩, .int .i64 r.fr, .int .i64 r.sz, .bool r.wr, .bool r.ex]] w fun e w' => e = .returned (.bool (rgB r)) ∧ Below w.heap.size w w' := by
  obtain ⟨l, fr, sz, wr, ex⟩ := r
  simp only at hm f0 f1 s0 s1 ⊢
  have HN := Lib.hid (c_isName l)
  have HV : Hid (rgB ⟨l, fr, sz, wr, ex⟩ = (nameB l && decide (16 ≤ fr) && decide (fr ≤ 4294967296) && decide (fr % 16 = 0) && decide (0 ≤ sz) && decide (sz ≤ 16777216) && decide (sz % 16 = 0) && decide (fr + sz ≤ 4294967296))) := by
    show _ = _
    unfold rgB
    rfl
  cases hn : nameB l
  · go_enter Try.func24, Try.ntmps24
    go_wp2_with (go_at_call 54; refine (HN.out _ hm).mono ?_; rw [hn]; rintro e w2 ⟨rfl, rfl⟩)
    go_returns
    refine ⟨ret_b ?_, by go_grown⟩
    rw [HV.out, hn]
    simp
  · go_enter Try.func24, Try.ntmps24
    go_wp2_with (first
      | (go_at_call 54; refine (HN.out _ hm).mono ?_; rw [hn]; rintro e w2 ⟨rfl, rfl⟩)
      | (go_at_call 55; refine (c_end _ _ _ _ _ _ (by omega) (by omega) (by omega) (by omega)).mono ?_; rintro e w3 ⟨rfl, hb3⟩))
    all_goals
      go_returns
      refine ⟨ret_b ?_, ?_⟩
      · rw [HV.out, hn, Bool.eq_iff_iff]
        simp only [Bool.and_eq_true, decide_eq_true_eq, beq_iff_eq, true_and, Bool.true_eq, Bool.false_eq_true, false_iff, true_iff, Bool.false_and, not_and, beq_eq_false_iff_ne, ne_eq] at *
        omega
      · first
        | exact ((Below.refl _ _).alloc (Nat.le_refl _) _).trans (hb3.mono (by simp))
        | go_grown
end Go.Proofs.Ytbfimedgichiiaa
