/-
  The contracts of a right token, of Itoa and of a token's word, in the document's answers.
-/
import Derived.Test.YtnenhehnoolhlaaDoorLexRef3
namespace Go.Proofs.YtnenhehnoolhlaaDoor
set_option linter.unusedVariables false
set_option linter.unusedSimpArgs false
set_option maxRecDepth 100000
open Go.RowKit

set_option maxHeartbeats 2000000 in
theorem c_good (k a n : Int) (l : List UInt8) (w : World) (hl : l.length ≤ 9223372036854775807) (hk0 : -9223372036854775808 ≤ k) (hk1 : k ≤ 9223372036854775807) (h0 : -9223372036854775808 ≤ n) (h1 : n ≤ 9223372036854775807) :
    Calls Tryd.prog 11 #[.agg #[.int .i64 k, .int .i64 a, .int .i64 n, .string ⟨l.toArray⟩]] w fun e w' => e = .returned (.bool (tokB k n l)) ∧ Below w.heap.size w w' := by
  by_cases e3 : k = 3
  · have k3 : (k == 3) = true := by simp [e3]
    have k3' : (k != 3) = false := by simp [e3]
    have k1 : (k == 1) = false := by simp [e3]
    have k2 : (k == 2) = false := by simp [e3]
    have k4 : (k == 4) = false := by simp [e3]
    have k5 : (k == 5) = false := by simp [e3]
    have HV : Hid (tokB k n l = if l = [117] then decide (0 ≤ n) && decide (n < 4294967296) else l == [] && decide (-128 ≤ n) && decide (n < 2147483648)) := by show _ = _; rw [← num_eq]; unfold tokB; rw [if_pos e3]
    rw [HV.out]
    clear e3
    by_cases hu : l = [117]
    · rw [if_pos hu]
      have ku : (l == [117]) = true := by simp [hu]
      clear hu
      go_enter Tryd.func11, Tryd.ntmps11
      go_wp2_with fail
      all_goals
        go_ret
        refine ⟨ret_b ?_, bel_new _ _⟩
        rw [Bool.eq_iff_iff]
        simp <;> omega
    · rw [if_neg hu]
      have ku : (l == [117]) = false := by simp [hu]
      clear hu
      go_enter Tryd.func11, Tryd.ntmps11
      go_wp2_with fail
      all_goals
        go_ret
        refine ⟨ret_b ?_, bel_new _ _⟩
        first | (simp_all; done) | (simp_all; omega) | (rw [Bool.eq_iff_iff]; simp <;> omega)
  have k3 : (k == 3) = false := by simp [e3]
  have k3' : (k != 3) = true := by simp [e3]
  by_cases e0 : n = 0
  · have n0 : (n != 0) = false := by simp [e0]
    have HT : Hid (tokB k n l = if k = 1 then nameB l else if k = 2 then keyB l else if k = 4 then decide (l.length ≤ 4096) else if k = 5 then markB l else false) := by show _ = _; unfold tokB; rw [if_neg e3, e0]; rfl
    clear e0 e3
    by_cases e1 : k = 1
    · have k1 : (k == 1) = true := by simp [e1]
      have HV : Hid (tokB k n l = nameB l) := by show _ = _; rw [HT.out, if_pos e1]
      rw [HV.out]
      clear e1
      go_enter Tryd.func11, Tryd.ntmps11
      go_wp2_with fail
      refine (c_bName l _ hl).mono ?_
      rintro e w2 ⟨rfl, hb⟩
      go_wp2_with fail
      go_ret
      exact ⟨rfl, below_on (bel_new _ _) hb (bel_new w _).size⟩
    have k1 : (k == 1) = false := by simp [e1]
    by_cases e2 : k = 2
    · have k2 : (k == 2) = true := by simp [e2]
      have HV : Hid (tokB k n l = keyB l) := by show _ = _; rw [HT.out, if_neg e1, if_pos e2]
      rw [HV.out]
      clear e1 e2
      go_enter Tryd.func11, Tryd.ntmps11
      go_wp2_with fail
      refine (c_bKey l _).mono ?_
      rintro e w2 ⟨rfl, hb⟩
      go_wp2_with fail
      go_ret
      exact ⟨rfl, below_on (bel_new _ _) hb (bel_new w _).size⟩
    have k2 : (k == 2) = false := by simp [e2]
    by_cases e4 : k = 4
    · have k4 : (k == 4) = true := by simp [e4]
      have HV : Hid (tokB k n l = decide (l.length ≤ 4096)) := by show _ = _; rw [HT.out, if_neg e1, if_neg e2, if_pos e4]
      rw [HV.out]
      clear e1 e2 e4
      go_enter Tryd.func11, Tryd.ntmps11
      go_wp2_with fail
      go_ret
      exact ⟨ret_b (by rw [Bool.eq_iff_iff]; simp <;> omega), bel_new _ _⟩
    have k4 : (k == 4) = false := by simp [e4]
    by_cases e5 : k = 5
    · have k5 : (k == 5) = true := by simp [e5]
      have HV : Hid (tokB k n l = markB l) := by show _ = _; rw [HT.out, if_neg e1, if_neg e2, if_neg e4, if_pos e5]
      rw [HV.out]
      subst e5
      exact c_good5 a n l w n0
    have k5 : (k == 5) = false := by simp [e5]
    have HV : Hid (tokB k n l = false) := by show _ = _; rw [HT.out, if_neg e1, if_neg e2, if_neg e4, if_neg e5]
    rw [HV.out]
    clear e1 e2 e4 e5
    go_enter Tryd.func11, Tryd.ntmps11
    go_wp2_with fail
    go_ret
    exact ⟨rfl, bel_new _ _⟩
  · have n0 : (n != 0) = true := by simp [e0]
    have HV : Hid (tokB k n l = false) := by show _ = _; unfold tokB; rw [if_neg e3]; simp [e0]
    rw [HV.out]
    clear e0 e3
    go_enter Tryd.func11, Tryd.ntmps11
    go_wp2_with fail
    go_ret
    exact ⟨rfl, bel_new _ _⟩
theorem str_dig (m : Nat) (t : List UInt8) : strOfNums [48 + (m : Int) % 10] ++ ⟨t.toArray⟩ = ⟨(UInt8.ofNat (48 + m % 10) :: t).toArray⟩ := by
  apply ByteArray.ext
  have h : m % 10 < 10 := Nat.mod_lt _ (by decide)
  have e : (48 + (m : Int) % 10).toNat = 48 + m % 10 := by omega
  simp [strOfNums, ByteArray.data_append, e]
theorem str_one1 (x : Int) : (strOfNums [x]).size = 1 := by simp [strOfNums, ByteArray.size]
theorem conv1 (w : World) (n : Nat) (c : Int) (hn : n = w.heap.size) : (convert 29 9 (.slice (some ⟨n, 0, none⟩) 1 1)).run Tryd.prog (w.alloc (.cells #[.int .u8 c] 5)) = .ok (.string (strOfNums [c])) (w.alloc (.cells #[.int .u8 c] 5)) := by
  subst hn
  refine run_convert_bytes_arg _ 29 5 Tryd.underlying29 Tryd.underlying5 w.heap.size 0 1 1 [c] rfl ?_ 9 Tryd.underlying9
  intro i hi
  have : i = 0 := by omega
  subst this
  simp [go_sem]
theorem dig_small (m : Nat) (h : m < 10) : Lib.decDigits m = [UInt8.ofNat (48 + m)] := by rw [Lib.decDigits, dif_pos h]
theorem dig_great (m : Nat) (h : ¬ m < 10) : Lib.decDigits m = Lib.decDigits (m / 10) ++ [UInt8.ofNat (48 + m % 10)] := by rw [Lib.decDigits, dif_neg h]
theorem dig_pos (m : Nat) : 1 ≤ (Lib.decDigits m).length := by
  by_cases h : m < 10
  · rw [dig_small m h]; simp
  · rw [dig_great m h]; simp
theorem dig_room {u m : Nat} {t : List UInt8} (h : Lib.decDigits u = Lib.decDigits m ++ t) (hu : (Lib.decDigits u).length ≤ 10) : t.length ≤ 9 := by
  have := dig_pos m
  rw [h] at hu
  simp at hu
  omega
set_option maxHeartbeats 1000000 in
theorem c_bItoa (u : Nat) (hu : u ≤ 4294967295) (w : World) :
    Calls Tryd.prog 27 #[.int .i64 u] w fun e w' => e = .returned (.string ⟨(Lib.itoa u).toArray⟩) ∧ Below w.heap.size w w' := by
  have hit : Lib.itoa (u : Int) = Lib.decDigits u := by unfold Lib.itoa; rw [if_neg (by omega), Int.toNat_natCast]
  rw [hit]
  have hc := conv1
  have HL := Lib.hid (dec_len 9 u (by omega))
  clear hit
  go_enter Tryd.func27, Tryd.ntmps27
  go_wp2
  go_loopw [0, 4] (fun n s wr => ∃ (m : Nat) (t : List UInt8), m ≤ 4294967295 ∧ n = .int .i64 m ∧ s = .string ⟨t.toArray⟩ ∧ Hid (Lib.decDigits u = Lib.decDigits m ++ t) ∧ Hid (Below w.heap.size w wr)) (fun n _ _ => (intOf n).toNat)
  case atStart => exact ⟨u, [], hu, rfl, rfl, by show _ = _; simp, Below.refl _ _⟩
  case round =>
    obtain ⟨m, t, hm, rfl, rfl, hd, hB⟩ := hrel
    have ht := dig_room hd.out HL.out
    have hs := str_one1 (48 + (m : Int) % 10)
    by_cases h10 : m < 10
    · have hz : ((m : Int) / 10 == 0) = true := by simp; omega
      go_wp2
      go_ret
      refine ⟨?_, hB.out.alloc hB.out.size _⟩
      rw [str_dig, hd.out, dig_small m h10, Nat.mod_eq_of_lt h10]
      rfl
    · have hz : ((m : Int) / 10 == 0) = false := by simp; omega
      go_wp2
      go_roundw
      case rel =>
        refine ⟨m / 10, UInt8.ofNat (48 + m % 10) :: t, by omega, by go_num, by rw [str_dig], ?_, hB.out.alloc hB.out.size _⟩
        show _ = _
        rw [hd.out, dig_great m h10]
        simp
      case measure => simp [intOf]; omega
end Go.Proofs.YtnenhehnoolhlaaDoor
