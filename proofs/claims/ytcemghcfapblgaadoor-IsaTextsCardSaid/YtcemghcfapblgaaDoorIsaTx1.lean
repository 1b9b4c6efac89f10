/-
  The contract of Itoa, in the document's answers: the decimal digits of a number of at most seven of them.
-/
import Derived.Test.YtcemghcfapblgaaDoorIsaPrint2
import Derived.Test.YtcemghcfapblgaaDoorIsaRef2
import Derived.Laws.BytesArg
namespace Go.Proofs.YtcemghcfapblgaaDoor
set_option linter.unusedVariables false
set_option linter.unusedSimpArgs false
open Go.ChangeShapes Go.WideShapes Go.ChangeAt Go.RowKit

theorem conv1 (w : World) (n : Nat) (c : Int) (hn : n = w.heap.size) : (convert 39 9 (.slice (some ⟨n, 0, none⟩) 1 1)).run Tryd.prog (w.alloc (.cells #[.int .u8 c] 5)) = .ok (.string (strOfNums [c])) (w.alloc (.cells #[.int .u8 c] 5)) := by
  subst hn
  refine run_convert_bytes_arg _ 39 5 Tryd.underlying39 Tryd.underlying5 w.heap.size 0 1 1 [c] rfl ?_ 9 Tryd.underlying9
  intro i hi
  have : i = 0 := by omega
  subst this
  simp [go_sem]
theorem str_dig (m : Nat) (t : List UInt8) : strOfNums [48 + (m : Int) % 10] ++ ⟨t.toArray⟩ = ⟨(UInt8.ofNat (48 + m % 10) :: t).toArray⟩ := by
  apply ByteArray.ext
  have h : m % 10 < 10 := Nat.mod_lt _ (by decide)
  have e : (48 + (m : Int) % 10).toNat = 48 + m % 10 := by omega
  simp [strOfNums, ByteArray.data_append, e]
theorem str_one (x : Int) : (strOfNums [x]).size = 1 := by simp [strOfNums, ByteArray.size]
theorem dig_small (m : Nat) (h : m < 10) : Lib.decDigits m = [UInt8.ofNat (48 + m)] := by rw [Lib.decDigits, dif_pos h]
theorem dig_great (m : Nat) (h : ¬ m < 10) : Lib.decDigits m = Lib.decDigits (m / 10) ++ [UInt8.ofNat (48 + m % 10)] := by rw [Lib.decDigits, dif_neg h]
theorem dig_pos (m : Nat) : 1 ≤ (Lib.decDigits m).length := by
  by_cases h : m < 10
  · rw [dig_small m h]; simp
  · rw [dig_great m h]; simp
theorem dig_room {u m : Nat} {t : List UInt8} (h : Lib.decDigits u = Lib.decDigits m ++ t) (hu : (Lib.decDigits u).length ≤ 7) : t.length ≤ 6 := by
  have := dig_pos m
  rw [h] at hu
  simp at hu
  omega
set_option maxHeartbeats 1000000 in
theorem c_bItoa_pos (u : Nat) (hu : u ≤ 8388608) (w : World) :
    Calls Tryd.prog 28 #[.int .i64 u] w fun e w' => e = .returned (.string ⟨(Lib.decDigits u).toArray⟩) ∧ Below w.heap.size w w' := by
  have hc := conv1
  have HL := Lib.hid (dec_len 6 u (by omega))
  go_enter Tryd.func28, Tryd.ntmps28
  go_wp2
  go_loopw [0, 4] (fun n s wr => ∃ (m : Nat) (t : List UInt8), m ≤ 8388608 ∧ n = .int .i64 m ∧ s = .string ⟨t.toArray⟩ ∧ Hid (Lib.decDigits u = Lib.decDigits m ++ t) ∧ Hid (Below w.heap.size w wr)) (fun n _ _ => (intOf n).toNat)
  case atStart => exact ⟨u, [], hu, rfl, rfl, by show _ = _; simp, Below.refl _ _⟩
  case round =>
    obtain ⟨m, t, hm, rfl, rfl, hd, hB⟩ := hrel
    have ht := dig_room hd.out HL.out
    have hs := str_one (48 + (m : Int) % 10)
    by_cases h10 : m < 10
    · have hz : ((m : Int) / 10 == 0) = true := by simp; omega
      go_wp2
      go_ret
      refine ⟨?_, hB.out.alloc hB.out.size _⟩
      rw [str_dig, hd.out, dig_small m h10, Nat.mod_eq_of_lt h10]
      rfl
    · have hz : ((m : Int) / 10 == 0) = false := by simp; omega
      go_wp2
      go_roundw
      case rel =>
        refine ⟨m / 10, UInt8.ofNat (48 + m % 10) :: t, by omega, by go_num, by rw [str_dig], ?_, hB.out.alloc hB.out.size _⟩
        show _ = _
        rw [hd.out, dig_great m h10]
        simp
      case measure => simp [intOf]; omega
theorem tmod_neg (m : Nat) : Int.tmod (-(m : Int)) 10 = -((m : Int) % 10) := by
  rw [Int.neg_tmod, Int.tmod_eq_emod_of_nonneg (by omega)]
theorem tdiv_neg (m : Nat) : Int.tdiv (-(m : Int)) 10 = -((m / 10 : Nat) : Int) := by
  rw [Int.neg_tdiv, Int.tdiv_eq_ediv_of_nonneg (by omega)]
  rfl
set_option maxHeartbeats 1000000 in
theorem c_bItoa_neg (u : Nat) (h0 : 1 ≤ u) (hu : u ≤ 8388608) (w : World) :
    Calls Tryd.prog 28 #[.int .i64 (-(u : Int))] w fun e w' => e = .returned (.string ⟨(45 :: Lib.decDigits u).toArray⟩) ∧ Below w.heap.size w w' := by
  have hc := conv1
  have HL := Lib.hid (dec_len 6 u (by omega))
  have hneg : decide (-(u : Int) < 0) = true := by simp; omega
  go_enter Tryd.func28, Tryd.ntmps28
  go_wp2
  go_loopw [0, 3] (fun n s wr => ∃ (m : Nat) (t : List UInt8), m ≤ 8388608 ∧ n = .int .i64 (-(m : Int)) ∧ s = .string ⟨t.toArray⟩ ∧ Hid (m = 0 ∧ Lib.decDigits u = t ∨ 1 ≤ m ∧ Lib.decDigits u = Lib.decDigits m ++ t) ∧ Hid (Below w.heap.size w wr)) (fun n _ _ => (-(intOf n)).toNat)
  case atStart => exact ⟨u, [], hu, rfl, rfl, .inr ⟨h0, by simp⟩, Below.refl _ _⟩
  case round =>
    obtain ⟨m, t, hm, rfl, rfl, hd, hB⟩ := hrel
    rcases hd.out with ⟨hm0, hd0⟩ | ⟨hm1, hd1⟩
    · subst hm0
      have HD := Lib.hid hd0
      have hl := HL.out
      rw [hd0] at hl
      clear hd0 hd
      go_wp2
      go_ret
      refine ⟨?_, hB.out⟩
      rw [HD.out]
      rfl
    · have HD := Lib.hid hd1
      have ht := dig_room hd1 HL.out
      have h1 := tmod_neg m
      have h2 := tdiv_neg m
      have hs := str_one (48 + (m : Int) % 10)
      clear hd1 hd
      go_wp2
      go_roundw
      case rel =>
        refine ⟨m / 10, UInt8.ofNat (48 + m % 10) :: t, by omega, rfl, by rw [str_dig], ?_, hB.out.alloc hB.out.size _⟩
        by_cases h10 : m < 10
        · refine .inl ⟨by omega, ?_⟩
          rw [HD.out, dig_small m h10, Nat.mod_eq_of_lt h10]
          rfl
        · refine .inr ⟨by omega, ?_⟩
          rw [HD.out, dig_great m h10]
          simp
      case measure => simp [intOf]; omega
theorem c_bItoa (n : Int) (w : World) (h0 : -8388608 ≤ n) (h1 : n ≤ 8388607) :
    Calls Tryd.prog 28 #[.int .i64 n] w fun e w' => e = .returned (.string ⟨(Lib.itoa n).toArray⟩) ∧ Below w.heap.size w w' := by
  unfold Lib.itoa
  by_cases h : n < 0
  · rw [if_pos h]
    have e : n = -((n.natAbs : Nat) : Int) := by omega
    have := c_bItoa_neg n.natAbs (by omega) (by omega) w
    rw [← e] at this
    exact this
  · rw [if_neg h]
    have e : n = ((n.toNat : Nat) : Int) := by omega
    have := c_bItoa_pos n.toNat (by omega) w
    rw [← e] at this
    exact this
/-! ### The words of the text -/
def wordsA : Array Value := ((nmTab.drop 1).map fun l => Value.string ⟨l.toArray⟩).toArray
theorem c_words (w : World) :
    Calls Tryd.prog 25 #[] w fun e w' => e = .returned (.slice (some ⟨w.heap.size, 0, none⟩) 42 42) ∧ w' = w.alloc (.cells wordsA 9) := by
  go_enter Tryd.func25, Tryd.ntmps25
  go_wp2
  go_ret
  exact ⟨rfl, rfl⟩
theorem words_at (w w' : World) (k : Nat) (hk : k < 42) (hb : Below (w.alloc (.cells wordsA 9)).heap.size (w.alloc (.cells wordsA 9)) w') : w'.cell? ⟨w.heap.size, k, none⟩ = some (.string ⟨(nm ((k : Int) + 1)).toArray⟩) := by
  rw [hb.cell (p := ⟨w.heap.size, k, none⟩) (by simp)]
  have e : wordsA[k]? = some (.string ⟨(nm ((k : Int) + 1)).toArray⟩) := by
    unfold wordsA nm
    rw [List.getElem?_toArray, List.getElem?_map, List.getElem?_drop, show ((k : Int) + 1).toNat = 1 + k by omega]
    have hl : 1 + k < nmTab.length := by show _ < 43; omega
    rw [List.getElem?_eq_getElem hl]
    rfl
  have h2 := cell_of_row (w.alloc (.cells wordsA 9)) w.heap.size k wordsA 9 (0, 0) (heap_alloc_new w _)
  rw [h2, e]
end Go.Proofs.YtcemghcfapblgaaDoor
