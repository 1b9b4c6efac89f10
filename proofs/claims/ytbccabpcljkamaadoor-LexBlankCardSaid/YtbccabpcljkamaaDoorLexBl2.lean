/-
  The law's own test for blank.
-/
import Derived.Test.YtbccabpcljkamaaDoorLexBkW
import Derived.Test.YtbccabpcljkamaaDoorLexBl1
import Derived.Handy
namespace Go.Proofs.YtbccabpcljkamaaDoor
set_option linter.unusedVariables false
set_option linter.unusedSimpArgs false
set_option maxRecDepth 100000
open Go.RowKit

set_option maxHeartbeats 4000000 in
attribute [local irreducible] Go.wpQuiet in
theorem c_lblank (l : List UInt8) (w : World) (hl : l.length ≤ 9223372036854775807) :
    Calls Tryd.prog 10 #[.string ⟨l.toArray⟩] w fun e w' => e = .returned (.bool (l.all blk8)) ∧ Below w.heap.size w w' := by
  generalize hv : l.all blk8 = v
  have HVv := Lib.hid hv
  clear hv
  go_enter Tryd.func10, Tryd.ntmps10
  go_wp2_with fail
  go_loopw [3] (fun i wr => ∃ k : Nat, k ≤ l.length ∧ i = .int .i64 k ∧ Hid (∃ m, wr = w.drewN m) ∧ Hid ((l.take k).all blk8 = true)) (fun i _ => l.length - (intOf i).toNat)
  case atStart => exact ⟨0, Nat.zero_le _, rfl, ⟨0, rfl⟩, rfl⟩
  case round =>
    obtain ⟨k, hk, rfl, HW, HA⟩ := hrel
    obtain ⟨m, rfl⟩ := HW.out
    by_cases hlt : k < l.length
    · obtain ⟨cI, hcI⟩ : ∃ cI : Int, ((l[k]?.getD 0).toNat : Int) = cI := ⟨_, rfl⟩
      have hby : ∀ h, (((ByteArray.mk l.toArray)[k]'h).toNat : Int) = cI := fun h => (byte_at l k h).trans hcI
      have hcb : 0 ≤ cI ∧ cI ≤ 255 := by have := (l[k]?.getD 0).toNat_lt; omega
      obtain ⟨hc0, hc1⟩ := hcb
      have hgk : l[k]? = some (l[k]?.getD 0) := by rw [List.getElem?_eq_getElem hlt]; rfl
      have HT : Hid (blkI cI = true → (l.take (k + 1)).all blk8 = true) := fun h => by
        rw [List.take_add_one, hgk, List.all_append, HA.out, Bool.true_and]
        show (blk8 _ && true) = true
        rw [Bool.and_true]
        unfold blk8
        rw [hcI]
        exact h
      have HF : Hid (blkI cI = false → l.all blk8 = false) := fun h => by
        rw [List.all_eq_false]
        refine ⟨_, List.mem_of_getElem? hgk, ?_⟩
        unfold blk8
        rw [hcI, h]
        simp
      clear hcI hgk
      by_cases e32 : cI = 32
      · have d32 : (cI == 32) = true := by rw [e32]; rfl
        go_wp2_with fail
        go_roundw
        case rel => exact ⟨k + 1, by omega, by go_num, ⟨m, rfl⟩, HT.out (by unfold blkI; simp; omega)⟩
        case measure => simp [intOf]; omega
      · have d32 : (cI == 32) = false := by rw [beq_eq_false_iff_ne]; exact e32
        by_cases h9 : cI < 9
        · have d9 : decide (cI < 9) = true := decide_eq_true h9
          obtain rfl : v = false := HVv.out.symm.trans (HF.out (by unfold blkI; simp; omega))
          go_wp2_with fail
          go_ret
          exact ⟨rfl, below_drewN (Below.refl _ _) m⟩
        · have d9 : decide (cI < 9) = false := decide_eq_false h9
          by_cases h13 : 13 < cI
          · have d13 : decide (13 < cI) = true := decide_eq_true h13
            obtain rfl : v = false := HVv.out.symm.trans (HF.out (by unfold blkI; simp; omega))
            go_wp2_with fail
            go_ret
            exact ⟨rfl, below_drewN (Below.refl _ _) m⟩
          · have d13 : decide (13 < cI) = false := decide_eq_false h13
            go_wp2_with fail
            go_roundw
            case rel => exact ⟨k + 1, by omega, by go_num, ⟨m, rfl⟩, HT.out (by unfold blkI; simp; omega)⟩
            case measure => simp [intOf]; omega
    · have hge : decide (k < l.length) = false := by simp; omega
      obtain rfl : k = l.length := by omega
      obtain rfl : v = true := by
        have HV := HA.out
        rw [List.take_length] at HV
        exact HVv.out.symm.trans HV
      go_wp2_with fail
      go_ret
      exact ⟨rfl, below_drewN (Below.refl _ _) m⟩
end Go.Proofs.YtbccabpcljkamaaDoor
