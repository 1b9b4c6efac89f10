/-
  The contracts of isNumber, isToken and of a token that is put, in the code.
-/
import Derived.Test.YtbccabpcljkamaaDoorLexTok3
import Derived.Test.YtbccabpcljkamaaDoorLexBel
import Derived.Lib.SmallJoins
namespace Go.Proofs.YtbccabpcljkamaaDoor
set_option linter.unusedVariables false
set_option linter.unusedSimpArgs false
set_option maxRecDepth 100000
open Go.RowKit

theorem c_isNumber (n : Int) (l : List UInt8) (w : World) (h0 : -9223372036854775808 ≤ n) (h1 : n ≤ 9223372036854775807) :
    Calls Tryd.prog 20 #[.int .i64 n, .string ⟨l.toArray⟩] w fun e w' => e = .returned (.bool (numB n l)) ∧ w = w' := by
  go_enter Tryd.func20, Tryd.ntmps20
  go_wp2
  all_goals
    go_ret
    refine ⟨ret_b ?_, rfl⟩
    unfold numB
  all_goals (repeat' split)
  all_goals first | (simp_all; done) | (simp_all; omega) | (exfalso; omega) | (simp; omega)
theorem bel_new (w : World) (o : Obj) : Below w.heap.size w (w.alloc o) := (Below.refl _ _).alloc (Nat.le_refl _) _
def tkV (k a n : Int) (l : List UInt8) : Value := .agg #[.int .i64 k, .int .i64 a, .int .i64 n, .string ⟨l.toArray⟩]
set_option maxHeartbeats 2000000 in
theorem c_isToken (k a n : Int) (l : List UInt8) (w : World) (hM : MkH w) (hl : l.length ≤ 9223372036854775807) (hk0 : -9223372036854775808 ≤ k) (hk1 : k ≤ 9223372036854775807) (h0 : -9223372036854775808 ≤ n) (h1 : n ≤ 9223372036854775807) :
    Calls Tryd.prog 13 #[.agg #[.int .i64 k, .int .i64 a, .int .i64 n, .string ⟨l.toArray⟩]] w fun e w' => e = .returned (.bool (tokB k n l)) ∧ Below w.heap.size w w' := by
  by_cases e3 : k = 3
  · have k3 : (k == 3) = true := by simp [e3]
    have HM := Lib.hid hM
    have HV : Hid (tokB k n l = numB n l) := by show _ = _; unfold tokB; rw [if_pos e3]
    rw [HV.out]
    clear e3
    go_enter Tryd.func13, Tryd.ntmps13
    go_wp2_with fail
    refine (c_isNumber n l _ h0 h1).mono ?_
    rintro e w2 ⟨rfl, rfl⟩
    go_wp2_with fail
    go_ret
    exact ⟨rfl, bel_new _ _⟩
  have k3 : (k == 3) = false := by simp [e3]
  by_cases e0 : n = 0
  · have n0 : (n != 0) = false := by simp [e0]
    have HM := Lib.hid hM
    have HT : Hid (tokB k n l = if k = 1 then nameB l else if k = 2 then keyB l else if k = 4 then decide (l.length ≤ 4096) else if k = 5 then markB l else false) := by show _ = _; unfold tokB; rw [if_neg e3, e0]; rfl
    clear e0 e3 hM
    by_cases e1 : k = 1
    · have k1 : (k == 1) = true := by simp [e1]
      have HV : Hid (tokB k n l = nameB l) := by show _ = _; rw [HT.out, if_pos e1]
      rw [HV.out]
      clear e1
      go_enter Tryd.func13, Tryd.ntmps13
      go_wp2_with fail
      refine (c_IsName l _ hl).mono ?_
      rintro e w2 ⟨rfl, hb⟩
      go_wp2_with fail
      go_ret
      exact ⟨rfl, below_on (bel_new _ _) hb (bel_new w _).size⟩
    have k1 : (k == 1) = false := by simp [e1]
    by_cases e2 : k = 2
    · have k2 : (k == 2) = true := by simp [e2]
      have HV : Hid (tokB k n l = keyB l) := by show _ = _; rw [HT.out, if_neg e1, if_pos e2]
      rw [HV.out]
      clear e1 e2
      go_enter Tryd.func13, Tryd.ntmps13
      go_wp2_with fail
      refine (c_IsKey l _).mono ?_
      rintro e w2 ⟨rfl, rfl⟩
      go_wp2_with fail
      go_ret
      exact ⟨rfl, bel_new _ _⟩
    have k2 : (k == 2) = false := by simp [e2]
    by_cases e4 : k = 4
    · have k4 : (k == 4) = true := by simp [e4]
      have HV : Hid (tokB k n l = decide (l.length ≤ 4096)) := by show _ = _; rw [HT.out, if_neg e1, if_neg e2, if_pos e4]
      rw [HV.out]
      clear e1 e2 e4
      go_enter Tryd.func13, Tryd.ntmps13
      go_wp2_with fail
      go_ret
      exact ⟨ret_b (by rw [Bool.eq_iff_iff]; simp <;> omega), bel_new _ _⟩
    have k4 : (k == 4) = false := by simp [e4]
    by_cases e5 : k = 5
    · have k5 : (k == 5) = true := by simp [e5]
      have HV : Hid (tokB k n l = markB l) := by show _ = _; rw [HT.out, if_neg e1, if_neg e2, if_neg e4, if_pos e5]
      rw [HV.out]
      clear e1 e2 e4 e5
      go_enter Tryd.func13, Tryd.ntmps13
      go_wp2_with fail
      refine (c_isMark l _ (HM.out.next (bel_new _ _) rfl)).mono ?_
      rintro e w2 ⟨rfl, rfl⟩
      go_wp2_with fail
      go_ret
      exact ⟨rfl, bel_new _ _⟩
    have k5 : (k == 5) = false := by simp [e5]
    have HV : Hid (tokB k n l = false) := by show _ = _; rw [HT.out, if_neg e1, if_neg e2, if_neg e4, if_neg e5]
    rw [HV.out]
    clear e1 e2 e4 e5
    go_enter Tryd.func13, Tryd.ntmps13
    go_wp2_with fail
    go_ret
    exact ⟨rfl, bel_new _ _⟩
  · have n0 : (n != 0) = true := by simp [e0]
    have HV : Hid (tokB k n l = false) := by show _ = _; unfold tokB; rw [if_neg e3]; simp [e0]
    rw [HV.out]
    clear e0 e3
    go_enter Tryd.func13, Tryd.ntmps13
    go_wp2_with fail
    go_ret
    exact ⟨rfl, bel_new _ _⟩
end Go.Proofs.YtbccabpcljkamaaDoor
