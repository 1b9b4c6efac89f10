/-
  The contracts of Line, in the code and in the document's answers.
-/
import Derived.Test.YtnenhehnoolhlaaLexRefQ2
import Derived.Shelf.Strings.LastIndex
import Derived.Shelf.Strings.Count
namespace Go.Proofs.Ytnenhehnoolhlaa
set_option linter.unusedVariables false
set_option linter.unusedSimpArgs false
set_option maxRecDepth 100000
open Go.RowKit

/-- How many line feeds stand ahead of a place; where its line begins. -/
@[irreducible] def cntL (l : List UInt8) (k : Nat) : Nat := (l.take k).count 10
def frmL (l : List UInt8) : Nat → Nat
  | 0 => 0
  | k + 1 => if l[k]? = some 10 then k + 1 else frmL l k
theorem frm_succ (l : List UInt8) (k : Nat) : frmL l (k + 1) = if l[k]? = some 10 then k + 1 else frmL l k := rfl
theorem frm_le (l : List UInt8) : ∀ k, frmL l k ≤ k
  | 0 => Nat.le_refl _
  | k + 1 => by
    have := frm_le l k
    unfold frmL
    split <;> omega
theorem last_frm (l : List UInt8) (a : Nat) (ha : a ≤ l.length) : ∀ k, k ≤ a → Lib.lastIdx ⟨(l.take a).toArray⟩ 10 k + 1 = (frmL l k : Int)
  | 0, _ => rfl
  | k + 1, hk => by
    have ih := last_frm l a ha k (by omega)
    have hkl : k < l.length := by omega
    have e : ((⟨(l.take a).toArray⟩ : ByteArray).data[k]!) = l[k] := by
      have h2 : k < (l.take a).length := by simp; omega
      simp [h2]
      rw [List.getElem?_take, if_pos (by omega), List.getElem?_eq_getElem hkl]
      rfl
    unfold Lib.lastIdx frmL
    rw [e, List.getElem?_eq_getElem hkl]
    by_cases h : l[k] = 10
    · rw [if_pos (by rw [h]; rfl), if_pos (by rw [h])]
      omega
    · rw [if_neg (by intro h2; apply h; rw [← UInt8.toNat_inj]; show _ = 10; omega), if_neg (by simpa using h)]
      exact ih
theorem cnt_snoc (l : List UInt8) (k : Nat) (h : k < l.length) : cntL l (k + 1) = cntL l k + if l[k]? = some 10 then 1 else 0 := by
  unfold cntL
  rw [List.take_add_one, List.getElem?_eq_getElem h, List.count_append]
  by_cases h2 : l[k] = 10
  · rw [if_pos (by rw [h2])]
    simp [h2]
  · rw [if_neg (by simpa using h2)]
    simp [h2]
theorem cnt_le (l : List UInt8) (k : Nat) : cntL l k ≤ l.length := by
  unfold cntL
  exact Nat.le_trans List.count_le_length (by simp; omega)
/-- What Line answers. -/
@[irreducible] def lineV (l : List UInt8) (at' : Int) : Value :=
  if at' < 0 ∨ (l.length : Int) < at' then .tuple #[.int .i64 0, .int .i64 0, .int .i64 1] else .tuple #[.int .i64 (cntL l at'.toNat), .int .i64 (at' - frmL l at'.toNat), .int .i64 0]
theorem line_no (l : List UInt8) (at' : Int) (h : at' < 0 ∨ (l.length : Int) < at') : lineV l at' = .tuple #[.int .i64 0, .int .i64 0, .int .i64 1] := by unfold lineV; rw [if_pos h]
theorem line_yes (l : List UInt8) (a : Nat) (h : a ≤ l.length) : lineV l a = .tuple #[.int .i64 (cntL l a), .int .i64 (a - frmL l a), .int .i64 0] := by unfold lineV; rw [if_neg (by omega)]; rfl
theorem ext_take (l : List UInt8) (a : Nat) : (⟨l.toArray⟩ : ByteArray).extract 0 a = ⟨(l.take a).toArray⟩ := by
  apply ByteArray.ext
  rw [ByteArray.data_extract]
  simp
theorem c_Count (m : List UInt8) (w : World) :
    Calls Try.prog 10 #[.string ⟨m.toArray⟩, .string ⟨#[10]⟩] w fun e w' => e = .returned (.int .i64 (m.count 10)) ∧ w' = w := by
  have h := Any.strings_Count_one Try.lays138 ⟨m.toArray⟩ 10 w
  unfold Lib.countByte at h
  exact h
theorem c_LastIndex (m : List UInt8) (w : World) (hm : m.length ≤ 140737488355328) :
    Calls Try.prog 11 #[.string ⟨m.toArray⟩, .string ⟨#[10]⟩] w fun e w' => e = .returned (.int .i64 (Lib.lastIdx ⟨m.toArray⟩ 10 m.length)) ∧ w' = w := by
  have hs : (⟨m.toArray⟩ : ByteArray).size = m.length := by show m.toArray.size = _; simp
  have h := Any.strings_LastIndex_one Try.lays148 ⟨m.toArray⟩ ⟨#[10]⟩ rfl (by rw [hs]; omega) w
  unfold Lib.lastIndexByte at h
  rw [hs] at h
  exact h
set_option maxHeartbeats 2000000 in
theorem c_Line (l : List UInt8) (at' : Int) (w : World) (h0 : -9223372036854775808 ≤ at') (h1 : at' ≤ 9223372036854775807) (hm : l.length ≤ 140737488355328) :
    Calls Try.prog 4 #[.string ⟨l.toArray⟩, .int .i64 at'] w fun e w' => e = .returned (lineV l at') ∧ Below w.heap.size w w' := by
  by_cases hb : at' < 0 ∨ (l.length : Int) < at'
  · rw [line_no l at' hb]
    rcases hb with hb | hb
    all_goals
      go_enter Try.func4, Try.ntmps4
      go_wp2_with fail
      go_ret3
      exact ⟨rfl, Below.refl _ _⟩
  · obtain ⟨a, rfl⟩ := Int.eq_ofNat_of_zero_le (show 0 ≤ at' by omega)
    have ha : a ≤ l.length := by omega
    rw [line_yes l a ha]
    have k1 : decide ((a : Int) < 0) = false := by simp
    have k2 : decide (l.length < a) = false := by simp; omega
    have hex := ext_take l a
    have hml : (l.take a).length = a := by simp; omega
    have HF := Lib.hid (last_frm l a ha a (Nat.le_refl _))
    have HFl := Lib.hid (frm_le l a)
    have HCn : Hid (cntL l a = (l.take a).count 10) := by show _ = _; unfold cntL; rfl
    clear hb
    go_enter Try.func4, Try.ntmps4
    go_wp2_with fail
    refine (c_Count (l.take a) _).mono ?_
    rintro e w1 ⟨rfl, rfl⟩
    go_wp2_with fail
    refine (c_LastIndex (l.take a) _ (by omega)).mono ?_
    rintro e w2 ⟨rfl, rfl⟩
    rw [hml]
    obtain ⟨X, hX⟩ : ∃ X, Lib.lastIdx ⟨(l.take a).toArray⟩ 10 a = X := ⟨_, rfl⟩
    rw [hX]
    have hX1 : 0 ≤ X + 1 ∧ X + 1 ≤ l.length := by have := HF.out; have := HFl.out; omega
    obtain ⟨hX1, hX2⟩ := hX1
    have HX : Hid (X + 1 = (frmL l a : Int)) := by have := HF.out; rw [hX] at this; exact this
    clear hX
    go_wp2_with fail
    go_ret3
    refine ⟨?_, Below.refl _ _⟩
    rw [HCn.out, ← HX.out]
    rfl
theorem ret3 {a b c d e f : Int} (h1 : a = d) (h2 : b = e) (h3 : c = f) : Ending.returned (.tuple #[.int .i64 a, .int .i64 b, .int .i64 c]) = .returned (.tuple #[.int .i64 d, .int .i64 e, .int .i64 f]) := by rw [h1, h2, h3]
set_option maxHeartbeats 2000000 in
theorem c_rLine (l : List UInt8) (at' : Int) (w : World) (h0 : -9223372036854775808 ≤ at') (h1 : at' ≤ 9223372036854775807) (hm : l.length ≤ 140737488355328) :
    Calls Try.prog 5 #[.string ⟨l.toArray⟩, .int .i64 at'] w fun e w' => e = .returned (lineV l at') ∧ Below w.heap.size w w' := by
  by_cases hb : at' < 0 ∨ (l.length : Int) < at'
  · rw [line_no l at' hb]
    rcases hb with hb | hb
    all_goals
      go_enter Try.func5, Try.ntmps5
      go_wp2_with fail
      go_ret3
      exact ⟨rfl, Below.refl _ _⟩
  · obtain ⟨a, rfl⟩ := Int.eq_ofNat_of_zero_le (show 0 ≤ at' by omega)
    have ha : a ≤ l.length := by omega
    rw [line_yes l a ha]
    have k1 : decide ((a : Int) < 0) = false := by simp
    have k2 : decide (l.length < a) = false := by simp; omega
    clear hb
    go_enter Try.func5, Try.ntmps5
    go_wp2_with fail
    have HF := Lib.hid (frm_le l)
    have HCl := Lib.hid (cnt_le l)
    have HCs := Lib.hid (cnt_snoc l)
    go_loop [7, 8, 9] (fun c f i => ∃ k : Nat, k ≤ a ∧ i = .int .i64 k ∧ c = .int .i64 (cntL l k) ∧ f = .int .i64 (frmL l k)) (fun _ _ i => a - (intOf i).toNat)
    case atStart => exact ⟨0, Nat.zero_le _, rfl, by unfold cntL; rfl, rfl⟩
    case round =>
      obtain ⟨k, hk, rfl, rfl, rfl⟩ := hrel
      by_cases hlt : k < a
      · have hk0 : (0 : Int) ≤ (k : Int) := by omega
        have hk1 : (k : Int) < (l.length : Int) := by omega
        have hkl : k < l.length := by omega
        obtain ⟨cI, hcI⟩ : ∃ cI : Int, ((l[k]?.getD 0).toNat : Int) = cI := ⟨_, rfl⟩
        have hby : ∀ h, (((ByteArray.mk l.toArray)[k]'h).toNat : Int) = cI := fun h => (byte_at l k h).trans hcI
        have hcl := HCl.out k
        obtain ⟨C, hC⟩ : ∃ C, cntL l k = C := ⟨_, rfl⟩
        rw [hC] at hcl ⊢
        have e10 : l[k]? = some 10 ↔ cI = 10 := by
          rw [← hcI, List.getElem?_eq_getElem hkl]
          simp [← UInt8.toNat_inj]
          omega
        have HCt : Hid (cntL l (k + 1) = C + if cI = 10 then 1 else 0) := by
          show _ = _
          rw [HCs.out k hkl, hC]
          simp [e10]
        have HFt : Hid (frmL l (k + 1) = if cI = 10 then k + 1 else frmL l k) := by
          show _ = _
          rw [frm_succ]
          simp only [e10]
        clear hcI e10 hC
        cases h10 : cI == 10
        · have HC2 : Hid (cntL l (k + 1) = C) := by show _ = _; rw [HCt.out, if_neg (by simpa using h10)]; rfl
          have HF2 : Hid (frmL l (k + 1) = frmL l k) := by show _ = _; rw [HFt.out, if_neg (by simpa using h10)]
          go_wp2_with fail
          go_round
          case rel => exact ⟨k + 1, by omega, by go_num, by rw [HC2.out], by rw [HF2.out]⟩
          case measure => simp [intOf]; omega
        · have HC2 : Hid (cntL l (k + 1) = C + 1) := by show _ = _; rw [HCt.out, if_pos (by simpa using h10)]
          have HF2 : Hid (frmL l (k + 1) = k + 1) := by show _ = _; rw [HFt.out, if_pos (by simpa using h10)]
          go_wp2_with fail
          go_round
          case rel => exact ⟨k + 1, by omega, by go_num, by rw [HC2.out]; go_num, by rw [HF2.out]; go_num⟩
          case measure => simp [intOf]; omega
      · have hge : decide (k < a) = false := by simp; omega
        obtain rfl : k = a := by omega
        have hf := HF.out k
        clear hk hlt
        go_wp2_with fail
        go_ret3
        exact ⟨rfl, Below.refl _ _⟩
end Go.Proofs.Ytnenhehnoolhlaa
