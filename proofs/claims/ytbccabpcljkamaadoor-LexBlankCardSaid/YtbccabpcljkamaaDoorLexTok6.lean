/-
  The contract of a token that is put, in the code.
-/
import Derived.Test.YtbccabpcljkamaaDoorLexTok5
namespace Go.Proofs.YtbccabpcljkamaaDoor
set_option linter.unusedVariables false
set_option linter.unusedSimpArgs false
set_option maxRecDepth 100000
open Go.RowKit

/-- How long a right token's text is, at most. -/
theorem tok_parts (k n : Int) (l : List UInt8) (h : tokB k n l = true) : k = 3 ∧ numB n l = true ∨ k ≠ 3 ∧ l.length ≤ 4096 := by
  unfold tokB at h
  by_cases h3 : k = 3
  · rw [if_pos h3] at h
    exact .inl ⟨h3, h⟩
  · rw [if_neg h3] at h
    simp only [Bool.and_eq_true] at h
    refine .inr ⟨h3, ?_⟩
    have h2 := h.2
    split at h2
    · unfold nameB at h2
      simp at h2
      omega
    · split at h2
      · unfold keyB at h2
        have hk : ∀ s ∈ keyTab, s.length ≤ 4096 := by decide
        exact hk l (List.contains_iff_mem.1 h2)
      · split at h2
        · simpa using h2
        · split at h2
          · unfold markB at h2
            have hk : ∀ s ∈ markTab, s.length ≤ 4096 := by decide
            exact hk l (List.contains_iff_mem.1 h2)
          · cases h2
theorem num_bd (n : Int) (l : List UInt8) (h : numB n l = true) : -128 ≤ n ∧ n ≤ 4294967295 := by
  unfold numB at h
  simp only [Bool.and_eq_true, decide_eq_true_eq] at h
  exact h.1
theorem wrd_len (k n : Int) (l : List UInt8) (h : tokB k n l = true) : (wrdL k n l).length ≤ 16386 := by
  rcases tok_parts k n l h with ⟨rfl, hn⟩ | ⟨h3, hl⟩
  · have hb := num_bd n l hn
    by_cases h0 : n < 0
    · rw [wrd_neg n l h0]
      have := quoL_len 39 [UInt8.ofNat (n % 256).toNat]
      simp at this
      omega
    · have hi := itoa_len n (by omega) hb.2
      by_cases h2 : l = [117] ∧ n < 2147483648
      · rw [wrd_u n l h0 h2]; simp; omega
      · rw [wrd_i n l h0 h2]; omega
  · by_cases h4 : k = 4
    · subst h4
      rw [wrd_s]
      have := quoL_len 34 l
      omega
    · rw [wrd_o k n l h3 h4]; omega
set_option maxHeartbeats 2000000 in
theorem c_token (B b : Nat) (x : List UInt8) (k a n : Int) (l : List UInt8) (w : World) (hP : PwH w) (h : WrAt B b x w) (hlen : x.length + 16386 ≤ 140737488355328) (hBw : B ≤ w.heap.size) (ht : tokB k n l = true) :
    Calls Tryd.prog 15 #[.pointer (some ⟨b, 0, none⟩), .agg #[.int .i64 k, .int .i64 a, .int .i64 n, .string ⟨l.toArray⟩]] w fun e w' => e = .returned (.tuple #[]) ∧ WrAt B b (x ++ wrdL k n l) w' ∧ FrB B b w w' := by
  rcases tok_parts k n l ht with ⟨rfl, hn⟩ | ⟨h3, hl⟩
  · obtain ⟨h0, h1⟩ := num_bd n l hn
    have HW := Lib.hid h
    have HP := Lib.hid hP
    clear h hP ht hn
    go_enter Tryd.func15, Tryd.ntmps15
    go_wp2_with fail
    refine (c_number B b x 3 a n l _ (HP.out.next (bel_new w _) rfl) (HW.out.alloc _) (by omega) (by simp; omega) h0 h1).mono ?_
    rintro e w3 ⟨rfl, h3, hb3⟩
    go_wp2_with fail
    go_end0
    exact ⟨rfl, h3, ((FrB.refl _ _ _).alloc hBw _).trans hb3⟩
  · have k3 : (k == 3) = false := by simp [h3]
    by_cases h4 : k = 4
    · subst h4
      have HV := Lib.hid (wrd_s n l)
      have HW := Lib.hid h
      clear h hP ht
      go_enter Tryd.func15, Tryd.ntmps15
      go_wp2_with fail
      refine (c_quoted B b x l 34 34 rfl _ (HW.out.alloc _) (by omega) (by simp; omega)).mono ?_
      rintro e w3 ⟨rfl, h3, hb3⟩
      go_wp2_with fail
      go_end0
      exact ⟨rfl, by rw [HV.out]; exact h3, ((FrB.refl _ _ _).alloc hBw _).trans hb3⟩
    · have k4 : (k == 4) = false := by simp [h4]
      have HV := Lib.hid (wrd_o k n l h3 h4)
      have HW := Lib.hid h
      clear h hP ht h3 h4
      go_enter Tryd.func15, Tryd.ntmps15
      go_wp2_with fail
      have HN : Hid (∀ o, WrAt B b x ((w.alloc o).drew) ∧ B ≤ ((w.alloc o).drew).heap.size ∧ FrB B b w ((w.alloc o).drew)) := fun o =>
        ⟨HW.out.alloc o, Nat.le_trans hBw (bel_new w o).drew.size, ((FrB.refl _ _ _).alloc hBw _).drew⟩
      go_region_with (go_at_call 27; refine (c_WriteString B b x l _ (HN.out _).1 (by omega) (HN.out _).2.1).mono ?_; rintro e w4 ⟨rfl, h4, hb4⟩)
      all_goals
        go_wp2_with fail
        go_end0
        exact ⟨rfl, by rw [HV.out]; exact h4, (HN.out _).2.2.trans hb4⟩
end Go.Proofs.YtbccabpcljkamaaDoor
