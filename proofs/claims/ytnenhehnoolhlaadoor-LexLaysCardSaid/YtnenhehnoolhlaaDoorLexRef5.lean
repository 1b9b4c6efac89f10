/-
  The contract of a token's word, in the document's answers.
-/
import Derived.Test.YtnenhehnoolhlaaDoorLexRef4
namespace Go.Proofs.YtnenhehnoolhlaaDoor
set_option linter.unusedVariables false
set_option linter.unusedSimpArgs false
set_option maxRecDepth 100000
open Go.RowKit

theorem ba_app2 (l m : List UInt8) : (⟨(l ++ m).toArray⟩ : ByteArray) = ⟨l.toArray⟩ ++ ⟨m.toArray⟩ := (ba_app l m).symm
set_option maxHeartbeats 2000000 in
theorem c_rWord (k a n : Int) (l : List UInt8) (w : World) (ht : tokB k n l = true) :
    Calls Tryd.prog 12 #[.agg #[.int .i64 k, .int .i64 a, .int .i64 n, .string ⟨l.toArray⟩]] w fun e w' => e = .returned (.string ⟨(wrdL k n l).toArray⟩) ∧ Below w.heap.size w w' := by
  rcases tok_parts k n l ht with ⟨rfl, hn⟩ | ⟨h3, hl⟩
  · obtain ⟨h0, h1⟩ := num_bd n l hn
    clear ht hn
    by_cases hng : n < 0
    · have HV : Hid (wrdL 3 n l = quoL 39 [UInt8.ofNat (n % 256).toNat]) := wrd_neg n l hng
      obtain ⟨c, hc⟩ : ∃ c, UInt8.ofNat (n % 256).toNat = c := ⟨_, rfl⟩
      have hcI : (c.toNat : Int) = n % 256 := by rw [← hc, UInt8.toNat_ofNat']; omega
      obtain ⟨cI, hcI2⟩ : ∃ cI : Int, n % 256 = cI := ⟨_, rfl⟩
      rw [hcI2] at hcI
      rw [hc] at HV
      rw [HV.out]
      have HCh : Hid (∀ w, Calls Tryd.prog 26 #[.int .u8 cI] w fun e w' => e = .returned (.string ⟨(quoL 39 [c]).toArray⟩) ∧ Below w.heap.size w w') := fun w => c_rChar c cI hcI w
      generalize quoL 39 [c] = q at HCh HV ⊢
      have hwr : IntKind.u8.wrap (n + 256) = cI := by rw [← hcI2]; simp [IntKind.wrap, IntKind.signed, IntKind.bits]
      clear hc hcI hcI2
      go_enter Tryd.func12, Tryd.ntmps12
      go_wp2_with fail
      refine (HCh.out _).mono ?_
      rintro e w3 ⟨rfl, hb3⟩
      go_wp2_with fail
      go_ret
      exact ⟨rfl, below_on (bel_new _ _) hb3 (bel_new w _).size⟩
    · obtain ⟨u, rfl⟩ := Int.eq_ofNat_of_zero_le (show 0 ≤ n by omega)
      have hu : u ≤ 4294967295 := by omega
      have hil := itoa_len (u : Int) (by omega) h1
      have hd0 : decide ((u : Int) < 0) = false := by simp
      obtain ⟨q, hq⟩ : ∃ q, Lib.itoa (u : Int) = q := ⟨_, rfl⟩
      rw [hq] at hil
      have HIt : Hid (∀ w, Calls Tryd.prog 27 #[.int .i64 u] w fun e w' => e = .returned (.string ⟨q.toArray⟩) ∧ Below w.heap.size w w') := fun w => by rw [← hq]; exact c_bItoa u hu w
      by_cases hx : l = [117] ∧ (u : Int) < 2147483648
      · have HV : Hid (wrdL 3 u l = q ++ [117]) := by show _ = _; rw [wrd_u _ l hng hx, hq]
        rw [HV.out, ba_app2]
        have k1 : (l == [117]) = true := by simp [hx.1]
        have k2 : decide ((u : Int) < 2147483648) = true := by simp [hx.2]
        have hq1 : ¬ 9223372036854775807 < q.length + 1 := by omega
        clear hq hx hng
        go_enter Tryd.func12, Tryd.ntmps12
        go_wp2_with fail
        refine (HIt.out _).mono ?_
        rintro e w3 ⟨rfl, hb3⟩
        go_wp2_with fail
        go_ret
        exact ⟨rfl, below_on (bel_new _ _) hb3 (bel_new w _).size⟩
      · have HV : Hid (wrdL 3 u l = q) := by show _ = _; rw [wrd_i _ l hng hx, hq]
        rw [HV.out]
        have k1 : (l == [117]) = false ∨ (l == [117]) = true ∧ decide ((u : Int) < 2147483648) = false := by
          cases h1 : l == [117]
          · exact .inl rfl
          · right
            rw [beq_iff_eq] at h1
            exact ⟨rfl, by simp; simp [h1] at hx; omega⟩
        clear hq hx hng
        rcases k1 with k1 | ⟨k1, k2⟩
        all_goals
          go_enter Tryd.func12, Tryd.ntmps12
          go_wp2_with fail
          refine (HIt.out _).mono ?_
          rintro e w3 ⟨rfl, hb3⟩
          go_wp2_with fail
          go_ret
          exact ⟨rfl, below_on (bel_new _ _) hb3 (bel_new w _).size⟩
  · have k3 : (k == 3) = false := by simp [h3]
    have k3' : (k != 3) = true := by simp [h3]
    by_cases h4 : k = 4
    · subst h4
      rw [wrd_s n l]
      have HQ := Lib.hid (fun w => c_rQuote l w (by omega))
      generalize quoL 34 l = q at HQ ⊢
      clear ht
      go_enter Tryd.func12, Tryd.ntmps12
      go_wp2_with fail
      refine (HQ.out _).mono ?_
      rintro e w3 ⟨rfl, hb3⟩
      go_wp2_with fail
      go_ret
      exact ⟨rfl, below_on (bel_new _ _) hb3 (bel_new w _).size⟩
    · have k4 : (k == 4) = false := by simp [h4]
      rw [wrd_o k n l h3 h4]
      clear ht h3 h4
      go_enter Tryd.func12, Tryd.ntmps12
      go_wp2_with fail
      go_ret
      exact ⟨rfl, bel_new _ _⟩
end Go.Proofs.YtnenhehnoolhlaaDoor
