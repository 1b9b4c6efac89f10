/-
  The two memories held against each other: Fetch and Of. Plain words.
-/
import Derived.Test.YtbfimedgichiiaaMemPut2
import Derived.Test.YtbfimedgichiiaaMemRef12
import Derived.Test.YtbfimedgichiiaaMemFillM
import Derived.Test.YtbfimedgichiiaaMemRanges
namespace Go.Proofs.Ytbfimedgichiiaa
set_option linter.unusedVariables false
set_option linter.unusedSimpArgs false

def TieB (R : Nat → Rg) (nb : Nat) (C : Nat → Nat → Nat → Int) (c : Nat → Nat → Int) : Prop := ∀ i y : Nat, i < nb → (y : Int) < (R i).sz → c i y = byte C i y
theorem accNo_uniq {nb : Nat} {R : Nat → Rg} {a n e e' : Int} (h : AccNo nb R a n e) (k : AccNo nb R a n e') : e = e' := by
  rcases h with ⟨h1, h2⟩ | ⟨h1, h2, h3⟩ | ⟨h1, h2, h3, h4⟩ <;> rcases k with ⟨k1, k2⟩ | ⟨k1, k2, k3⟩ | ⟨k1, k2, k3, k4⟩ <;> first | omega | (exact absurd h1 k1) | (exact absurd k1 h1) | (exact absurd h2 k2) | (exact absurd k2 h2)
/-- Where an access lies. -/
theorem acc_in {nb : Nat} {R : Nat → Rg} {a n : Int} {i : Nat} (hok : okTo R nb = true) (h : AccOk nb R a n i) : ∃ x m : Nat, (a - (R i).fr).toNat = x ∧ n.toNat = m ∧ (m = 1 ∨ m = 2 ∨ m = 4) ∧ ((x + m : Nat) : Int) ≤ (R i).sz ∧ x % 4096 + m ≤ 4096 := by
  obtain ⟨h1, h2, h3, h4⟩ := h
  have hb := rg_bd (okTo_rg hok i h3)
  have h5 := hold_of h4
  refine ⟨_, _, rfl, rfl, by omega, by omega, ?_⟩
  rcases h1 with rfl | rfl | rfl <;> omega
theorem tie_ld {nb : Nat} {R : Nat → Rg} {C : Nat → Nat → Nat → Int} {c : Nat → Nat → Int} {a n : Int} {i : Nat} (ht : TieB R nb C c) (hok : okTo R nb = true) (h : AccOk nb R a n i) : rW (c i) (a - (R i).fr).toNat n.toNat = ldI (C i) (a - (R i).fr).toNat n.toNat := by
  obtain ⟨x, m, hx, hm, h1, h2, h3⟩ := acc_in hok h
  rw [hx, hm]
  have hb : ∀ k, k < m → c i (x + k) = C i ((x + k) / 4096) ((x + k) % 4096) := fun k hk => ht i (x + k) h.2.2.1 (by omega)
  have h0 := hb 0 (by omega)
  unfold rW ldI wordI byAt
  rcases h1 with rfl | rfl | rfl
  · simp at h0 ⊢; omega
  · have := hb 1 (by omega); simp at h0 this ⊢; omega
  · have q1 := hb 1 (by omega); have q2 := hb 2 (by omega); have q3 := hb 3 (by omega); simp at h0 q1 q2 q3 ⊢; omega
theorem tie_st {nb : Nat} {R : Nat → Rg} {C : Nat → Nat → Nat → Int} {c : Nat → Nat → Int} {a n v : Int} {i : Nat} (ht : TieB R nb C c) (hok : okTo R nb = true) (h : AccOk nb R a n i) : TieB R nb (stC C i (a - (R i).fr).toNat n.toNat v) (stR c i (a - (R i).fr).toNat n.toNat v) := by
  obtain ⟨x, m, hx, hm, h1, h2, h3⟩ := acc_in hok h
  rw [hx, hm]
  intro j y hj hy
  rw [stC_byte _ _ _ _ _ _ _ h3]
  unfold stR
  by_cases e : j = i ∧ x ≤ y ∧ y < x + m
  · rw [if_pos e, if_pos e]
  · rw [if_neg e, if_neg e]
    exact ht j y hj hy
/-- Both loads answer alike. -/
theorem tie_load {nb : Nat} {R : Nat → Rg} {C : Nat → Nat → Nat → Int} {c : Nat → Nat → Int} {a n v e v' e' : Int} (ht : TieB R nb C c) (hok : okTo R nb = true) (h : LoadAns nb R C a n v e)
    (k : (e' = 0 ∧ ∃ j : Nat, AccOk nb R a n j ∧ v' = rW (c j) (a - (R j).fr).toNat n.toNat) ∨ (e' ≠ 0 ∧ v' = 0 ∧ AccNo nb R a n e')) : v = v' ∧ e = e' := by
  rcases h with ⟨rfl, i, hi, rfl⟩ | ⟨h1, rfl, h2⟩ <;> rcases k with ⟨rfl, j, hj, rfl⟩ | ⟨k1, rfl, k2⟩
  · obtain rfl := acc_one hok hi hj
    exact ⟨(tie_ld ht hok hi).symm, rfl⟩
  · exact (acc_not_both hi k2).elim
  · exact (acc_not_both hj h2).elim
  · exact ⟨rfl, accNo_uniq h2 k2⟩
theorem tie_mark {nb : Nat} {R : Nat → Rg} {C D : Nat → Nat → Nat → Int} {c d : Nat → Nat → Int} (ht : TieB R nb C c) : TieB R nb (mkT D C nb) (mkT d c nb) := by
  intro i y hi hy
  have h := ht i y hi hy
  unfold byte at h ⊢
  unfold mkT
  rw [if_pos hi, if_pos hi]
  exact h
theorem tie_put {nb : Nat} {R : Nat → Rg} {C C' : Nat → Nat → Nat → Int} {c : Nat → Nat → Int} {i x n : Nat} {z f : Nat → Int} (ht : TieB R nb C c) (hp : PutIs C C' i x n z) (hz : ∀ y, y < n → z y = f y) : TieB R nb C' (stF c i x n f) := by
  intro j y hj hy
  rw [hp j y]
  unfold stF
  by_cases e : j = i ∧ x ≤ y ∧ y < x + n
  · rw [if_pos e, if_pos e, hz _ (by omega)]
  · rw [if_neg e, if_neg e]
    exact ht j y hj hy
end Go.Proofs.Ytbfimedgichiiaa
namespace Go.Proofs.Ytbfimedgichiiaa
set_option linter.unusedVariables false
set_option linter.unusedSimpArgs false

theorem tie_fetch {nb : Nat} {R : Nat → Rg} {C : Nat → Nat → Nat → Int} {c : Nat → Nat → Int} {a v e v' e' : Int} (ht : TieB R nb C c) (hok : okTo R nb = true) (h : FetchAns nb R C a v e)
    (k : (e' = 0 ∧ ∃ j : Nat, AccOk nb R a 4 j ∧ (R j).ex = true ∧ v' = rW (c j) (a - (R j).fr).toNat 4) ∨ (e' = 33 ∧ v' = 0 ∧ ∃ j : Nat, AccOk nb R a 4 j ∧ (R j).ex = false) ∨ (e' ≠ 0 ∧ v' = 0 ∧ AccNo nb R a 4 e')) : v = v' ∧ e = e' := by
  rcases h with ⟨rfl, i, hi, hx, rfl⟩ | ⟨rfl, rfl, i, hi, hx⟩ | ⟨h1, rfl, h2⟩ <;> rcases k with ⟨rfl, j, hj, hy, rfl⟩ | ⟨rfl, rfl, j, hj, hy⟩ | ⟨k1, rfl, k2⟩
  · obtain rfl := acc_one hok hi hj
    exact ⟨(tie_ld ht hok hi).symm, rfl⟩
  · obtain rfl := acc_one hok hi hj
    rw [hx] at hy; cases hy
  · exact (acc_not_both hi k2).elim
  · obtain rfl := acc_one hok hi hj
    rw [hx] at hy; cases hy
  · exact ⟨rfl, rfl⟩
  · exact (acc_not_both hi k2).elim
  · exact (acc_not_both hj h2).elim
  · exact (acc_not_both hj h2).elim
  · exact ⟨rfl, accNo_uniq h2 k2⟩
/-- The range that holds n bytes from a on is one. -/
theorem hold_1 {nb : Nat} {R : Nat → Rg} {a n : Int} {i j : Nat} (hok : okTo R nb = true) (hi : i < nb) (hj : j < nb) (h1 : holdB (R i) a n = true) (h2 : holdB (R j) a n = true) (hn : 1 ≤ n) : i = j :=
  hold_one hok hi hj h1 h2 (Int.le_refl _) (by omega) hn hn
theorem tie_of {nb : Nat} {R : Nat → Rg} {a : Int} {e : Ending} {s : ByteArray} {k m : Int} (hok : okTo R nb = true) (h : OfAns nb R a e)
    (q : (∃ j : Nat, j < nb ∧ holdB (R j) a 1 = true ∧ s = ⟨(R j).nm.toArray⟩ ∧ k = a - (R j).fr ∧ m = 0) ∨ ((∀ j, j < nb → holdB (R j) a 1 = false) ∧ s = ⟨#[]⟩ ∧ k = 0 ∧ m = 30)) : e = .returned (.tuple #[.string s, .int .i64 k, .int .i64 m]) := by
  rcases h with ⟨i, hi, h1, rfl⟩ | ⟨hno, rfl⟩ <;> rcases q with ⟨j, hj, k1, rfl, rfl, rfl⟩ | ⟨kno, rfl, rfl, rfl⟩
  · obtain rfl := hold_1 hok hi hj h1 k1 (by omega)
    rfl
  · rw [kno i hi] at h1; cases h1
  · rw [hno j hj] at k1; cases k1
  · rfl
end Go.Proofs.Ytbfimedgichiiaa
