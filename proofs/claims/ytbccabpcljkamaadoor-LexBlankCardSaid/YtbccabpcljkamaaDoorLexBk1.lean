/-
  Plain: the tokens that are told are such as there are, and no two texts stand in a row.
-/
import Derived.Test.YtbccabpcljkamaaDoorLexCut
import Derived.Test.YtbccabpcljkamaaDoorLexRd6
namespace Go.Proofs.YtbccabpcljkamaaDoor
set_option linter.unusedVariables false
set_option linter.unusedSimpArgs false

theorem bk_word {r x y : List UInt8} {k n : Int} (h1 : ltr8 (r[0]?.getD 0) = true) (h : wordT r = .ok k n x y) : tokB k n x = true ∧ k ≠ 4 := by
  have hw : wordB (r.takeWhile wrd8) = true := by
    cases r with
    | nil => exact absurd h1 (by decide)
    | cons c t =>
      have hc : ltr8 c = true := by simpa using h1
      have hc2 : wrd8 c = true := by unfold wrd8; rw [hc]; rfl
      have ha := List.all_takeWhile (p := wrd8) (l := c :: t)
      unfold wordB
      rw [ha, List.takeWhile_cons, if_pos hc2]
      simp [hc]
  unfold wordT at h
  split at h
  · rename_i hk
    cases h
    refine ⟨?_, by decide⟩
    unfold tokB
    simp [hk]
  · rename_i hk
    split at h
    · cases h
    · rename_i hl
      cases h
      refine ⟨?_, by decide⟩
      unfold tokB nameB
      simp [hk, hw]
      omega
theorem bk_num {r x y : List UInt8} {k n : Int} (h : numT r = .ok k n x y) : tokB k n x = true ∧ k ≠ 4 := by
  unfold numT at h
  split at h
  · cases h
  · rename_i u hu
    have hle := size_le _ hu
    split at h
    · cases h
    · cases h
      refine ⟨?_, by decide⟩
      unfold tokB numB
      rw [if_pos rfl]
      have h1 : decide (-128 ≤ (u : Int)) = true := decide_eq_true (by omega)
      have h2 : decide ((u : Int) ≤ 4294967295) = true := decide_eq_true (by omega)
      rw [h1, h2, if_neg (by omega)]
      by_cases h3 : 2147483648 ≤ u
      · rw [if_pos (by omega), if_pos (.inl h3)]; rfl
      · rw [if_neg (by omega)]
        split <;> rfl
theorem i8_bd (b : UInt8) : -128 ≤ i8 b ∧ i8 b ≤ 127 := by
  have := b.toNat_lt
  unfold i8
  split <;> omega
theorem bk_char {r x y : List UInt8} {k n : Int} (h : charT r = .ok k n x y) : tokB k n x = true ∧ k ≠ 4 := by
  unfold charT at h
  split at h
  · cases h
  · rename_i l t hl
    split at h
    · cases h
      refine ⟨?_, by decide⟩
      obtain ⟨b1, b2⟩ := i8_bd (l[0]?.getD 0)
      generalize i8 (l[0]?.getD 0) = v at b1 b2 ⊢
      unfold tokB numB
      rw [if_pos rfl]
      have h1 : decide (-128 ≤ v) = true := decide_eq_true (by omega)
      have h2 : decide (v ≤ 4294967295) = true := decide_eq_true (by omega)
      rw [h1, h2]
      split
      · rfl
      · rw [if_neg (by omega)]; rfl
    · cases h
theorem bk_texts (first : List UInt8) : ∀ (m : Nat) (j r x y : List UInt8) (k n : Int), textsN first m j r = .ok k n x y → j.length ≤ 4096 → k = 4 ∧ n = 0 ∧ x.length ≤ 4096 ∧ y.head? ≠ some 34 ∧ (y = r ∨ blR y = (y, true))
  | 0, _, _, _, _, _, _, h, _ => by cases h
  | m + 1, j, r, x, y, k, n, h, hj => by
    unfold textsN at h
    split at h
    · rename_i hr
      split at h
      · cases h
      · rename_i l t hp
        split at h
        · rename_i hb
          have hl := pcsR_len (Nat.zero_le _) hp
          obtain ⟨h1, h2, h3, h4, h5⟩ := bk_texts first m _ _ _ _ _ _ h (by rw [List.length_append]; omega)
          refine ⟨h1, h2, h3, h4, .inr ?_⟩
          rcases h5 with h5 | h5
          · rw [h5]
            exact blR_idem (r := t) (by rw [← hb])
          · exact h5
        · cases h
    · rename_i hr
      cases h
      exact ⟨rfl, rfl, hj, hr, .inl rfl⟩
theorem bk_mark {r x y : List UInt8} {k n : Int} (h : markT r = .ok k n x y) : tokB k n x = true ∧ k ≠ 4 := by
  unfold markT at h
  split at h
  · cases h
  · rename_i m hm
    cases h
    refine ⟨?_, by decide⟩
    have h1 := List.mem_of_find?_eq_some hm
    unfold tokB markB
    simp [h1]
theorem bk_tok {r x y : List UInt8} {k n : Int} (hr : r ≠ []) (h : tokR r = .ok k n x y) : tokB k n x = true ∧ (k = 4 → r.head? = some 34 ∧ y.head? ≠ some 34 ∧ blR y = (y, true)) := by
  unfold tokR at h
  split at h
  · rename_i h1
    obtain ⟨a, b⟩ := bk_word h1 h
    exact ⟨a, fun e => absurd e b⟩
  · split at h
    · obtain ⟨a, b⟩ := bk_num h
      exact ⟨a, fun e => absurd e b⟩
    · split at h
      · obtain ⟨a, b⟩ := bk_char h
        exact ⟨a, fun e => absurd e b⟩
      · split at h
        · rename_i h1
          obtain ⟨rfl, rfl, h4, h5, h6⟩ := bk_texts _ _ _ _ _ _ _ _ h (Nat.zero_le _)
          have hh : r.head? = some 34 := by
            cases r with
            | nil => exact absurd rfl hr
            | cons c t => simpa using h1
          refine ⟨?_, fun _ => ⟨hh, h5, ?_⟩⟩
          · unfold tokB
            simp
            exact h4
          · rcases h6 with h6 | h6
            · rw [h6] at h5; exact absurd hh h5
            · exact h6
        · obtain ⟨a, b⟩ := bk_mark h
          exact ⟨a, fun e => absurd e b⟩
/-- No two texts stand in a row. -/
def NoTwo (K : List Int) : Prop := ∀ (i : Nat), K[i]? = some 4 → K[i + 1]? = some 4 → False
theorem NoTwo.snoc {K : List Int} {k : Int} (h : NoTwo K) (hk : k = 4 → K.getLast? ≠ some 4) : NoTwo (K ++ [k]) := by
  intro i h1 h2
  by_cases hi : i + 1 < K.length
  · rw [List.getElem?_append_left (by omega)] at h1 h2
    exact h i h1 h2
  · by_cases hi2 : i + 1 = K.length
    · rw [List.getElem?_append_left (by omega)] at h1
      rw [List.getElem?_append_right (by omega), hi2, Nat.sub_self] at h2
      have h3 : k = 4 := by simpa using h2
      apply hk h3
      rw [List.getLast?_eq_getElem?, ← h1]
      congr 1
      omega
    · have : (K ++ [k])[i + 1]? = none := by rw [List.getElem?_eq_none_iff, List.length_append, List.length_singleton]; omega
      rw [this] at h2
      cases h2
def ptOk (t : Pt) : Prop := tokB t.kind t.int t.text = true
theorem bk_tks : ∀ (m : Nat) (A : List Pt) (r : List UInt8) (L : List Pt), tksN m A r = .ok L → (∀ t ∈ A, ptOk t) → NoTwo (A.map (·.kind)) → ((A.map (·.kind)).getLast? = some 4 → (blR r).1.head? ≠ some 34) → (∀ t ∈ L, ptOk t) ∧ NoTwo (L.map (·.kind))
  | 0, _, _, _, h, _, _, _ => by cases h
  | m + 1, A, r, L, h, hA, hN, hl => by
    unfold tksN at h
    split at h
    · rename_i hb
      split at h
      · cases h; exact ⟨hA, hN⟩
      · rename_i hne
        split at h
        · cases h
        · split at h
          · cases h
          · rename_i k i s y ht
            obtain ⟨h1, h2⟩ := bk_tok hne ht
            refine bk_tks m _ _ _ h ?_ ?_ ?_
            · intro t ht
              rcases List.mem_append.1 ht with h3 | h3
              · exact hA t h3
              · rw [List.mem_singleton] at h3
                rw [h3]
                exact h1
            · rw [List.map_append]
              refine hN.snoc (fun e e2 => ?_)
              exact hl e2 (h2 e).1
            · intro e
              rw [List.map_append, List.map_singleton, List.getLast?_concat] at e
              have e4 : k = 4 := by simpa using e
              obtain ⟨_, h5, h6⟩ := h2 e4
              rw [h6]
              exact h5
    · cases h
theorem T_right {s : List UInt8} {L : List Pt} (h : tksR [] s = .ok L) : (∀ t ∈ L, ptOk t) ∧ NoTwo (L.map (·.kind)) :=
  bk_tks _ _ _ _ h (fun t ht => by cases ht) (fun i h1 _ => by simp at h1) (fun e => by simp at e)
end Go.Proofs.YtbccabpcljkamaaDoor
