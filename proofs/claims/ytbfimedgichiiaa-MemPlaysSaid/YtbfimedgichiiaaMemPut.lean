/-
  An address more in a list of gaps, put where it belongs and joined to what it touches: plain words; no program is named.
-/
import Derived.Test.YtbfimedgichiiaaMemGap
namespace Go.Proofs.Ytbfimedgichiiaa
set_option linter.unusedVariables false
set_option linter.unusedSimpArgs false

def putP : List (Int × Int) → Int → List (Int × Int)
  | [], a => [(a, 1)]
  | g :: l, a =>
    if g.1 + g.2 < a then g :: putP l a
    else if g.1 + g.2 = a then
      match l with
      | [] => [(g.1, g.2 + 1)]
      | q :: m => if q.1 = a + 1 then (g.1, g.2 + 1 + q.2) :: m else (g.1, g.2 + 1) :: q :: m
    else if g.1 = a + 1 then (a, g.2 + 1) :: l
    else (a, 1) :: g :: l
theorem putP_from {b a : Int} (hb : b < a) : ∀ {l : List (Int × Int)}, (∀ h ∈ l, b < h.1) → ∀ h ∈ putP l a, b < h.1
  | [], _ => fun h hh => by simp [putP] at hh; subst hh; exact hb
  | g :: l, H => fun h hh => by
    have hg := H g (by simp)
    have hl : ∀ h ∈ l, b < h.1 := fun h hh => H h (by simp [hh])
    unfold putP at hh
    by_cases c1 : g.1 + g.2 < a
    · rw [if_pos c1] at hh
      rcases List.mem_cons.1 hh with rfl | hh
      · exact hg
      · exact putP_from hb hl h hh
    · rw [if_neg c1] at hh
      by_cases c2 : g.1 + g.2 = a
      · rw [if_pos c2] at hh
        cases l with
        | nil => simp at hh; subst hh; exact hg
        | cons q m =>
          simp only at hh
          by_cases c3 : q.1 = a + 1
          · rw [if_pos c3] at hh
            rcases List.mem_cons.1 hh with rfl | hh
            · exact hg
            · exact hl h (by simp [hh])
          · rw [if_neg c3] at hh
            rcases List.mem_cons.1 hh with rfl | hh
            · exact hg
            · exact hl h hh
      · rw [if_neg c2] at hh
        by_cases c3 : g.1 = a + 1
        · rw [if_pos c3] at hh
          rcases List.mem_cons.1 hh with rfl | hh
          · exact hb
          · exact hl h hh
        · rw [if_neg c3] at hh
          rcases List.mem_cons.1 hh with rfl | hh
          · exact hb
          · exact H h hh
theorem putP_wf {lo hi a : Int} (h1 : lo ≤ a) (h2 : a + 1 ≤ hi) : ∀ {l : List (Int × Int)}, Wf lo l hi → ¬ cov l a → Wf lo (putP l a) hi
  | [], _, _ => ⟨h1, by show (1 : Int) ≤ 1; omega, h2, fun h hh => by simp at hh, by show lo ≤ hi; omega⟩
  | g :: l, h, hn => by
    obtain ⟨w1, w2, w3, w4, w5⟩ := h
    rw [cov_cons] at hn
    have n1 : ¬ (g.1 ≤ a ∧ a < g.1 + g.2) := fun e => hn (.inl e)
    have n2 : ¬ cov l a := fun e => hn (.inr e)
    unfold putP
    by_cases c1 : g.1 + g.2 < a
    · rw [if_pos c1]
      exact ⟨w1, w2, w3, putP_from c1 w4, putP_wf h1 h2 w5 n2⟩
    · rw [if_neg c1]
      by_cases c2 : g.1 + g.2 = a
      · rw [if_pos c2]
        cases l with
        | nil => exact ⟨w1, by show 1 ≤ g.2 + 1; omega, by show g.1 + (g.2 + 1) ≤ hi; omega, fun h hh => by simp at hh, w5⟩
        | cons q m =>
          obtain ⟨v1, v2, v3, v4, v5⟩ := w5
          have hq := w4 q (by simp)
          have nq : ¬ (q.1 ≤ a ∧ a < q.1 + q.2) := fun e => n2 ((cov_cons _ _ _).2 (.inl e))
          simp only
          by_cases c3 : q.1 = a + 1
          · rw [if_pos c3]
            exact ⟨w1, by show 1 ≤ g.2 + 1 + q.2; omega, by show g.1 + (g.2 + 1 + q.2) ≤ hi; omega, fun h hh => by have := v4 h hh; show g.1 + (g.2 + 1 + q.2) < h.1; omega, v5⟩
          · rw [if_neg c3]
            refine ⟨w1, by show 1 ≤ g.2 + 1; omega, by show g.1 + (g.2 + 1) ≤ hi; omega, fun h hh => ?_, v1, v2, v3, v4, v5⟩
            show g.1 + (g.2 + 1) < h.1
            rcases List.mem_cons.1 hh with rfl | hh
            · omega
            · have := v4 h hh; omega
      · rw [if_neg c2]
        by_cases c3 : g.1 = a + 1
        · rw [if_pos c3]
          exact ⟨h1, by show 1 ≤ g.2 + 1; omega, by show a + (g.2 + 1) ≤ hi; omega, fun h hh => by have := w4 h hh; show a + (g.2 + 1) < h.1; omega, w5⟩
        · rw [if_neg c3]
          refine ⟨h1, by show (1 : Int) ≤ 1; omega, h2, fun h hh => ?_, w1, w2, w3, w4, w5⟩
          show a + 1 < h.1
          rcases List.mem_cons.1 hh with rfl | hh
          · omega
          · have := w4 h hh; omega
theorem putP_cov {lo hi a x : Int} : ∀ {l : List (Int × Int)}, Wf lo l hi → ¬ cov l a → (cov (putP l a) x ↔ cov l x ∨ x = a)
  | [], _, _ => by
    show cov [(a, 1)] x ↔ _
    rw [cov_cons]
    have := cov_nil x
    constructor
    · rintro (h | h)
      · exact .inr (by have := h.1; have := h.2; simp only at *; omega)
      · exact absurd h (cov_nil x)
    · rintro (h | h)
      · exact absurd h (cov_nil x)
      · subst h; exact .inl ⟨Int.le_refl _, by show x < x + 1; omega⟩
  | g :: l, h, hn => by
    obtain ⟨w1, w2, w3, w4, w5⟩ := h
    rw [cov_cons] at hn
    have n1 : ¬ (g.1 ≤ a ∧ a < g.1 + g.2) := fun e => hn (.inl e)
    have n2 : ¬ cov l a := fun e => hn (.inr e)
    unfold putP
    by_cases c1 : g.1 + g.2 < a
    · rw [if_pos c1, cov_cons, cov_cons, putP_cov w5 n2, or_assoc]
    · rw [if_neg c1]
      by_cases c2 : g.1 + g.2 = a
      · rw [if_pos c2]
        cases l with
        | nil =>
          show cov [(g.1, g.2 + 1)] x ↔ _
          rw [cov_cons, cov_cons]
          have := cov_nil x
          simp only [this, or_false]
          omega
        | cons q m =>
          simp only
          by_cases c3 : q.1 = a + 1
          · rw [if_pos c3, cov_cons, cov_cons, cov_cons]
            have v2 := w5.2.1
            by_cases hm : cov m x
            · simp [hm]
            · simp only [hm, or_false]
              omega
          · rw [if_neg c3, cov_cons, cov_cons (l := q :: m)]
            by_cases hm : cov (q :: m) x
            · simp [hm]
            · simp only [hm, or_false]
              omega
      · rw [if_neg c2]
        by_cases c3 : g.1 = a + 1
        · rw [if_pos c3, cov_cons, cov_cons]
          by_cases hm : cov l x
          · simp [hm]
          · simp only [hm, or_false]
            omega
        · rw [if_neg c3, cov_cons]
          by_cases hm : cov (g :: l) x
          · simp [hm]
          · simp only [hm, or_false, false_or]
            omega
end Go.Proofs.Ytbfimedgichiiaa
