/-
  Plain lists of gaps: an address more, in order; the list is told by the addresses that it covers.
-/
import Derived.Test.YtbfimedgichiiaaMemPure
namespace Go.Proofs.Ytbfimedgichiiaa
set_option linter.unusedVariables false

/-- A list and an address above all of it. -/
def wth : List (Int × Int) → Int → List (Int × Int)
  | [], a => [(a, 1)]
  | [g], a => if g.1 + g.2 = a then [(g.1, g.2 + 1)] else [g, (a, 1)]
  | g :: h :: l, a => g :: wth (h :: l) a
/-- Ordered, apart, none touching the next; from lo on; all of it ends at hi or ahead. -/
def Wf : Int → List (Int × Int) → Int → Prop
  | lo, [], hi => lo ≤ hi
  | lo, g :: l, hi => lo ≤ g.1 ∧ 1 ≤ g.2 ∧ g.1 + g.2 ≤ hi ∧ (∀ h ∈ l, g.1 + g.2 < h.1) ∧ Wf lo l hi
def cov (l : List (Int × Int)) (x : Int) : Prop := ∃ g ∈ l, g.1 ≤ x ∧ x < g.1 + g.2
theorem Wf.le {lo hi : Int} : ∀ {l : List (Int × Int)}, Wf lo l hi → lo ≤ hi
  | [], h => h
  | g :: l, h => h.2.2.2.2.le
theorem Wf.up {lo hi hi' : Int} (hh : hi ≤ hi') : ∀ {l : List (Int × Int)}, Wf lo l hi → Wf lo l hi'
  | [], h => by unfold Wf at h ⊢; omega
  | g :: l, h => ⟨h.1, h.2.1, by have := h.2.2.1; omega, h.2.2.2.1, h.2.2.2.2.up hh⟩
theorem Wf.mem {lo hi : Int} : ∀ {l : List (Int × Int)}, Wf lo l hi → ∀ g ∈ l, lo ≤ g.1 ∧ 1 ≤ g.2 ∧ g.1 + g.2 ≤ hi
  | [], h, g, hg => by simp at hg
  | k :: l, h, g, hg => by
    rcases List.mem_cons.1 hg with rfl | hg
    · exact ⟨h.1, h.2.1, h.2.2.1⟩
    · exact h.2.2.2.2.mem g hg
theorem wth_mem : ∀ (l : List (Int × Int)) (a : Int) (h : Int × Int), h ∈ wth l a → h ∈ l ∨ h = (a, 1) ∨ ∃ g ∈ l, h.1 = g.1
  | [], a, h, hh => by simp [wth] at hh; exact .inr (.inl hh)
  | [g], a, h, hh => by
    unfold wth at hh
    split at hh
    · simp at hh; subst hh; exact .inr (.inr ⟨g, by simp, rfl⟩)
    · simp at hh
      rcases hh with rfl | rfl
      · exact .inl (by simp)
      · exact .inr (.inl rfl)
  | g :: k :: l, a, h, hh => by
    unfold wth at hh
    rcases List.mem_cons.1 hh with rfl | hh
    · exact .inl (by simp)
    · rcases wth_mem (k :: l) a h hh with h1 | h1 | ⟨g', h1, h2⟩
      · exact .inl (List.mem_cons_of_mem _ h1)
      · exact .inr (.inl h1)
      · exact .inr (.inr ⟨g', List.mem_cons_of_mem _ h1, h2⟩)
theorem Wf.wth {lo hi a : Int} (ha : hi ≤ a) : ∀ {l : List (Int × Int)}, Wf lo l hi → Wf lo (wth l a) (a + 1)
  | [], h => by unfold Wf at h; exact ⟨by show lo ≤ a; omega, by show (1 : Int) ≤ 1; omega, by show a + 1 ≤ a + 1; omega, fun h hh => by simp at hh, by show lo ≤ a + 1; omega⟩
  | [g], h => by
    have h0 := h.le
    obtain ⟨h1, h2, h3, _, _⟩ := h
    unfold Go.Proofs.Ytbfimedgichiiaa.wth
    split
    · rename_i e
      exact ⟨h1, by show 1 ≤ g.2 + 1; omega, by show g.1 + (g.2 + 1) ≤ a + 1; omega, fun h hh => by simp at hh, by show lo ≤ a + 1; omega⟩
    · rename_i e
      refine ⟨h1, h2, by omega, fun h hh => ?_, by show lo ≤ a; omega, by show (1 : Int) ≤ 1; omega, by show a + 1 ≤ a + 1; omega, fun h hh => by simp at hh, by show lo ≤ a + 1; omega⟩
      simp at hh
      subst hh
      show g.1 + g.2 < a
      omega
  | g :: k :: l, h => by
    obtain ⟨h1, h2, h3, h4, h5⟩ := h
    refine ⟨h1, h2, by omega, fun h hh => ?_, h5.wth ha⟩
    rcases wth_mem _ _ _ hh with hm | hm | ⟨g', hm, e⟩
    · exact h4 h hm
    · subst hm
      have := h4 k (by simp)
      have := h5.1
      have h6 := h5.2.1
      have h7 := h5.2.2.1
      show g.1 + g.2 < a
      omega
    · rw [e]; exact h4 g' hm
theorem cov_nil (x : Int) : ¬ cov [] x := fun ⟨g, hg, _⟩ => by simp at hg
theorem cov_cons (g : Int × Int) (l : List (Int × Int)) (x : Int) : cov (g :: l) x ↔ (g.1 ≤ x ∧ x < g.1 + g.2) ∨ cov l x := by
  unfold cov
  simp
theorem cov_wth (x a : Int) : ∀ (l : List (Int × Int)), (∀ g ∈ l, 1 ≤ g.2) → (cov (wth l a) x ↔ cov l x ∨ x = a)
  | [], _ => by
    unfold wth
    rw [cov_cons]
    simp only [cov_nil, or_false, false_or]
    omega
  | [g], hg => by
    have h1 := hg g (by simp)
    unfold wth
    split
    · rename_i e
      rw [cov_cons, cov_cons]
      simp only [cov_nil, or_false]
      omega
    · rw [cov_cons, cov_cons, cov_cons]
      simp only [cov_nil, or_false]
      omega
  | g :: k :: l, hg => by
    unfold wth
    rw [cov_cons, cov_cons, cov_wth x a (k :: l) (fun q hq => hg q (List.mem_cons_of_mem _ hq))]
    constructor
    · rintro (h | h | h)
      · exact .inl (.inl h)
      · exact .inl (.inr h)
      · exact .inr h
    · rintro ((h | h) | h)
      · exact .inl h
      · exact .inr (.inl h)
      · exact .inr (.inr h)
def szs (l : List (Int × Int)) : Int := (l.map (·.2)).foldr (· + ·) 0
theorem wth_len : ∀ (l : List (Int × Int)) (a : Int), (wth l a).length ≤ l.length + 1
  | [], a => by simp [wth]
  | [g], a => by unfold wth; split <;> simp
  | g :: k :: l, a => by unfold wth; have := wth_len (k :: l) a; simp at this ⊢; omega
/-- As many gaps as there are addresses, at most. -/
theorem Wf.len {lo hi : Int} : ∀ {l : List (Int × Int)} {lo' : Int}, Wf lo l hi → (∀ g ∈ l, lo' ≤ g.1) → lo' ≤ hi → (l.length : Int) ≤ hi - lo'
  | [], lo', h, _, h2 => by simp; omega
  | g :: l, lo', h, hl, h2 => by
    have h1 := hl g (by simp)
    have h3 := h.2.1
    have h4 := h.2.2.1
    have := Wf.len (lo' := g.1 + g.2) h.2.2.2.2 (fun k hk => by have := h.2.2.2.1 k hk; omega) h4
    simp
    omega
theorem Wf.len0 {lo hi : Int} {l : List (Int × Int)} (h : Wf lo l hi) : (l.length : Int) ≤ hi - lo := h.len (fun g hg => (h.mem g hg).1) h.le
/-- The least address that is covered, and where its gap ends. -/
theorem Wf.head {lo hi lo2 hi2 : Int} {g k : Int × Int} {l m : List (Int × Int)} (h : Wf lo (g :: l) hi) (h2 : Wf lo2 (k :: m) hi2) (e : ∀ x, cov (g :: l) x ↔ cov (k :: m) x) : g.1 ≤ k.1 ∧ g.1 + g.2 ≤ k.1 + k.2 := by
  have first : ∀ {lo hi : Int} {g : Int × Int} {l : List (Int × Int)}, Wf lo (g :: l) hi → ∀ x, cov (g :: l) x → g.1 ≤ x := by
    intro lo hi g l h x hx
    rcases (cov_cons _ _ _).1 hx with hx | ⟨q, hq, hx⟩
    · exact hx.1
    · have := h.2.2.2.1 q hq; have := h.2.1; omega
  have a1 : g.1 ≤ k.1 := first h k.1 ((e k.1).2 ((cov_cons _ _ _).2 (.inl ⟨Int.le_refl _, by have := h2.2.1; omega⟩)))
  have a2 : k.1 ≤ g.1 := first h2 g.1 ((e g.1).1 ((cov_cons _ _ _).2 (.inl ⟨Int.le_refl _, by have := h.2.1; omega⟩)))
  refine ⟨a1, ?_⟩
  rcases Int.lt_or_le (k.1 + k.2) (g.1 + g.2) with hlt | hle
  · exfalso
    have hc : cov (g :: l) (k.1 + k.2) := (cov_cons _ _ _).2 (.inl ⟨by have := h2.2.1; omega, hlt⟩)
    rcases (cov_cons _ _ _).1 ((e _).1 hc) with hx | ⟨q, hq, hx⟩
    · omega
    · have := h2.2.2.2.1 q hq; omega
  · exact hle
theorem Wf.uniq {lo hi lo2 hi2 : Int} : ∀ {l m : List (Int × Int)}, Wf lo l hi → Wf lo2 m hi2 → (∀ x, cov l x ↔ cov m x) → l = m
  | [], [], _, _, _ => rfl
  | [], k :: m, h, h2, e => absurd ((e k.1).2 ((cov_cons _ _ _).2 (.inl ⟨Int.le_refl _, by have := h2.2.1; omega⟩))) (cov_nil _)
  | g :: l, [], h, h2, e => absurd ((e g.1).1 ((cov_cons _ _ _).2 (.inl ⟨Int.le_refl _, by have := h.2.1; omega⟩))) (cov_nil _)
  | g :: l, k :: m, h, h2, e => by
    have a1 := h.head h2 e
    have a2 := h2.head h (fun x => (e x).symm)
    have eg : g = k := Prod.ext (by omega) (by omega)
    subst eg
    congr 1
    refine Wf.uniq h.2.2.2.2 h2.2.2.2.2 (fun x => ?_)
    have ex := e x
    rw [cov_cons, cov_cons] at ex
    constructor
    · intro hx
      rcases ex.1 (.inr hx) with h3 | h3
      · obtain ⟨q, hq, h4⟩ := hx
        have := h.2.2.2.1 q hq
        omega
      · exact h3
    · intro hx
      rcases ex.2 (.inr hx) with h3 | h3
      · obtain ⟨q, hq, h4⟩ := hx
        have := h2.2.2.2.1 q hq
        omega
      · exact h3
end Go.Proofs.Ytbfimedgichiiaa
