/-
  Plain: a text that is cut at a token's place has the tokens ahead of it, and those behind it.
-/
import Derived.Test.YtbccabpcljkamaaDoorLexT
import Derived.KernelRfl
namespace Go.Proofs.YtbccabpcljkamaaDoor
set_option linter.unusedVariables false
set_option linter.unusedSimpArgs false

theorem suf_split {t u y : List UInt8} (h : t <:+ u ++ y) (hl : y.length ≤ t.length) : ∃ t', t' <:+ u ∧ t = t' ++ y := by
  obtain ⟨p, hp⟩ := h
  have hpl := congrArg List.length hp
  simp only [List.length_append] at hpl
  have e1 : t = (u ++ y).drop p.length := by rw [← hp]; simp
  have e2 : p.length ≤ u.length := by omega
  rw [List.drop_append_of_le_length e2] at e1
  exact ⟨u.drop p.length, List.drop_suffix _ _, e1⟩
theorem blM_true (r : List UInt8) : ∀ (m : Nat) (st : List UInt8), (blM m st r).2 = true → (blM m st r).1 <:+ r := by
  induction r with
  | nil =>
    intro m st h
    unfold blM at h ⊢
    by_cases hm : m = 2
    · rw [if_pos hm] at h; cases h
    · rw [if_neg hm]; exact List.suffix_refl _
  | cons c t ih =>
    intro m st h
    have hs : t <:+ c :: t := List.suffix_cons _ _
    match m with
    | 0 =>
      unfold blM at h ⊢
      split
      · rename_i h1; rw [if_pos h1] at h; exact (ih 0 st h).trans hs
      · rename_i h1
        rw [if_neg h1] at h
        split
        · rename_i h2; rw [if_pos h2] at h; exact (ih 1 st h).trans hs
        · rename_i h2
          rw [if_neg h2] at h
          split
          · rename_i h3; rw [if_pos h3] at h; exact (ih 3 _ h).trans hs
          · exact List.suffix_refl _
    | 1 =>
      unfold blM at h ⊢
      split
      · rename_i h1; rw [if_pos h1] at h; exact (ih 0 st h).trans hs
      · rename_i h1; rw [if_neg h1] at h; exact (ih 1 st h).trans hs
    | 2 =>
      unfold blM at h ⊢
      split
      · rename_i h1; rw [if_pos h1] at h; exact (ih 4 st h).trans hs
      · rename_i h1; rw [if_neg h1] at h; exact (ih 2 st h).trans hs
    | 3 => unfold blM at h ⊢; exact (ih 2 st h).trans hs
    | n + 4 => unfold blM at h ⊢; exact (ih 0 st h).trans hs
/-- Within a comment something is read. -/
theorem no_cut {m : Nat} {st v y : List UInt8} (hm : m ≠ 0) (hy : y ≠ []) (h : blM m st y = (v ++ y, true)) : False := by
  cases y with
  | nil => exact hy rfl
  | cons c t =>
    have key : ∀ m' st', blM m' st' t = (v ++ c :: t, true) → False := fun m' st' h' => by
      have h1 := blM_true t m' st' (by rw [h'])
      rw [h'] at h1
      have := h1.length_le
      simp at this
      omega
    match m, hm with
    | 1, _ =>
      unfold blM at h
      split at h
      · exact key _ _ h
      · exact key _ _ h
    | 2, _ =>
      unfold blM at h
      split at h
      · exact key _ _ h
      · exact key _ _ h
    | 3, _ => unfold blM at h; exact key _ _ h
    | n + 4, _ => unfold blM at h; exact key _ _ h
theorem blM_cut (y : List UInt8) (hy : y ≠ []) : ∀ (u : List UInt8) (m : Nat) (st st' v : List UInt8), blM m st (u ++ y) = (v ++ y, true) → blM m st' u = (v, true) ∨ (u = [] ∧ m ≠ 0) := by
  intro u
  induction u with
  | nil =>
    intro m st st' v h
    by_cases hm : m = 0
    · subst hm
      left
      have h1 := blM_true y 0 st (by rw [List.nil_append] at h; rw [h])
      rw [List.nil_append] at h
      rw [h] at h1
      have := h1.length_le
      simp at this
      have hv : v = [] := List.eq_nil_of_length_eq_zero (by omega)
      rw [hv]
      rfl
    · exact .inr ⟨rfl, hm⟩
  | cons c u ih =>
    intro m st st' v h
    left
    have hh : ∀ d, (u ++ y).head? = some d → u = [] ∨ u.head? = some d := fun d hd => by
      cases u with
      | nil => exact .inl rfl
      | cons e u2 => exact .inr hd
    have hh2 : ∀ d, u.head? = some d → (u ++ y).head? = some d := fun d hd => by
      cases u with
      | nil => cases hd
      | cons e u2 => exact hd
    have go : ∀ m' st st', m' ≠ 0 → blM m' st (u ++ y) = (v ++ y, true) → u ≠ [] ∧ blM m' st' u = (v, true) := fun m' st st' hm' h' => by
      have hne : u ≠ [] := fun e => by
        subst e
        exact no_cut hm' hy h'
      rcases ih m' st st' v h' with h2 | h2
      · exact ⟨hne, h2⟩
      · exact absurd h2.1 hne
    have go0 : ∀ st st', blM 0 st (u ++ y) = (v ++ y, true) → blM 0 st' u = (v, true) := fun st st' h' => by
      rcases ih 0 st st' v h' with h2 | h2
      · exact h2
      · exact absurd rfl h2.2
    rw [List.cons_append] at h
    match m with
    | 0 =>
      unfold blM at h ⊢
      split at h
      · rename_i h1
        rw [if_pos h1]
        exact go0 _ _ h
      · rename_i h1
        rw [if_neg h1]
        split at h
        · rename_i h2
          obtain ⟨hne, h3⟩ := go 1 _ st' (by decide) h
          rw [if_pos ⟨h2.1, by rcases hh _ h2.2 with e | e; exact absurd e hne; exact e⟩]
          exact h3
        · rename_i h2
          rw [if_neg (fun e => h2 ⟨e.1, hh2 _ e.2⟩)]
          split at h
          · rename_i h3
            obtain ⟨hne, h4⟩ := go 3 _ (c :: u) (by decide) h
            rw [if_pos ⟨h3.1, by rcases hh _ h3.2 with e | e; exact absurd e hne; exact e⟩]
            exact h4
          · rename_i h3
            rw [if_neg (fun e => h3 ⟨e.1, hh2 _ e.2⟩)]
            injection h with h4 _
            rw [← List.cons_append] at h4
            rw [List.append_cancel_right h4]
    | 1 =>
      unfold blM at h ⊢
      split at h
      · rename_i h1; rw [if_pos h1]; exact go0 _ _ h
      · rename_i h1; rw [if_neg h1]; exact (go 1 _ _ (by decide) h).2
    | 2 =>
      unfold blM at h ⊢
      split at h
      · rename_i h1
        obtain ⟨hne, h3⟩ := go 4 _ st' (by decide) h
        rw [if_pos ⟨h1.1, by rcases hh _ h1.2 with e | e; exact absurd e hne; exact e⟩]
        exact h3
      · rename_i h1
        rw [if_neg (fun e => h1 ⟨e.1, hh2 _ e.2⟩)]
        exact (go 2 _ _ (by decide) h).2
    | 3 => unfold blM at h ⊢; exact (go 2 _ _ (by decide) h).2
    | n + 4 => unfold blM at h ⊢; exact go0 _ _ h
theorem blR_cut {u v y : List UInt8} (hy : y ≠ []) (h : blR (u ++ y) = (v ++ y, true)) : blR u = (v, true) := by
  rcases blM_cut y hy u 0 [] [] v h with h2 | h2
  · exact h2
  · exact absurd rfl h2.2
theorem blM_idem (r : List UInt8) : ∀ (m : Nat) (st x : List UInt8), blM m st r = (x, true) → blR x = (x, true) := by
  induction r with
  | nil =>
    intro m st x h
    unfold blM at h
    by_cases hm : m = 2
    · rw [if_pos hm] at h; injection h with _ h; cases h
    · rw [if_neg hm] at h; injection h with h _; rw [← h]; rfl
  | cons c t ih =>
    intro m st x h
    match m with
    | 0 =>
      unfold blM at h
      split at h
      · exact ih _ _ _ h
      · rename_i h1
        split at h
        · exact ih _ _ _ h
        · rename_i h2
          split at h
          · exact ih _ _ _ h
          · rename_i h3
            injection h with h _
            rw [← h]
            exact blR_stop c t (by simpa using h1) h2 h3
    | 1 =>
      unfold blM at h
      split at h
      · exact ih _ _ _ h
      · exact ih _ _ _ h
    | 2 =>
      unfold blM at h
      split at h
      · exact ih _ _ _ h
      · exact ih _ _ _ h
    | 3 => unfold blM at h; exact ih _ _ _ h
    | n + 4 => unfold blM at h; exact ih _ _ _ h
theorem blR_idem {r x : List UInt8} (h : blR r = (x, true)) : blR x = (x, true) := blM_idem r 0 [] x h
theorem take_cut (p : UInt8 → Bool) (y : List UInt8) : ∀ (u : List UInt8), ((u ++ y).takeWhile p).length ≤ u.length → (u ++ y).takeWhile p = u.takeWhile p
  | [], h => by
    simp only [List.nil_append, List.length_nil, Nat.le_zero] at h ⊢
    exact List.eq_nil_of_length_eq_zero h
  | c :: u, h => by
    rw [List.cons_append, List.takeWhile_cons] at h ⊢
    rw [List.takeWhile_cons]
    split
    · rename_i hp
      rw [if_pos hp] at h
      rw [take_cut p y u (by simp at h; exact h)]
    · rfl
theorem drop_cut {u v y : List UInt8} {n : Nat} (hn : n ≤ (u ++ y).length) (h : (u ++ y).drop n = v ++ y) : n ≤ u.length ∧ u.drop n = v := by
  have hl := congrArg List.length h
  rw [List.length_drop, List.length_append, List.length_append] at hl
  rw [List.length_append] at hn
  have h2 : n ≤ u.length := by omega
  rw [List.drop_append_of_le_length h2] at h
  exact ⟨h2, List.append_cancel_right h⟩
theorem run_cut {u v y : List UInt8} (h : (u ++ y).drop ((u ++ y).takeWhile wrd8).length = v ++ y) : (u ++ y).takeWhile wrd8 = u.takeWhile wrd8 ∧ u.drop (u.takeWhile wrd8).length = v := by
  have hp := (List.takeWhile_prefix (p := wrd8) (l := u ++ y)).length_le
  obtain ⟨h1, h2⟩ := drop_cut hp h
  have e := take_cut wrd8 y u h1
  rw [e] at h2
  exact ⟨e, h2⟩
theorem pair_cut {u y t : List UInt8} {b : UInt8} (h : pairP (u ++ y) = some (b, t)) (hl : y.length ≤ t.length) : ∃ t', t = t' ++ y ∧ pairP u = some (b, t') := by
  have hs := pair_suf h
  match u, h with
  | [], h =>
    have := hs.2
    simp at this
    omega
  | [a], h =>
    exfalso
    cases y with
    | nil => simp [pairP] at h
    | cons c y =>
      unfold pairP at h
      dsimp only [List.cons_append, List.nil_append] at h
      split at h
      · injection h with h; injection h with _ h
        rw [← h] at hl
        simp at hl
        omega
      · cases h
  | a :: c :: u, h =>
    unfold pairP at h ⊢
    dsimp only [List.cons_append] at h ⊢
    split at h
    · rename_i x z hx hz
      injection h with h; injection h with h1 h2
      exact ⟨u, h2.symm, by rw [h1]⟩
    · cases h
theorem esc_cut {u y t : List UInt8} {b : UInt8} (h : escP (u ++ y) = some (b, t)) (hl : y.length ≤ t.length) : ∃ t', t = t' ++ y ∧ escP u = some (b, t') := by
  have hs := esc_suf h
  cases u with
  | nil =>
    have := hs.2
    simp at this
    omega
  | cons c u =>
    unfold escP at h ⊢
    dsimp only [List.cons_append] at h ⊢
    have fin : ∀ x : UInt8, some (x, u ++ y) = some (b, t) → ∃ t', t = t' ++ y ∧ some (x, u) = some (b, t') := fun x hx => by
      injection hx with hx; injection hx with h1 h2
      exact ⟨u, h2.symm, by rw [h1]⟩
    by_cases e1 : c = 110
    · rw [if_pos e1] at h ⊢; exact fin _ h
    rw [if_neg e1] at h ⊢
    by_cases e2 : c = 116
    · rw [if_pos e2] at h ⊢; exact fin _ h
    rw [if_neg e2] at h ⊢
    by_cases e3 : c = 114
    · rw [if_pos e3] at h ⊢; exact fin _ h
    rw [if_neg e3] at h ⊢
    by_cases e4 : c = 48
    · rw [if_pos e4] at h ⊢
      split at h
      · cases h
      · rename_i h5
        rw [if_neg (fun e => h5 ⟨by simp [e.1], by
          cases u with
          | nil => exact absurd rfl e.1
          | cons d u => exact e.2⟩)]
        exact fin _ h
    rw [if_neg e4] at h ⊢
    by_cases e5 : c = 92 ∨ c = 39 ∨ c = 34
    · rw [if_pos e5] at h ⊢; exact fin _ h
    rw [if_neg e5] at h ⊢
    by_cases e6 : c = 120
    · rw [if_pos e6] at h ⊢; exact pair_cut h hl
    · rw [if_neg e6] at h; cases h
theorem piece_cut {q : UInt8} {u y t : List UInt8} {b : UInt8} (h : pieceP q (u ++ y) = some (b, t)) (hl : y.length ≤ t.length) : ∃ t', t = t' ++ y ∧ pieceP q u = some (b, t') := by
  have hs := piece_suf h
  cases u with
  | nil =>
    have := hs.2
    simp at this
    omega
  | cons c u =>
    unfold pieceP at h ⊢
    dsimp only [List.cons_append] at h ⊢
    split at h
    · rename_i h1; rw [if_pos h1]; exact esc_cut h hl
    · rename_i h1
      rw [if_neg h1]
      split at h
      · rename_i h2
        rw [if_pos h2]
        injection h with h; injection h with h3 h4
        exact ⟨u, h4.symm, by rw [h3]⟩
      · cases h
theorem pcsN_cut (q : UInt8) (most : Nat) (y : List UInt8) : ∀ (n : Nat) (acc u l v : List UInt8), pcsN q most n acc (u ++ y) = .ok l (v ++ y) → pcsN q most n acc u = .ok l v
  | 0, _, _, _, _, h => by cases h
  | n + 1, acc, [], l, v, h => by
    have := (pcsN_suf _ _ _ _ _ _ _ h).2
    simp at this
    omega
  | n + 1, acc, c :: u, l, v, h => by
    rw [List.cons_append] at h
    unfold pcsN at h ⊢
    split at h
    · cases h
    · rename_i h1
      rw [if_neg h1]
      split at h
      · rename_i h2
        rw [if_pos h2]
        injection h with h3 h4
        rw [h3, List.append_cancel_right h4]
      · rename_i h2
        rw [if_neg h2]
        split at h
        · cases h
        · rename_i b t hp
          split at h
          · cases h
          · rename_i h3
            have hs := (pcsN_suf _ _ _ _ _ _ _ h).1.length_le
            rw [List.length_append] at hs
            rw [← List.cons_append] at hp
            obtain ⟨t', rfl, hp2⟩ := piece_cut hp (by omega)
            rw [hp2]
            dsimp only
            rw [if_neg h3]
            exact pcsN_cut q most y n _ _ _ _ h
theorem pcsR_cut {q : UInt8} {most : Nat} {y acc u l v : List UInt8} (h : pcsR q most acc (u ++ y) = .ok l (v ++ y)) : pcsR q most acc u = .ok l v := by
  have h2 := pcsN_cut q most y _ _ _ _ _ h
  rw [← h2]
  exact pcsN_fuel q most _ _ _ _ (by omega) (by rw [List.length_append]; omega)
theorem textsN_cut (f f' y : List UInt8) (hy : y ≠ []) : ∀ (n : Nat) (j u : List UInt8) (k i : Int) (x v : List UInt8), textsN f n j (u ++ y) = .ok k i x (v ++ y) → textsN f' n j u = .ok k i x v
  | 0, _, _, _, _, _, _, h => by cases h
  | n + 1, j, [], k, i, x, v, h => by
    have hs := textsN_suf _ _ _ _ _ _ _ _ h
    by_cases h34 : ([] ++ y : List UInt8).head? = some 34
    · have := hs.2.1 h34
      simp at this
      omega
    · unfold textsN at h ⊢
      rw [if_neg h34] at h
      rw [if_neg (by simp)]
      injection h with h1 h2 h3 h4
      have hl := congrArg List.length h4
      simp at hl
      rw [h1, h2, h3, hl]
  | n + 1, j, c :: u, k, i, x, v, h => by
    unfold textsN at h ⊢
    split at h
    · rename_i h34
      rw [if_pos (by simpa using h34)]
      split at h
      · cases h
      · rename_i l t hp
        split at h
        · rename_i hb
          have hs1 := (textsN_suf _ _ _ _ _ _ _ _ h).1
          have hz : blR t = ((blR t).1, true) := by rw [← hb]
          obtain ⟨z, hz1⟩ : ∃ z, (blR t).1 = z := ⟨_, rfl⟩
          rw [hz1] at h hs1 hz
          have hs2 : z <:+ t := by rw [← hz1]; exact blR_suf t
          have hp' : pcsR 34 (4096 - j.length) [] (u ++ y) = .ok l t := hp
          obtain ⟨hs3, _⟩ := pcsR_suf hp'
          have l1 := hs1.length_le
          have l2 := hs2.length_le
          rw [List.length_append] at l1
          obtain ⟨t', _, rfl⟩ := suf_split hs3 (by omega)
          obtain ⟨z', _, rfl⟩ := suf_split hs2 (by omega)
          have hp2 := pcsR_cut hp'
          have hb2 := blR_cut hy hz
          have e : (c :: u).drop 1 = u := rfl
          rw [e, hp2]
          dsimp only
          rw [hb2]
          rw [if_pos rfl]
          exact textsN_cut f f' y hy n _ _ _ _ _ _ h
        · cases h
    · rename_i h34
      rw [if_neg (by simpa using h34)]
      injection h with h1 h2 h3 h4
      rw [h1, h2, h3, List.append_cancel_right h4]
theorem find_cut {u y m : List UInt8} : ∀ (T : List (List UInt8)), T.find? (fun m => m.isPrefixOf (u ++ y)) = some m → m.length ≤ u.length → T.find? (fun m => m.isPrefixOf u) = some m
  | [], h, _ => by cases h
  | a :: T, h, hm => by
    rw [List.find?_cons] at h ⊢
    cases hp : a.isPrefixOf (u ++ y)
    · rw [hp] at h
      have hq : a.isPrefixOf u = false := by
        rw [Bool.eq_false_iff]
        intro hq
        have := (List.isPrefixOf_iff_prefix.1 hq).trans (List.prefix_append u y)
        rw [List.isPrefixOf_iff_prefix.2 this] at hp
        cases hp
      rw [hq]
      exact find_cut T h hm
    · rw [hp] at h
      injection h with h
      subst h
      have hq : a.isPrefixOf u = true := by
        rw [List.isPrefixOf_iff_prefix] at hp ⊢
        exact List.prefix_of_prefix_length_le hp (List.prefix_append u y) hm
      rw [hq]
theorem tok_cut {u v y x : List UInt8} {k n : Int} (hy : y ≠ []) (hu : u ≠ []) (h : tokR (u ++ y) = .ok k n x (v ++ y)) : tokR u = .ok k n x v := by
  have h0 : (u ++ y)[0]?.getD 0 = u[0]?.getD 0 := by
    cases u with
    | nil => exact absurd rfl hu
    | cons c u => rfl
  have hlu := List.length_pos_iff.2 hu
  unfold tokR at h ⊢
  rw [h0] at h
  split at h
  · rename_i h1
    rw [if_pos h1]
    unfold wordT at h ⊢
    split at h
    · rename_i h2
      injection h with a1 a2 a3 a4
      obtain ⟨e1, e2⟩ := run_cut a4
      rw [e1] at h2 a3
      rw [if_pos h2, a1, a2, e2, a3]
    · rename_i h2
      split at h
      · cases h
      · rename_i h3
        injection h with a1 a2 a3 a4
        obtain ⟨e1, e2⟩ := run_cut a4
        rw [e1] at h2 h3 a3
        rw [if_neg h2, if_neg h3, a1, a2, e2, a3]
  · rename_i h1
    rw [if_neg h1]
    split at h
    · rename_i h2
      rw [if_pos h2]
      unfold numT at h ⊢
      split at h
      · cases h
      · rename_i m hm
        split at h
        · cases h
        · rename_i h3
          injection h with a1 a2 a3 a4
          obtain ⟨e1, e2⟩ := run_cut a4
          rw [e1] at hm h3 a3
          rw [hm]
          dsimp only
          rw [if_neg h3, a1, a2, a3, e2]
    · rename_i h2
      rw [if_neg h2]
      split at h
      · rename_i h3
        rw [if_pos h3]
        unfold charT at h ⊢
        have e : (u ++ y).drop 1 = u.drop 1 ++ y := List.drop_append_of_le_length (by omega)
        rw [e] at h
        split at h
        · cases h
        · rename_i l t hp
          split at h
          · rename_i h4
            injection h with a1 a2 a3 a4
            rw [a4] at hp
            rw [pcsR_cut hp]
            dsimp only
            rw [if_pos h4, a1, a2, a3]
          · cases h
      · rename_i h3
        rw [if_neg h3]
        split at h
        · rename_i h4
          rw [if_pos h4]
          unfold textsR at h ⊢
          have h5 := textsN_cut (u ++ y) u y hy _ _ _ _ _ _ _ h
          rw [← h5]
          exact textsN_fuel u _ _ _ _ (by omega) (by rw [List.length_append]; omega)
        · rename_i h4
          rw [if_neg h4]
          unfold markT at h ⊢
          split at h
          · cases h
          · rename_i m hm
            injection h with a1 a2 a3 a4
            have hp := List.find?_some hm
            have hl := (List.isPrefixOf_iff_prefix.1 hp).length_le
            obtain ⟨e1, e2⟩ := drop_cut hl a4
            rw [find_cut _ hm e1]
            dsimp only
            rw [a1, a2, a3, ← a3, e2]
/-- What is read of a text. -/
theorem tksN_acc : ∀ (n : Nat) (A : List Pt) (r : List UInt8) (L : List Pt), tksN n A r = .ok L → ∃ M, L = A ++ M ∧ (∀ t ∈ M, 1 ≤ t.rest ∧ t.rest ≤ r.length) ∧ M.Pairwise (fun a b => b.rest < a.rest)
  | 0, A, r, L, h => by cases h
  | n + 1, A, r, L, h => by
    unfold tksN at h
    split at h
    · split at h
      · cases h; exact ⟨[], by simp, by simp, List.Pairwise.nil⟩
      · rename_i hne
        split at h
        · cases h
        · split at h
          · cases h
          · rename_i k i s y ht
            obtain ⟨M, rfl, h1, h2⟩ := tksN_acc n _ _ _ h
            obtain ⟨s1, s2⟩ := tok_suf hne ht
            have l1 := (blR_suf r).length_le
            have l2 := List.length_pos_iff.2 hne
            refine ⟨⟨k, (blR r).1.length, i, s⟩ :: M, by simp, ?_, List.Pairwise.cons (fun t ht => ?_) h2⟩
            · intro t ht
              rcases List.mem_cons.1 ht with rfl | ht
              · exact ⟨l2, l1⟩
              · have := h1 t ht
                omega
            · have := h1 t ht
              dsimp only
              omega
    · cases h
theorem tksN_other : ∀ (n : Nat) (A C : List Pt) (r : List UInt8) (M : List Pt), A.length ≤ 16384 → C.length ≤ A.length → tksN n A r = .ok (A ++ M) → tksN n C r = .ok (C ++ M)
  | 0, A, C, r, M, _, _, h => by cases h
  | n + 1, A, C, r, M, hA, hC, h => by
    unfold tksN at h ⊢
    split at h
    · rename_i hb
      rw [if_pos hb]
      split at h
      · rename_i hx
        rw [if_pos hx]
        injection h with h
        have : M = [] := by simpa using h
        rw [this, List.append_nil]
      · rename_i hx
        rw [if_neg hx]
        split at h
        · cases h
        · rename_i hn
          rw [if_neg (by omega)]
          split at h
          · cases h
          · rename_i k i s y ht
            try rw [ht]
            try dsimp only
            obtain ⟨M2, hM, _, _⟩ := tksN_acc n _ _ _ h
            have hM2 : M = ⟨k, (blR r).1.length, i, s⟩ :: M2 := by
              rw [List.append_assoc] at hM
              exact List.append_cancel_left hM
            rw [hM2] at h ⊢
            have := tksN_other n (A ++ [⟨k, (blR r).1.length, i, s⟩]) (C ++ [⟨k, (blR r).1.length, i, s⟩]) y M2 (by rw [List.length_append]; simp; omega) (by simp; omega) (by rw [h]; simp)
            rw [this]
            simp
    · cases h
/-- With more fuel it is the same. -/
theorem tksN_le : ∀ (n m : Nat) (A : List Pt) (r : List UInt8) (L : List Pt), tksN n A r = .ok L → r.length < m → tksN m A r = tksN n A r
  | 0, _, _, _, _, h, _ => by cases h
  | _, 0, _, r, _, _, hm => by omega
  | n + 1, m + 1, A, r, L, h, hm => by
    unfold tksN at h ⊢
    split at h
    · rename_i hb
      rw [if_pos hb, if_pos hb]
      split at h
      · rename_i hx; rw [if_pos hx, if_pos hx]
      · rename_i hx
        rw [if_neg hx, if_neg hx]
        split at h
        · cases h
        · rename_i hn
          rw [if_neg hn, if_neg hn]
          split at h
          · cases h
          · rename_i k i s y ht
            try rw [ht]
            try dsimp only
            have h1 := (tok_suf hx ht).2
            have h2 := (blR_suf r).length_le
            exact tksN_le n m _ _ _ h (by omega)
    · cases h
theorem tksN_at : ∀ (n : Nat) (A : List Pt) (r : List UInt8) (M : List Pt) (i : Nat) (t : Pt), tksN n A r = .ok (A ++ M) → M[i]? = some t → ∃ x, x <:+ r ∧ x.length = t.rest ∧ x ≠ [] ∧ blR x = (x, true) ∧ ∃ m, x.length < m ∧ tksN m (A ++ M.take i) x = .ok (A ++ M)
  | 0, A, r, M, i, t, h, _ => by cases h
  | n + 1, A, r, M, i, t, h, hi => by
    have h0 := h
    unfold tksN at h
    split at h
    · rename_i hb
      split at h
      · injection h with h
        have : M = [] := by simpa using h
        rw [this] at hi
        cases hi
      · rename_i hx
        split at h
        · cases h
        · rename_i hn
          split at h
          · cases h
          · rename_i k i0 s y ht
            obtain ⟨M2, hM, _, _⟩ := tksN_acc n _ _ _ h
            have hM2 : M = ⟨k, (blR r).1.length, i0, s⟩ :: M2 := by
              rw [List.append_assoc] at hM
              exact List.append_cancel_left hM
            obtain ⟨s1, s2⟩ := tok_suf hx ht
            have hs := blR_suf r
            have hbx : blR r = ((blR r).1, true) := by rw [← hb]
            cases i with
            | zero =>
              rw [hM2] at hi
              injection hi with hi
              subst hi
              have hid := blR_idem hbx
              refine ⟨(blR r).1, hs, rfl, hx, hid, (blR r).1.length + 1, by omega, ?_⟩
              rw [List.take_zero, List.append_nil]
              unfold tksN
              rw [hid]
              dsimp only
              rw [if_pos rfl, if_neg hx, if_neg hn, ht]
              dsimp only
              rw [← h]
              have hl := (tksN_acc n _ _ _ h)
              exact tksN_le _ _ _ _ _ h (by omega)
            | succ i =>
              rw [hM2] at hi
              have h2 : tksN n (A ++ [⟨k, (blR r).1.length, i0, s⟩]) y = .ok ((A ++ [⟨k, (blR r).1.length, i0, s⟩]) ++ M2) := by rw [h, hM2]; simp
              obtain ⟨x, x1, x2, x3, x4, m, x5, x6⟩ := tksN_at n _ _ _ i t h2 hi
              refine ⟨x, (x1.trans s1).trans hs, x2, x3, x4, m, x5, ?_⟩
              rw [hM2, List.take_succ_cons]
              rw [show A ++ ({ kind := k, rest := (blR r).1.length, int := i0, text := s } : Pt) :: M2.take i = A ++ [{ kind := k, rest := (blR r).1.length, int := i0, text := s }] ++ M2.take i by simp, x6]
              simp
    · cases h
def lessP (d : Nat) (t : Pt) : Pt := ⟨t.kind, t.rest - d, t.int, t.text⟩
theorem tksN_cut (y : List UInt8) (hy : y ≠ []) : ∀ (n : Nat) (u : List UInt8) (A C M : List Pt) (i : Nat) (t : Pt), C.length = A.length → tksN n A (u ++ y) = .ok (A ++ M) → M[i]? = some t → t.rest = y.length → tksN n C u = .ok (C ++ (M.take i).map (lessP y.length))
  | 0, _, _, _, _, _, _, _, h, _, _ => by cases h
  | n + 1, u, A, C, M, i, t, hC, h, hi, ht0 => by
    unfold tksN at h
    split at h
    · rename_i hb
      split at h
      · injection h with h
        have : M = [] := by simpa using h
        rw [this] at hi
        cases hi
      · rename_i hx
        split at h
        · cases h
        · rename_i hn
          split at h
          · cases h
          · rename_i k i0 s r ht
            obtain ⟨M2, hM, hM3, _⟩ := tksN_acc n _ _ _ h
            have hM2 : M = ⟨k, (blR (u ++ y)).1.length, i0, s⟩ :: M2 := by
              rw [List.append_assoc] at hM
              exact List.append_cancel_left hM
            obtain ⟨s1, s2⟩ := tok_suf hx ht
            have hs := blR_suf (u ++ y)
            have hbx : blR (u ++ y) = ((blR (u ++ y)).1, true) := by rw [← hb]
            obtain ⟨x, hxe⟩ : ∃ x, (blR (u ++ y)).1 = x := ⟨_, rfl⟩
            rw [hxe] at hx ht hM2 s1 s2 hs hbx h hM
            have hxl : y.length ≤ x.length := by
              rw [hM2] at hi
              cases i with
              | zero => injection hi with hi; rw [← ht0, ← hi]; exact Nat.le_refl _
              | succ i =>
                have := (hM3 t (List.mem_of_getElem? hi)).2
                omega
            obtain ⟨v, hv1, hv2⟩ := suf_split hs hxl
            subst hv2
            have hbu := blR_cut hy hbx
            cases i with
            | zero =>
              rw [hM2] at hi
              injection hi with hi
              have hv0 : v = [] := by
                have : (v ++ y).length = y.length := by rw [← ht0, ← hi]
                rw [List.length_append] at this
                exact List.eq_nil_of_length_eq_zero (by omega)
              unfold tksN
              rw [hbu, hv0]
              simp
            | succ i =>
              rw [hM2] at hi
              have hrt := (hM3 t (List.mem_of_getElem? hi)).2
              obtain ⟨v', hv3, hv4⟩ := suf_split s1 (by omega)
              subst hv4
              have hvn : v ≠ [] := fun e => by
                subst e
                simp at s2
                omega
              have htc := tok_cut hy hvn ht
              have h2 : tksN n (A ++ [⟨k, (v ++ y).length, i0, s⟩]) (v' ++ y) = .ok ((A ++ [⟨k, (v ++ y).length, i0, s⟩]) ++ M2) := by rw [h, hM2]; simp
              have := tksN_cut y hy n v' (A ++ [⟨k, (v ++ y).length, i0, s⟩]) (C ++ [⟨k, v.length, i0, s⟩]) M2 i t (by simp [hC]) h2 hi ht0
              unfold tksN
              rw [hbu]
              dsimp only
              rw [if_pos rfl, if_neg hvn, if_neg (by rw [hC]; exact hn), htc]
              dsimp only
              rw [this, hM2, List.take_succ_cons, List.map_cons]
              have e : lessP y.length ⟨k, (v ++ y).length, i0, s⟩ = ⟨k, v.length, i0, s⟩ := by unfold lessP; simp
              rw [e]
              simp
    · cases h
theorem T_rests {s : List UInt8} {L : List Pt} (h : tksR [] s = .ok L) : (∀ t ∈ L, 1 ≤ t.rest ∧ t.rest ≤ s.length) ∧ L.Pairwise (fun a b => b.rest < a.rest) := by
  obtain ⟨M, hM, h1, h2⟩ := tksN_acc _ _ _ _ h
  rw [List.nil_append] at hM
  rw [hM]
  exact ⟨h1, h2⟩
theorem T_parts {s : List UInt8} {L : List Pt} (h : tksR [] s = .ok L) (hL : L.length ≤ 16384) {i : Nat} {t : Pt} (hi : L[i]? = some t) :
    tksR [] (s.take (s.length - t.rest)) = .ok ((L.take i).map (lessP t.rest)) ∧ tksR [] (s.drop (s.length - t.rest)) = .ok (L.drop i) := by
  have h0 : tksN (s.length + 1) [] s = .ok ([] ++ L) := h
  obtain ⟨x, x1, x2, x3, x4, m, x5, x6⟩ := tksN_at _ _ _ _ i t h0 hi
  have hd : s.drop (s.length - t.rest) = x := by rw [← x2]; exact (List.suffix_iff_eq_drop.1 x1).symm
  have hsx : s.take (s.length - t.rest) ++ x = s := by rw [← hd, List.take_append_drop]
  refine ⟨?_, ?_⟩
  · obtain ⟨u, hu⟩ : ∃ u, s.take (s.length - t.rest) = u := ⟨_, rfl⟩
    rw [hu] at hsx ⊢
    rw [← hsx] at h0
    have := tksN_cut x x3 _ u [] [] L i t rfl h0 hi x2.symm
    rw [List.nil_append, x2] at this
    rw [← this]
    unfold tksR
    exact tksN_fuel _ _ _ _ (by omega) (by rw [List.length_append]; omega)
  · rw [hd]
    have e : tksN m ([] ++ L.take i) x = .ok (([] ++ L.take i) ++ L.drop i) := by rw [x6]; simp
    have h2 := tksN_other m ([] ++ L.take i) [] x (L.drop i) (by simp; omega) (by simp) e
    rw [List.nil_append] at h2
    rw [← h2]
    unfold tksR
    exact tksN_fuel _ _ _ _ (by omega) x5
/- The three fixed texts. -/
theorem T_w1 : tksR [] [97, 45, 62, 98, 43, 43, 32, 48, 120, 49, 70, 117, 32, 39, 92, 120, 102, 102, 39] = .ok [⟨1, 19, 0, [97]⟩, ⟨5, 18, 0, [45, 62]⟩, ⟨1, 16, 0, [98]⟩, ⟨5, 15, 0, [43, 43]⟩, ⟨3, 12, 31, [117]⟩, ⟨3, 6, -1, []⟩] := by kernel_rfl
theorem T_w2 : tksR [] [48, 56] = .bad 73 [48, 56] := by kernel_rfl
theorem T_w3 : tksR [] [34, 97, 34, 32, 34, 98, 34] = .ok [⟨4, 7, 0, [97, 98]⟩] := by kernel_rfl
end Go.Proofs.YtbccabpcljkamaaDoor
