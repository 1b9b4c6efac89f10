/-
  Plain: tokens with more blank between them are read as they were.
-/
import Derived.Test.YtbccabpcljkamaaDoorLexBk2
namespace Go.Proofs.YtbccabpcljkamaaDoor
set_option linter.unusedVariables false
set_option linter.unusedSimpArgs false

/-- What stands behind each token: a blank, more of it, a comment, a blank. -/
def sepL (more : List UInt8) : List UInt8 := 32 :: (more ++ [47, 42, 32, 120, 32, 42, 47, 32])
def bodP (more : List UInt8) (L : List Tk) : List UInt8 := L.flatMap fun t => t.word ++ sepL more
theorem bod_nil (more : List UInt8) : bodP more [] = [] := rfl
theorem bod_cons (more : List UInt8) (t : Tk) (L : List Tk) : bodP more (t :: L) = t.word ++ (sepL more ++ bodP more L) := by
  unfold bodP
  rw [List.flatMap_cons, List.append_assoc]
theorem bod_snoc (more : List UInt8) (t : Tk) (L : List Tk) : bodP more (L ++ [t]) = bodP more L ++ (t.word ++ sepL more) := by
  unfold bodP
  rw [List.flatMap_append]
  simp
theorem bl_more {more : List UInt8} (X : List UInt8) (h : more.all blk8 = true) : blR (more ++ X) = blR X := by
  induction more with
  | nil => rfl
  | cons c m ih =>
    rw [List.all_cons, Bool.and_eq_true] at h
    rw [List.cons_append, blR_blank c _ h.1, ih h.2]
theorem bl_comment (X : List UInt8) : blR ([47, 42, 32, 120, 32, 42, 47, 32] ++ X) = blR X :=
  show blM 0 ([47, 42, 32, 120, 32, 42, 47, 32] ++ X) X = blM 0 [] X from blM_st X 0 _ [] (.inl rfl)
theorem bl_sep {more : List UInt8} (X : List UInt8) (h : more.all blk8 = true) : blR (sepL more ++ X) = blR X := by
  unfold sepL
  rw [List.cons_append, blR_blank 32 _ (by decide), List.append_assoc, bl_more _ h, bl_comment]
theorem sep_good (more X : List UInt8) : Good (sepL more ++ X) := .inr ⟨_, rfl⟩
theorem bl_bod (more : List UInt8) (L : List Tk) (h : ∀ t ∈ L, t.ok = true) : blR (bodP more L) = (bodP more L, true) := by
  cases L with
  | nil => rfl
  | cons t L =>
    rw [bod_cons]
    exact bl_word (h t List.mem_cons_self) (sep_good more _)
theorem tks_blank {more : List UInt8} (hm : more.all blk8 = true) : ∀ (L : List Tk) (A : List Pt) (r : List UInt8), (∀ t ∈ L, t.ok = true) → NoTwo (L.map (·.kind)) → blR r = (bodP more L, true) → A.length + L.length ≤ 16384 → ∃ M, tksR A r = .ok (A ++ M) ∧ M.map trP = L.map trT
  | [], A, r, _, _, hb, _ => by
    refine ⟨[], ?_, rfl⟩
    rw [tksR_step, hb, bod_nil, if_pos rfl, if_pos rfl, List.append_nil]
  | t :: L, A, r, hok, hN, hb, hl => by
    have hokL : ∀ u ∈ L, u.ok = true := fun u hu => hok u (List.mem_cons_of_mem _ hu)
    have ht : tokB t.kind t.int t.text = true := hok t List.mem_cons_self
    have hlay : blR (sepL more ++ bodP more L) = (bodP more L, true) := by rw [bl_sep _ hm, bl_bod more L hokL]
    rw [List.length_cons] at hl
    have h4 : t.kind = 4 → (blR (sepL more ++ bodP more L)).2 = true ∧ (blR (sepL more ++ bodP more L)).1.head? ≠ some 34 := fun e => by
      rw [hlay]
      refine ⟨rfl, ?_⟩
      cases L with
      | nil => rw [bod_nil]; simp
      | cons u L =>
        obtain ⟨c, s, hw, _, hc, _⟩ := wrd_first (show tokB u.kind u.int u.text = true from hokL u List.mem_cons_self)
        rw [bod_cons]
        show ((wrdL u.kind u.int u.text) ++ _).head? ≠ _
        rw [hw]
        intro e2
        have e3 : c = 34 := by simpa using e2
        exact hN 0 (by simp [e]) (by simp [hc e3])
    have h1 : tokR (t.word ++ (sepL more ++ bodP more L)) = _ := rd_one ht (sep_good more (bodP more L)) h4
    have hne : t.word ++ (sepL more ++ bodP more L) ≠ [] := by
      obtain ⟨c, s, hw, _⟩ := wrd_first ht
      show wrdL t.kind t.int t.text ++ _ ≠ []
      rw [hw]
      simp
    have hy : blR (if t.kind = 4 then (blR (sepL more ++ bodP more L)).1 else sepL more ++ bodP more L) = (bodP more L, true) := by
      split
      · rw [hlay]; exact bl_bod more L hokL
      · exact hlay
    obtain ⟨M, hM, hM2⟩ := tks_blank hm L (A ++ [⟨t.kind, (t.word ++ (sepL more ++ bodP more L)).length, t.int, t.text⟩]) _ hokL (fun i a b => hN (i + 1) (by simpa using a) (by simpa using b)) hy (by rw [List.length_append, List.length_singleton]; omega)
    refine ⟨⟨t.kind, (t.word ++ (sepL more ++ bodP more L)).length, t.int, t.text⟩ :: M, ?_, ?_⟩
    · rw [tksR_step, hb, bod_cons, if_pos rfl, if_neg hne, if_neg (by omega)]
      simp only
      rw [h1]
      simp only
      rw [hM, List.append_assoc]
      rfl
    · rw [List.map_cons, List.map_cons, hM2]
      rfl
/-- Right tokens without two texts in a row are read as they were, whatever blank stands ahead of each. -/
theorem T_blank {more : List UInt8} {L : List Tk} (hm : more.all blk8 = true) (h : ∀ t ∈ L, t.ok = true) (hN : NoTwo (L.map (·.kind))) (hl : L.length ≤ 16384) : ∃ M, tksR [] (more ++ bodP more L) = .ok M ∧ M.map trP = L.map trT := by
  obtain ⟨M, h1, h2⟩ := tks_blank hm L [] (more ++ bodP more L) h hN (by rw [bl_more _ hm, bl_bod more L h]) (by simpa using hl)
  exact ⟨M, h1, h2⟩
theorem sep_len (more : List UInt8) : (sepL more).length = more.length + 9 := by
  unfold sepL
  simp
theorem bod_len (more : List UInt8) (L : List Tk) (W : Nat) (h : ∀ t ∈ L, t.word.length ≤ W) : (bodP more L).length ≤ L.length * (W + more.length + 9) := by
  induction L with
  | nil => simp [bodP]
  | cons t L ih =>
    have h1 := ih (fun u hu => h u (List.mem_cons_of_mem _ hu))
    have h2 := h t List.mem_cons_self
    rw [bod_cons, List.length_append, List.length_append, sep_len, List.length_cons, Nat.succ_mul]
    omega
end Go.Proofs.YtbccabpcljkamaaDoor
