/-
  Plain facts on texts that are cut and read again, as the document's answers do it.
-/
import Derived.Test.YtcemghcfapblgaaDoorIsaTx4
import Derived.Test.YtcemghcfapblgaaDoorIsaTx2
import Derived.Test.YtcemghcfapblgaaDoorIsaText
namespace Go.Proofs.YtcemghcfapblgaaDoor
set_option linter.unusedVariables false
set_option linter.unusedSimpArgs false

/-! ### Digits -/
theorem dig_head : ∀ (n u : Nat), u ≤ n → 1 ≤ u → (Lib.decDigits u)[0]?.getD 0 ≠ 48
  | 0, u, h, h1 => by omega
  | n + 1, u, h, h1 => by
    by_cases h10 : u < 10
    · rw [dig_small u h10]
      intro e
      have e2 : UInt8.ofNat (48 + u) = 48 := e
      have := u8_of u h10
      rw [e2] at this
      have : (48 : UInt8).toNat = 48 := rfl
      omega
    · have ih := dig_head n (u / 10) (by omega) (by omega)
      have hp := dig_pos (u / 10)
      rw [dig_great u h10, List.getElem?_append_left (by omega)]
      exact ih
theorem dig_wv : ∀ (n u : Nat), u ≤ n → wv (Lib.decDigits u) = u
  | 0, u, h => by
    have : u = 0 := by omega
    subst this
    rw [dig_small 0 (by decide)]
    rfl
  | n + 1, u, h => by
    by_cases h10 : u < 10
    · have e : Lib.decDigits u = [] ++ [UInt8.ofNat (48 + u)] := dig_small u h10
      rw [e, wv_snoc, u8_of u h10]
      have : wv [] = 0 := rfl
      rw [this]
      omega
    · rw [dig_great u h10, wv_snoc, dig_wv n (u / 10) (by omega), u8_of (u % 10) (Nat.mod_lt _ (by decide))]
      omega
theorem dig_wh (u : Nat) (hu : u ≤ 8388608) : whN (Lib.decDigits u) = u ∧ whO (Lib.decDigits u) = true := by
  have hp := dig_pos u
  have hl := dec_len 6 u (by omega)
  have hw := dig_wv u u (Nat.le_refl _)
  have hB : whB (Lib.decDigits u) = true := by
    unfold whB
    have hne : (Lib.decDigits u).isEmpty = false := by
      cases h : Lib.decDigits u with
      | nil => rw [h] at hp; simp at hp
      | cons => rfl
    have hall : (Lib.decDigits u).all dgB = true := by
      rw [List.all_eq_true]
      intro c hc
      have := digits_bd u u (Nat.le_refl _) c hc
      unfold dgB
      simp
      omega
    rw [hne, hall]
    by_cases h1 : u < 10
    · rw [dig_small u h1]
      simp
    · have := dig_head u u (Nat.le_refl _) (by omega)
      simp [this]
      omega
  obtain ⟨e1, e2⟩ := wh_yes _ hB
  rw [e1, e2, hw]
  exact ⟨rfl, by simp; omega⟩
theorem num_itoa (n : Int) (h0 : -8388608 ≤ n) (h1 : n ≤ 8388607) : numN (Lib.itoa n) = n ∧ numO (Lib.itoa n) = true := by
  unfold Lib.itoa
  by_cases h : n < 0
  · rw [if_pos h]
    have hp := dig_pos n.natAbs
    obtain ⟨e1, e2⟩ := num_neg (45 :: Lib.decDigits n.natAbs) ⟨by simp; omega, rfl⟩
    obtain ⟨e3, e4⟩ := dig_wh n.natAbs (by omega)
    rw [e1, e2]
    show -(whN (Lib.decDigits n.natAbs)) = n ∧ whO (Lib.decDigits n.natAbs) = true
    rw [e3, e4]
    exact ⟨by omega, rfl⟩
  · rw [if_neg h]
    have hp := dig_pos n.toNat
    have hno : ¬ (1 < (Lib.decDigits n.toNat).length ∧ (Lib.decDigits n.toNat)[0]?.getD 0 = 45) := by
      rintro ⟨-, e⟩
      have hlt : 0 < (Lib.decDigits n.toNat).length := by omega
      rw [List.getElem?_eq_getElem hlt] at e
      have := digits_bd n.toNat n.toNat (Nat.le_refl _) _ (List.getElem_mem hlt)
      have e2 : (Lib.decDigits n.toNat)[0] = 45 := e
      rw [e2] at this
      have : (45 : UInt8).toNat = 45 := rfl
      omega
    obtain ⟨e1, e2⟩ := num_pos _ hno
    obtain ⟨e3, e4⟩ := dig_wh n.toNat (by omega)
    rw [e1, e2, e3, e4]
    exact ⟨by omega, rfl⟩

/-! ### Cut -/
theorem spF_app : ∀ (n : Nat) (m l : List UInt8), m.length = n → (∀ c ∈ m, c ≠ 32) → spF (l ++ m) = ((spF l).1, (spF l).2 ++ m)
  | 0, m, l, h, _ => by rw [List.length_eq_zero_iff.1 h]; simp
  | n + 1, m, l, h, hm => by
    have hne : m ≠ [] := by rintro rfl; simp at h
    have e : m = m.dropLast ++ [m.getLast hne] := (List.dropLast_concat_getLast hne).symm
    have ih := spF_app n m.dropLast l (by rw [List.length_dropLast]; omega) (fun c hc => hm c (List.dropLast_subset _ hc))
    have hl := hm _ (List.getLast_mem hne)
    rw [e, ← List.append_assoc, spF_snoc, ih, if_neg hl]
    simp
theorem cut_parts : ∀ (ts : List (List UInt8)) (l : List UInt8), (∀ t ∈ ts, ∀ c ∈ t, c ≠ 32) → cutL (l ++ (ts.map fun t => 32 :: t).flatten) = cutL l ++ ts
  | [], l, _ => by simp
  | t :: ts, l, h => by
    have e : l ++ ((t :: ts).map fun t => 32 :: t).flatten = ((l ++ [32]) ++ t) ++ (ts.map fun t => 32 :: t).flatten := by simp
    rw [e, cut_parts ts _ (fun t ht => h t (by simp [ht]))]
    unfold cutL
    rw [spF_app _ t _ rfl (h t (by simp)), spF_snoc, if_pos rfl]
    simp
theorem cut_join2 (h : List UInt8) (ts : List (List UInt8)) (hh : ∀ c ∈ h, c ≠ 32) (ht : ∀ t ∈ ts, ∀ c ∈ t, c ≠ 32) : cutL (joinSp h ts) = h :: ts := by
  unfold joinSp
  rw [cut_parts ts h ht]
  have e : cutL h = [h] := by
    have := spF_app _ h [] rfl hh
    unfold cutL
    rw [List.nil_append] at this
    rw [this]
    rfl
  rw [e]
  rfl
theorem cut_lens : ∀ (n : Nat) (l : List UInt8), l.length = n → (∀ t ∈ (spF l).1, t.length ≤ n) ∧ (spF l).2.length ≤ n
  | 0, l, h => by rw [List.length_eq_zero_iff.1 h]; simp [spF]
  | n + 1, l, h => by
    have hne : l ≠ [] := by rintro rfl; simp at h
    have e : l = l.dropLast ++ [l.getLast hne] := (List.dropLast_concat_getLast hne).symm
    obtain ⟨i1, i2⟩ := cut_lens n l.dropLast (by rw [List.length_dropLast]; omega)
    rw [e, spF_snoc]
    split
    · refine ⟨fun t ht => ?_, by simp⟩
      rcases List.mem_append.1 ht with ht | ht
      · have := i1 t ht; omega
      · simp at ht; subst ht; omega
    · exact ⟨fun t ht => by have := i1 t ht; omega, by simp; omega⟩
theorem cutL_lens (l : List UInt8) : ∀ t ∈ cutL l, t.length ≤ l.length := by
  intro t ht
  obtain ⟨h1, h2⟩ := cut_lens _ l rfl
  rcases List.mem_append.1 ht with ht | ht
  · exact h1 t ht
  · simp at ht; subst ht; exact h2

/-! ### Words and fields -/
def opTo (h : List UInt8) : Nat → Int
  | 0 => 0
  | k + 1 => if nm ((k : Int) + 1) = h then (k : Int) + 1 else opTo h k
theorem opTo_bd (h : List UInt8) : ∀ k, 0 ≤ opTo h k ∧ opTo h k ≤ k
  | 0 => ⟨Int.le_refl _, Int.le_refl _⟩
  | k + 1 => by
    have := opTo_bd h k
    unfold opTo
    split <;> omega
theorem opTo_nm (o : Int) (h0 : 1 ≤ o) (h1 : o ≤ 42) : opTo (nm o) 42 = o := by
  have h : ∀ k : Fin 43, 1 ≤ k.val → opTo (nm (k.val : Int)) 42 = k.val := by
    unfold opTo nm
    decide +kernel
  have := h ⟨o.toNat, by omega⟩ (show 1 ≤ o.toNat by omega)
  rw [show ((o.toNat : Nat) : Int) = o by omega] at this
  exact this
/-- A part without the letter ahead of a register's number. -/
def trimT (c : UInt8) (t : List UInt8) : List UInt8 := if c = 105 then t else t.tail
/-- What stands in a field when k parts are read. -/
def fv (hl : List UInt8) (ts : List (List UInt8)) (c : UInt8) : Nat → Int
  | 0 => 0
  | k + 1 => if hl[k]?.getD 0 = c then numN (trimT c (ts[k + 1]?.getD [])) else fv hl ts c k
theorem fv_bd (hl : List UInt8) (ts : List (List UInt8)) (c : UInt8) : ∀ k, -1000000000000000 ≤ fv hl ts c k ∧ fv hl ts c k ≤ 1000000000000000
  | 0 => by unfold fv; omega
  | k + 1 => by
    unfold fv
    split
    · exact numN_bd _
    · exact fv_bd hl ts c k
/-- What the document's answers find in the text of a right instruction. -/
theorem print_found (o d a b i : Int) (hc : chkB o d a b i = true) :
    cutL (prL o d a b i) = nm o :: toks (formI o) d a b i ∧ opTo (nm o) 42 = o ∧ (toks (formI o) d a b i).length = (hasI (formI o)).length ∧
    (∀ k, k < (hasI (formI o)).length → numO (trimT ((hasI (formI o))[k]?.getD 0) ((nm o :: toks (formI o) d a b i)[k + 1]?.getD [])) = true) ∧
    fv (hasI (formI o)) (nm o :: toks (formI o) d a b i) 100 (hasI (formI o)).length = d ∧ fv (hasI (formI o)) (nm o :: toks (formI o) d a b i) 97 (hasI (formI o)).length = a ∧
    fv (hasI (formI o)) (nm o :: toks (formI o) d a b i) 98 (hasI (formI o)).length = b ∧ fv (hasI (formI o)) (nm o :: toks (formI o) d a b i) 105 (hasI (formI o)).length = i := by
  obtain ⟨h1, h2, h3, h4, h5⟩ := chk_bd o d a b i hc
  have ho := chk_op o d a b i hc
  have nd := num_itoa d (by omega) (by omega)
  have na := num_itoa a (by omega) (by omega)
  have nb := num_itoa b (by omega) (by omega)
  have ni := num_itoa i (by omega) (by omega)
  refine ⟨?_, opTo_nm o ho.1 ho.2, ?_, ?_⟩
  · rw [pr_join, cut_join2 _ _ (nm_no o)]
    intro t ht c hcm
    unfold toks at ht
    simp only [List.mem_append] at ht
    rcases ht with ((ht | ht) | ht) | ht
    · split at ht
      · simp at ht; subst ht; exact reg_no _ c hcm
      · cases ht
    · split at ht
      · simp at ht; subst ht; exact reg_no _ c hcm
      · cases ht
    · split at ht
      · simp at ht; subst ht; exact reg_no _ c hcm
      · cases ht
    · split at ht
      · simp at ht; subst ht; exact itoa_no _ 32 (.inl rfl) c hcm
      · cases ht
  · have ⟨f0, f1⟩ := formI_bd o
    rcases form_cases (formI o) f0 f1 with h | h | h | h | h | h | h | h | h | h | h | h | h <;> rw [h] <;> unfold toks hasI lD lA lB lBits <;> rfl
  · have hq := hc
    unfold chkB at hq
    simp only [Bool.and_eq_true] at hq
    obtain ⟨⟨⟨⟨hf, hd⟩, ha⟩, hb⟩, hi⟩ := hq
    have zd : lD (formI o) = false → d = 0 := fun e => by rw [e, regB_off] at hd; simpa using hd
    have za : lA (formI o) = false → a = 0 := fun e => by rw [e, regB_off] at ha; simpa using ha
    have zb : lB (formI o) = false → b = 0 := fun e => by rw [e, regB_off] at hb; simpa using hb
    have zi : formI o = 1 ∨ formI o = 11 → i = 0 := by
      intro e
      unfold fitB lLeast lMost at hi
      rcases e with e | e <;> rw [e] at hi <;> simp at hi <;> omega
    have hf0 : ¬ formI o = 0 := by simpa using hf
    clear hf hd ha hb hi hc h1 h2 h3 h4 h5 ho
    have ⟨f0, f1⟩ := formI_bd o
    generalize formI o = f at *
    have hn1 : ∀ n : Int, trimT 100 (114 :: Lib.itoa n) = Lib.itoa n := fun n => rfl
    have hn2 : ∀ n : Int, trimT 97 (114 :: Lib.itoa n) = Lib.itoa n := fun n => rfl
    have hn3 : ∀ n : Int, trimT 98 (114 :: Lib.itoa n) = Lib.itoa n := fun n => rfl
    have hn4 : ∀ n : Int, trimT 105 (Lib.itoa n) = Lib.itoa n := fun n => rfl
    have k3 : ∀ k : Nat, k < 3 → k = 0 ∨ k = 1 ∨ k = 2 := by omega
    have k2 : ∀ k : Nat, k < 2 → k = 0 ∨ k = 1 := by omega
    have k1 : ∀ k : Nat, k < 1 → k = 0 := by omega
    rcases form_cases f f0 f1 with rfl | rfl | rfl | rfl | rfl | rfl | rfl | rfl | rfl | rfl | rfl | rfl | rfl
    · exact absurd rfl hf0
    all_goals
      unfold lD at zd
      unfold lA at za
      unfold lB at zb
      simp at zd za zb zi
      refine ⟨?_, ?_⟩
      · intro k hk
        unfold hasI at hk ⊢
        unfold toks lD lA lB lBits
        simp at hk ⊢
        first
          | (rcases k3 k hk with rfl | rfl | rfl <;> simp [hn1, hn2, hn3, hn4, nd, na, nb, ni]; done)
          | (rcases k2 k hk with rfl | rfl <;> simp [hn1, hn2, hn3, hn4, nd, na, nb, ni]; done)
          | (subst hk; simp [hn1, hn2, hn3, hn4, nd, na, nb, ni]; done)
      · unfold hasI toks lD lA lB lBits
        simp [fv, hn1, hn2, hn3, hn4, nd, na, nb, ni, zd, za, zb, zi]
end Go.Proofs.YtcemghcfapblgaaDoor
