/-
  Plain: trees: the parts of each node, as both sides find them; which trees are right: as the code has it and as the document does; that both are the same.
-/
import Derived.Test.YtjadckhngalmlaaGreatDoorZTyDe
namespace Go.Proofs.YtjadckhngalmlaaGreatDoor
set_option linter.unusedVariables false
set_option linter.unusedSimpArgs false

structure NdT where
  kind : Int
  n : Int
  at' : Int
  int : Int
  text : List UInt8
  type : List UInt8
/-- May a node of a kind have so many parts? -/
def hpB (k n : Int) : Bool :=
  if k = 1 ∨ k = 2 ∨ k = 3 ∨ k = 17 ∨ k = 30 ∨ k = 31 ∨ k = 33 then n == 0
  else if k = 22 ∨ k = 32 then n == 0 || n == 1
  else if k = 4 ∨ k = 5 ∨ k = 6 ∨ k = 13 ∨ k = 14 ∨ k = 15 ∨ k = 16 ∨ k = 20 ∨ k = 29 then n == 1
  else if k = 7 ∨ k = 8 ∨ k = 10 ∨ k = 12 ∨ k = 24 ∨ k = 25 ∨ k = 27 ∨ k = 28 then n == 2
  else if k = 23 then n == 2 || n == 3
  else if k = 9 then n == 3
  else if k = 26 then n == 4
  else if k = 11 then decide (1 ≤ n) && decide (n ≤ 9)
  else if k = 21 then decide (0 ≤ n)
  else false
theorem hp_nn {k n : Int} (h : hpB k n = true) : 0 ≤ n := by
  unfold hpB at h
  (repeat' split at h) <;> simp at h <;> omega
/-- The least and the greatest number of parts, as the document has them; -1: no such kind. -/
def arI (k : Int) : Int × Int :=
  if k = 1 ∨ k = 2 ∨ k = 3 ∨ k = 17 ∨ k = 30 ∨ k = 31 ∨ k = 33 then (0, 0)
  else if k = 4 ∨ k = 5 ∨ k = 6 ∨ k = 13 ∨ k = 14 ∨ k = 15 ∨ k = 16 ∨ k = 20 ∨ k = 29 then (1, 1)
  else if k = 7 ∨ k = 8 ∨ k = 10 ∨ k = 12 ∨ k = 24 ∨ k = 25 ∨ k = 27 ∨ k = 28 then (2, 2)
  else if k = 9 then (3, 3)
  else if k = 26 then (4, 4)
  else if k = 11 then (1, 9)
  else if k = 21 then (0, 4096)
  else if k = 22 ∨ k = 32 then (0, 1)
  else if k = 23 then (2, 3)
  else (-1, -1)
/-- Where there are at most so many nodes ahead, both ask the same. -/
theorem hp_ar (k n : Int) (h : n ≤ 4096) : hpB k n = (decide (0 ≤ (arI k).1) && decide ((arI k).1 ≤ n) && decide (n ≤ (arI k).2)) := by
  by_cases h1 : k = 1 ∨ k = 2 ∨ k = 3 ∨ k = 17 ∨ k = 30 ∨ k = 31 ∨ k = 33
  · unfold hpB arI
    rw [if_pos h1, if_pos h1]
    rw [Bool.eq_iff_iff]; simp; omega
  by_cases h2 : k = 22 ∨ k = 32
  · have e3 : ¬ (k = 4 ∨ k = 5 ∨ k = 6 ∨ k = 13 ∨ k = 14 ∨ k = 15 ∨ k = 16 ∨ k = 20 ∨ k = 29) := by omega
    have e4 : ¬ (k = 7 ∨ k = 8 ∨ k = 10 ∨ k = 12 ∨ k = 24 ∨ k = 25 ∨ k = 27 ∨ k = 28) := by omega
    unfold hpB arI
    rw [if_neg h1, if_pos h2, if_neg h1, if_neg e3, if_neg e4, if_neg (by omega : ¬ k = 9), if_neg (by omega : ¬ k = 26), if_neg (by omega : ¬ k = 11), if_neg (by omega : ¬ k = 21), if_pos h2]
    rw [Bool.eq_iff_iff]; simp; omega
  by_cases h3 : k = 4 ∨ k = 5 ∨ k = 6 ∨ k = 13 ∨ k = 14 ∨ k = 15 ∨ k = 16 ∨ k = 20 ∨ k = 29
  · unfold hpB arI
    rw [if_neg h1, if_neg h2, if_pos h3, if_neg h1, if_pos h3]
    rw [Bool.eq_iff_iff]; simp; omega
  by_cases h4 : k = 7 ∨ k = 8 ∨ k = 10 ∨ k = 12 ∨ k = 24 ∨ k = 25 ∨ k = 27 ∨ k = 28
  · unfold hpB arI
    rw [if_neg h1, if_neg h2, if_neg h3, if_pos h4, if_neg h1, if_neg h3, if_pos h4]
    rw [Bool.eq_iff_iff]; simp; omega
  unfold hpB arI
  rw [if_neg h1, if_neg h2, if_neg h3, if_neg h4, if_neg h1, if_neg h3, if_neg h4]
  by_cases h5 : k = 9
  · subst h5; rw [Bool.eq_iff_iff]; simp; omega
  by_cases h6 : k = 26
  · subst h6; rw [Bool.eq_iff_iff]; simp; omega
  by_cases h7 : k = 11
  · subst h7; rw [Bool.eq_iff_iff]; simp
  by_cases h8 : k = 21
  · subst h8; rw [Bool.eq_iff_iff]; simp; omega
  by_cases h9 : k = 23
  · subst h9; rw [Bool.eq_iff_iff]; simp; omega
  simp [h5, h6, h7, h8, h9, h2]
/-! ### Parts -/
/-- The parts of a node: the ends of the last wholes. -/
def lastN (free : List Nat) (n : Nat) : List Nat := free.drop (free.length - n)
/-- The stack of ends, gone over; the parts of each node; none: not well formed (as far as one has come). -/
def grF : List NdT → Nat → List Nat → List (List Nat) → Option (List Nat × List (List Nat))
  | [], _, free, ps => some (free, ps)
  | x :: t, i, free, ps => if hpB x.kind x.n = true ∧ x.n.toNat ≤ free.length then grF t (i + 1) (free.take (free.length - x.n.toNat) ++ [i]) (ps ++ [lastN free x.n.toNat]) else none
def grow (t : List NdT) : Option (List (List Nat)) := match grF t 0 [] [] with
  | some (free, ps) => if free.length = 1 then some ps else none
  | none => none
/-- The stack of beginnings, gone over. -/
def bgF : List NdT → Nat → List Nat → List Nat → Option (List Nat × List Nat)
  | [], _, st, fr => some (st, fr)
  | x :: t, i, st, fr => if x.n < 0 ∨ st.length < x.n.toNat then none else
    bgF t (i + 1) (st.take (st.length - x.n.toNat) ++ [if 0 < x.n then st.getD (st.length - x.n.toNat) 0 else i]) (fr ++ [if 0 < x.n then st.getD (st.length - x.n.toNat) 0 else i])
/-- The parts of a node, walked back from the one ahead of it. -/
def walkB (fr : List Nat) : Nat → Nat → List Nat
  | 0, _ => []
  | n + 1, k => walkB fr n (fr.getD k 0 - 1) ++ [k]
/-- Ends and beginnings of the wholes that are no parts yet. -/
structure Ch (i : Nat) (free st fr : List Nat) : Prop where
  fl : fr.length = i
  ln : free.length = st.length
  lt : ∀ (j e : Nat), free[j]? = some e → e < i
  bg : ∀ (j e : Nat), free[j]? = some e → fr[e]? = st[j]?
  nx : ∀ (j e : Nat), free[j]? = some e → (j + 1 = free.length → e + 1 = i) ∧ ∀ b, st[j + 1]? = some b → b = e + 1
  z : st[0]? = some 0 ∨ i = 0
  le : ∀ (j e b : Nat), free[j]? = some e → st[j]? = some b → b ≤ e
  fe : ∀ (k b : Nat), fr[k]? = some b → b ≤ k
theorem Ch.start : Ch 0 [] [] [] := ⟨rfl, rfl, (fun j e h => by cases h), (fun j e h => by cases h), (fun j e h => by cases h), .inr rfl, (fun j e b h => by cases h), (fun k b h => by cases h)⟩
/-- Walked back, the parts are the last ends. -/
theorem Ch.walk {i : Nat} {free st fr : List Nat} (h : Ch i free st fr) : ∀ (n j : Nat), n ≤ j + 1 → j < free.length → walkB fr n (free.getD j 0) = (free.take (j + 1)).drop (j + 1 - n)
  | 0, j, _, hj => by
    show [] = _
    rw [Nat.sub_zero, List.drop_of_length_le (by rw [List.length_take]; omega)]
  | n + 1, j, hn, hj => by
    have hfj : free[j]? = some free[j] := List.getElem?_eq_getElem hj
    have hgj : free.getD j 0 = free[j] := by rw [List.getD_eq_getElem?_getD, hfj]; rfl
    show walkB fr n (fr.getD (free.getD j 0) 0 - 1) ++ [free.getD j 0] = _
    rw [hgj]
    have hb := h.bg j _ hfj
    have hjs : j < st.length := by rw [← h.ln]; exact hj
    have hstj : st[j]? = some st[j] := List.getElem?_eq_getElem (by rw [← h.ln]; exact hj)
    have hfr : fr.getD free[j] 0 = st[j] := by rw [List.getD_eq_getElem?_getD, hb, hstj]; rfl
    rw [hfr]
    have htk : (free.take (j + 1)).drop (j + 1 - (n + 1)) = (free.take j).drop (j - n) ++ [free[j]] := by
      rw [List.take_succ_eq_append_getElem hj, List.drop_append_of_le_length (by rw [List.length_take]; omega)]
      congr 2
      omega
    rw [htk]
    congr 1
    cases n with
    | zero =>
      show [] = _
      rw [Nat.sub_zero, List.drop_of_length_le (by rw [List.length_take]; omega)]
    | succ n =>
      obtain ⟨j', rfl⟩ : ∃ j', j = j' + 1 := ⟨j - 1, by omega⟩
      have hj' : j' < free.length := by omega
      have h1 := (h.nx j' free[j'] (List.getElem?_eq_getElem hj')).2 st[j' + 1] hstj
      have h2 := h.walk (n + 1) j' (by omega) hj'
      have hg' : free.getD j' 0 = free[j'] := by rw [List.getD_eq_getElem?_getD, List.getElem?_eq_getElem hj']; rfl
      rw [hg'] at h2
      rw [h1, Nat.add_sub_cancel, h2]
theorem Ch.parts {i : Nat} {free st fr : List Nat} (h : Ch i free st fr) (n : Nat) (hn : n ≤ free.length) : walkB fr n (i - 1) = lastN free n := by
  cases n with
  | zero =>
    unfold lastN
    rw [Nat.sub_zero, List.drop_length]
    rfl
  | succ n =>
    have hp : 0 < free.length := by omega
    have hf : free[free.length - 1]? = some (free[free.length - 1]'(by omega)) := List.getElem?_eq_getElem (by omega)
    have hi := (h.nx _ _ hf).1 (by omega)
    have hw := h.walk (n + 1) (free.length - 1) (by omega) (by omega)
    have hg : free.getD (free.length - 1) 0 = free[free.length - 1]'(by omega) := by rw [List.getD_eq_getElem?_getD, hf]; rfl
    rw [hg, show free.length - 1 + 1 = free.length by omega, List.take_length] at hw
    have e : i - 1 = free[free.length - 1]'(by omega) := by omega
    rw [e]
    exact hw
theorem Ch.next {i n : Nat} {free st fr : List Nat} (h : Ch i free st fr) (hn : n ≤ free.length) {b : Nat} (hb : b = if 0 < n then st.getD (free.length - n) 0 else i) : Ch (i + 1) (free.take (free.length - n) ++ [i]) (st.take (free.length - n) ++ [b]) (fr ++ [b]) := by
  obtain ⟨m, hm⟩ : ∃ m, free.length - n = m := ⟨_, rfl⟩
  rw [hm] at hb ⊢
  have hml : m ≤ free.length := by omega
  have htf : (free.take m).length = m := by rw [List.length_take]; omega
  have hts : (st.take m).length = m := by rw [List.length_take, ← h.ln]; omega
  have gf : ∀ (j e : Nat), (free.take m ++ [i])[j]? = some e → (j < m ∧ free[j]? = some e) ∨ (j = m ∧ e = i) := fun j e hj => by
    by_cases hjm : j < m
    · rw [List.getElem?_append_left (by omega), List.getElem?_take_of_lt hjm] at hj
      exact .inl ⟨hjm, hj⟩
    · have hl := (List.getElem?_eq_some_iff.1 hj).1
      rw [List.length_append, htf, List.length_singleton] at hl
      obtain rfl : j = m := by omega
      rw [List.getElem?_append_right (by omega), htf, Nat.sub_self] at hj
      cases hj
      exact .inr ⟨rfl, rfl⟩
  have gs : ∀ (j : Nat), j < m → (st.take m ++ [b])[j]? = st[j]? := fun j hjm => by
    rw [List.getElem?_append_left (by omega), List.getElem?_take_of_lt hjm]
  have gsm : (st.take m ++ [b])[m]? = some b := by
    rw [List.getElem?_append_right (by omega), hts, Nat.sub_self]
    rfl
  have hbm : 0 < n → st[m]? = some b := fun h0 => by
    rw [if_pos h0, List.getD_eq_getElem?_getD] at hb
    have hms : m < st.length := by rw [← h.ln]; omega
    rw [List.getElem?_eq_getElem hms] at hb ⊢
    rw [hb]
    rfl
  refine ⟨by rw [List.length_append, h.fl]; rfl, by rw [List.length_append, List.length_append, htf, hts]; rfl, ?_, ?_, ?_, ?_, ?_, ?_⟩
  · intro j e hj
    rcases gf j e hj with ⟨_, h1⟩ | ⟨_, rfl⟩
    · exact Nat.lt_succ_of_lt (h.lt j e h1)
    · exact Nat.lt_succ_self _
  · intro j e hj
    rcases gf j e hj with ⟨h0, h1⟩ | ⟨rfl, rfl⟩
    · rw [gs j h0, List.getElem?_append_left (by rw [h.fl]; exact h.lt j e h1)]
      exact h.bg j e h1
    · rw [gsm, List.getElem?_append_right (by rw [h.fl]; exact Nat.le_refl _), h.fl, Nat.sub_self]
      rfl
  · intro j e hj
    rcases gf j e hj with ⟨h0, h1⟩ | ⟨rfl, rfl⟩
    · refine ⟨fun hl => ?_, fun b' hb' => ?_⟩
      · rw [List.length_append, htf, List.length_singleton] at hl
        omega
      · by_cases hj1 : j + 1 < m
        · rw [gs _ hj1] at hb'
          exact (h.nx j e h1).2 b' hb'
        · obtain rfl : m = j + 1 := by omega
          rw [gsm] at hb'
          cases hb'
          by_cases h00 : 0 < n
          · exact (h.nx j e h1).2 b (hbm h00)
          · rw [if_neg h00] at hb
            rw [hb]
            exact ((h.nx j e h1).1 (by omega)).symm
    · refine ⟨fun _ => rfl, fun b' hb' => ?_⟩
      have hl := (List.getElem?_eq_some_iff.1 hb').1
      rw [List.length_append, hts, List.length_singleton] at hl
      omega
  · left
    by_cases h0 : 0 < m
    · rw [gs 0 h0]
      rcases h.z with h1 | h1
      · exact h1
      · have := h.lt 0 _ (List.getElem?_eq_getElem (by omega : 0 < free.length))
        omega
    · obtain rfl : m = 0 := by omega
      rw [gsm]
      by_cases h00 : 0 < n
      · rcases h.z with h1 | h1
        · rw [hbm h00] at h1
          exact h1
        · have := h.lt 0 _ (List.getElem?_eq_getElem (by omega : 0 < free.length))
          omega
      · rw [if_neg h00] at hb
        rcases h.z with h1 | h1
        · have hl := (List.getElem?_eq_some_iff.1 h1).1
          rw [← h.ln] at hl
          omega
        · rw [hb, h1]
  · intro j e b' hj hb'
    rcases gf j e hj with ⟨h0, h1⟩ | ⟨rfl, rfl⟩
    · rw [gs j h0] at hb'
      exact h.le j e b' h1 hb'
    · rw [gsm] at hb'
      cases hb'
      by_cases h00 : 0 < n
      · have h1 := List.getElem?_eq_getElem (by omega : j < free.length)
        have h2 := h.le j _ b h1 (hbm h00)
        have h3 := h.lt j _ h1
        omega
      · rw [if_neg h00] at hb
        omega
  · intro k c hk
    by_cases hki : k < i
    · rw [List.getElem?_append_left (by rw [h.fl]; exact hki)] at hk
      exact h.fe k c hk
    · have hl := (List.getElem?_eq_some_iff.1 hk).1
      rw [List.length_append, h.fl, List.length_singleton] at hl
      obtain rfl : k = i := by omega
      rw [List.getElem?_append_right (by rw [h.fl]; exact Nat.le_refl _), h.fl, Nat.sub_self] at hk
      cases hk
      by_cases h00 : 0 < n
      · have h1 := List.getElem?_eq_getElem (by omega : m < free.length)
        have h2 := h.le m _ b h1 (hbm h00)
        have h3 := h.lt m _ h1
        omega
      · rw [if_neg h00] at hb
        omega
/-- Beginnings told further on change nothing of what is walked back. -/
theorem walkB_ext {fr fr' : List Nat} {i : Nat} (he : ∀ k, k < i → fr'.getD k 0 = fr.getD k 0) (hf : ∀ k, k < i → fr.getD k 0 ≤ k) : ∀ (n k : Nat), k < i ∨ n = 0 → walkB fr' n k = walkB fr n k
  | 0, k, _ => rfl
  | n + 1, k, hk => by
    have hk : k < i := by omega
    show walkB fr' n (fr'.getD k 0 - 1) ++ [k] = walkB fr n (fr.getD k 0 - 1) ++ [k]
    have h1 := hf k hk
    rw [he k hk, walkB_ext he hf n _ (.inl (by omega))]
theorem Ch.getD_le {i : Nat} {free st fr : List Nat} (h : Ch i free st fr) (k : Nat) : fr.getD k 0 ≤ k := by
  rw [List.getD_eq_getElem?_getD]
  cases hk : fr[k]? with
  | none => exact Nat.zero_le _
  | some b => exact h.fe k b hk
/-- The parts of the first nodes are what is walked back. -/
def PsOk (t0 : List NdT) (i : Nat) (ps : List (List Nat)) (fr : List Nat) : Prop := ps.length = i ∧ ∀ (j : Nat) (x : NdT), j < i → t0[j]? = some x → ps[j]? = some (walkB fr x.n.toNat (j - 1))
theorem gr_bg (t0 : List NdT) : ∀ (t : List NdT) (i : Nat) (free : List Nat) (ps : List (List Nat)) (st fr : List Nat), t0.drop i = t → Ch i free st fr → PsOk t0 i ps fr → (∀ x ∈ t, hpB x.kind x.n = true) →
    (grF t i free ps = none ∧ bgF t i st fr = none) ∨ ∃ free' ps' st' fr', grF t i free ps = some (free', ps') ∧ bgF t i st fr = some (st', fr') ∧ Ch (i + t.length) free' st' fr' ∧ PsOk t0 (i + t.length) ps' fr'
  | [], i, free, ps, st, fr, _, h, hp, _ => .inr ⟨free, ps, st, fr, rfl, rfl, h, hp⟩
  | x :: t, i, free, ps, st, fr, hd, h, hp, ha => by
    have hx := ha x (by simp)
    have hn := hp_nn hx
    have hdi : t0[i]? = some x := by
      have h1 : (t0.drop i)[0]? = some x := by rw [hd]; rfl
      rw [List.getElem?_drop] at h1
      simpa using h1
    have hd2 : t0.drop (i + 1) = t := by
      have : (t0.drop i).drop 1 = t := by rw [hd]; rfl
      rw [List.drop_drop] at this
      exact this
    by_cases hl : x.n.toNat ≤ free.length
    · have hg : grF (x :: t) i free ps = grF t (i + 1) (free.take (free.length - x.n.toNat) ++ [i]) (ps ++ [lastN free x.n.toNat]) := by
        conv => lhs; unfold grF
        rw [if_pos ⟨hx, hl⟩]
      obtain ⟨b, hb⟩ : ∃ b, (if 0 < x.n.toNat then st.getD (free.length - x.n.toNat) 0 else i) = b := ⟨_, rfl⟩
      have hb2 : (if 0 < x.n then st.getD (st.length - x.n.toNat) 0 else i) = b := by
        rw [← hb, h.ln]
        by_cases h0 : 0 < x.n
        · rw [if_pos h0, if_pos (by omega)]
        · rw [if_neg h0, if_neg (by omega)]
      have hbg : bgF (x :: t) i st fr = bgF t (i + 1) (st.take (st.length - x.n.toNat) ++ [b]) (fr ++ [b]) := by
        conv => lhs; unfold bgF
        rw [if_neg (by rw [← h.ln]; omega), hb2]
      have hc := h.next hl hb.symm
      have hps : PsOk t0 (i + 1) (ps ++ [lastN free x.n.toNat]) (fr ++ [b]) := by
        have hex : ∀ k, k < i → (fr ++ [b]).getD k 0 = fr.getD k 0 := fun k hk => by
          rw [List.getD_eq_getElem?_getD, List.getD_eq_getElem?_getD, List.getElem?_append_left (by rw [h.fl]; exact hk)]
        refine ⟨by rw [List.length_append, hp.1]; rfl, fun j y hj hy => ?_⟩
        by_cases hji : j < i
        · rw [List.getElem?_append_left (by rw [hp.1]; exact hji), hp.2 j y hji hy, walkB_ext hex (fun k _ => h.getD_le k) _ _ (by omega)]
        · obtain rfl : j = i := by omega
          rw [hdi] at hy
          cases hy
          rw [List.getElem?_append_right (by rw [hp.1]; exact Nat.le_refl _), hp.1, Nat.sub_self]
          show some (lastN free x.n.toNat) = _
          rw [← h.parts _ hl, walkB_ext hex (fun k _ => h.getD_le k) _ _ (by
            by_cases h0 : j = 0
            · right
              have : free.length = 0 := by
                cases hf : free with
                | nil => rfl
                | cons e l =>
                  have := h.lt 0 e (by rw [hf]; rfl)
                  omega
              omega
            · left; omega)]
      rw [← h.ln] at hbg
      rcases gr_bg t0 t (i + 1) _ _ _ _ hd2 hc hps (fun y hy => ha y (by simp [hy])) with ⟨h1, h2⟩ | ⟨f', p', s', r', h1, h2, h3, h4⟩
      · exact .inl ⟨by rw [hg]; exact h1, by rw [hbg]; exact h2⟩
      · refine .inr ⟨f', p', s', r', by rw [hg]; exact h1, by rw [hbg]; exact h2, ?_, ?_⟩
        · rw [List.length_cons, show i + (t.length + 1) = i + 1 + t.length by omega]; exact h3
        · rw [List.length_cons, show i + (t.length + 1) = i + 1 + t.length by omega]; exact h4
    · left
      constructor
      · unfold grF
        rw [if_neg (fun h9 => hl h9.2)]
      · unfold bgF
        rw [if_pos (by rw [← h.ln]; omega)]
end Go.Proofs.YtjadckhngalmlaaGreatDoor
namespace Go.Proofs.YtjadckhngalmlaaGreatDoor
set_option linter.unusedVariables false
set_option linter.unusedSimpArgs false

def exB (k : Int) : Bool := decide (1 ≤ k) && decide (k ≤ 17)
def stB (k : Int) : Bool := decide (20 ≤ k) && decide (k ≤ 32) && !(k == 22)
/-- May a node of a kind stand as such a part (0 an expression, 1 perhaps, 2 a statement, 3 a member, 4 the first one of a for)? -/
def mayB (k p : Int) : Bool :=
  if p = 0 then exB k else if p = 1 then exB k || k == 33 else if p = 2 then stB k else if p = 3 then stB k || k == 22 else k == 20 || k == 22 || k == 33
def poB (k : Int) (i : Nat) : Int :=
  if k = 21 then 3 else if k = 29 then 2
  else if k = 23 ∨ k = 24 ∨ k = 27 ∨ k = 28 then (if i = 0 then 0 else 2)
  else if k = 25 then (if i = 0 then 2 else 0)
  else if k = 26 then (if i = 0 then 4 else if i = 1 ∨ i = 2 then 1 else 2)
  else 0
/-- As the document has it. -/
def fitR (k : Int) (i : Nat) (q : Int) : Bool :=
  if (exB k || k == 20 || k == 32 || k == 22) = true then exB q
  else if k = 21 then stB q || q == 22
  else if k = 26 ∧ i = 0 then q == 20 || q == 22 || q == 33
  else if k = 26 ∧ i < 3 then exB q || q == 33
  else if (k = 25 ∧ i = 1) ∨ (k ≠ 25 ∧ k ≠ 26 ∧ k ≠ 29 ∧ i = 0) then exB q
  else stB q
theorem fit_eq {k n q : Int} {i : Nat} (h : hpB k n = true) (hi : (i : Int) < n) : mayB q (poB k i) = fitR k i q := by
  have hk : k = 1 ∨ k = 2 ∨ k = 3 ∨ k = 4 ∨ k = 5 ∨ k = 6 ∨ k = 7 ∨ k = 8 ∨ k = 9 ∨ k = 10 ∨ k = 11 ∨ k = 12 ∨ k = 13 ∨ k = 14 ∨ k = 15 ∨ k = 16 ∨ k = 17 ∨ k = 20 ∨ k = 21 ∨ k = 22 ∨ k = 23 ∨ k = 24 ∨ k = 25 ∨ k = 26 ∨ k = 27 ∨ k = 28 ∨ k = 29 ∨ k = 30 ∨ k = 31 ∨ k = 32 ∨ k = 33 := by
    unfold hpB at h
    (repeat' split at h) <;> first | omega | (simp at h)
  rcases hk with rfl | rfl | rfl | rfl | rfl | rfl | rfl | rfl | rfl | rfl | rfl | rfl | rfl | rfl | rfl | rfl | rfl | rfl | rfl | rfl | rfl | rfl | rfl | rfl | rfl | rfl | rfl | rfl | rfl | rfl | rfl
  all_goals first
    | rfl
    | (simp [hpB] at h; omega)
    | skip
  · -- if
    by_cases h0 : i = 0
    · subst h0; rfl
    · simp [mayB, poB, fitR, exB, h0]
  · by_cases h0 : i = 0
    · subst h0; rfl
    · simp [mayB, poB, fitR, exB, h0]
  · simp [hpB] at h
    have : i = 0 ∨ i = 1 := by omega
    rcases this with rfl | rfl <;> rfl
  · simp [hpB] at h
    have : i = 0 ∨ i = 1 ∨ i = 2 ∨ i = 3 := by omega
    rcases this with rfl | rfl | rfl | rfl <;> rfl
  · by_cases h0 : i = 0
    · subst h0; rfl
    · simp [mayB, poB, fitR, exB, h0]
  · by_cases h0 : i = 0
    · subst h0; rfl
    · simp [mayB, poB, fitR, exB, h0]
/-! ### How deep -/
/-- How deep each node's part is, told in order. -/
def dpF : List (List Nat) → List Nat → List Nat
  | [], l => l
  | p :: ps, l => dpF ps (l ++ [p.foldl (fun d q => max d (l.getD q 0)) 0 + 1])
/-- The stack of depths, gone over, as the document has it. -/
def deF : List NdT → List Nat → List Nat
  | [], st => st
  | x :: t, st => deF t (st.take (st.length - x.n.toNat) ++ [(st.drop (st.length - x.n.toNat)).foldl max 0 + 1])
theorem foldl_max_map (l : List Nat) (f : Nat → Nat) (d : Nat) : l.foldl (fun d q => max d (f q)) d = (l.map f).foldl max d := by
  induction l generalizing d with
  | nil => rfl
  | cons a l ih => exact ih _
theorem foldl_max_le (l : List Nat) (d : Nat) : d ≤ l.foldl max d ∧ ∀ x ∈ l, x ≤ l.foldl max d := by
  induction l generalizing d with
  | nil => exact ⟨Nat.le_refl _, fun x hx => by cases hx⟩
  | cons a l ih =>
    obtain ⟨h1, h2⟩ := ih (max d a)
    refine ⟨by show d ≤ l.foldl max (max d a); omega, fun x hx => ?_⟩
    rcases List.mem_cons.1 hx with rfl | hx
    · show x ≤ l.foldl max (max d x); omega
    · exact h2 x hx
/-- The stack of depths is the depths of the ends; each node is no deeper than one of the wholes. -/
structure Dp (i : Nat) (free : List Nat) (l st : List Nat) : Prop where
  ll : l.length = i
  lt : ∀ e ∈ free, e < i
  st : st = free.map fun e => l.getD e 0
  mx : ∀ k, k < i → ∃ e ∈ free, l.getD k 0 ≤ l.getD e 0
theorem Dp.start : Dp 0 [] [] [] := ⟨rfl, (fun e h => by cases h), rfl, fun k h => by omega⟩
theorem Dp.next {i n : Nat} {free l st : List Nat} (h : Dp i free l st) (hn : n ≤ free.length) : Dp (i + 1) (free.take (free.length - n) ++ [i]) (l ++ [(lastN free n).foldl (fun d q => max d (l.getD q 0)) 0 + 1]) (st.take (st.length - n) ++ [(st.drop (st.length - n)).foldl max 0 + 1]) := by
  have hsl : st.length = free.length := by rw [h.st, List.length_map]
  obtain ⟨D, hD⟩ : ∃ D, (lastN free n).foldl (fun d q => max d (l.getD q 0)) 0 = D := ⟨_, rfl⟩
  have hdr : (st.drop (st.length - n)).foldl max 0 = D := by
    rw [hsl, h.st, ← List.map_drop, ← foldl_max_map]
    exact hD
  rw [hD, hdr]
  have hold : ∀ k, k < i → (l ++ [D + 1]).getD k 0 = l.getD k 0 := fun k hk => by
    rw [List.getD_eq_getElem?_getD, List.getD_eq_getElem?_getD, List.getElem?_append_left (by rw [h.ll]; exact hk)]
  have hnew : (l ++ [D + 1]).getD i 0 = D + 1 := by
    rw [List.getD_eq_getElem?_getD, List.getElem?_append_right (by rw [h.ll]; exact Nat.le_refl _), h.ll, Nat.sub_self]
    rfl
  refine ⟨by rw [List.length_append, h.ll]; rfl, fun e he => ?_, ?_, fun k hk => ?_⟩
  · rcases List.mem_append.1 he with he | he
    · exact Nat.lt_succ_of_lt (h.lt e (List.mem_of_mem_take he))
    · rw [List.mem_singleton] at he
      omega
  · rw [List.map_append, hsl]
    congr 1
    · rw [h.st, ← List.map_take]
      refine List.map_congr_left fun e he => ?_
      exact (hold e (h.lt e (List.mem_of_mem_take he))).symm
    · show [D + 1] = [(l ++ [D + 1]).getD i 0]
      rw [hnew]
  · by_cases hki : k < i
    · obtain ⟨e, he, hle⟩ := h.mx k hki
      rw [hold k hki]
      have hsp := List.take_append_drop (free.length - n) free
      rw [← hsp] at he
      rcases List.mem_append.1 he with he | he
      · exact ⟨e, List.mem_append_left _ he, by rw [hold e (h.lt e (List.mem_of_mem_take he))]; exact hle⟩
      · refine ⟨i, by simp, ?_⟩
        rw [hnew]
        have h1 := (foldl_max_le ((lastN free n).map fun q => l.getD q 0) 0).2 (l.getD e 0) (List.mem_map.2 ⟨e, he, rfl⟩)
        rw [← foldl_max_map, hD] at h1
        omega
    · obtain rfl : k = i := by omega
      exact ⟨k, by simp, Nat.le_refl _⟩
theorem gr_dp : ∀ (t : List NdT) (i : Nat) (free : List Nat) (ps : List (List Nat)) (l st free' : List Nat) (ps' : List (List Nat)), Dp i free l st → grF t i free ps = some (free', ps') → ∃ ns, ps' = ps ++ ns ∧ ns.length = t.length ∧ Dp (i + t.length) free' (dpF ns l) (deF t st)
  | [], i, free, ps, l, st, free', ps', h, hg => by
    unfold grF at hg
    cases hg
    exact ⟨[], by rw [List.append_nil], rfl, h⟩
  | x :: t, i, free, ps, l, st, free', ps', h, hg => by
    unfold grF at hg
    split at hg
    · rename_i hx
      obtain ⟨ns, h1, h2, h3⟩ := gr_dp t (i + 1) _ _ _ _ _ _ (h.next hx.2) hg
      refine ⟨lastN free x.n.toNat :: ns, by rw [h1, List.append_assoc]; rfl, by rw [List.length_cons, List.length_cons, h2], ?_⟩
      rw [List.length_cons, show i + (t.length + 1) = i + 1 + t.length by omega]
      exact h3
    · cases hg
/-- How deep a whole is: the deepest of its nodes, and the one depth that is left on the stack. -/
theorem deep_eq {t : List NdT} {ps : List (List Nat)} (h : grow t = some ps) : ps.length = t.length ∧ (dpF ps []).length = t.length ∧ ∃ d, deF t [] = [d] ∧ (∀ x ∈ dpF ps [], x ≤ d) ∧ d ∈ dpF ps [] := by
  unfold grow at h
  cases hg : grF t 0 [] [] with
  | none => rw [hg] at h; cases h
  | some r =>
    obtain ⟨free, ps'⟩ := r
    rw [hg] at h
    have h : (if free.length = 1 then some ps' else none) = some ps := h
    split at h
    · rename_i h1
      cases h
      obtain ⟨ns, e1, e2, hd⟩ := gr_dp t 0 [] [] [] [] free ps Dp.start hg
      rw [List.nil_append] at e1
      subst e1
      rw [Nat.zero_add] at hd
      match free, h1 with
      | [e], _ =>
        refine ⟨e2, hd.ll, (dpF ps []).getD e 0, by rw [hd.st]; rfl, fun x hx => ?_, ?_⟩
        · obtain ⟨k, hk⟩ := List.getElem?_of_mem hx
          have hkl := (List.getElem?_eq_some_iff.1 hk).1
          rw [hd.ll] at hkl
          obtain ⟨e', he', hle⟩ := hd.mx k hkl
          rw [List.mem_singleton] at he'
          subst he'
          rw [List.getD_eq_getElem?_getD, hk] at hle
          exact hle
        · have he := hd.lt e (by simp)
          rw [← hd.ll] at he
          rw [List.getD_eq_getElem?_getD, List.getElem?_eq_getElem he]
          exact List.getElem_mem he
    · cases h
/-! ### Open ifs -/
def opK (k : Int) : Bool := k == 23 || k == 24 || k == 26 || k == 27 || k == 28 || k == 29
/-- Of a node: is it an open if, those ahead of it being told? -/
def opN (x : NdT) (p : List Nat) (l : List Bool) : Bool := opK x.kind && ((x.kind == 23 && x.n == 2) || l.getD (p.getD (x.n.toNat - 1) 0) false)
def opF : List NdT → List (List Nat) → List Bool → List Bool
  | x :: t, p :: ps, l => opF t ps (l ++ [opN x p l])
  | _, _, l => l
theorem opF_pre : ∀ (t : List NdT) (ps : List (List Nat)) (l : List Bool), ∃ m, opF t ps l = l ++ m
  | [], _, l => ⟨[], by unfold opF; rw [List.append_nil]⟩
  | x :: t, [], l => ⟨[], by unfold opF; rw [List.append_nil]⟩
  | x :: t, p :: ps, l => by
    obtain ⟨m, hm⟩ := opF_pre t ps (l ++ [opN x p l])
    exact ⟨[opN x p l] ++ m, by show opF t ps _ = _; rw [hm, List.append_assoc]⟩
theorem opF_at : ∀ (t : List NdT) (ps : List (List Nat)) (l : List Bool) (j : Nat) (x : NdT) (p : List Nat), t[j]? = some x → ps[j]? = some p → (∀ q, p.getD q 0 < l.length + j ∨ q ≥ p.length) → p.length = x.n.toNat → (opK x.kind = true → 0 < x.n.toNat) → (opF t ps l)[l.length + j]? = some (opN x p (opF t ps l))
  | x0 :: t, p0 :: ps, l, 0, x, p, hx, hp, hlt, hpl, hk => by
    cases hx
    cases hp
    obtain ⟨m, hm⟩ := opF_pre t ps (l ++ [opN x0 p0 l])
    show (opF t ps (l ++ [opN x0 p0 l]))[l.length + 0]? = some (opN x0 p0 (opF t ps (l ++ [opN x0 p0 l])))
    rw [hm, List.append_assoc, List.getElem?_append_right (by omega), Nat.add_zero, Nat.sub_self]
    show some (opN x0 p0 l) = _
    congr 1
    unfold opN
    cases hkk : opK x0.kind with
    | false => rfl
    | true =>
      congr 2
      have h1 := hk hkk
      have h2 := (hlt (x0.n.toNat - 1)).resolve_right (by omega)
      generalize p0.getD (x0.n.toNat - 1) 0 = A at h2 ⊢
      rw [List.getD_eq_getElem?_getD, List.getD_eq_getElem?_getD, List.getElem?_append_left (by omega)]
  | x0 :: t, p0 :: ps, l, j + 1, x, p, hx, hp, hlt, hpl, hk => by
    have ih := opF_at t ps (l ++ [opN x0 p0 l]) j x p hx hp (fun q => by
      rcases hlt q with h | h
      · left; rw [List.length_append, List.length_singleton]; omega
      · exact .inr h) hpl hk
    rw [List.length_append, List.length_singleton] at ih
    show (opF t ps (l ++ [opN x0 p0 l]))[l.length + (j + 1)]? = some (opN x p (opF t ps (l ++ [opN x0 p0 l])))
    rw [show l.length + (j + 1) = l.length + 1 + j by omega]
    exact ih
  | [], _, _, _, _, _, hx, _, _, _, _ => by cases hx
  | _ :: _, [], _, _, _, _, _, hp, _, _, _ => by cases hp
/-- As the document has it, by a number of steps. -/
def opR (t : List NdT) (ps : List (List Nat)) : Nat → Nat → Bool
  | 0, _ => false
  | m + 1, a => match t[a]? with
    | some x => if x.kind = 23 then (x.n == 2) || opR t ps m (((ps[a]?).getD []).getD (x.n.toNat - 1) 0) else if opK x.kind = true then opR t ps m (((ps[a]?).getD []).getD (x.n.toNat - 1) 0) else false
    | none => false
/-- Parts that lie ahead of their node, as many as it says. -/
def PsWf (t : List NdT) (ps : List (List Nat)) : Prop := ps.length = t.length ∧ ∀ (j : Nat) (x : NdT) (p : List Nat), t[j]? = some x → ps[j]? = some p → hpB x.kind x.n = true ∧ p.length = x.n.toNat ∧ ∀ q ∈ p, q < j
theorem op_pos {k n : Int} (h : hpB k n = true) (hk : opK k = true) : 0 < n.toNat := by
  unfold opK at hk
  simp at hk
  unfold hpB at h
  (repeat' split at h) <;> simp at h <;> omega
theorem op_eq {t : List NdT} {ps : List (List Nat)} (hw : PsWf t ps) : ∀ (m a : Nat), a < m → a < t.length → opR t ps m a = (opF t ps []).getD a false
  | 0, a, h, _ => by omega
  | m + 1, a, h, ha => by
    have hx : t[a]? = some t[a] := List.getElem?_eq_getElem ha
    have hp : ps[a]? = some (ps[a]'(by rw [hw.1]; exact ha)) := List.getElem?_eq_getElem (by rw [hw.1]; exact ha)
    obtain ⟨w1, w2, w3⟩ := hw.2 a _ _ hx hp
    obtain ⟨x, hxe⟩ : ∃ x, t[a] = x := ⟨_, rfl⟩
    obtain ⟨p, hpe⟩ : ∃ p, ps[a]'(by rw [hw.1]; exact ha) = p := ⟨_, rfl⟩
    rw [hxe] at hx w1 w2
    rw [hpe] at hp w2 w3
    have hlt : ∀ q, p.getD q 0 < ([] : List Bool).length + a ∨ q ≥ p.length := fun q => by
      by_cases hq : q < p.length
      · left
        rw [List.getD_eq_getElem?_getD, List.getElem?_eq_getElem hq]
        have := w3 _ (List.getElem_mem hq)
        show p[q] < 0 + a
        omega
      · exact .inr (by omega)
    have hat := opF_at t ps [] a x p hx hp hlt w2 (op_pos w1)
    rw [show ([] : List Bool).length + a = a by simp] at hat
    rw [List.getD_eq_getElem?_getD, hat]
    show (match t[a]? with | some x => _ | none => _) = opN x p (opF t ps [])
    rw [hx]
    show (if x.kind = 23 then _ else _) = _
    rw [hp]
    show (if x.kind = 23 then (x.n == 2) || opR t ps m (p.getD (x.n.toNat - 1) 0) else if opK x.kind = true then opR t ps m (p.getD (x.n.toNat - 1) 0) else false) = _
    unfold opN
    cases hk : opK x.kind with
    | false =>
      have h23 : ¬ x.kind = 23 := fun e => by rw [e] at hk; cases hk
      rw [if_neg h23]
      rfl
    | true =>
      have hpos := op_pos w1 hk
      have hq := (hlt (x.n.toNat - 1)).resolve_right (by omega)
      rw [show ([] : List Bool).length + a = a by simp] at hq
      have ih := op_eq hw m (p.getD (x.n.toNat - 1) 0) (by omega) (by omega)
      rw [ih]
      by_cases h23 : x.kind = 23
      · rw [if_pos h23, h23]
        rfl
      · rw [if_neg h23]
        have : (x.kind == 23) = false := by simpa using h23
        rw [this]
        rfl
end Go.Proofs.YtjadckhngalmlaaGreatDoor
namespace Go.Proofs.YtjadckhngalmlaaGreatDoor
set_option linter.unusedVariables false
set_option linter.unusedSimpArgs false

theorem all_no {n : Nat} {f : Nat → Bool} {i : Nat} (hi : i < n) (h : f i = false) : (List.range n).all f = false := by
  rw [Bool.eq_false_iff]
  intro h2
  rw [List.all_eq_true] at h2
  have := h2 i (List.mem_range.2 hi)
  rw [h] at this
  cases this
theorem all_yes {n : Nat} {f : Nat → Bool} (h : ∀ i, i < n → f i = true) : (List.range n).all f = true := by
  rw [List.all_eq_true]
  exact fun i hi => h i (List.mem_range.1 hi)
theorem all_congr {n : Nat} {f g : Nat → Bool} (h : ∀ i, i < n → f i = g i) : (List.range n).all f = (List.range n).all g := by
  rw [Bool.eq_iff_iff, List.all_eq_true, List.all_eq_true]
  exact ⟨fun h1 i hi => by rw [← h i (List.mem_range.1 hi)]; exact h1 i hi, fun h1 i hi => by rw [h i (List.mem_range.1 hi)]; exact h1 i hi⟩
/-- The parts of the node at a place: one behind the other ahead of it, as the beginnings tell. -/
structure Pr (fr : List Nat) (j : Nat) (p : List Nat) : Prop where
  lt : ∀ (i q : Nat), p[i]? = some q → q < j
  last : ∀ (i q : Nat), p[i]? = some q → i + 1 = p.length → q + 1 = j
  nx : ∀ (i q q' : Nat), p[i]? = some q → p[i + 1]? = some q' → fr[q']? = some (q + 1)
  hd0 : p[0]? = none → fr[j]? = some j
  hd : ∀ q, p[0]? = some q → fr[j]? = fr[q]?
theorem Pr.ext {fr : List Nat} {j : Nat} {p : List Nat} (h : Pr fr j p) (hj : j < fr.length) (b : Nat) : Pr (fr ++ [b]) j p := by
  refine ⟨h.lt, h.last, fun i q q' h1 h2 => ?_, fun h1 => ?_, fun q h1 => ?_⟩
  · have := h.lt _ _ h2
    rw [List.getElem?_append_left (by omega)]
    exact h.nx i q q' h1 h2
  · rw [List.getElem?_append_left hj]
    exact h.hd0 h1
  · have := h.lt _ _ h1
    rw [List.getElem?_append_left hj, List.getElem?_append_left (by omega)]
    exact h.hd q h1
theorem Ch.pr {i n : Nat} {free st fr : List Nat} (h : Ch i free st fr) (hn : n ≤ free.length) {b : Nat} (hb : b = if 0 < n then st.getD (free.length - n) 0 else i) : Pr (fr ++ [b]) i (lastN free n) ∧ (lastN free n).length = n := by
  have hl : (lastN free n).length = n := by unfold lastN; rw [List.length_drop]; omega
  obtain ⟨m, hm⟩ : ∃ m, free.length - n = m := ⟨_, rfl⟩
  have gl : ∀ k : Nat, (lastN free n)[k]? = free[m + k]? := fun k => by unfold lastN; rw [List.getElem?_drop, hm]
  rw [hm] at hb
  have hnew : (fr ++ [b])[i]? = some b := by
    rw [List.getElem?_append_right (by rw [h.fl]; exact Nat.le_refl _), h.fl, Nat.sub_self]
    rfl
  refine ⟨⟨fun k q hk => ?_, fun k q hk hl2 => ?_, fun k q q' h1 h2 => ?_, fun h0 => ?_, fun q hq => ?_⟩, hl⟩
  · rw [gl] at hk
    exact h.lt _ _ hk
  · rw [gl] at hk
    exact (h.nx _ _ hk).1 (by omega)
  · rw [gl] at h1 h2
    have h3 := (h.nx _ _ h1).2
    have h4 := h.bg _ _ h2
    have h5 := h.lt _ _ h2
    rw [List.getElem?_append_left (by rw [h.fl]; exact h5), h4]
    have hlt := (List.getElem?_eq_some_iff.1 h2).1
    rw [h.ln] at hlt
    have hs : st[m + k + 1]? = some (st[m + k + 1]'(by omega)) := List.getElem?_eq_getElem (by omega)
    rw [show m + (k + 1) = m + k + 1 by omega, hs, h3 _ hs]
  · have : n = 0 := by
      rw [List.getElem?_eq_none_iff] at h0
      omega
    subst this
    rw [hnew, hb, if_neg (by omega)]
  · have hlt := (List.getElem?_eq_some_iff.1 hq).1
    rw [hl] at hlt
    rw [gl] at hq
    rw [Nat.add_zero] at hq
    have h5 := h.lt _ _ hq
    have h4 := h.bg _ _ hq
    rw [hnew, List.getElem?_append_left (by rw [h.fl]; exact h5), h4, hb, if_pos (by omega), List.getD_eq_getElem?_getD]
    have hms : m < st.length := by rw [← h.ln]; exact (List.getElem?_eq_some_iff.1 hq).1
    rw [List.getElem?_eq_getElem hms]
    rfl
/-- The parts of the first nodes. -/
def PsG (t0 : List NdT) (i : Nat) (ps : List (List Nat)) (fr : List Nat) : Prop := ps.length = i ∧ ∀ (j : Nat) (x : NdT), j < i → t0[j]? = some x → ∃ p, ps[j]? = some p ∧ p.length = x.n.toNat ∧ hpB x.kind x.n = true ∧ x.n.toNat ≤ j ∧ Pr fr j p
theorem gr_pr (t0 : List NdT) : ∀ (t : List NdT) (i : Nat) (free : List Nat) (ps : List (List Nat)) (st fr free' : List Nat) (ps' : List (List Nat)) (st' fr' : List Nat), t0.drop i = t → Ch i free st fr → free.length ≤ i → PsG t0 i ps fr → grF t i free ps = some (free', ps') → bgF t i st fr = some (st', fr') → PsG t0 (i + t.length) ps' fr' ∧ Ch (i + t.length) free' st' fr'
  | [], i, free, ps, st, fr, free', ps', st', fr', _, h, _, hp, h1, h2 => by
    unfold grF at h1
    unfold bgF at h2
    cases h1
    cases h2
    exact ⟨hp, h⟩
  | x :: t, i, free, ps, st, fr, free', ps', st', fr', hd, h, hfi, hp, h1, h2 => by
    unfold grF at h1
    split at h1
    · rename_i hx
      have hn := hp_nn hx.1
      have hdi : t0[i]? = some x := by
        have h1 : (t0.drop i)[0]? = some x := by rw [hd]; rfl
        rw [List.getElem?_drop] at h1
        simpa using h1
      have hd2 : t0.drop (i + 1) = t := by
        have : (t0.drop i).drop 1 = t := by rw [hd]; rfl
        rw [List.drop_drop] at this
        exact this
      obtain ⟨b, hb⟩ : ∃ b, (if 0 < x.n.toNat then st.getD (free.length - x.n.toNat) 0 else i) = b := ⟨_, rfl⟩
      have hb2 : (if 0 < x.n then st.getD (st.length - x.n.toNat) 0 else i) = b := by
        rw [← hb, h.ln]
        by_cases h0 : 0 < x.n
        · rw [if_pos h0, if_pos (by omega)]
        · rw [if_neg h0, if_neg (by omega)]
      unfold bgF at h2
      rw [if_neg (by rw [← h.ln]; omega), hb2, ← h.ln] at h2
      have hc := h.next hx.2 hb.symm
      obtain ⟨hpr, hpl⟩ := h.pr hx.2 hb.symm
      have hps : PsG t0 (i + 1) (ps ++ [lastN free x.n.toNat]) (fr ++ [b]) := by
        refine ⟨by rw [List.length_append, hp.1]; rfl, fun j y hj hy => ?_⟩
        by_cases hji : j < i
        · obtain ⟨p, e1, e2, e3, e4, e5⟩ := hp.2 j y hji hy
          exact ⟨p, by rw [List.getElem?_append_left (by rw [hp.1]; exact hji)]; exact e1, e2, e3, e4, e5.ext (by rw [h.fl]; exact hji) b⟩
        · obtain rfl : j = i := by omega
          rw [hdi] at hy
          cases hy
          exact ⟨_, by rw [List.getElem?_append_right (by rw [hp.1]; exact Nat.le_refl _), hp.1, Nat.sub_self]; rfl, hpl, hx.1, by omega, hpr⟩
      have := gr_pr t0 t (i + 1) _ _ _ _ _ _ _ _ hd2 hc (by rw [List.length_append, List.length_take, List.length_singleton]; omega) hps h1 h2
      rw [List.length_cons, show i + (t.length + 1) = i + 1 + t.length by omega]
      exact this
    · cases h1
theorem gr_all : ∀ (t : List NdT) (i : Nat) (free : List Nat) (ps : List (List Nat)) (r : List Nat × List (List Nat)), free.length ≤ i → grF t i free ps = some r → ∀ x ∈ t, hpB x.kind x.n = true ∧ x.n.toNat ≤ i + t.length
  | [], _, _, _, _, _, _, x, hx => by cases hx
  | y :: t, i, free, ps, r, hi, h, x, hx => by
    unfold grF at h
    split at h
    · rename_i hy
      rcases List.mem_cons.1 hx with rfl | hx
      · exact ⟨hy.1, by rw [List.length_cons]; omega⟩
      · have := gr_all t (i + 1) _ _ r (by rw [List.length_append, List.length_take, List.length_singleton]; omega) h x hx
        exact ⟨this.1, by rw [List.length_cons]; omega⟩
    · cases h
/-- The beginnings; none: not well formed. -/
def bgn (t : List NdT) : Option (List Nat) := match bgF t 0 [] [] with
  | some (st, fr) => if st.length = 1 then some fr else none
  | none => none
theorem gr_begins (t : List NdT) (ha : ∀ x ∈ t, hpB x.kind x.n = true) : (grow t = none ∧ bgn t = none) ∨ ∃ (ps : List (List Nat)) (fr : List Nat), grow t = some ps ∧ bgn t = some fr ∧ PsG t t.length ps fr ∧ fr.length = t.length ∧ ∀ (k b : Nat), (fr : List Nat)[k]? = some b → b ≤ k := by
  rcases gr_bg t t 0 [] [] [] [] rfl Ch.start ⟨rfl, fun j x h => by omega⟩ ha with ⟨h1, h2⟩ | ⟨f', p', s', r', h1, h2, h3, _⟩
  · left
    unfold grow bgn
    rw [h1, h2]
    exact ⟨rfl, rfl⟩
  · obtain ⟨hg, hc⟩ := gr_pr t t 0 [] [] [] [] _ _ _ _ rfl Ch.start (Nat.le_refl _) ⟨rfl, fun j x h => by omega⟩ h1 h2
    rw [Nat.zero_add] at hg hc
    by_cases hl : f'.length = 1
    · right
      refine ⟨p', r', ?_, ?_, hg, hc.fl, hc.fe⟩
      · unfold grow
        rw [h1]
        show (if f'.length = 1 then some p' else none) = _
        rw [if_pos hl]
      · unfold bgn
        rw [h2]
        show (if s'.length = 1 then some r' else none) = _
        rw [if_pos (by rw [← hc.ln]; exact hl)]
    · left
      unfold grow bgn
      rw [h1, h2]
      show (if f'.length = 1 then some p' else none) = _ ∧ (if s'.length = 1 then some r' else none) = _
      rw [if_neg hl, if_neg (by rw [← hc.ln]; exact hl)]
      exact ⟨rfl, rfl⟩
/-- The kind of the node at a place. -/
def kdA (t : List NdT) (q : Nat) : Int := match t[q]? with
  | some x => x.kind
  | none => 0
/-- Do the parts of the node at a place fit? As the code has it. -/
def fitB (t : List NdT) (ps : List (List Nat)) (j : Nat) : Bool := match t[j]?, ps[j]? with
  | some x, some p => (List.range p.length).all (fun i => mayB (kdA t (p.getD i 0)) (poB x.kind i)) && !(x.kind == 23 && x.n == 3 && (opF t ps []).getD (p.getD 1 0) false)
  | _, _ => true
/-- As the document has it. -/
def fitD (t : List NdT) (ps : List (List Nat)) (j : Nat) : Bool := match t[j]?, ps[j]? with
  | some x, some p => (List.range p.length).all (fun i => fitR x.kind i (kdA t (p.getD i 0))) && !(x.kind == 23 && decide (3 ≤ p.length) && opR t ps t.length (p.getD 1 0))
  | _, _ => true
theorem PsG.wf {t : List NdT} {ps : List (List Nat)} {fr : List Nat} (h : PsG t t.length ps fr) : PsWf t ps := by
  refine ⟨h.1, fun j x p hx hp => ?_⟩
  obtain ⟨p', e1, e2, e3, _, e5⟩ := h.2 j x (List.getElem?_eq_some_iff.1 hx).1 hx
  rw [hp] at e1
  cases e1
  exact ⟨e3, e2, fun q hq => by
    obtain ⟨k, hk⟩ := List.getElem?_of_mem hq
    exact e5.lt k q hk⟩
theorem fit_both {t : List NdT} {ps : List (List Nat)} (h : PsWf t ps) (j : Nat) : fitB t ps j = fitD t ps j := by
  unfold fitB fitD
  cases hx : t[j]? with
  | none => rfl
  | some x =>
    cases hp : ps[j]? with
    | none => rfl
    | some p =>
      obtain ⟨e1, e2, e3⟩ := h.2 j x p hx hp
      have hn := hp_nn e1
      show ((List.range p.length).all (fun i => mayB (kdA t (p.getD i 0)) (poB x.kind i)) && !(x.kind == 23 && x.n == 3 && (opF t ps []).getD (p.getD 1 0) false)) = ((List.range p.length).all (fun i => fitR x.kind i (kdA t (p.getD i 0))) && !(x.kind == 23 && decide (3 ≤ p.length) && opR t ps t.length (p.getD 1 0)))
      rw [all_congr (fun i hi => fit_eq e1 (by omega : (i : Int) < x.n))]
      congr 2
      by_cases hk : x.kind = 23
      · have hn3 : (x.n == 3) = decide (3 ≤ p.length) := by
          have h2 := e1
          rw [hk] at h2
          simp [hpB] at h2
          rw [Bool.eq_iff_iff]
          simp
          omega
        rw [hk, ← hn3]
        by_cases h3 : x.n = 3
        · have hl : 1 < p.length := by omega
          have hq := e3 (p.getD 1 0) (by
            rw [List.getD_eq_getElem?_getD, List.getElem?_eq_getElem hl]
            exact List.getElem_mem hl)
          have hj := (List.getElem?_eq_some_iff.1 hx).1
          rw [op_eq h t.length (p.getD 1 0) (by omega) (by omega)]
        · have : (x.n == 3) = false := by simpa using h3
          rw [this]
          simp
      · have : (x.kind == 23) = false := by simpa using hk
        rw [this]
        rfl
/-! ### The whole answer -/
/-- Is a node right by itself, with as many parts as its kind may have? -/
def wlR (wl : NdT → Bool) (x : NdT) : Bool := (decide (0 ≤ (arI x.kind).1) && decide ((arI x.kind).1 ≤ x.n) && decide (x.n ≤ (arI x.kind).2)) && wl x
def goodB (wl : NdT → Bool) (t : List NdT) : Bool := match grow t with
  | some ps => t.all wl && (List.range t.length).all (fitB t ps)
  | none => false
/-- What is wrong with a tree; 0: nothing. -/
def ckA (wl : NdT → Bool) (t : List NdT) : Nat := if 4096 < t.length then 3 else if goodB wl t = true then (if 48 < (deF t []).headD 0 then 3 else 0) else 90
def goodR (wl : NdT → Bool) (t : List NdT) : Bool := t.all (wlR wl) && (match bgn t, grow t with
  | some _, some ps => (List.range t.length).all (fitD t ps)
  | _, _ => false)
theorem ar_le (k : Int) : (arI k).2 ≤ 4096 := by
  unfold arI
  (repeat' split) <;> decide
theorem wl_hp {wl : NdT → Bool} {x : NdT} (h : wlR wl x = true) : hpB x.kind x.n = true ∧ wl x = true := by
  unfold wlR at h
  rw [Bool.and_eq_true] at h
  refine ⟨?_, h.2⟩
  have h2 : x.n ≤ (arI x.kind).2 := by
    have := h.1
    rw [Bool.and_eq_true, decide_eq_true_eq] at this
    exact this.2
  rw [hp_ar _ _ (Int.le_trans h2 (ar_le _))]
  exact h.1
theorem hp_wl {wl : NdT → Bool} {x : NdT} (h : hpB x.kind x.n = true) (hn : x.n ≤ 4096) (hw : wl x = true) : wlR wl x = true := by
  unfold wlR
  rw [← hp_ar _ _ hn, h, hw]
  rfl
theorem good_eq (wl : NdT → Bool) (t : List NdT) (hl : t.length ≤ 4096) : goodR wl t = goodB wl t := by
  by_cases ha : t.all (wlR wl) = true
  · unfold goodR
    rw [ha, Bool.true_and]
    rw [List.all_eq_true] at ha
    unfold goodB
    rcases gr_begins t (fun x hx => (wl_hp (ha x hx)).1) with ⟨h1, h2⟩ | ⟨ps, fr, h1, h2, h3, h4⟩
    · rw [h1, h2]
    · rw [h1, h2]
      have hw : t.all wl = true := by rw [List.all_eq_true]; exact fun x hx => (wl_hp (ha x hx)).2
      show (List.range t.length).all (fitD t ps) = (t.all wl && (List.range t.length).all (fitB t ps))
      rw [hw, Bool.true_and]
      exact (all_congr fun j _ => fit_both h3.wf j).symm
  · unfold goodR
    rw [Bool.eq_false_iff.2 ha, Bool.false_and]
    symm
    rw [Bool.eq_false_iff]
    intro hg
    apply ha
    unfold goodB at hg
    cases hgr : grow t with
    | none => rw [hgr] at hg; cases hg
    | some ps =>
      rw [hgr] at hg
      have hg : (t.all wl && (List.range t.length).all (fitB t ps)) = true := hg
      rw [Bool.and_eq_true] at hg
      have hw := List.all_eq_true.1 hg.1
      unfold grow at hgr
      cases hg2 : grF t 0 [] [] with
      | none => rw [hg2] at hgr; cases hgr
      | some r =>
        rw [List.all_eq_true]
        intro x hx
        have h9 := gr_all t 0 [] [] r (Nat.le_refl _) hg2 x hx
        exact hp_wl h9.1 (by omega) (hw x hx)
/-- A right tree: its parts and beginnings. -/
theorem good_parts {wl : NdT → Bool} {t : List NdT} (h : goodB wl t = true) (hl : t.length ≤ 4096) : ∃ (ps : List (List Nat)) (fr : List Nat), grow t = some ps ∧ bgn t = some fr ∧ PsG t t.length ps fr ∧ fr.length = t.length ∧ (∀ (k b : Nat), (fr : List Nat)[k]? = some b → b ≤ k) ∧ t.all wl = true ∧ (List.range t.length).all (fitB t ps) = true := by
  have hr := good_eq wl t hl
  rw [h] at hr
  unfold goodR at hr
  rw [Bool.and_eq_true] at hr
  have ha := List.all_eq_true.1 hr.1
  unfold goodB at h
  rcases gr_begins t (fun x hx => (wl_hp (ha x hx)).1) with ⟨h1, h2⟩ | ⟨ps, fr, h1, h2, h3, h4, h5⟩
  · rw [h1] at h
    cases h
  · rw [h1] at h
    have h : (t.all wl && (List.range t.length).all (fitB t ps)) = true := h
    rw [Bool.and_eq_true] at h
    exact ⟨ps, fr, h1, h2, h3, h4, h5, h.1, h.2⟩
end Go.Proofs.YtjadckhngalmlaaGreatDoor
