/-
  Plain: what a symbol is; an operation's word is one that some form of fields behind it makes an instruction.
-/
import Derived.Test.YthekokjmdjokgaaDoorIsaParse
namespace Go.Proofs.YthekokjmdjokgaaDoor
set_option linter.unusedVariables false
set_option linter.unusedSimpArgs false

/-- Is a byte a digit; may a symbol begin with it? -/
def digB (c : Int) : Bool := decide (48 ≤ c) && decide (c ≤ 57)
def begB (c : Int) : Bool := (decide (97 ≤ c) && decide (c ≤ 122)) || (decide (65 ≤ c) && decide (c ≤ 90)) || decide (c = 95) || decide (c = 46) || decide (c = 36)
def dig8 (c : UInt8) : Bool := digB c.toNat
def beg8 (c : UInt8) : Bool := begB c.toNat
/-- The bytes that a symbol may have. -/
def symC (l : List UInt8) : Bool := decide (l ≠ []) && decide (l.length ≤ 63) && !dig8 (l[0]?.getD 0) && l.all (fun c => dig8 c || beg8 c)
def ownTab : List (List UInt8) := [[46, 116, 101, 120, 116], [46, 100, 97, 116, 97], [46, 103, 108, 111, 98, 97, 108], [46, 97, 108, 105, 103, 110], [46, 119, 111, 114, 100], [46, 98, 121, 116, 101], [46, 115, 112, 97, 99, 101], [108, 97], [99, 111, 110, 115, 116], [104, 105, 103, 104], [108, 111, 119]]
@[irreducible] def ownB (l : List UInt8) : Bool := ownTab.contains l
@[irreducible] def regL (l : List UInt8) : Bool := decide (l[0]? = some 114) && decide (1 < l.length) && (l.drop 1).all dig8
@[irreducible] def operB (l : List UInt8) : Bool := ((List.range 43).drop 1).any fun k => nm (k : Int) == l
/-- Is a text a symbol? -/
def symB (l : List UInt8) : Bool := symC l && !ownB l && !regL l && !operB l
/-- The fields that are tried. -/
def fldTab : List (List UInt8) := [[32, 114, 48, 32, 114, 48, 32, 114, 48], [32, 114, 48, 32, 114, 48, 32, 56], [32, 114, 48, 32, 56], [32, 114, 48], [32, 56]]
def fld (j : Nat) : List UInt8 := fldTab[j]?.getD []
theorem itoa0 : Lib.itoa 0 = [48] := by
  unfold Lib.itoa
  rw [if_neg (by omega), Lib.decDigits, dif_pos (by decide)]
  rfl
theorem itoa8 : Lib.itoa 8 = [56] := by
  unfold Lib.itoa
  rw [if_neg (by omega), show (8 : Int).toNat = 8 from rfl, Lib.decDigits, dif_pos (by decide)]
  rfl
theorem pB_pr (op d a b i : Int) (h : chkB op d a b i = true) (hl : (prL op d a b i).length ≤ 65536) : pB (prL op d a b i) = true := by
  obtain ⟨e1, e2, e3, e4, e5⟩ := txt_back op d a b i h
  unfold pB
  rw [e1, e2, e3, e4, e5, h, prR_yes _ _ _ _ _ h]
  simp [hl]
theorem form_ok (op d a b i : Int) (f : Int) (hf : formI op = f) (h0 : f ≠ 0) (h1 : regB (lD f) d = true) (h2 : regB (lA f) a = true) (h3 : regB (lB f) b = true) (h4 : fitB f i = true) : chkB op d a b i = true := by
  unfold chkB
  rw [hf]
  simp [h0, h1, h2, h3, h4]
theorem form_pos : ∀ k : Fin 43, 1 ≤ k.val → formI (k.val : Int) ≠ 0 := by decide +kernel
theorem oper_one (op : Int) (f : Int) (hf : formI op = f) (i : Int) (j : Nat) (h0 : f ≠ 0) (h1 : regB (lD f) 0 = true) (h2 : regB (lA f) 0 = true) (h3 : regB (lB f) 0 = true) (h4 : fitB f i = true)
    (ht : (if lD f then [32, 114] ++ Lib.itoa 0 else []) ++ (if lA f then [32, 114] ++ Lib.itoa 0 else []) ++ (if lB f then [32, 114] ++ Lib.itoa 0 else []) ++ (if lBits f > 0 then [32] ++ Lib.itoa i else []) = fld j) : pB (nm op ++ fld j) = true := by
  have hc := form_ok op 0 0 0 i f hf h0 h1 h2 h3 h4
  have e : prL op 0 0 0 i = nm op ++ fld j := by
    rw [pr_eq, hf, ← ht]
    simp only [List.append_assoc]
  rw [← e]
  refine pB_pr _ _ _ _ _ hc ?_
  rw [e]
  have := nm_len op
  have : (fld j).length ≤ 9 := by
    unfold fld fldTab
    rcases j with _ | _ | _ | _ | _ | j <;> simp
  simp
  omega
theorem oper_yes (k : Nat) (h1 : 1 ≤ k) (h2 : k < 43) : ∃ j, j < 5 ∧ pB (nm (k : Int) ++ fld j) = true := by
  have hf := form_pos ⟨k, h2⟩ h1
  have hb := formI_bd (k : Int)
  have hi0 := itoa0
  have hi8 := itoa8
  rcases form_cases _ hb.1 hb.2 with h | h | h | h | h | h | h | h | h | h | h | h | h
  · exact absurd h hf
  · exact ⟨0, by decide, oper_one _ 1 h 0 0 (by decide) (by decide +kernel) (by decide +kernel) (by decide +kernel) (by decide +kernel) (by rw [hi0]; decide +kernel)⟩
  · exact ⟨1, by decide, oper_one _ 2 h 8 1 (by decide) (by decide +kernel) (by decide +kernel) (by decide +kernel) (by decide +kernel) (by rw [hi0, hi8]; decide +kernel)⟩
  · exact ⟨1, by decide, oper_one _ 3 h 8 1 (by decide) (by decide +kernel) (by decide +kernel) (by decide +kernel) (by decide +kernel) (by rw [hi0, hi8]; decide +kernel)⟩
  · exact ⟨1, by decide, oper_one _ 4 h 8 1 (by decide) (by decide +kernel) (by decide +kernel) (by decide +kernel) (by decide +kernel) (by rw [hi0, hi8]; decide +kernel)⟩
  · exact ⟨2, by decide, oper_one _ 5 h 8 2 (by decide) (by decide +kernel) (by decide +kernel) (by decide +kernel) (by decide +kernel) (by rw [hi0, hi8]; decide +kernel)⟩
  · exact ⟨2, by decide, oper_one _ 6 h 8 2 (by decide) (by decide +kernel) (by decide +kernel) (by decide +kernel) (by decide +kernel) (by rw [hi0, hi8]; decide +kernel)⟩
  · exact ⟨1, by decide, oper_one _ 7 h 8 1 (by decide) (by decide +kernel) (by decide +kernel) (by decide +kernel) (by decide +kernel) (by rw [hi0, hi8]; decide +kernel)⟩
  · exact ⟨2, by decide, oper_one _ 8 h 8 2 (by decide) (by decide +kernel) (by decide +kernel) (by decide +kernel) (by decide +kernel) (by rw [hi0, hi8]; decide +kernel)⟩
  · exact ⟨1, by decide, oper_one _ 9 h 8 1 (by decide) (by decide +kernel) (by decide +kernel) (by decide +kernel) (by decide +kernel) (by rw [hi0, hi8]; decide +kernel)⟩
  · exact ⟨4, by decide, oper_one _ 10 h 8 4 (by decide) (by decide +kernel) (by decide +kernel) (by decide +kernel) (by decide +kernel) (by rw [hi0, hi8]; decide +kernel)⟩
  · exact ⟨3, by decide, oper_one _ 11 h 0 3 (by decide) (by decide +kernel) (by decide +kernel) (by decide +kernel) (by decide +kernel) (by rw [hi0]; decide +kernel)⟩
  · exact ⟨4, by decide, oper_one _ 12 h 8 4 (by decide) (by decide +kernel) (by decide +kernel) (by decide +kernel) (by decide +kernel) (by rw [hi0, hi8]; decide +kernel)⟩
/-- A text without blanks is an operation's word, if some fields make an instruction of it. -/
theorem oper_iff (l : List UInt8) (hl : ∀ c ∈ l, c ≠ 32) : operB l = true ↔ ∃ j, j < 5 ∧ pB (l ++ fld j) = true := by
  unfold operB
  constructor
  · intro h
    obtain ⟨k, hk, e⟩ := List.any_eq_true.1 h
    have hk' : 1 ≤ k ∧ k < 43 := by
      rw [List.mem_iff_getElem?] at hk
      obtain ⟨i, hi⟩ := hk
      rw [List.getElem?_drop] at hi
      have h1 := (List.getElem?_eq_some_iff.1 hi)
      obtain ⟨h2, h3⟩ := h1
      simp at h2 h3
      omega
    rw [beq_iff_eq] at e
    rw [← e]
    exact oper_yes k hk'.1 hk'.2
  · rintro ⟨j, hj, hp⟩
    have hfl : ∃ r, fld j = 32 :: r := by
      unfold fld fldTab
      rcases j with _ | _ | _ | _ | _ | j
      · exact ⟨_, rfl⟩
      · exact ⟨_, rfl⟩
      · exact ⟨_, rfl⟩
      · exact ⟨_, rfl⟩
      · exact ⟨_, rfl⟩
      · omega
    obtain ⟨r, hr⟩ := hfl
    rw [hr] at hp
    have hc : chkB (tOp (l ++ 32 :: r)) (tD (l ++ 32 :: r)) (tA (l ++ 32 :: r)) (tB (l ++ 32 :: r)) (tI (l ++ 32 :: r)) = true := by
      unfold pB at hp
      simp only [Bool.and_eq_true] at hp
      exact hp.2.1
    have ht : tOp (l ++ 32 :: r) = opL l := by
      unfold tOp
      rw [cut_sp l r hl]
    have hne : opL l ≠ 0 := by
      intro e
      have h1 := (chk_parts _ _ _ _ _ hc).1
      rw [ht, e] at h1
      exact h1 (by decide +kernel)
    unfold opL at hne
    rw [List.any_eq_true]
    cases hf : ((List.range 43).drop 1).find? (fun (k : Nat) => nm (k : Int) == l) with
    | none => rw [hf] at hne; exact absurd rfl hne
    | some k => exact ⟨k, List.mem_of_find?_eq_some hf, List.find?_some (p := fun (k : Nat) => nm (k : Int) == l) hf⟩
end Go.Proofs.YthekokjmdjokgaaDoor
