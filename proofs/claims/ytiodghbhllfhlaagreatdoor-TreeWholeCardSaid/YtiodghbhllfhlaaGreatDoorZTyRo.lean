/-
  The contracts of the document's own look at a type: its letter, what it is of, in the code.
-/
import Derived.Test.YtiodghbhllfhlaaGreatDoorZTyDe
import Derived.Test.YtiodghbhllfhlaaGreatDoorZTyK1
namespace Go.Proofs.YtiodghbhllfhlaaGreatDoor
set_option linter.unusedVariables false
set_option linter.unusedSimpArgs false

theorem dig_val {c : UInt8} (h : dig8 c = true) : 48 ≤ c.toNat ∧ c.toNat ≤ 57 := by
  unfold dig8 digI at h
  simp at h
  omega
theorem dig_of {c : UInt8} (h1 : 48 ≤ c.toNat) (h2 : c.toNat ≤ 57) : dig8 c = true := by
  unfold dig8 digI
  simp
  omega
theorem canon : ∀ (n : Nat) (d : List UInt8), d.length = n → d ≠ [] → d.all dig8 = true → (1 < d.length → d.head? ≠ some 48) → Lib.decDigits (valF 0 d) = d ∧ (d.head? ≠ some 48 → 1 ≤ valF 0 d)
  | 0, d, hl, h0, _, _ => absurd (List.length_eq_zero_iff.1 hl) h0
  | n + 1, d, hl, h0, ha, hz => by
    obtain ⟨d', c, rfl⟩ : ∃ d' c, d = d' ++ [c] := ⟨d.dropLast, d.getLast h0, (List.dropLast_concat_getLast h0).symm⟩
    have hc : dig8 c = true := by
      rw [List.all_append, Bool.and_eq_true] at ha
      simpa using ha.2
    have ha' : d'.all dig8 = true := by
      rw [List.all_append, Bool.and_eq_true] at ha
      exact ha.1
    obtain ⟨c1, c2⟩ := dig_val hc
    have hv : valF 0 (d' ++ [c]) = 10 * valF 0 d' + (c.toNat - 48) := by
      rw [valF_app]
      show valF 0 d' * 10 + (c.toNat - 48) = _
      omega
    by_cases hd : d' = []
    · subst hd
      rw [hv]
      have e0 : valF 0 [] = 0 := rfl
      rw [e0, Lib.decDigits, dif_pos (by omega), show 48 + (10 * 0 + (c.toNat - 48)) = c.toNat by omega]
      refine ⟨by simp, fun h => ?_⟩
      have hne : c.toNat ≠ 48 := fun e => h (by
        have : c = 48 := UInt8.toNat_inj.1 (by rw [e]; rfl)
        rw [this]
        rfl)
      omega
    · have hz' : 1 < d'.length → d'.head? ≠ some 48 := fun h => by
        have h2 := hz (by simp; omega)
        cases d' with
        | nil => exact absurd rfl hd
        | cons e r => simpa using h2
      have hh : d'.head? ≠ some 48 := by
        have h2 := hz (by have := List.length_pos_iff.2 hd; simp; omega)
        cases d' with
        | nil => exact absurd rfl hd
        | cons e r => simpa using h2
      obtain ⟨h1, h2⟩ := canon n d' (by simp at hl; omega) hd ha' hz'
      have h3 := h2 hh
      refine ⟨?_, fun _ => by rw [hv]; omega⟩
      rw [hv, Lib.decDigits, dif_neg (by omega), show (10 * valF 0 d' + (c.toNat - 48)) / 10 = valF 0 d' by omega, h1, show 48 + (10 * valF 0 d' + (c.toNat - 48)) % 10 = c.toNat by omega]
      congr 1
      simp
theorem dec_all (n : Nat) : (Lib.decDigits n).all dig8 = true := List.all_eq_true.2 fun c hc => dig_of (bk_digits n n (Nat.le_refl _) c hc).1 (bk_digits n n (Nat.le_refl _) c hc).2
theorem dec_len15 {n : Nat} (h : n ≤ 1099511627776) : (Lib.decDigits n).length ≤ 15 := by
  have hl : ∀ (d m : Nat), m < 10 ^ (d + 1) → (Lib.decDigits m).length ≤ d + 1 := by
    intro d
    induction d with
    | zero => intro m hm; rw [Lib.decDigits, dif_pos (by simpa using hm)]; simp
    | succ d ih =>
      intro m hm
      rw [Lib.decDigits]
      split
      · simp
      · have := ih (m / 10) (by rw [Nat.pow_succ] at hm; omega)
        simp
        omega
  have := hl 12 n (by omega)
  omega
theorem dec_head : ∀ (n m : Nat), m ≤ n → 1 < (Lib.decDigits m).length → (Lib.decDigits m).head? ≠ some 48
  | 0, m, hm, h => by
    rw [Lib.decDigits, dif_pos (by omega)] at h
    simp at h
  | n + 1, m, hm, h => by
    rw [Lib.decDigits] at h ⊢
    split at h
    · simp at h
    · rename_i h10
      rw [dif_neg h10]
      by_cases h100 : m / 10 < 10
      · rw [Lib.decDigits, dif_pos h100]
        simp
        intro e
        have e2 := congrArg UInt8.toNat e
        simp at e2
        omega
      · have hl : 1 < (Lib.decDigits (m / 10)).length := by
          rw [Lib.decDigits, dif_neg h100]
          have : Lib.decDigits (m / 10 / 10) ≠ [] := by
            rw [Lib.decDigits]
            split <;> simp
          have := List.length_pos_iff.2 this
          simp
          omega
        have ih := dec_head n (m / 10) (by omega) hl
        cases hd : Lib.decDigits (m / 10) with
        | nil => rw [hd] at hl; simp at hl
        | cons e r => rw [hd] at ih; simpa using ih
/-- A count by its digits. -/
def whP (d : List UInt8) : Option Nat := if d ≠ [] ∧ d.length ≤ 15 ∧ (1 < d.length → d.head? ≠ some 48) ∧ valF 0 d ≤ 1099511627776 then some (valF 0 d) else none
theorem tw_dec (n : Nat) (y : List UInt8) : (Lib.decDigits n ++ 58 :: y).takeWhile dig8 = Lib.decDigits n := by
  rw [List.takeWhile_append_of_pos (fun c hc => List.all_eq_true.1 (dec_all n) c hc)]
  have : dig8 58 = false := by decide
  simp [List.takeWhile, this]
theorem cnt_tie (r : List UInt8) : cntP r = (whP (r.takeWhile dig8)).bind fun n => if (r.drop (r.takeWhile dig8).length).head? = some 58 then some (n, r.drop ((r.takeWhile dig8).length + 1)) else none := by
  cases hc : cntP r with
  | some p =>
    obtain ⟨n, y⟩ := p
    obtain ⟨hn, hr⟩ := cnt_eq hc
    have htw : r.takeWhile dig8 = Lib.decDigits n := by rw [hr]; exact tw_dec n y
    have hw : whP (Lib.decDigits n) = some n := by
      unfold whP
      rw [valF_dec n n (Nat.le_refl _), if_pos ⟨by rw [Lib.decDigits]; split <;> simp, dec_len15 hn, dec_head n n (Nat.le_refl _), hn⟩]
    rw [htw, hw]
    simp only [Option.bind_some]
    rw [hr, List.drop_left, List.drop_append]
    simp
  | none =>
    symm
    cases hw : whP (r.takeWhile dig8) with
    | none => rfl
    | some n =>
      simp only [Option.bind_some]
      split
      · rename_i h58
        exfalso
        unfold whP at hw
        split at hw
        · rename_i hh
          obtain ⟨h0, _, hz, hv⟩ := hh
          cases hw
          have hcn := (canon _ _ rfl h0 (List.all_eq_true.2 fun c hc => List.all_eq_true.1 (List.all_takeWhile) c hc) hz).1
          have hr : r = Lib.decDigits (valF 0 (r.takeWhile dig8)) ++ 58 :: (r.drop (r.takeWhile dig8).length).drop 1 := by
            rw [hcn, ← head_drop h58]
            obtain ⟨y, hy⟩ := List.takeWhile_prefix (p := dig8) (l := r)
            have e : r.drop (r.takeWhile dig8).length = y := by
              have h := congrArg (List.drop (r.takeWhile dig8).length) hy
              rw [List.drop_left] at h
              exact h.symm
            rw [e]
            exact hy.symm
          rw [hr, cnt_full _ _ hv] at hc
          cases hc
        · cases hw
      · rfl
end Go.Proofs.YtiodghbhllfhlaaGreatDoor
namespace Go.Proofs.YtiodghbhllfhlaaGreatDoor
set_option linter.unusedVariables false
set_option linter.unusedSimpArgs false
set_option maxRecDepth 100000
open Go.RowKit

/-- How many digits stand from a place on. -/
def twD (l : List UInt8) (m : Nat) : Nat := ((l.drop m).takeWhile dig8).length
theorem tw_end {l : List UInt8} {m : Nat} (h : l.length ≤ m) : twD l m = 0 := by
  unfold twD
  rw [List.drop_of_length_le h]
  rfl
theorem tw_step {l : List UInt8} {m : Nat} (h : m < l.length) : twD l m = if dig8 (l[m]?.getD 0) = true then 1 + twD l (m + 1) else 0 := by
  unfold twD
  rw [List.drop_eq_getElem_cons h, List.getElem?_eq_getElem h]
  simp only [Option.getD_some]
  rw [List.takeWhile_cons]
  split
  · rw [List.length_cons]
    omega
  · rfl
theorem dig_I (c : UInt8) (cI : Int) (h : (c.toNat : Int) = cI) : dig8 c = (decide (48 ≤ cI) && decide (cI ≤ 57)) := by
  unfold dig8 digI
  rw [h]
end Go.Proofs.YtiodghbhllfhlaaGreatDoor
namespace Go.Proofs.YtiodghbhllfhlaaGreatDoor
set_option linter.unusedVariables false
set_option linter.unusedSimpArgs false
open Go.ChangeShapes Go.WideShapes Go.ChangeAt Go.RowKit

theorem beq_no {a b : Int} (h : ¬ a = b) : (a == b) = false := by simp [h]
theorem take_one (l : List UInt8) (k : Nat) (h : k < l.length) : l.take (k + 1) = l.take k ++ [l[k]?.getD 0] := by
  rw [List.take_add_one, List.getElem?_eq_getElem h]
  rfl
def wv (l : List UInt8) : Int := l.foldl (fun n c => 10 * n + (c.toNat : Int) - 48) 0
theorem wv_snoc (l : List UInt8) (c : UInt8) : wv (l ++ [c]) = 10 * wv l + (c.toNat : Int) - 48 := by
  unfold wv
  rw [List.foldl_append]
  rfl
theorem pow15 (n : Nat) (h : n ≤ 15) : (10 : Int) ^ n ≤ 1000000000000000 := by
  have h1 : 10 ^ n ≤ 10 ^ 15 := Nat.pow_le_pow_right (by decide) h
  have h2 := Int.ofNat_le.2 h1
  rw [Int.natCast_pow, Int.natCast_pow] at h2
  exact h2
def dgB (c : UInt8) : Bool := decide (48 ≤ c.toNat) && decide (c.toNat ≤ 57)
theorem wv_bd : ∀ (n : Nat) (l : List UInt8), l.length = n → (∀ c ∈ l, dgB c = true) → 0 ≤ wv l ∧ wv l < 10 ^ n
  | 0, l, h, _ => by rw [List.length_eq_zero_iff.1 h]; simp [wv]
  | n + 1, l, h, hd => by
    have hne : l ≠ [] := by rintro rfl; simp at h
    have e : l = l.dropLast ++ [l.getLast hne] := (List.dropLast_concat_getLast hne).symm
    have ih := wv_bd n l.dropLast (by rw [List.length_dropLast]; omega) (fun c hc => hd c (List.dropLast_subset _ hc))
    have hc := hd _ (List.getLast_mem hne)
    unfold dgB at hc
    simp at hc
    rw [e, wv_snoc, Int.pow_succ]
    omega
@[irreducible] def whB (l : List UInt8) : Bool := !l.isEmpty && decide (l.length ≤ 15) && !(decide (1 < l.length) && decide (l[0]?.getD 0 = 48)) && l.all dgB
@[irreducible] def whN (l : List UInt8) : Int := if whB l then wv l else 0
@[irreducible] def whO (l : List UInt8) : Bool := whB l && decide (wv l ≤ 1099511627776)
theorem wh_no (l : List UInt8) (h : whB l = false) : whN l = 0 ∧ whO l = false := by
  unfold whN whO
  rw [h]
  exact ⟨rfl, rfl⟩
theorem wh_yes (l : List UInt8) (h : whB l = true) : whN l = wv l ∧ whO l = decide (wv l ≤ 1099511627776) := by
  unfold whN whO
  rw [h]
  exact ⟨rfl, rfl⟩
theorem ret_ib {a b : Int} {c d : Bool} (h : a = b) (g : c = d) : Ending.returned (.tuple #[.int .i64 a, .bool c]) = .returned (.tuple #[.int .i64 b, .bool d]) := by rw [h, g]
theorem byte_is (l : List UInt8) (k : Nat) (hlt : k < l.length) (h : k < (ByteArray.mk l.toArray).size) : (((ByteArray.mk l.toArray)[k]'h).toNat : Int) = ((l[k]'hlt).toNat : Int) := by
  rw [byte_at l k h, List.getElem?_eq_getElem hlt]
  rfl
/-! ### number -/
end Go.Proofs.YtiodghbhllfhlaaGreatDoor
namespace Go.Proofs.YtiodghbhllfhlaaGreatDoor
set_option linter.unusedVariables false
set_option linter.unusedSimpArgs false
set_option maxRecDepth 100000
open Go.RowKit

def strA (T : List (List UInt8)) : Array Value := (T.map fun l => Value.string ⟨l.toArray⟩).toArray
theorem str_at (T : List (List UInt8)) (w : World) (k : Nat) (s : List UInt8) (hs : T[k]? = some s) : (w.alloc (.cells (strA T) 9)).cell? ⟨w.heap.size, k, none⟩ = some (.string ⟨s.toArray⟩) := by
  rw [cell_of_row (w.alloc (.cells (strA T) 9)) w.heap.size k (strA T) 9 (0, 0) (heap_alloc_new w _)]
  unfold strA
  rw [List.getElem?_toArray, List.getElem?_map, hs]
  rfl
end Go.Proofs.YtiodghbhllfhlaaGreatDoor
namespace Go.Proofs.YtiodghbhllfhlaaGreatDoor
set_option linter.unusedVariables false
set_option linter.unusedSimpArgs false
set_option maxRecDepth 100000
open Go.RowKit

theorem take_snoc {l : List UInt8} {k : Nat} (h : k < l.length) : l.take (k + 1) = l.take k ++ [l[k]?.getD 0] := by
  rw [List.take_add_one, List.getElem?_eq_getElem h]
  rfl
theorem dg_eq (c : UInt8) : dgB c = dig8 c := by
  unfold dgB dig8 digI
  congr 1
  · congr 1
    apply propext
    omega
  · congr 1
    apply propext
    omega
theorem wv_val (d : List UInt8) : ∀ (e : List UInt8) (acc : Nat), e.all dig8 = true → wv d = (acc : Int) → wv (d ++ e) = (valF acc e : Int) := by
  intro e
  induction e generalizing d with
  | nil => intro acc _ h; rw [List.append_nil]; exact h
  | cons c e ih =>
    intro acc ha h
    rw [List.all_cons, Bool.and_eq_true] at ha
    obtain ⟨c1, c2⟩ := dig_val ha.1
    have h2 := ih (d ++ [c]) (acc * 10 + (c.toNat - 48)) ha.2 (by rw [wv_snoc, h]; omega)
    rw [List.append_assoc, List.singleton_append] at h2
    exact h2
/-- The document's whole number and the reader's count. -/
theorem wh_tie (d : List UInt8) (ha : d.all dig8 = true) : whO d = (whP d).isSome ∧ ∀ n, whP d = some n → whN d = (n : Int) := by
  have hv : wv d = (valF 0 d : Int) := wv_val [] d 0 ha rfl
  have had : d.all dgB = true := List.all_eq_true.2 fun c hc => by rw [dg_eq]; exact List.all_eq_true.1 ha c hc
  have hh : (d[0]?.getD 0 = 48) = (d.head? = some 48) ∨ d = [] := by
    cases d with
    | nil => exact .inr rfl
    | cons c r => exact .inl (by simp)
  rcases hh with hh | rfl
  · have hb : whB d = (decide (d ≠ []) && decide (d.length ≤ 15) && !(decide (1 < d.length) && decide (d.head? = some 48))) := by
      unfold whB
      rw [had, Bool.and_true]
      simp only [hh]
      cases d <;> rfl
    unfold whO whN whP
    rw [hb, hv]
    by_cases h0 : d = []
    · subst h0; exact ⟨rfl, fun n h => by cases h⟩
    · by_cases h1 : d.length ≤ 15
      · by_cases h2 : 1 < d.length
        · by_cases h3 : d.head? = some 48
          · simp [h0, h1, h2, h3]
          · by_cases h4 : valF 0 d ≤ 1099511627776
            · have h5 : (valF 0 d : Int) ≤ 1099511627776 := by omega
              simp [h0, h1, h2, h3, h4, h5]
            · have h5 : ¬ (valF 0 d : Int) ≤ 1099511627776 := by omega
              simp [h0, h1, h2, h3, h4, h5]
        · by_cases h4 : valF 0 d ≤ 1099511627776
          · have h5 : (valF 0 d : Int) ≤ 1099511627776 := by omega
            simp [h0, h1, h2, h4, h5]
          · have h5 : ¬ (valF 0 d : Int) ≤ 1099511627776 := by omega
            simp [h0, h1, h2, h4, h5]
      · simp [h0, h1]
  · refine ⟨?_, fun n h => by unfold whP at h; simp at h⟩
    unfold whO whB whP
    rfl
end Go.Proofs.YtiodghbhllfhlaaGreatDoor
namespace Go.Proofs.YtiodghbhllfhlaaGreatDoor
set_option linter.unusedVariables false
set_option linter.unusedSimpArgs false
set_option maxRecDepth 100000
open Go.RowKit

/-- What the document's reader answers. -/
def NxR (l : List UInt8) (k : Nat) (w : World) (e : Ending) (w' : World) : Prop :=
  (∃ (j : Int) (q : Bool), e = .returned (.tuple #[.int .i64 j, .bool q]) ∧ ((∃ t y, rd (l.drop k) = some (t, y) ∧ q = true ∧ j = ((plc l y : Nat) : Int)) ∨ (rd (l.drop k) = none ∧ q = false))) ∧ Below w.heap.size w w'
theorem drop_at {l : List UInt8} {k : Nat} (h : k < l.length) : l.drop k = l[k]?.getD 0 :: l.drop (k + 1) := by
  rw [List.drop_eq_getElem_cons h, List.getElem?_eq_getElem h]
  rfl
end Go.Proofs.YtiodghbhllfhlaaGreatDoor
namespace Go.Proofs.YtiodghbhllfhlaaGreatDoor
set_option linter.unusedVariables false
set_option linter.unusedSimpArgs false
set_option maxRecDepth 100000
open Go.RowKit

theorem tw_take (r : List UInt8) : r.take (r.takeWhile dig8).length = r.takeWhile dig8 := by
  obtain ⟨y, hy⟩ := List.takeWhile_prefix (p := dig8) (l := r)
  have h := congrArg (List.take (r.takeWhile dig8).length) hy
  rw [List.take_left] at h
  exact h.symm
end Go.Proofs.YtiodghbhllfhlaaGreatDoor
namespace Go.Proofs.YtiodghbhllfhlaaGreatDoor
set_option linter.unusedVariables false
set_option linter.unusedSimpArgs false
set_option maxRecDepth 100000
open Go.RowKit

def notS (c : UInt8) : Bool := !(c == 59)
def nsD (l : List UInt8) (m : Nat) : Nat := ((l.drop m).takeWhile notS).length
theorem ns_end {l : List UInt8} {m : Nat} (h : l.length ≤ m) : nsD l m = 0 := by
  unfold nsD
  rw [List.drop_of_length_le h]
  rfl
theorem ns_step {l : List UInt8} {m : Nat} (h : m < l.length) : nsD l m = if notS (l[m]?.getD 0) = true then 1 + nsD l (m + 1) else 0 := by
  unfold nsD
  rw [List.drop_eq_getElem_cons h, List.getElem?_eq_getElem h]
  simp only [Option.getD_some]
  rw [List.takeWhile_cons]
  split
  · rw [List.length_cons]
    omega
  · rfl
theorem upTo_tw : ∀ (r : List UInt8), upTo 59 r = if (r.takeWhile notS).length < r.length then some (r.takeWhile notS, r.drop ((r.takeWhile notS).length + 1)) else none
  | [] => rfl
  | c :: r => by
    unfold upTo
    rw [List.takeWhile_cons]
    by_cases h : c = 59
    · subst h
      rfl
    · have hn : notS c = true := by unfold notS; simp [h]
      rw [if_neg h, hn, upTo_tw r]
      simp only [if_true, List.length_cons]
      by_cases h2 : (r.takeWhile notS).length < r.length
      · rw [if_pos h2, if_pos (by omega)]
        rfl
      · rw [if_neg h2, if_neg (by omega)]
        rfl
theorem ns_take (r : List UInt8) : r.take (r.takeWhile notS).length = r.takeWhile notS := by
  obtain ⟨y, hy⟩ := List.takeWhile_prefix (p := notS) (l := r)
  have h := congrArg (List.take (r.takeWhile notS).length) hy
  rw [List.take_left] at h
  exact h.symm
end Go.Proofs.YtiodghbhllfhlaaGreatDoor
namespace Go.Proofs.YtiodghbhllfhlaaGreatDoor
set_option linter.unusedVariables false
set_option linter.unusedSimpArgs false
set_option maxRecDepth 100000
open Go.RowKit

/-- What is left behind a type; behind a list of types. -/
def rE (r : List UInt8) : Option (List UInt8) := (rd r).map Prod.snd
def lE (r : List UInt8) : Option (List UInt8) := (rdL r).map Prod.snd
theorem rE_fn (r : List UInt8) : rE (102 :: r) = ((parL r).map Prod.snd).bind rE := by
  unfold rE
  rw [rd_fn]
  cases parL r with
  | none => rfl
  | some p =>
    simp only [Option.bind_some, Option.map_some]
    cases rd p.2 <;> rfl
theorem lE_step (r : List UInt8) : lE r = (rE r).bind fun y => if y.head? = some 44 then lE (y.drop 1) else if y.head? = some 41 then some (y.drop 1) else none := by
  unfold lE rE
  rw [rdL_step]
  cases rd r with
  | none => rfl
  | some p =>
    simp only [Option.bind_some, Option.map_some]
    split
    · cases rdL (p.2.drop 1) <;> rfl
    · split <;> rfl
theorem nx_of {l : List UInt8} {k : Nat} {w w' : World} {j : Int} {q : Bool} (h : (∃ y, rE (l.drop k) = some y ∧ q = true ∧ j = ((plc l y : Nat) : Int)) ∨ (rE (l.drop k) = none ∧ q = false)) (hb : Below w.heap.size w w') : NxR l k w (.returned (.tuple #[.int .i64 j, .bool q])) w' := by
  refine ⟨⟨j, q, rfl, ?_⟩, hb⟩
  unfold rE at h
  rcases h with ⟨y, h1, h2, h3⟩ | ⟨h1, h2⟩
  · obtain ⟨p, hp, hy⟩ := Option.map_eq_some_iff.1 h1
    exact .inl ⟨p.1, y, by rw [hp, ← hy], h2, h3⟩
  · exact .inr ⟨Option.map_eq_none_iff.1 h1, h2⟩
theorem nx_to {l : List UInt8} {k : Nat} (hk : k ≤ l.length) {j : Int} {q : Bool} (h : (∃ t y, rd (l.drop k) = some (t, y) ∧ q = true ∧ j = ((plc l y : Nat) : Int)) ∨ (rd (l.drop k) = none ∧ q = false)) :
    (∃ P : Nat, q = true ∧ j = (P : Int) ∧ rE (l.drop k) = some (l.drop P) ∧ k < P ∧ P ≤ l.length) ∨ (q = false ∧ rE (l.drop k) = none) := by
  rcases h with ⟨t, y, h1, h2, h3⟩ | ⟨h1, h2⟩
  · obtain ⟨hs, hp⟩ := rd_suf2 h1 hk
    exact .inl ⟨plc l y, h2, h3, by unfold rE; rw [h1, drop_plc hs]; rfl, hp, plc_le _ _⟩
  · exact .inr ⟨h2, by unfold rE; rw [h1]; rfl⟩
theorem head_at (l : List UInt8) (k : Nat) : (l.drop k).head? = l[k]? := by
  rw [List.head?_drop]
end Go.Proofs.YtiodghbhllfhlaaGreatDoor
namespace Go.Proofs.YtiodghbhllfhlaaGreatDoor
set_option linter.unusedVariables false
set_option linter.unusedSimpArgs false
set_option maxRecDepth 100000
open Go.RowKit

end Go.Proofs.YtiodghbhllfhlaaGreatDoor
namespace Go.Proofs.YtiodghbhllfhlaaGreatDoor
set_option linter.unusedVariables false
set_option linter.unusedSimpArgs false
set_option maxRecDepth 100000
open Go.RowKit

theorem code_let (t : Ty) : ∃ r, t.code = t.letter :: r := by
  cases t with
  | base c => exact ⟨_, rfl⟩
  | ptr t => exact ⟨_, rfl⟩
  | arr n t => exact ⟨_, rfl⟩
  | str s => exact ⟨_, rfl⟩
  | fn ps r => cases ps <;> exact ⟨_, rfl⟩
/-- Is a text an integer's code? -/
def riI (l : List UInt8) : Bool := l == [99] || l == [115] || l == [105] || l == [117]
theorem ri_int (t : Ty) (h : t.wf) : riI t.code = intI t.letter.toNat := by
  cases t with
  | base c =>
    have hc : baseC c = true := h
    unfold baseC at hc
    simp at hc
    rcases hc with ((((hc | hc) | hc) | hc) | hc) | hc <;> (subst hc; rfl)
  | ptr t => rfl
  | arr n t => rfl
  | str s => rfl
  | fn ps r => cases ps <;> rfl
end Go.Proofs.YtiodghbhllfhlaaGreatDoor
