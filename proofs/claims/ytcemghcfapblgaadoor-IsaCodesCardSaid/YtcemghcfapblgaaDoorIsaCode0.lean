/-
  Plain words of instructions' bytes: the bytes of the first k, that none of them is refused; no program is named but for the cells of slices.
-/
import Derived.Test.YtcemghcfapblgaaDoorIsaEnc2
import Derived.Laws.AppendOwn
import Derived.Laws.AppendOwnNone
import Derived.OwnWalk
import Derived.WalkSmall
namespace Go.Proofs.YtcemghcfapblgaaDoor
set_option linter.unusedVariables false
set_option linter.unusedSimpArgs false
open Go.ChangeShapes Go.WideShapes Go.ChangeAt Go.RowKit

@[irreducible] def chkX (X : Nat → Nat → Int) (i : Nat) : Bool := chkB (X i 0) (X i 1) (X i 2) (X i 3) (X i 4)
@[irreducible] def encX (X : Nat → Nat → Int) (i : Nat) : Int := encR (X i 0) (X i 1) (X i 2) (X i 3) (X i 4)
theorem encX_bd (X : Nat → Nat → Int) (i : Nat) : 0 ≤ encX X i ∧ encX X i ≤ 4294967295 := by
  unfold encX
  exact encR_bd _ _ _ _ _
@[irreducible] def bytesL (a : Int) : List Int := [a % 256, a / 256 % 256, a / 65536 % 256, a / 16777216]
theorem bytesL_eq (a : Int) : bytesL a = [a % 256, a / 256 % 256, a / 65536 % 256, a / 16777216] := by unfold bytesL; rfl
def codeL (X : Nat → Nat → Int) : Nat → List Int
  | 0 => []
  | k + 1 => codeL X k ++ bytesL (encX X k)
theorem codeL_len (X : Nat → Nat → Int) : ∀ k, (codeL X k).length = 4 * k
  | 0 => rfl
  | k + 1 => by
    show (codeL X k ++ bytesL (encX X k)).length = _
    rw [List.length_append, codeL_len X k, bytesL_eq]
    simp
    omega
theorem bytesL_bd (a : Int) (h0 : 0 ≤ a) (h1 : a ≤ 4294967295) : ∀ x ∈ bytesL a, 0 ≤ x ∧ x ≤ 255 := by
  intro x hx
  rw [bytesL_eq] at hx
  simp at hx
  rcases hx with rfl | rfl | rfl | rfl <;> omega
theorem codeL_bd (X : Nat → Nat → Int) : ∀ k, ∀ x ∈ codeL X k, 0 ≤ x ∧ x ≤ 255
  | 0 => fun x hx => by cases hx
  | k + 1 => fun x hx => by
    rcases List.mem_append.1 (show x ∈ codeL X k ++ bytesL (encX X k) from hx) with h | h
    · exact codeL_bd X k x h
    · exact bytesL_bd _ (encX_bd X k).1 (encX_bd X k).2 x h
/-- The instructions that stand in a slice: five cells each. -/
def Ins (w : World) (b off n : Nat) (X : Nat → Nat → Int) : Prop :=
  ∀ i, i < n → w.cell? ⟨b, off + i * 5, none⟩ = some (.int .i64 (X i 0)) ∧ w.cell? ⟨b, off + i * 5 + 1, none⟩ = some (.int .i64 (X i 1)) ∧ w.cell? ⟨b, off + i * 5 + 2, none⟩ = some (.int .i64 (X i 2)) ∧ w.cell? ⟨b, off + i * 5 + 3, none⟩ = some (.int .i64 (X i 3)) ∧ w.cell? ⟨b, off + i * 5 + 4, none⟩ = some (.int .i64 (X i 4))
theorem Ins.next {w w' : World} {b off n : Nat} {X : Nat → Nat → Int} (h : Ins w b off n X) (k : Below w.heap.size w w') : Ins w' b off n X := fun i hi => by
  obtain ⟨h0, h1, h2, h3, h4⟩ := h i hi
  exact ⟨(k.cell (cell_lt h0)).trans h0, (k.cell (cell_lt h1)).trans h1, (k.cell (cell_lt h2)).trans h2, (k.cell (cell_lt h3)).trans h3, (k.cell (cell_lt h4)).trans h4⟩
/-- A slice of bytes reads as these numbers. -/
def Own (w : World) (v : Value) (len : Nat) (ns : List Int) : Prop :=
  ∃ a cap, v = .slice a len cap ∧ ns.length = len ∧ (len = 0 ∨ ∃ b, a = some ⟨b, 0, none⟩ ∧ ∀ i, i < len → w.cell? ⟨b, 0 + i, none⟩ = some (.int .u8 (ns.getD i 0)))
theorem Own.next {w w' : World} {v : Value} {len : Nat} {ns : List Int} (h : Own w v len ns) (k : Below w.heap.size w w') : Own w' v len ns := by
  obtain ⟨a, cap, hv, hn, hc⟩ := h
  refine ⟨a, cap, hv, hn, ?_⟩
  rcases hc with h0 | ⟨b, ha, hc⟩
  · exact .inl h0
  · exact .inr ⟨b, ha, fun i hi => (k.cell (cell_lt (hc i hi))).trans (hc i hi)⟩
theorem own_of_row {w1 : World} {base len : Nat} {v : Value} {ns : List Int} (hn : ns.length = len) (hown : w1.ownsRow base 5 1 v len (ns.map (Value.int .u8))) : Own w1 v len ns := by
  have hown0 := hown
  rcases hown.2 with ⟨rfl, h0⟩ | ⟨g, cap, cur, rfl, hg, hh, hle, hcap, hsz, htake⟩
  · subst h0
    exact ⟨none, 0, rfl, hn, .inl rfl⟩
  · refine ⟨_, cap, rfl, hn, .inr ⟨g, rfl, fun i hi => ?_⟩⟩
    rw [Nat.zero_add, hown0.cellAt i (by simp; omega)]
    have hi' : i < ns.length := by omega
    simp [List.getD, List.getElem?_eq_getElem hi']
/-- What the bytes of n instructions are, or the first that is refused. -/
def CodeIs (X : Nat → Nat → Int) (n : Nat) (w : World) (v : Value) (at_ c : Int) : Prop :=
  (4096 < n ∧ v = .slice none 0 0 ∧ at_ = 0 ∧ c = 3) ∨
  (n ≤ 4096 ∧ ∃ k, k < n ∧ (∀ i, i < k → chkX X i = true) ∧ chkX X k = false ∧ v = .slice none 0 0 ∧ at_ = k ∧ c = 20) ∨
  (n ≤ 4096 ∧ (∀ i, i < n → chkX X i = true) ∧ Own w v (4 * n) (codeL X n) ∧ at_ = 0 ∧ c = 0)
theorem CodeIs.next {X : Nat → Nat → Int} {n : Nat} {w w' : World} {v : Value} {at_ c : Int} (h : CodeIs X n w v at_ c) (k : Below w.heap.size w w') : CodeIs X n w' v at_ c := by
  rcases h with h | h | ⟨h1, h2, h3, h4⟩
  · exact .inl h
  · exact .inr (.inl h)
  · exact .inr (.inr ⟨h1, h2, h3.next k, h4⟩)
theorem own_nil (w : World) : Own w (.slice none 0 0) 0 [] := ⟨none, 0, rfl, rfl, .inl rfl⟩
theorem code_same {X : Nat → Nat → Int} {n : Nat} {w : World} {v u : Value} {at_ c at' c' : Int} (h : CodeIs X n w v at_ c) (k : CodeIs X n w u at' c') :
    at' = at_ ∧ c' = c ∧ ∃ len ns, Own w v len ns ∧ Own w u len ns := by
  rcases h with ⟨h1, rfl, rfl, rfl⟩ | ⟨h1, i, hi, hb, hx, rfl, rfl, rfl⟩ | ⟨h1, h2, h3, rfl, rfl⟩
  · rcases k with ⟨k1, rfl, rfl, rfl⟩ | ⟨k1, _⟩ | ⟨k1, _⟩
    · exact ⟨rfl, rfl, 0, [], own_nil w, own_nil w⟩
    · omega
    · omega
  · rcases k with ⟨k1, _⟩ | ⟨k1, j, hj, hb', hx', rfl, rfl, rfl⟩ | ⟨k1, k2, _⟩
    · omega
    · have e : j = i := by
        rcases Nat.lt_trichotomy j i with h | h | h
        · rw [hb j h] at hx'; cases hx'
        · exact h
        · rw [hb' i h] at hx; cases hx
      subst e
      exact ⟨rfl, rfl, 0, [], own_nil w, own_nil w⟩
    · rw [k2 i hi] at hx; cases hx
  · rcases k with ⟨k1, _⟩ | ⟨k1, j, hj, hb', hx', _⟩ | ⟨k1, k2, k3, rfl, rfl⟩
    · omega
    · rw [h2 j hj] at hx'; cases hx'
    · exact ⟨rfl, rfl, _, _, h3, k3⟩
end Go.Proofs.YtcemghcfapblgaaDoor
