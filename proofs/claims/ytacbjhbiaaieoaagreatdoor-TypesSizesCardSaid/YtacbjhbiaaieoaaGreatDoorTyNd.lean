/-
  A type taken apart, as it lies in memory.
-/
import Derived.Test.YtacbjhbiaaieoaaGreatDoorTyLex
import Derived.Test.YtacbjhbiaaieoaaGreatDoorTyPu
namespace Go.Proofs.YtacbjhbiaaieoaaGreatDoor
set_option linter.unusedVariables false
set_option linter.unusedSimpArgs false
open Go.RowKit

/-- A node's five cells: of type t, its parts in the slice v. -/
def ndC (t : Ty) (v : Value) : List Value := [.int .u8 t.letter.toNat, .string ⟨t.code.toArray⟩, .int .i64 t.count, .string ⟨t.tag.toArray⟩, v]
def ndV (t : Ty) (v : Value) : Value := .agg (ndC t v).toArray
def ndCs (L : List (Ty × Value)) : List Value := L.flatMap fun p => ndC p.1 p.2
theorem ndC_len (t : Ty) (v : Value) : (ndC t v).length = 5 := rfl
theorem ndCs_len (L : List (Ty × Value)) : (ndCs L).length = L.length * 5 := by
  unfold ndCs
  induction L with
  | nil => rfl
  | cons p L ih => rw [List.flatMap_cons, List.length_append, ih, ndC_len, List.length_cons]; omega
theorem ndCs_snoc (L : List (Ty × Value)) (t : Ty) (v : Value) : ndCs (L ++ [(t, v)]) = ndCs L ++ ndC t v := by
  unfold ndCs
  simp
theorem ndCs_at : ∀ (L : List (Ty × Value)) (k : Nat) (t : Ty) (v : Value), L[k]? = some (t, v) → ∀ i, i < 5 → (ndCs L)[k * 5 + i]? = (ndC t v)[i]?
  | [], k, t, v, h => by simp at h
  | p :: L, 0, t, v, h => by
    intro i hi
    simp at h
    subst h
    show ((ndC t v) ++ ndCs L)[0 * 5 + i]? = _
    rw [List.getElem?_append_left (by rw [ndC_len]; omega)]
    congr 1
    omega
  | p :: L, k + 1, t, v, h => by
    intro i hi
    have ih := ndCs_at L k t v (by simpa using h) i hi
    show ((ndC p.1 p.2) ++ ndCs L)[(k + 1) * 5 + i]? = _
    rw [List.getElem?_append_right (by rw [ndC_len]; omega), ndC_len, ← ih]
    congr 1
    omega
/-- The parts of t lie in the slice v, all their blocks in S. -/
inductive Nd (S : Nat → Prop) (w : World) : Ty → Value → Prop
  | leaf (t : Ty) : t.parts = [] → Nd S w t (.slice none 0 0)
  | row (t : Ty) (g cap : Nat) (L : List (Ty × Value)) : t.parts = L.map Prod.fst → L ≠ [] → L.length ≤ cap → S g → (∀ (j : Nat) (u : Value), (ndCs L)[j]? = some u → w.cell? ⟨g, j, none⟩ = some u) → (∀ p ∈ L, Nd S w p.1 p.2) → Nd S w t (.slice (some ⟨g, 0, none⟩) L.length cap)
theorem Nd.mono {S S' : Nat → Prop} {w w' : World} {t : Ty} {v : Value} (h : Nd S w t v) (hS : ∀ j, S j → S' j) (hw : ∀ j, S j → w'.heap[j]? = w.heap[j]?) : Nd S' w' t v := by
  induction h with
  | leaf t h => exact .leaf t h
  | row t g cap L h1 h2 h3 h4 h5 h6 ih =>
    exact .row t g cap L h1 h2 h3 (hS _ h4) (fun j u hu => by
      have e : w'.cell? ⟨g, j, none⟩ = w.cell? ⟨g, j, none⟩ := by simp [World.cell?, hw g h4]
      rw [e]
      exact h5 j u hu) ih
theorem Nd.sl {S : Nat → Prop} {w : World} {t : Ty} {v : Value} (h : Nd S w t v) : ∃ a cap, v = .slice a t.parts.length cap ∧ t.parts.length ≤ cap := by
  cases h with
  | leaf t h => exact ⟨none, 0, by rw [h]; exact ⟨rfl, Nat.le_refl _⟩⟩
  | row t g cap L h1 h2 h3 h4 h5 h6 => exact ⟨_, cap, by rw [h1, List.length_map]; exact ⟨rfl, h3⟩⟩
theorem Nd.one {S : Nat → Prop} {w : World} {t : Ty} {v : Value} (h : Nd S w t v) : v.oneCell' = true := by
  obtain ⟨a, cap, rfl, _⟩ := h.sl
  rfl
/-- The part at a place: its cells, and its own parts. -/
theorem Nd.part {S : Nat → Prop} {w : World} {t : Ty} {v : Value} (h : Nd S w t v) {k : Nat} {u : Ty} (hk : t.parts[k]? = some u) :
    ∃ g cap s, v = .slice (some ⟨g, 0, none⟩) t.parts.length cap ∧ t.parts.length ≤ cap ∧ S g ∧ Nd S w u s ∧ ∀ i x, (ndC u s)[i]? = some x → w.cell? ⟨g, k * 5 + i, none⟩ = some x := by
  cases h with
  | leaf t h => rw [h] at hk; simp at hk
  | row t g cap L h1 h2 h3 h4 h5 h6 =>
    rw [h1, List.getElem?_map] at hk
    obtain ⟨p, hp, hpu⟩ := Option.map_eq_some_iff.1 hk
    obtain ⟨u', s⟩ := p
    have hpu2 : u' = u := hpu
    rw [hpu2] at hp
    clear hpu hpu2 u'
    refine ⟨g, cap, s, by rw [h1, List.length_map], by rw [h1, List.length_map]; exact h3, h4, h6 _ (List.mem_of_getElem? hp), fun i x hx => ?_⟩
    have hi : i < 5 := by
      have := (List.getElem?_eq_some_iff.1 hx).1
      rwa [ndC_len] at this
    exact h5 _ _ ((ndCs_at L k u s hp i hi).trans hx)
/-- The world's blocks from N on that lie in it. -/
def Fm (N : Nat) (w : World) : Nat → Prop := fun j => N ≤ j ∧ j < w.heap.size
end Go.Proofs.YtacbjhbiaaieoaaGreatDoor
