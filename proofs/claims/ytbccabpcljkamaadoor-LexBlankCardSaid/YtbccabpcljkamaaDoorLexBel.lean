/-
  What a row of the call's own, and what lies below, outlives; a row of bytes as a text.
-/
import Derived.Test.YtbccabpcljkamaaDoorLexQuo2
import Derived.Laws.OwnMore
import Derived.Laws.BytesArg
namespace Go.Proofs.YtbccabpcljkamaaDoor
set_option linter.unusedVariables false
set_option linter.unusedSimpArgs false
set_option maxRecDepth 100000
open Go.RowKit

theorem str_list (l : List UInt8) (xs : List Int) (h : xs = l.map fun c => (c.toNat : Int)) : strOfNums xs = ⟨l.toArray⟩ := by
  subst h
  unfold strOfNums
  rw [List.map_map]
  congr 2
  have e : ((fun n : Int => UInt8.ofNat n.toNat) ∘ fun c : UInt8 => (c.toNat : Int)) = id := by
    funext c
    show UInt8.ofNat ((c.toNat : Int)).toNat = c
    rw [Int.toNat_natCast]
    exact UInt8.ofNat_toNat
  rw [e, List.map_id]
theorem own_below {w w' : World} {base : Nat} {e : TypeId} {size : Nat} {v : Value} {n : Nat} {xs : List Value} (h : w.ownsRow base e size v n xs) (hb : Below w.heap.size w w') : w'.ownsRow base e size v n xs := by
  have hlt := h.lt
  refine ⟨h.1, ?_⟩
  rcases h.2 with h2 | ⟨g, cap, cur, rfl, hg, hh, r⟩
  · exact .inl h2
  · exact .inr ⟨g, cap, cur, rfl, hg, (hb.block g (hlt g rfl).2).trans hh, r⟩
theorem conv_own (w : World) (base : Nat) (v : Value) (n : Nat) (l : List UInt8) (hn : l.length = n) (h : w.ownsRow base 5 1 v n (Lib.byteCells l)) (h0 : l ≠ []) :
    (convert 46 9 v).run Tryd.prog w = .ok (.string ⟨l.toArray⟩) w := by
  subst hn
  have hl : 0 < l.length := List.length_pos_iff.2 h0
  obtain ⟨g, cap, rfl⟩ : ∃ g cap, v = .slice (some ⟨g, 0, none⟩) l.length cap := by
    rcases h.2 with ⟨_, h2⟩ | ⟨g, cap, cur, hv, _⟩
    · omega
    · exact ⟨g, cap, hv⟩
  rw [← str_list l _ rfl]
  refine run_convert_bytes_arg _ 46 5 Tryd.underlying46 Tryd.underlying5 g 0 l.length cap (l.map fun c => (c.toNat : Int)) (by simp) ?_ 9 Tryd.underlying9
  intro i hi
  rw [Nat.zero_add, h.cellAt i (by omega)]
  simp [Lib.byteCells, hi]
theorem below_grown {N : Nat} {w wa wb : World} {k : Option Nat} (h : Below N w wa) (hN : N ≤ wa.heap.size) (hg : wa.grownBy wb k) (hk : ∀ b, k = some b → N ≤ b) : Below N w wb :=
  h.trans ⟨hg.os, hg.tape, hg.output, hg.size, fun b hb => hg.block b (Nat.lt_of_lt_of_le hb hN) (fun e => by have := hk b e.symm; have hb' : b < N := hb; omega)⟩
theorem below_on {N : Nat} {w wa wb : World} (h : Below N w wa) (hb : Below wa.heap.size wa wb) (hN : N ≤ wa.heap.size) : Below N w wb :=
  h.trans ⟨hb.os, hb.tape, hb.output, hb.size, fun k hk => hb.block k (Nat.lt_of_lt_of_le hk hN)⟩
end Go.Proofs.YtbccabpcljkamaaDoor
