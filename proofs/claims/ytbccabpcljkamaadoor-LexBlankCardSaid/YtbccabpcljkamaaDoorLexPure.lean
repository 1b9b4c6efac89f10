/-
  Plain: how a byte is spelt between quotes; a text in quotes; the place in its line.
-/
import Derived.WalkKit
import Derived.Lib.UnsafeStr
import Derived.Lib.Bytealg
import Derived.Lib.LastIndexByte
namespace Go.Proofs.YtbccabpcljkamaaDoor
set_option linter.unusedVariables false
set_option linter.unusedSimpArgs false

/-- Does a byte stand for itself between these quotes? -/
def plainI (c q : Int) : Bool := decide (32 ≤ c) && decide (c ≤ 126) && !(c == q) && !(c == 92)
/-- A small digit to the base 16. -/
def hexD (n : Nat) : UInt8 := if n < 10 then UInt8.ofNat (48 + n) else UInt8.ofNat (87 + n)
/-- The piece that stands for a byte between these quotes. -/
@[irreducible] def pc (q c : UInt8) : List UInt8 :=
  if plainI c.toNat q.toNat then [c] else if c = 10 then [92, 110] else if c = 9 then [92, 116] else if c = 13 then [92, 114] else if c = 92 ∨ c = q then [92, c] else [92, 120, hexD (c.toNat / 16), hexD (c.toNat % 16)]
theorem pc_plain (q c : UInt8) (h : plainI c.toNat q.toNat = true) : pc q c = [c] := by unfold pc; rw [if_pos h]
theorem plain_no (q c : UInt8) (h : c = 10 ∨ c = 9 ∨ c = 13 ∨ c = 92 ∨ c = q) : plainI c.toNat q.toNat = false := by
  unfold plainI
  rcases h with rfl | rfl | rfl | rfl | rfl <;> simp
theorem pc_10 (q : UInt8) : pc q 10 = [92, 110] := by unfold pc; rw [if_neg (by rw [plain_no _ _ (.inl rfl)]; simp), if_pos rfl]
theorem pc_9 (q : UInt8) : pc q 9 = [92, 116] := by unfold pc; rw [if_neg (by rw [plain_no _ _ (.inr (.inl rfl))]; simp), if_neg (by decide), if_pos rfl]
theorem pc_13 (q : UInt8) : pc q 13 = [92, 114] := by unfold pc; rw [if_neg (by rw [plain_no _ _ (.inr (.inr (.inl rfl)))]; simp), if_neg (by decide), if_neg (by decide), if_pos rfl]
theorem pc_esc (q c : UInt8) (h0 : c ≠ 10) (h1 : c ≠ 9) (h2 : c ≠ 13) (h : c = 92 ∨ c = q) : pc q c = [92, c] := by unfold pc; rw [if_neg (by rw [plain_no _ _ (.inr (.inr (.inr h)))]; simp), if_neg h0, if_neg h1, if_neg h2, if_pos h]
theorem pc_hex (q c : UInt8) (hp : plainI c.toNat q.toNat = false) (h0 : c ≠ 10) (h1 : c ≠ 9) (h2 : c ≠ 13) (h3 : c ≠ 92) (h4 : c ≠ q) : pc q c = [92, 120, hexD (c.toNat / 16), hexD (c.toNat % 16)] := by
  unfold pc
  rw [if_neg (by rw [hp]; simp), if_neg h0, if_neg h1, if_neg h2, if_neg (by simp [h3, h4])]
theorem pc_len (q c : UInt8) : 1 ≤ (pc q c).length ∧ (pc q c).length ≤ 4 := by
  unfold pc
  (repeat' split) <;> simp
theorem u8_eq {c d : UInt8} {x : Int} (hx : (c.toNat : Int) = x) : c = d ↔ x = (d.toNat : Int) := by
  rw [← UInt8.toNat_inj]
  omega
/-- A text's bytes as pieces; with the quotes. -/
@[irreducible] def pcs (q : UInt8) (l : List UInt8) : List UInt8 := l.flatMap (pc q)
theorem pcs_nil (q : UInt8) : pcs q [] = [] := by unfold pcs; rfl
theorem pcs_snoc (q : UInt8) (l : List UInt8) (c : UInt8) : pcs q (l ++ [c]) = pcs q l ++ pc q c := by unfold pcs; simp
theorem pcs_one (q c : UInt8) : pcs q [c] = pc q c := by unfold pcs; simp
theorem pcs_len (q : UInt8) (l : List UInt8) : (pcs q l).length ≤ 4 * l.length := by
  induction l with
  | nil => rw [pcs_nil]; simp
  | cons c l ih =>
    have := (pc_len q c).2
    unfold pcs at ih ⊢
    rw [List.flatMap_cons, List.length_append, List.length_cons]
    omega
def quoL (q : UInt8) (l : List UInt8) : List UInt8 := [q] ++ pcs q l ++ [q]
theorem quoL_len (q : UInt8) (l : List UInt8) : (quoL q l).length ≤ 4 * l.length + 2 := by
  have := pcs_len q l
  unfold quoL
  simp
  omega
theorem hexD_at (n : Nat) (h : n < 16) : [48, 49, 50, 51, 52, 53, 54, 55, 56, 57, 97, 98, 99, 100, 101, 102][n]?.getD 0 = hexD n := by
  have : ∀ k : Fin 16, ([48, 49, 50, 51, 52, 53, 54, 55, 56, 57, 97, 98, 99, 100, 101, 102] : List UInt8)[k.val]?.getD 0 = hexD k.val := by decide
  exact this ⟨n, h⟩
end Go.Proofs.YtbccabpcljkamaaDoor
