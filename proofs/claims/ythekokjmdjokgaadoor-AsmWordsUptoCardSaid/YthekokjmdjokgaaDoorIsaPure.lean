
/-
  Plain words of instructions: forms, what a form has, when an instruction is right, its word; no program is named.
-/
import Derived.WalkKit
namespace Go.Proofs.YthekokjmdjokgaaDoor
set_option linter.unusedVariables false

/-- The number of an operation's form; 0: there is none. -/
@[irreducible] def formI (op : Int) : Int :=
  if 1 ≤ op ∧ op ≤ 17 then 1 else if op = 18 ∨ (28 ≤ op ∧ op ≤ 33) then 2 else if 19 ≤ op ∧ op ≤ 21 then 3 else if 22 ≤ op ∧ op ≤ 24 then 4
  else if op = 25 then 5 else if op = 26 then 6 else if op = 27 then 7 else if op = 34 ∨ op = 35 then 8 else if op = 36 then 9
  else if op = 37 ∨ op = 38 then 10 else if op = 39 ∨ op = 40 then 11 else if op = 41 ∨ op = 42 then 12 else 0
theorem ite_ok {P : Int → Prop} {c : Prop} [Decidable c] {a b : Int} (h : P a) (k : P b) : P (if c then a else b) := by
  split
  · exact h
  · exact k
theorem formI_bd (op : Int) : 0 ≤ formI op ∧ formI op ≤ 12 := by
  unfold formI
  show (fun x : Int => 0 ≤ x ∧ x ≤ 12) _
  repeat' (first | (refine ite_ok (P := fun x : Int => 0 ≤ x ∧ x ≤ 12) ?_ ?_) | (show (0 : Int) ≤ _ ∧ _ ≤ (12 : Int); decide))
theorem form_cases (f : Int) (h0 : 0 ≤ f) (h1 : f ≤ 12) : f = 0 ∨ f = 1 ∨ f = 2 ∨ f = 3 ∨ f = 4 ∨ f = 5 ∨ f = 6 ∨ f = 7 ∨ f = 8 ∨ f = 9 ∨ f = 10 ∨ f = 11 ∨ f = 12 := by omega
@[irreducible] def lD (f : Int) : Bool := f == 1 || f == 2 || f == 9 || f == 3 || f == 4 || f == 5 || f == 6 || f == 7
@[irreducible] def lA (f : Int) : Bool := f == 1 || f == 2 || f == 9 || f == 3 || f == 4 || f == 7 || f == 8 || f == 11
@[irreducible] def lB (f : Int) : Bool := f == 1
@[irreducible] def lBits (f : Int) : Int := if f = 10 then 24 else if f = 0 ∨ f = 1 ∨ f = 11 then 0 else 16
@[irreducible] def lLeast (f : Int) : Int := if f = 2 ∨ f = 9 ∨ f = 5 ∨ f = 8 then -32768 else if f = 7 then 8 else if f = 10 then -8388608 else 0
@[irreducible] def lMost (f : Int) : Int := if f = 2 ∨ f = 9 ∨ f = 5 ∨ f = 8 then 32767 else if f = 3 ∨ f = 6 ∨ f = 12 then 65535 else if f = 4 then 31 else if f = 7 then 16 else if f = 10 then 8388607 else 0
@[irreducible] def regB (has : Bool) (n : Int) : Bool := if has then decide (0 ≤ n) && decide (n < 16) else decide (n = 0)
@[irreducible] def fitB (f i : Int) : Bool := decide (lLeast f ≤ i) && decide (i ≤ lMost f) && (!decide (f = 7) || decide (i = lLeast f) || decide (i = lMost f))
@[irreducible] def chkB (op d a b i : Int) : Bool := decide (formI op ≠ 0) && regB (lD (formI op)) d && regB (lA (formI op)) a && regB (lB (formI op)) b && fitB (formI op) i
@[irreducible] def errI (x : Bool) : Int := if x then 0 else 20
/-- How many numbers Imm's bits part, by the form. -/
@[irreducible] def lMod (f : Int) : Int := if f = 10 then 16777216 else if f = 0 ∨ f = 1 ∨ f = 11 then 1 else 65536
@[irreducible] def encV (op d a b i : Int) : Int := op * 16777216 + d * 1048576 + a * 65536 + b * 4096 + i % lMod (formI op)
@[irreducible] def encR (op d a b i : Int) : Int := if chkB op d a b i then encV op d a b i else 0
/-- The number of the lowest bits, with its sign. -/
@[irreducible] def sx (m w : Int) : Int := if w % m < m / 2 then w % m else w % m - m
theorem sx_bd16 (w : Int) : -32768 ≤ sx 65536 w ∧ sx 65536 w ≤ 32767 := by
  unfold sx
  split <;> omega
theorem sx_bd24 (w : Int) : -8388608 ≤ sx 16777216 w ∧ sx 16777216 w ≤ 8388607 := by
  unfold sx
  split <;> omega
@[irreducible] def immV (f w : Int) : Int := if f = 2 ∨ f = 5 ∨ f = 8 ∨ f = 9 then sx 65536 w else if f = 10 then sx 16777216 w else w % 65536
theorem immV_bd (f w : Int) : -8388608 ≤ immV f w ∧ immV f w ≤ 8388607 := by
  have := sx_bd16 w
  have := sx_bd24 w
  unfold immV
  (repeat' split) <;> omega
@[irreducible] def sOp (w : Int) : Int := w / 16777216
@[irreducible] def sD (w : Int) : Int := if lD (formI (sOp w)) then w / 1048576 % 16 else 0
@[irreducible] def sA (w : Int) : Int := if lA (formI (sOp w)) then w / 65536 % 16 else 0
@[irreducible] def sB (w : Int) : Int := if lB (formI (sOp w)) then w / 4096 % 16 else 0
@[irreducible] def sI (w : Int) : Int := if lBits (formI (sOp w)) > 0 then immV (formI (sOp w)) w else 0
@[irreducible] def decB (w : Int) : Bool := chkB (sOp w) (sD w) (sA w) (sB w) (sI w) && decide (encV (sOp w) (sD w) (sA w) (sB w) (sI w) = w)
end Go.Proofs.YthekokjmdjokgaaDoor
