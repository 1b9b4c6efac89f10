
/-
  Contracts of Encode and of the calls of words that it makes, in the code.
-/
import Derived.Test.YthekokjmdjokgaaDoorIsaCheck
import Derived.Deep.Light
import Derived.Deep.QuietTactic
import Derived.BigQuiet
import Derived.Deep.RegionHeld3
namespace Go.Proofs.YthekokjmdjokgaaDoor
set_option linter.unusedVariables false
open Go.ChangeShapes Go.WideShapes Go.ChangeAt Go.RowKit

theorem ret_u32 {a b : Int} (h : a = b) : Ending.returned (.int .u32 a) = .returned (.int .u32 b) := by rw [h]
theorem ret_ue {a b c d : Int} (h : a = b) (g : c = d) : Ending.returned (.tuple #[.int .u32 a, .int .i64 c]) = .returned (.tuple #[.int .u32 b, .int .i64 d]) := by rw [h, g]
theorem cell_lt {w : World} {p : Addr} {v : Value} (h : w.cell? p = some v) : p.block < w.heap.size := by
  unfold World.cell? at h
  cases hb : w.heap[p.block]? with
  | none => rw [hb] at h; cases h
  | some o => exact (Array.getElem?_eq_some_iff.1 hb).1
theorem below_on {B : Nat} {w w1 w2 : World} (h : Below B w w1) (k : Below w1.heap.size w1 w2) (hB : B ≤ w1.heap.size) : Below B w w2 := h.trans (k.mono hB)
theorem keep2 {B : Nat} {w w1 w2 : World} {p q : Addr} {x y : Value} (hb : Below w1.heap.size w1 w2) (h : w1.cell? p = some x ∧ w1.cell? q = some y ∧ Below B w w1) (hB : B ≤ w1.heap.size) : w2.cell? p = some x ∧ w2.cell? q = some y ∧ Below B w w2 :=
  ⟨(hb.cell (cell_lt h.1)).trans h.1, (hb.cell (cell_lt h.2.1)).trans h.2.1, below_on h.2.2 hb hB⟩
theorem keep5 {N : Nat} {w w1 w2 : World} {p q r s t : Addr} {x y z u v : Value} (hb0 : Below N w1 w2) (hN : N = w1.heap.size) (h : w1.cell? p = some x ∧ w1.cell? q = some y ∧ w1.cell? r = some z ∧ w1.cell? s = some u ∧ w1.cell? t = some v ∧ Below w.heap.size w w1) :
    w2.cell? p = some x ∧ w2.cell? q = some y ∧ w2.cell? r = some z ∧ w2.cell? s = some u ∧ w2.cell? t = some v ∧ Below w.heap.size w w2 := by
  subst hN
  have hb := hb0
  exact ⟨(hb.cell (cell_lt h.1)).trans h.1, (hb.cell (cell_lt h.2.1)).trans h.2.1, (hb.cell (cell_lt h.2.2.1)).trans h.2.2.1, (hb.cell (cell_lt h.2.2.2.1)).trans h.2.2.2.1, (hb.cell (cell_lt h.2.2.2.2.1)).trans h.2.2.2.2.1, below_on h.2.2.2.2.2 hb h.2.2.2.2.2.size⟩
/-- What is known of a struct of five that was laid in a block of its own, behind a call that keeps what was there. -/
theorem box5 {w w2 : World} {x0 x1 x2 x3 x4 : Value} {T : TypeId} (hb2 : Below (w.alloc (.cells #[x0, x1, x2, x3, x4] T)).heap.size (w.alloc (.cells #[x0, x1, x2, x3, x4] T)) w2) :
    w2.cell? ⟨w.heap.size, 0, none⟩ = some x0 ∧ w2.cell? ⟨w.heap.size, 1, none⟩ = some x1 ∧ w2.cell? ⟨w.heap.size, 2, none⟩ = some x2 ∧ w2.cell? ⟨w.heap.size, 3, none⟩ = some x3 ∧ w2.cell? ⟨w.heap.size, 4, none⟩ = some x4 ∧ Below w.heap.size w w2 := by
  obtain ⟨hc2, hf2⟩ := bcell hb2
  refine ⟨?_, ?_, ?_, ?_, ?_, ((Below.refl _ _).alloc (Nat.le_refl _) _).trans (hb2.mono (by simp))⟩
  all_goals
    rw [hc2 _ _ (by simp)]
    simp [go_sem]
theorem c_formOf' (op : Int) (w : World) (h2 : -9223372036854775808 ≤ op) (h3 : op ≤ 9223372036854775807) :
    Calls Tryd.prog 22 #[.int .i64 op] w fun e w' => e = .returned (.int .i64 (formI op)) ∧ w' = w :=
  (c_formOf op w h2 h3).mono fun _ _ h => ⟨h.1, h.2.symm⟩
theorem mod_bd (i f : Int) (h2 : 0 ≤ f) (h3 : f ≤ 12) : 0 ≤ i % lMod f ∧ i % lMod f ≤ 16777215 := by
  rcases form_cases f h2 h3 with rfl | rfl | rfl | rfl | rfl | rfl | rfl | rfl | rfl | rfl | rfl | rfl | rfl <;> unfold lMod <;> simp only [Int.reduceEq, reduceIte, or_true, true_or, or_self] <;> omega
theorem and_mask (x : Int) (k : Nat) (h0 : 0 ≤ x) (h1 : x ≤ 4294967295) (hk : 2 ^ k - 1 ≤ 4294967295) : bits BinOp.and IntKind.u32 x (((2 ^ k - 1 : Nat) : Int)) = x % ((2 ^ k : Nat) : Int) := by
  have h := u32_and_nat x.toNat (2 ^ k - 1) (by omega) (by omega)
  have e : (x.toNat : Int) = x := Int.toNat_of_nonneg h0
  rw [e] at h
  have h2 : bits BinOp.and IntKind.u32 x ((2 ^ k - 1 : Nat) : Int) = ((x.toNat &&& (2 ^ k - 1) : Nat) : Int) := h
  rw [h2, Nat.and_two_pow_sub_one_eq_mod x.toNat k, Int.natCast_emod, e]
theorem imm_and (i n f : Int) (g0 : -8388608 ≤ i) (g1 : i ≤ 8388607) (hn : lBits f = n) (h2 : 0 ≤ f) (h3 : f ≤ 12) :
    bits BinOp.and IntKind.u32 (i % 4294967296) (IntKind.u32.wrap (IntKind.u32.wrap (2 ^ n.toNat) - 1)) = i % lMod f := by
  have c0 : bits BinOp.and IntKind.u32 (i % 4294967296) 0 = i % 4294967296 % 1 := and_mask (i % 4294967296) 0 (by omega) (by omega) (by decide)
  have c16 : bits BinOp.and IntKind.u32 (i % 4294967296) 65535 = i % 4294967296 % 65536 := and_mask (i % 4294967296) 16 (by omega) (by omega) (by decide)
  have c24 : bits BinOp.and IntKind.u32 (i % 4294967296) 16777215 = i % 4294967296 % 16777216 := and_mask (i % 4294967296) 24 (by omega) (by omega) (by decide)
  have e0 : IntKind.u32.wrap (IntKind.u32.wrap (2 ^ (0 : Int).toNat) - 1) = 0 := by decide
  have e16 : IntKind.u32.wrap (IntKind.u32.wrap (2 ^ (16 : Int).toNat) - 1) = 65535 := by decide
  have e24 : IntKind.u32.wrap (IntKind.u32.wrap (2 ^ (24 : Int).toNat) - 1) = 16777215 := by decide
  subst hn
  rcases form_cases f h2 h3 with rfl | rfl | rfl | rfl | rfl | rfl | rfl | rfl | rfl | rfl | rfl | rfl | rfl
  all_goals
    unfold lBits lMod
    simp only [Int.reduceEq, reduceIte, or_true, true_or, or_self]
    first | (rw [e0, c0]; omega) | (rw [e16, c16]; omega) | (rw [e24, c24]; omega)
theorem below_drewN {B : Nat} {w w' : World} (h : Below B w w') : ∀ n, Below B w (w'.drewN n)
  | 0 => h
  | n + 1 => (below_drewN h n).drew
theorem or_lo (y x : Int) (k : Nat) (h0 : 0 ≤ x) (h1 : x < 2 ^ k) (h2 : 0 ≤ y) (h3 : y * 2 ^ k ≤ 4294967295) (h4 : x ≤ 4294967295) : bits BinOp.or IntKind.u32 (y * 2 ^ k) x = y * 2 ^ k + x := by
  have hp : (0 : Int) ≤ y * 2 ^ k := Int.mul_nonneg h2 (Int.pow_nonneg (by decide))
  rw [u32_or _ _ hp (by omega) h0 (by omega)]
  have e : (y * 2 ^ k).toNat = 2 ^ k * y.toNat := by
    have : y * 2 ^ k = ((2 ^ k * y.toNat : Nat) : Int) := by
      rw [Int.natCast_mul, Int.natCast_pow, Int.toNat_of_nonneg h2, Int.mul_comm]
      rfl
    rw [this, Int.toNat_natCast]
  have hx : x.toNat < 2 ^ k := by
    have : (x.toNat : Int) < ((2 ^ k : Nat) : Int) := by
      rw [Int.natCast_pow, Int.toNat_of_nonneg h0]
      exact h1
    exact Int.ofNat_lt.1 this
  rw [e, ← Nat.two_pow_add_eq_or_of_lt hx y.toNat, ← e]
  have e2 : ((y * 2 ^ k).toNat : Int) = y * 2 ^ k := Int.toNat_of_nonneg hp
  omega
theorem reg_off (n : Int) (h : regB false n = true) : n = 0 := by rw [regB_off] at h; exact of_decide_eq_true h
theorem chk_parts (op d a b i : Int) (h : chkB op d a b i = true) : formI op ≠ 0 ∧ regB (lD (formI op)) d = true ∧ regB (lA (formI op)) a = true ∧ regB (lB (formI op)) b = true ∧ fitB (formI op) i = true := by
  unfold chkB at h
  simpa [and_assoc] using h
theorem enc_or (op d a b i : Int) (g1 : 0 ≤ op) (g2 : op ≤ 42) (g3 : 0 ≤ d) (g4 : d ≤ 15) (g5 : 0 ≤ a) (g6 : a ≤ 15) (g7 : 0 ≤ b) (g8 : b ≤ 15) (hc : chkB op d a b i = true) :
    bits BinOp.or IntKind.u32 (bits BinOp.or IntKind.u32 (bits BinOp.or IntKind.u32 (bits BinOp.or IntKind.u32 (op * 16777216) (d * 1048576)) (a * 65536)) (b * 4096)) (i % lMod (formI op)) = encV op d a b i := by
  obtain ⟨hf, hd, ha, hb, hi⟩ := chk_parts op d a b i hc
  have ⟨f0, f1⟩ := formI_bd op
  rw [show bits BinOp.or IntKind.u32 (op * 16777216) (d * 1048576) = op * 16777216 + d * 1048576 from or_lo op (d * 1048576) 24 (by omega) (by omega) (by omega) (by omega) (by omega)]
  rw [show op * 16777216 + d * 1048576 = (op * 16 + d) * 2 ^ 20 by omega]
  rw [or_lo (op * 16 + d) (a * 65536) 20 (by omega) (by omega) (by omega) (by omega) (by omega)]
  rw [show (op * 16 + d) * 2 ^ 20 + a * 65536 = (op * 256 + d * 16 + a) * 2 ^ 16 by omega]
  rw [or_lo (op * 256 + d * 16 + a) (b * 4096) 16 (by omega) (by omega) (by omega) (by omega) (by omega)]
  unfold encV
  generalize formI op = f at *
  rcases form_cases f f0 f1 with rfl | rfl | rfl | rfl | rfl | rfl | rfl | rfl | rfl | rfl | rfl | rfl | rfl
  all_goals
    unfold lD at hd
    unfold lA at ha
    unfold lB at hb
    unfold lMod
    simp only [Int.reduceEq, Int.reduceBEq, reduceIte, or_true, true_or, or_self, Bool.or_true, Bool.true_or, Bool.or_self] at hd ha hb ⊢
    first
      | (exfalso; exact hf rfl)
      | (obtain rfl := reg_off _ hd; obtain rfl := reg_off _ ha; obtain rfl := reg_off _ hb
         rw [show (op * 256 + 0 * 16 + 0) * 2 ^ 16 + 0 * 4096 = op * 2 ^ 24 by omega, or_lo op (i % 16777216) 24 (by omega) (by omega) (by omega) (by omega) (by omega)]; omega)
      | (obtain rfl := reg_off _ hb
         rw [show (op * 256 + d * 16 + a) * 2 ^ 16 + 0 * 4096 = (op * 256 + d * 16 + a) * 2 ^ 16 by omega, or_lo (op * 256 + d * 16 + a) (i % 65536) 16 (by omega) (by omega) (by omega) (by omega) (by omega)]; omega)
      | (rw [show (op * 256 + d * 16 + a) * 2 ^ 16 + b * 4096 = (op * 4096 + d * 256 + a * 16 + b) * 2 ^ 12 by omega, or_lo (op * 4096 + d * 256 + a * 16 + b) (i % 1) 12 (by omega) (by omega) (by omega) (by omega) (by omega)]; omega)
theorem field_bits (x y z : Bool) (a b c : Int) (w : World) : (Instr.field 45 (.agg #[.bool x, .bool y, .bool z, .int .i64 a, .int .i64 b, .int .i64 c]) 3).run Tryd.prog w = .ok (.int .i64 a) w := by kernel_rfl
end Go.Proofs.YthekokjmdjokgaaDoor
