/-
  The contracts of From and load, in the code: bytes of a bank as a word.
-/
import Derived.Test.YtbflnkkoecfbaaaMemRead
import Derived.Laws.BitsAllLaws
namespace Go.Proofs.Ytbflnkkoecfbaaa
set_option linter.unusedVariables false
set_option linter.unusedSimpArgs false
open Go.ChangeShapes Go.WideShapes Go.ChangeAt Go.RowKit

theorem or_high (x y : Int) (k : Nat) (h0 : 0 ≤ x) (h1 : x < 2 ^ k) (h2 : 0 ≤ y) (h3 : y * 2 ^ k ≤ 4294967295) (h4 : x ≤ 4294967295) : bits BinOp.or IntKind.u32 x (y * 2 ^ k) = x + y * 2 ^ k := by
  have hp : (0 : Int) ≤ y * 2 ^ k := Int.mul_nonneg h2 (Int.pow_nonneg (by decide))
  rw [u32_or _ _ h0 (by omega) hp (by omega)]
  have e : (y * 2 ^ k).toNat = 2 ^ k * y.toNat := by
    have : y * 2 ^ k = ((2 ^ k * y.toNat : Nat) : Int) := by
      rw [Int.natCast_mul, Int.natCast_pow, Int.toNat_of_nonneg h2, Int.mul_comm]
      rfl
    rw [this, Int.toNat_natCast]
  have hx : x.toNat < 2 ^ k := by
    have : (x.toNat : Int) < ((2 ^ k : Nat) : Int) := by
      rw [Int.natCast_pow, Int.toNat_of_nonneg h0]
      exact h1
    exact Int.ofNat_lt.1 this
  rw [e, Nat.or_comm, ← Nat.two_pow_add_eq_or_of_lt hx y.toNat, ← e]
  have e2 : ((y * 2 ^ k).toNat : Int) = y * 2 ^ k := Int.toNat_of_nonneg hp
  omega
theorem or4 (z0 z1 z2 z3 : Int) (g0 : 0 ≤ z0) (l0 : z0 ≤ 255) (g1 : 0 ≤ z1) (l1 : z1 ≤ 255) (g2 : 0 ≤ z2) (l2 : z2 ≤ 255) (g3 : 0 ≤ z3) (l3 : z3 ≤ 255) :
    bits BinOp.or IntKind.u32 (bits BinOp.or IntKind.u32 (bits BinOp.or IntKind.u32 z0 (z1 * 256)) (z2 * 65536)) (z3 * 16777216) = z0 + z1 * 256 + z2 * 65536 + z3 * 16777216 := by
  rw [show bits BinOp.or IntKind.u32 z0 (z1 * 256) = z0 + z1 * 256 from or_high z0 z1 8 g0 (by omega) g1 (by omega) (by omega)]
  rw [show bits BinOp.or IntKind.u32 (z0 + z1 * 256) (z2 * 65536) = z0 + z1 * 256 + z2 * 65536 from or_high (z0 + z1 * 256) z2 16 (by omega) (by omega) g2 (by omega) (by omega)]
  exact or_high (z0 + z1 * 256 + z2 * 65536) z3 24 (by omega) (by omega) g3 (by omega) (by omega)
theorem ret_ue {a b c d : Int} (h : a = b) (g : c = d) : Ending.returned (.tuple #[.int .u32 a, .int .i64 c]) = .returned (.tuple #[.int .u32 b, .int .i64 d]) := by rw [h, g]
@[irreducible] def wordI (z0 z1 z2 z3 : Int) : Int := z0 + z1 * 256 + z2 * 65536 + z3 * 16777216
theorem c_From (b cap : Nat) (z0 z1 z2 z3 : Int) (w : World) (h0 : w.cell? ⟨b, 0, none⟩ = some (.int .u8 z0)) (h1 : w.cell? ⟨b, 1, none⟩ = some (.int .u8 z1)) (h2 : w.cell? ⟨b, 2, none⟩ = some (.int .u8 z2)) (h3 : w.cell? ⟨b, 3, none⟩ = some (.int .u8 z3))
    (g0 : 0 ≤ z0) (l0 : z0 ≤ 255) (g1 : 0 ≤ z1) (l1 : z1 ≤ 255) (g2 : 0 ≤ z2) (l2 : z2 ≤ 255) (g3 : 0 ≤ z3) (l3 : z3 ≤ 255) :
    Calls Try.prog 70 #[.slice (some ⟨b, 0, none⟩) 4 cap] w fun e w' => e = .returned (.tuple #[.int .u32 (wordI z0 z1 z2 z3), .int .i64 0]) ∧ Below w.heap.size w w' := by
  have HV : Hid (wordI z0 z1 z2 z3 = bits BinOp.or IntKind.u32 (bits BinOp.or IntKind.u32 (bits BinOp.or IntKind.u32 z0 (z1 * 256)) (z2 * 65536)) (z3 * 16777216)) := by
    show _ = _
    unfold wordI
    exact (or4 z0 z1 z2 z3 g0 l0 g1 l1 g2 l2 g3 l3).symm
  go_enter Try.func70, Try.ntmps70
  go_wp2
  go_quiet (fail)
  go_wp2
  go_ret2
  exact ⟨ret_ue HV.out.symm rfl, below_drewN (Below.refl _ _) _⟩
/-- The byte at a place, or a nought behind n of them. -/
def byAt (C : Nat → Nat → Int) (x n j : Nat) : Int := if j < n then C ((x + j) / 4096) ((x + j) % 4096) else 0
/-- The word that n bytes from a place on are. -/
@[irreducible] def ldI (C : Nat → Nat → Int) (x n : Nat) : Int := wordI (byAt C x n 0) (byAt C x n 1) (byAt C x n 2) (byAt C x n 3)
set_option maxHeartbeats 4000000 in
theorem c_load (gb o gn np cn G x n : Nat) (r : Rg) (P : Nat → Nat) (C : Nat → Nat → Int) (a : Int) (w : World) (hn : n = 1 ∨ n = 2 ∨ n = 4) (hR : RdH w G gb o gn np cn r P C) (hr : rgB r = true) (ha : a = r.fr + x) (ha2 : a ≤ 4294967295)
    (hx : (x : Int) + n ≤ r.sz) (hG : G ≤ w.heap.size) (hC : ∀ i k, i < np → k < 4096 → 0 ≤ C i k ∧ C i k ≤ 255) :
    Calls Try.prog 52 #[.pointer (some ⟨gb, o, none⟩), .int .u32 a, .int .i64 n] w fun e w' => e = .returned (.int .u32 (ldI C x n)) ∧ Below w.heap.size w w' := by
  have HR := Lib.hid hR
  have hnp : r.sz ≤ np * 4096 := hR.2.2.2.2.2.1
  have hbd : ∀ j, 0 ≤ byAt C x n j ∧ byAt C x n j ≤ 255 := by
    intro j
    unfold byAt
    split
    · exact hC _ _ (by omega) (Nat.mod_lt _ (by decide))
    · omega
  have HBD := Lib.hid hbd
  have HC := Lib.hid (fun (cap : Nat) (hcap : n ≤ cap) (hcm : cap ≤ 16777216) (w1 : World) (gl : Nat) (hgl : w.heap.size ≤ gl) (T : TypeId) (cur : List Value) (hR1 : RdH w1 G gb o gn np cn r P C) (hl : w1.heap[gl]? = some (.cells cur.toArray T (0, 0))) (hfit : 0 + n ≤ cur.length) =>
    c_read gb o gn np cn G gl 0 n cap x r P C cur T a w1 hR1 hr ha ha2 hx (by omega) hl hfit hcap hcm)
  have HCell : Hid (∀ (w2 : World) (g : Nat) (T : TypeId), w2.heap[g]? = some (.cells (splice [.int .u8 0, .int .u8 0, .int .u8 0, .int .u8 0] 0 (bytesAt C x n)).toArray T (0, 0)) → ∀ j, j < 4 → w2.cell? ⟨g, j, none⟩ = some (.int .u8 (byAt C x n j))) := by
    intro w2 g T hh j hj
    rw [cell_of_row w2 g j _ _ (0, 0) hh]
    have : j = 0 ∨ j = 1 ∨ j = 2 ∨ j = 3 := by omega
    unfold splice bytesAt byAt
    rcases hn with rfl | rfl | rfl <;> rcases this with rfl | rfl | rfl | rfl <;> rfl
  clear hR hr ha ha2 hbd
  go_enter Try.func52, Try.ntmps52
  rcases hn with rfl | rfl | rfl
  all_goals
    go_wp2_with fail
    refine (HC.out 4 (by decide) (by decide) _ w.heap.size (Nat.le_refl _) _ [.int .u8 0, .int .u8 0, .int .u8 0, .int .u8 0] (HR.out.next (below_new w _) hG) (heap_alloc_new w _) (by decide)).mono ?_
    rintro e w2 ⟨rfl, hh, hb2⟩
    have hcell := HCell.out w2 w.heap.size _ hh
    have k0 := hcell 0 (by decide)
    have k1 := hcell 1 (by decide)
    have k2 := hcell 2 (by decide)
    have k3 := hcell 3 (by decide)
    have HB2 : Hid (Below w.heap.size w w2) := (below_new w _).trans hb2
    have HS : w.heap.size < w2.heap.size := cell_lt k0
    clear hcell hh hb2
    go_wp2_with fail
    have b0 := HBD.out 0
    have b1 := HBD.out 1
    have b2 := HBD.out 2
    have b3 := HBD.out 3
    refine (c_From _ _ _ _ _ _ _ k0 k1 k2 k3 b0.1 b0.2 b1.1 b1.2 b2.1 b2.2 b3.1 b3.2).mono ?_
    rintro e w3 ⟨rfl, hb3⟩
    have HB3 := Lib.hid (below_on HB2.out hb3 HB2.out.size)
    clear hb3 b0 b1 b2 b3
    go_wp2_with fail
    go_returns
    refine ⟨?_, HB3.out⟩
    unfold ldI
    rfl
end Go.Proofs.Ytbflnkkoecfbaaa
