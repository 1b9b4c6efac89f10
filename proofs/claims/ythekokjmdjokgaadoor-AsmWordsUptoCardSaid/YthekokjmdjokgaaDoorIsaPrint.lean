
/-
  The contract of Print, in the code.
-/
import Derived.Test.YthekokjmdjokgaaDoorIsaEnc2
import Derived.Test.YthekokjmdjokgaaDoorShelf
import Derived.Lib.SmallJoins
namespace Go.Proofs.YthekokjmdjokgaaDoor
set_option linter.unusedVariables false
open Go.ChangeShapes Go.WideShapes Go.ChangeAt Go.RowKit

/-- The words of the text, by the operation. -/
def nmTab : List (List UInt8) := [[], [97, 100, 100], [115, 117, 98], [109, 117, 108], [100, 105, 118], [100, 105, 118, 117], [114, 101, 109], [114, 101, 109, 117], [97, 110, 100], [111, 114], [120, 111, 114], [115, 104, 108], [115, 104, 114], [115, 104, 114, 117], [108, 116], [108, 116, 117], [101, 113], [110, 101], [97, 100, 100, 105], [97, 110, 100, 105], [111, 114, 105], [120, 111, 114, 105], [115, 104, 108, 105], [115, 104, 114, 105], [115, 104, 114, 117, 105], [108, 105], [108, 117, 105], [101, 120, 116], [108, 119], [108, 104], [108, 98], [115, 119], [115, 104], [115, 98], [98, 122], [98, 110, 122], [98, 108, 117], [106, 117, 109, 112], [99, 97, 108, 108], [114, 101, 103], [99, 97, 108, 108, 114], [115, 121, 115], [116, 114, 97, 112]]
@[irreducible] def nm (op : Int) : List UInt8 := (nmTab[op.toNat]?).getD []
def names43 : Array Value := (nmTab.map fun l => Value.string ⟨l.toArray⟩).toArray
/-- The table of words holds them. -/
def NmH (w : World) : Prop := ∀ k l, nmTab[k]? = some l → w.cell? ⟨0, k, none⟩ = some (.string ⟨l.toArray⟩)
/-- The library's table of powers of ten holds them. -/
def PwH (w : World) : Prop := ∃ T fr, w.heap[6]? = some (.cells (Lib.pow10Tab.map fun z => Value.int .u64 z).toArray T fr)
theorem NmH.next {N : Nat} {w w' : World} (h : NmH w) (hb : Below N w w') (hN : N = w.heap.size) : NmH w' := by
  subst hN
  intro k l hk
  have h1 := h k l hk
  exact (hb.cell (cell_lt h1)).trans h1
theorem PwH.next {N : Nat} {w w' : World} (h : PwH w) (hb : Below N w w') (hN : N = w.heap.size) : PwH w' := by
  subst hN
  obtain ⟨T, fr, h1⟩ := h
  exact ⟨T, fr, (hb.block _ (Array.getElem?_eq_some_iff.1 h1).1).trans h1⟩
/-- The text of an instruction. -/
@[irreducible] def prL (op d a b i : Int) : List UInt8 :=
  nm op ++ (if lD (formI op) then [32, 114] ++ Lib.itoa d else []) ++ (if lA (formI op) then [32, 114] ++ Lib.itoa a else []) ++ (if lB (formI op) then [32, 114] ++ Lib.itoa b else []) ++ (if lBits (formI op) > 0 then [32] ++ Lib.itoa i else [])
@[irreducible] def prR (op d a b i : Int) : List UInt8 := if chkB op d a b i then prL op d a b i else []
theorem below_grow {B : Nat} {w w' : World} (h : Below B w w') (os : Array Obj) (hB : B ≤ w'.heap.size) : Below B w (Go.Sort.grow w' os) :=
  h.trans ⟨rfl, rfl, rfl, by simp [Go.Sort.grow], fun j hj => by
    show (w'.heap ++ os)[j]? = w'.heap[j]?
    rw [Array.getElem?_append_left (by omega)]⟩
theorem tab_of {w : World} (h : PwH w) : ∀ nm, Tryd.prog.globalNamed nm = some 6 → Lib.TabIs Tryd.prog w nm .u64 Lib.pow10Tab := by
  intro nm hn
  obtain ⟨T, fr, h1⟩ := h
  unfold Lib.TabIs World.var?
  rw [hn]
  simp only [Option.bind_some]
  rw [h1]
theorem c_Itoa (n : Int) (w : World) (h0 : -9223372036854775808 ≤ n) (h1 : n ≤ 9223372036854775807) (ht : PwH w) :
    Calls Tryd.prog 53 #[.int .i64 n] w fun e w' => e = .returned (.string ⟨(Lib.itoa n).toArray⟩) ∧ Below w.heap.size w w' :=
  (Any.strconv_Itoa Tryd.laysM171 n h0 h1 w (tab_of ht _ (by kernel_rfl))).mono fun e w' ⟨he, k, os, hw⟩ => ⟨he, by
    rw [hw]
    have hb := below_drewN (Below.refl w.heap.size w) k
    exact below_grow hb os hb.size⟩
theorem c_Itoa_small (n : Int) (w : World) (h0 : 0 ≤ n) (h1 : n ≤ 15) :
    Calls Tryd.prog 53 #[.int .i64 n] w fun e w' => e = .returned (.string ⟨(Lib.itoa n).toArray⟩) ∧ w = w' := by
  obtain ⟨k, rfl⟩ := Int.eq_ofNat_of_zero_le h0
  refine (show Calls Tryd.prog 53 #[.int .i64 (k : Int)] w fun e w' => e = .returned (.string ⟨(Lib.decDigits k).toArray⟩) ∧ w' = w from Any.strconv_Itoa_small Tryd.lays171 k (by omega) w).mono ?_
  rintro e w' ⟨rfl, rfl⟩
  refine ⟨?_, rfl⟩
  unfold Lib.itoa
  rw [if_neg (by omega), Int.toNat_natCast]
end Go.Proofs.YthekokjmdjokgaaDoor
