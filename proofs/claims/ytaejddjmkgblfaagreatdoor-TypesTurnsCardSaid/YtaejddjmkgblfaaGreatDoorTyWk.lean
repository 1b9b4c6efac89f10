/-
  The contract of the statements' own first look: the chapter's first two examples, in the code.
-/
import Derived.Test.YtaejddjmkgblfaaGreatDoorTyLz
import Derived.Test.YtaejddjmkgblfaaGreatDoorTyDc
namespace Go.Proofs.YtaejddjmkgblfaaGreatDoor
set_option linter.unusedVariables false
set_option linter.unusedSimpArgs false
set_option maxRecDepth 100000
open Go.RowKit

def exT : Ty := .ptr (.fn (.cons (.base 105) (.cons (.ptr (.base 99)) .nil)) (.base 105))
theorem ex_d : dA [112, 102, 40, 105, 44, 112, 99, 41, 105] [103] = ([105, 110, 116, 32, 40, 42, 103, 41, 40, 105, 110, 116, 44, 32, 99, 104, 97, 114, 32, 42, 41], 0) := by
  have hw : exT.wf := ⟨⟨rfl, rfl, trivial⟩, rfl⟩
  have hk : tk [112, 102, 40, 105, 44, 112, 99, 41, 105] = some exT := tk_code (t := exT) hw (by decide)
  have hn : nameB [103] = true := by unfold nameB wordB keyB; decide +kernel
  unfold dA
  rw [hk]
  simp only
  rw [if_pos (.inr hn)]
  rfl
set_option maxHeartbeats 4000000 in
theorem c_works (B : Nat) (w : World) (hE : Env B w) (hB : B ≤ w.heap.size) :
    Calls Tryz.prog 15 #[] w fun e w' => e = .returned (.bool true) ∧ Below w.heap.size w w' := by
  have HS := Lib.hid (fun w' (hb : Below w.heap.size w w') gs gm cs hcs hX => c_Size B gs gm cs hcs w' (hE.next (hb.mono hB)) (Nat.le_trans hB hb.size) hX)
  have HM := Lib.hid (fun w' (hb : Below w.heap.size w w') gs gm cs hcs hX => c_Member B gs gm cs hcs w' (hE.next (hb.mono hB)) (Nat.le_trans hB hb.size) hX)
  have HD := Lib.hid (fun w' (hb : Below w.heap.size w w') => c_Declare B [112, 102, 40, 105, 44, 112, 99, 41, 105] [103] w' (hE.next (hb.mono hB)) (Nat.le_trans hB hb.size) (by decide) (by decide))
  rw [ex_d] at HD
  clear hE
  go_enter Tryz.func15, Tryz.ntmps15
  go_wp2_with fail
  have HX : Hid (ExAt (w.heap.size + 1) w.heap.size ((w.alloc (.cells #[.string sT1, .string ⟨#[99]⟩, .string sT2, .string ⟨#[105]⟩] 77)).alloc (.cells #[.string sTt, .slice (some ⟨w.heap.size, 0, none⟩) 2 2] 61))) := by
    have h1 : ((w.alloc (.cells #[.string sT1, .string ⟨#[99]⟩, .string sT2, .string ⟨#[105]⟩] 77)).alloc (.cells #[.string sTt, .slice (some ⟨w.heap.size, 0, none⟩) 2 2] 61)).heap[w.heap.size]? = some (.cells #[.string sT1, .string ⟨#[99]⟩, .string sT2, .string ⟨#[105]⟩] 77) := (Below.heap_alloc _ _ _ (by simp)).trans (heap_alloc_new w _)
    have h2 := new2 w (.cells #[.string sT1, .string ⟨#[99]⟩, .string sT2, .string ⟨#[105]⟩] 77) (.cells #[.string sTt, .slice (some ⟨w.heap.size, 0, none⟩) 2 2] 61)
    exact ⟨by rw [Lib.cell_of_heap h2]; rfl, by rw [Lib.cell_of_heap h2]; rfl, by rw [Lib.cell_of_heap h1]; rfl, by rw [Lib.cell_of_heap h1]; rfl, by rw [Lib.cell_of_heap h1]; rfl, by rw [Lib.cell_of_heap h1]; rfl⟩
  have HB2 := Lib.hid ((below_a w (.cells #[.string sT1, .string ⟨#[99]⟩, .string sT2, .string ⟨#[105]⟩] 77)).alloc (by simp) (.cells #[.string sTt, .slice (some ⟨w.heap.size, 0, none⟩) 2 2] 61))
  refine (HS.out _ HB2.out _ _ 1 (Nat.le_refl _) HX.out).mono ?_
  rintro e w3 ⟨rfl, hb⟩
  have HB3 := Lib.hid (below_on HB2.out hb HB2.out.size)
  have HX3 := Lib.hid (HX.out.next hb)
  clear hb HB2 HX HS
  go_wp2_with fail
  refine (HM.out _ HB3.out _ _ 1 (Nat.le_refl _) HX3.out).mono ?_
  rintro e w4 ⟨rfl, hb⟩
  have HB4 := Lib.hid (below_on HB3.out hb HB3.out.size)
  clear hb HB3 HX3 HM
  go_wp2_with fail
  refine (HD.out _ HB4.out).mono ?_
  rintro e w5 ⟨rfl, hb⟩
  have HB5 := Lib.hid (below_on HB4.out hb HB4.out.size)
  clear hb HB4 HD
  go_wp2_with fail
  go_ret
  exact ⟨rfl, HB5.out⟩
end Go.Proofs.YtaejddjmkgblfaaGreatDoor
