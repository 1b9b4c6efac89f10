/-
  The contract of whether any type is well made, in the code.
-/
import Derived.Test.YtgplonfhmemhiaaGreatDoorTyCk3
namespace Go.Proofs.YtgplonfhmemhiaaGreatDoor
set_option linter.unusedVariables false
set_option linter.unusedSimpArgs false
set_option maxRecDepth 100000
open Go.RowKit

/-- An array that may be. -/
theorem c_fitAr (k : Nat) (u : Ty) (hwf : (Ty.arr k u).wf) (a : Option Addr) (n c : Nat) (w : World) (hN : NdIn (.arr k u) (.slice a n c) w) :
    Calls Tryz.prog 106 #[nT (.arr k u) a n c] w fun e w' => (∃ d : Bool, e = .returned (.bool d) ∧ (d = true → u.isFn = false)) ∧ Below w.heap.size w w' := by
  have HI := Lib.hid (fun w' (hb : Below w.heap.size w w') => c_inner (fun j => j < w'.heap.size) (.arr k u) _ w' (nd_all _ _ _ _ w w' hN hb) [] u rfl (by simp))
  have HO := Lib.hid c_isObject
  show Calls _ _ #[nV 97 ⟨(Ty.arr k u).code.toArray⟩ (k : Int) ⟨#[]⟩ a n c] w _
  obtain ⟨s1, hs1⟩ : ∃ s1, (⟨(Ty.arr k u).code.toArray⟩ : ByteArray) = s1 := ⟨_, rfl⟩
  obtain ⟨z0, hz0⟩ : ∃ z : Int, (u.letter.toNat : Int) = z := ⟨_, rfl⟩
  obtain ⟨z2, hz2⟩ : ∃ z : Int, (u.count : Int) = z := ⟨_, rfl⟩
  obtain ⟨x2, hx2⟩ : ∃ z : Int, (k : Int) = z := ⟨_, rfl⟩
  have HZ := Lib.hid hz0
  have HI' : Hid (∀ w', Below w.heap.size w w' → Calls Tryz.prog 41 #[nV 97 s1 x2 ⟨#[]⟩ a n c] w' fun e w'' => (∃ a n c, e = .returned (nV z0 ⟨u.code.toArray⟩ z2 ⟨u.tag.toArray⟩ a n c)) ∧ Below w'.heap.size w' w'') := fun w' hb => by
    have h := HI.out w' hb
    rw [nd_val] at h
    rw [← hs1, ← hx2]
    refine h.mono fun e w'' h => ?_
    obtain ⟨⟨a', n', c', h1, h2⟩, h3⟩ := h
    rw [nd_val, hz0, hz2] at h1
    exact ⟨⟨a', n', c', h1⟩, h3⟩
  rw [hs1, hx2]
  clear hN HI hwf hs1 hz0 hz2 hx2
  cases h1 : decide (1 ≤ x2)
  · go_enter Tryz.func106, Tryz.ntmps106
    go_wp2_with fail
    go_ret
    exact ⟨⟨false, rfl, fun h => by cases h⟩, below_a _ _⟩
  · cases h2 : decide (x2 ≤ 65536)
    · go_enter Tryz.func106, Tryz.ntmps106
      go_wp2_with fail
      go_ret
      exact ⟨⟨false, rfl, fun h => by cases h⟩, below_a _ _⟩
    · obtain ⟨qo, hqo⟩ : ∃ q, objI z0 = q := ⟨_, rfl⟩
      have HQ := Lib.hid hqo
      have HOu := Lib.hid (HO.out z0 ⟨u.code.toArray⟩ z2 ⟨u.tag.toArray⟩)
      rw [hqo] at HOu
      clear hqo HO
      go_enter Tryz.func106, Tryz.ntmps106
      go_wp2_with fail
      refine (HI'.out _ (below_a _ _)).mono ?_
      rintro e w2 ⟨⟨a2, n2, c2, rfl⟩, hb⟩
      have HB2 := Lib.hid (below_on (below_a w (.cells #[.int .u8 97, .string s1, .int .i64 x2, .string ⟨#[]⟩, .slice a n c] 61)) hb (by simp))
      clear hb
      go_wp2_with fail
      refine (HOu.out a2 n2 c2 _).mono ?_
      rintro e w3 ⟨rfl, hb⟩
      have HB3 := Lib.hid (below_on HB2.out hb HB2.out.size)
      clear hb
      go_wp2_with fail
      go_ret
      exact ⟨⟨qo, rfl, fun h => notfn_of u (by rw [HZ.out, HQ.out, h])⟩, HB3.out⟩
end Go.Proofs.YtgplonfhmemhiaaGreatDoor
