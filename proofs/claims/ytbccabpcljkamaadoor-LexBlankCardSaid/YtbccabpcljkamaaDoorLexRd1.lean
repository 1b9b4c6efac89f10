/-
  The contracts of a reader that looks on, and of one that goes over blank, in the code.
-/
import Derived.Test.YtbccabpcljkamaaDoorLexTok2
import Derived.Test.YtbccabpcljkamaaDoorLexT
import Derived.Shelf.Strings.Cut
import Derived.Shelf.Strings.Prefix
namespace Go.Proofs.YtbccabpcljkamaaDoor
set_option linter.unusedVariables false
set_option linter.unusedSimpArgs false
set_option maxRecDepth 100000
open Go.RowKit

theorem ext_end (l : List UInt8) (k : Nat) : (⟨l.toArray⟩ : ByteArray).extract k l.length = ⟨(l.drop k).toArray⟩ := by
  rw [ext_sub, List.take_of_length_le (by rw [List.length_drop]; omega)]
theorem c_isBlank (c : Int) (w : World) (h0 : 0 ≤ c) (h1 : c ≤ 255) :
    Calls Tryd.prog 41 #[.int .u8 c] w fun e w' => e = .returned (.bool (blkI c)) ∧ w = w' := by
  go_enter Tryd.func41, Tryd.ntmps41
  go_wp2
  all_goals
    go_ret
    refine ⟨ret_b ?_, rfl⟩
    unfold blkI
    rw [Bool.eq_iff_iff]
    simp
    omega
theorem c_rest (b : Nat) (l : List UInt8) (k : Nat) (w : World) (hk : k ≤ l.length) (h0 : w.cell? ⟨b, 0, none⟩ = some (.string ⟨l.toArray⟩)) (h1 : w.cell? ⟨b, 1, none⟩ = some (.int .i64 k)) :
    Calls Tryd.prog 44 #[.pointer (some ⟨b, 0, none⟩)] w fun e w' => e = .returned (.string ⟨(l.drop k).toArray⟩) ∧ ∃ n, w' = w.drewN n := by
  have hex := ext_end l k
  have hk0 : (0 : Int) ≤ (k : Int) := by omega
  have hk1 : (k : Int) ≤ (l.length : Int) := by omega
  go_enter Tryd.func44, Tryd.ntmps44
  go_wp2
  go_quiet (fail)
  go_wp2
  go_ret
  exact ⟨rfl, _, rfl⟩
theorem c_sHasPrefix (x p : List UInt8) (w : World) :
    Calls Tryd.prog 51 #[.string ⟨x.toArray⟩, .string ⟨p.toArray⟩] w fun e w' => e = .returned (.bool (p.isPrefixOf x)) ∧ w = w' :=
  (Any.strings_HasPrefix Tryd.lays99 ⟨x.toArray⟩ ⟨p.toArray⟩ w).mono fun e w' ⟨he, hw⟩ => ⟨by simpa [Lib.hasPrefix] using he, hw.symm⟩
theorem c_sCut (x p : List UInt8) (m : Int) (w : World) (hx : x.length ≤ 65536) (hm : w.cell? ⟨1, 0, none⟩ = some (.int .i64 m)) :
    Calls Tryd.prog 43 #[.string ⟨x.toArray⟩, .string ⟨p.toArray⟩] w fun e w' => e = .returned (.tuple #[.string ⟨(Lib.cut x p).1.toArray⟩, .string ⟨(Lib.cut x p).2.1.toArray⟩, .bool (Lib.cut x p).2.2]) ∧ ∃ n, w' = w.drewN n :=
  (Any.strings_Cut Tryd.lays145 ⟨x.toArray⟩ ⟨p.toArray⟩ m w (by show x.toArray.size < _; simp; omega) hm).mono fun e w' ⟨he, hw⟩ => ⟨by simpa using he, hw⟩
theorem c_sees (b : Nat) (l s : List UInt8) (k : Nat) (w : World) (hk : k ≤ l.length) (h0 : w.cell? ⟨b, 0, none⟩ = some (.string ⟨l.toArray⟩)) (h1 : w.cell? ⟨b, 1, none⟩ = some (.int .i64 k)) :
    Calls Tryd.prog 42 #[.pointer (some ⟨b, 0, none⟩), .string ⟨s.toArray⟩] w fun e w' => e = .returned (.bool (s.isPrefixOf (l.drop k))) ∧ ∃ n, w' = w.drewN n := by
  go_enter Tryd.func42, Tryd.ntmps42
  go_wp2_with fail
  refine (c_rest b l k _ hk h0 h1).mono ?_
  rintro e w2 ⟨rfl, n, rfl⟩
  go_wp2_with fail
  refine (c_sHasPrefix (l.drop k) s _).mono ?_
  rintro e w3 ⟨rfl, rfl⟩
  go_wp2_with fail
  go_ret
  exact ⟨rfl, _, rfl⟩
/-- What stands at a place. -/
def atI (l : List UInt8) (k : Nat) : UInt8 := l[k]?.getD 0
theorem drew_same (b : Nat) (l : List UInt8) (k : Nat) (w : World) (h0 : w.cell? ⟨b, 0, none⟩ = some (.string ⟨l.toArray⟩)) (h1 : w.cell? ⟨b, 1, none⟩ = some (.int .i64 k)) (w2 : World) (hn : ∃ n, w2 = w.drew.drewN n) :
    w2.cell? ⟨b, 0, none⟩ = some (.string ⟨l.toArray⟩) ∧ w2.cell? ⟨b, 1, none⟩ = some (.int .i64 k) ∧ Hid (∃ n, w2 = w.drewN n) := by
  obtain ⟨n, rfl⟩ := hn
  exact ⟨h0, h1, n + 1, congrArg (fun d => { w with drawn := d }) (by omega : w.drawn + 1 + n = w.drawn + (n + 1))⟩
attribute [local irreducible] Go.wpQuiet in
theorem c_seesByte (b : Nat) (l : List UInt8) (c : UInt8) (cI : Int) (hcI : (c.toNat : Int) = cI) (k : Nat) (w : World) (hk : k ≤ l.length) (h0 : w.cell? ⟨b, 0, none⟩ = some (.string ⟨l.toArray⟩)) (h1 : w.cell? ⟨b, 1, none⟩ = some (.int .i64 k)) :
    Calls Tryd.prog 48 #[.pointer (some ⟨b, 0, none⟩), .int .u8 cI] w fun e w' => e = .returned (.bool ((l.drop k).head? == some c)) ∧ ∃ n, w' = w.drewN n := by
  have HO := Lib.hid (c_isOver b 0 l k)
  have HN : Hid (∀ w2, (∃ n, w2 = w.drew.drewN n) → ∃ n, w2 = w.drewN n) := fun w2 h => (drew_same b l k w h0 h1 w2 h).2.2.out
  by_cases hlt : k < l.length
  · obtain ⟨dI, hdI⟩ : ∃ dI : Int, ((l[k]?.getD 0).toNat : Int) = dI := ⟨_, rfl⟩
    have hby : ∀ h, (((ByteArray.mk l.toArray)[k]'h).toNat : Int) = dI := fun h => (byte_at l k h).trans hdI
    have HV : Hid (((l.drop k).head? == some c) = (dI == cI)) := by
      show _ = _
      rw [List.drop_eq_getElem_cons hlt]
      rw [List.getElem?_eq_getElem hlt] at hdI
      simp at hdI
      rw [Bool.eq_iff_iff]
      simp only [List.head?_cons, beq_iff_eq, Option.some.injEq]
      rw [← UInt8.toNat_inj]
      omega
    have hov : (k == l.length) = false := by simp; omega
    have hj0 : (0 : Int) ≤ (k : Int) := by omega
    have hj1 : (k : Int) < (l.length : Int) := by omega
    rw [hov] at HO
    rw [HV.out]
    clear hdI hcI HV
    go_enter Tryd.func48, Tryd.ntmps48
    go_wp2_with fail
    go_quiet (first | (go_at_call 18; refine Calls.quiet_of (HO.out _ ((World.cell?_drewN _ _ _).trans h0) ((World.cell?_drewN _ _ _).trans h1))))
    go_wp2_with fail
    go_ret
    exact ⟨rfl, _, rfl⟩
  · have HV : Hid (((l.drop k).head? == some c) = false) := by
      show _ = _
      rw [List.drop_eq_nil_of_le (by omega)]
      rfl
    have hov : (k == l.length) = true := by simp; omega
    rw [hov] at HO
    rw [HV.out]
    clear HV hcI
    go_enter Tryd.func48, Tryd.ntmps48
    go_wp2_with fail
    go_quiet (first | (go_at_call 18; refine Calls.quiet_of (HO.out _ ((World.cell?_drewN _ _ _).trans h0) ((World.cell?_drewN _ _ _).trans h1))))
    go_wp2_with fail
    go_ret
    exact ⟨rfl, _, rfl⟩
end Go.Proofs.YtbccabpcljkamaaDoor
