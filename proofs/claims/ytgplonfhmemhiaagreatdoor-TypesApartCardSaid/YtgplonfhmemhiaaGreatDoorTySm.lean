/-
  The contract of types held against each other, in the code.
-/
import Derived.Test.YtgplonfhmemhiaaGreatDoorTyEl
namespace Go.Proofs.YtgplonfhmemhiaaGreatDoor
set_option linter.unusedVariables false
set_option linter.unusedSimpArgs false
set_option maxRecDepth 100000
open Go.RowKit

set_option maxHeartbeats 4000000 in
theorem c_same (a1 : Option Addr) (c1 : Nat) (a2 : Option Addr) (c2 : Nat) (L : List (List UInt8)) (w : World) (h1 : StrIn w a1 L) (h2 : StrIn w a2 L) (hl : L.length ≤ 65536) :
    Calls Tryz.prog 23 #[.slice a1 L.length c1, .slice a2 L.length c2] w fun e w' => e = .returned (.bool true) ∧ ∃ n, w' = w.drewN n := by
  have H1 := Lib.hid h1
  have H2 := Lib.hid h2
  have HL := Lib.hid hl
  clear h1 h2
  go_enter Tryz.func23, Tryz.ntmps23
  go_wp2_with fail
  go_loopg [13] L.length (fun m v13 wr => ∃ q : Nat, q + m = L.length ∧ v13 = .int .i64 (q : Int) ∧ ∃ n, wr = w.drewN n)
  case atStart => exact ⟨0, by omega, rfl, 0, by simp [World.drewN_zero]⟩
  case round =>
    obtain ⟨q, hq, rfl, n, rfl⟩ := hrel
    by_cases hlt : q < L.length
    · have hd : decide ((q : Int) < (L.length : Int)) = true := by simp; omega
      obtain ⟨s, hs⟩ : ∃ s, L[q]? = some s := ⟨_, List.getElem?_eq_getElem hlt⟩
      obtain ⟨b1, o1, hb1, hx1⟩ := H1.out (by omega)
      obtain ⟨b2, o2, hb2, hx2⟩ := H2.out (by omega)
      subst hb1 hb2
      have y1 := hx1 q s hs
      have y2 := hx2 q s hs
      have hq0 : (0 : Int) ≤ (q : Int) := by omega
      have hql : (q : Int) < (L.length : Int) := by omega
      have hwm : IntKind.i64.wrap ((q : Int) + 1) = ((q + 1 : Nat) : Int) := by rw [IntKind.wrap_i64]; omega
      have HM : Hid (L.length - (q + 1) < gk ∧ q + 1 + (L.length - (q + 1)) = L.length) := ⟨by omega, by omega⟩
      clear hs hx1 hx2
      go_wp2_with fail
      go_quiet (fail)
      go_wp2_with fail
      go_roundg (L.length - (q + 1))
      case measure => exact HM.out.1
      case rel => exact ⟨q + 1, HM.out.2, rfl, _, rfl⟩
    · have hd : decide ((q : Int) < (L.length : Int)) = false := by simp; omega
      go_wp2_with fail
      go_ret
      exact ⟨rfl, _, rfl⟩
end Go.Proofs.YtgplonfhmemhiaaGreatDoor
