/-
  The contracts of a reader of types at its place, in the code.
-/
import Derived.Test.YtacbjhbiaaieoaaGreatDoorTyLex
import Derived.Test.YtacbjhbiaaieoaaGreatDoorTyPu
import Derived.Test.YtacbjhbiaaieoaaGreatDoorShelf
import Derived.Shelf.Strings.Cut
import Derived.Shelf.Strings.Prefix
namespace Go.Proofs.YtacbjhbiaaieoaaGreatDoor
set_option linter.unusedVariables false
set_option linter.unusedSimpArgs false
set_option maxRecDepth 100000
open Go.RowKit

theorem ext_end (l : List UInt8) (k : Nat) : (⟨l.toArray⟩ : ByteArray).extract k l.length = ⟨(l.drop k).toArray⟩ := by
  rw [ext_sub, List.take_of_length_le (by rw [List.length_drop]; omega)]
theorem c_isEnd (b : Nat) (l : List UInt8) (k : Nat) (w : World) (h0 : w.cell? ⟨b, 0, none⟩ = some (.string ⟨l.toArray⟩)) (h1 : w.cell? ⟨b, 1, none⟩ = some (.int .i64 k)) :
    Calls Tryz.prog 73 #[.pointer (some ⟨b, 0, none⟩)] w fun e w' => e = .returned (.bool (k == l.length)) ∧ ∃ n, w' = w.drewN n := by
  have hk : ((k : Int) == (l.length : Int)) = (k == l.length) := by
    rw [Bool.eq_iff_iff]
    simp
    omega
  go_enter Tryz.func73, Tryz.ntmps73
  go_wp2
  go_quiet (fail)
  go_wp2
  go_ret
  exact ⟨rfl, _, rfl⟩
set_option maxHeartbeats 2000000 in
theorem c_letter0 (b : Nat) (l : List UInt8) (w : World) (h0 : w.cell? ⟨b, 0, none⟩ = some (.string ⟨l.toArray⟩)) (h1 : w.cell? ⟨b, 1, none⟩ = some (.int .i64 l.length)) :
    Calls Tryz.prog 101 #[.pointer (some ⟨b, 0, none⟩)] w fun e w' => e = .returned (.int .u8 0) ∧ RdW b 0 w l.length w' := by
  have HR := Lib.hid (RdW.start (o := 0) h1)
  go_enter Tryz.func101, Tryz.ntmps101
  go_wp2_with fail
  refine (c_isEnd b l l.length _ h0 h1).mono ?_
  rw [show (l.length == l.length) = true by simp]
  rintro e w2 ⟨rfl, n, rfl⟩
  go_wp2_with fail
  go_ret
  exact ⟨rfl, HR.out.drewN _⟩
set_option maxHeartbeats 2000000 in
theorem c_letter (b : Nat) (l : List UInt8) (k : Nat) (cI : Int) (hcI : ((l[k]?.getD 0).toNat : Int) = cI) (w : World) (hk : k < l.length) (hl : l.length ≤ 65536) (h0 : w.cell? ⟨b, 0, none⟩ = some (.string ⟨l.toArray⟩)) (h1 : w.cell? ⟨b, 1, none⟩ = some (.int .i64 k)) (hf : w.frozen? ⟨b, 1, none⟩ = false) :
    Calls Tryz.prog 101 #[.pointer (some ⟨b, 0, none⟩)] w fun e w' => e = .returned (.int .u8 cI) ∧ RdW b 0 w (k + 1) w' := by
  have HR := Lib.hid (RdW.start (o := 0) h1)
  have hby : ∀ h, (((ByteArray.mk l.toArray)[k]'h).toNat : Int) = cI := fun h => (byte_at l k h).trans hcI
  have hov : (k == l.length) = false := by simp; omega
  have hj0 : (0 : Int) ≤ (k : Int) := by omega
  have hj1 : (k : Int) < (l.length : Int) := by omega
  have hw : IntKind.i64.wrap (k : Int) = k := by rw [IntKind.wrap_i64]; omega
  clear hcI
  go_enter Tryz.func101, Tryz.ntmps101
  go_wp2_with fail
  refine (c_isEnd b l k _ h0 h1).mono ?_
  rw [hov]
  rintro e w2 ⟨rfl, n, rfl⟩
  go_wp2_with fail
  go_quiet (fail)
  go_wp2_with fail
  go_ret
  exact ⟨rfl, ((HR.out.drewN _).set (k + 1)).drewN _⟩
theorem c_sHasPrefix (x p : List UInt8) (w : World) :
    Calls Tryz.prog 128 #[.string ⟨x.toArray⟩, .string ⟨p.toArray⟩] w fun e w' => e = .returned (.bool (p.isPrefixOf x)) ∧ w = w' :=
  (Any.strings_HasPrefix Tryz.lays99 ⟨x.toArray⟩ ⟨p.toArray⟩ w).mono fun e w' ⟨he, hw⟩ => ⟨by simpa [Lib.hasPrefix] using he, hw.symm⟩
theorem c_sCut (x p : List UInt8) (m : Int) (w : World) (hx : x.length ≤ 65536) (hm : w.cell? ⟨3, 0, none⟩ = some (.int .i64 m)) :
    Calls Tryz.prog 124 #[.string ⟨x.toArray⟩, .string ⟨p.toArray⟩] w fun e w' => e = .returned (.tuple #[.string ⟨(Lib.cut x p).1.toArray⟩, .string ⟨(Lib.cut x p).2.1.toArray⟩, .bool (Lib.cut x p).2.2]) ∧ ∃ n, w' = w.drewN n :=
  (Any.strings_Cut Tryz.lays145 ⟨x.toArray⟩ ⟨p.toArray⟩ m w (by show x.toArray.size < _; simp; omega) hm).mono fun e w' ⟨he, hw⟩ => ⟨by simpa using he, hw⟩
theorem head_pre (c : UInt8) (r : List UInt8) : ([c] : List UInt8).isPrefixOf r = (r.head? == some c) := by
  cases r with
  | nil => rfl
  | cons d r =>
    simp [List.isPrefixOf]
    rw [Bool.eq_iff_iff]
    simp
    exact ⟨fun h => h.symm, fun h => h.symm⟩
set_option maxHeartbeats 2000000 in
attribute [local irreducible] Go.wpQuiet in
/-- One byte, if it comes next. -/
theorem c_take (b : Nat) (l : List UInt8) (c : UInt8) (k : Nat) (w : World) (hk : k ≤ l.length) (hl : l.length ≤ 65536) (h0 : w.cell? ⟨b, 0, none⟩ = some (.string ⟨l.toArray⟩)) (h1 : w.cell? ⟨b, 1, none⟩ = some (.int .i64 k)) (hf : w.frozen? ⟨b, 1, none⟩ = false) :
    Calls Tryz.prog 122 #[.pointer (some ⟨b, 0, none⟩), .string ⟨#[c]⟩] w fun e w' => e = .returned (.bool ((l.drop k).head? == some c)) ∧ RdW b 0 w (if (l.drop k).head? == some c then k + 1 else k) w' := by
  have HR := Lib.hid (RdW.start (o := 0) h1)
  have HP : Hid (∀ w : World, Calls Tryz.prog 128 #[.string ⟨(l.drop k).toArray⟩, .string ⟨#[c]⟩] w fun e w' => e = .returned (.bool ((l.drop k).head? == some c)) ∧ w' = w) := fun w => (c_sHasPrefix (l.drop k) [c] w).mono fun e w' h => ⟨by rw [← head_pre]; exact h.1, h.2.symm⟩
  have hex := ext_end l k
  have hj0 : (0 : Int) ≤ (k : Int) := by omega
  have hj1 : (k : Int) ≤ (l.length : Int) := by omega
  obtain ⟨q, hq⟩ : ∃ q, ((l.drop k).head? == some c) = q := ⟨_, rfl⟩
  rw [hq] at HP ⊢
  clear hq
  go_enter Tryz.func122, Tryz.ntmps122
  go_wp2_with fail
  go_quiet (first | (go_at_call 128; refine Calls.quiet_of_same (HP.out _)))
  cases q
  all_goals
    go_wp2_with fail
    go_ret
  · exact ⟨rfl, HR.out.drewN _⟩
  · exact ⟨rfl, (HR.out.drewN _).set (k + 1)⟩
set_option maxHeartbeats 2000000 in
attribute [local irreducible] Go.wpQuiet in
/-- What stands ahead of the next such byte, and that. -/
theorem c_upTo (b : Nat) (l : List UInt8) (c : UInt8) (k : Nat) (m : Int) (w : World) (hk : k ≤ l.length) (hl : l.length ≤ 65536) (hm : w.cell? ⟨3, 0, none⟩ = some (.int .i64 m)) (h0 : w.cell? ⟨b, 0, none⟩ = some (.string ⟨l.toArray⟩)) (h1 : w.cell? ⟨b, 1, none⟩ = some (.int .i64 k)) (hf : w.frozen? ⟨b, 1, none⟩ = false) :
    Calls Tryz.prog 119 #[.pointer (some ⟨b, 0, none⟩), .string ⟨#[c]⟩] w fun e w' =>
      (∃ s y, upTo c (l.drop k) = some (s, y) ∧ e = .returned (.tuple #[.string ⟨s.toArray⟩, .bool true]) ∧ RdW b 0 w (k + s.length + 1) w') ∨
      (upTo c (l.drop k) = none ∧ e = .returned (.tuple #[.string ⟨(l.drop k).toArray⟩, .bool false]) ∧ RdW b 0 w k w') := by
  have HR := Lib.hid (RdW.start (o := 0) h1)
  have HP : Hid (∀ w2 : World, (∃ n, w2 = w.drewN n) → Calls Tryz.prog 124 #[.string ⟨(l.drop k).toArray⟩, .string ⟨#[c]⟩] w2 fun e w' => e = .returned (.tuple #[.string ⟨(Lib.cut (l.drop k) [c]).1.toArray⟩, .string ⟨(Lib.cut (l.drop k) [c]).2.1.toArray⟩, .bool (Lib.cut (l.drop k) [c]).2.2]) ∧ ∃ n, w' = w2.drewN n) := fun w2 hn => by
    obtain ⟨n, rfl⟩ := hn
    exact c_sCut (l.drop k) [c] m _ (by rw [List.length_drop]; omega) hm
  have hex := ext_end l k
  have hj0 : (0 : Int) ≤ (k : Int) := by omega
  have hj1 : (k : Int) ≤ (l.length : Int) := by omega
  rcases hu : upTo c (l.drop k) with _ | ⟨s, y⟩
  · rw [cut_none hu] at HP
    have HU := Lib.hid hu
    clear hu
    go_enter Tryz.func119, Tryz.ntmps119
    go_wp2_with fail
    go_quiet (first | (go_at_call 124; refine Calls.quiet_of (HP.out _ ⟨_, rfl⟩)))
    go_wp2_with fail
    go_ret2
    exact .inr ⟨trivial, rfl, HR.out.drewN _⟩
  · rw [cut_some hu] at HP
    have hsl := upTo_len hu
    rw [List.length_drop] at hsl
    have HU := Lib.hid hu
    have hw1 : IntKind.i64.wrap ((s.length : Int) + 1) = (s.length : Int) + 1 := by rw [IntKind.wrap_i64]; omega
    have hw2 : IntKind.i64.wrap ((k : Int) + ((s.length : Int) + 1)) = ((k + s.length + 1 : Nat) : Int) := by rw [IntKind.wrap_i64]; omega
    clear hu
    go_enter Tryz.func119, Tryz.ntmps119
    go_wp2_with fail
    go_quiet (first | (go_at_call 124; refine Calls.quiet_of (HP.out _ ⟨_, rfl⟩)))
    go_wp2_with fail
    go_ret2
    exact .inl ⟨s, y, rfl, rfl, (HR.out.drewN _).set _⟩
end Go.Proofs.YtacbjhbiaaieoaaGreatDoor
