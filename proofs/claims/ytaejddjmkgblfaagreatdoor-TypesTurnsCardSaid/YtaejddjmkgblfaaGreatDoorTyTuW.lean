/-
  The walk of the law: what becomes of types, and how they are written, is as the document says.
-/
import Derived.Test.YtaejddjmkgblfaaGreatDoorTyWk
import Derived.Test.YtaejddjmkgblfaaGreatDoorTyRv
import Derived.Test.YtaejddjmkgblfaaGreatDoorTyRu
namespace Go.Proofs.YtaejddjmkgblfaaGreatDoor
set_option linter.unusedVariables false
set_option linter.unusedSimpArgs false
set_option maxRecDepth 100000
open Go.RowKit

/-- A contract at all worlds further on. -/
abbrev CL (f : FuncId) (args : Array Value) (v : Value) (w : World) : Prop := ∀ w', Below w.heap.size w w' → Calls Tryz.prog f args w' fun e w'' => e = .returned v ∧ Below w'.heap.size w' w''
set_option maxHeartbeats 8000000 in
theorem c_Turns (B : Nat) (l m x : List UInt8) (w : World) (hE : Env B w) (hB : B ≤ w.heap.size) (hl : l.length ≤ 9223372036854775807) (hm : m.length ≤ 9223372036854775807) (hx : x.length ≤ 9223372036854775807) :
    Calls Tryz.prog 6 #[.string ⟨l.toArray⟩, .string ⟨m.toArray⟩, .string ⟨x.toArray⟩] w fun e w' => e = .returned (.bool true) ∧ Below w.heap.size w w' := by
  have up : ∀ w', Below w.heap.size w w' → Env B w' ∧ B ≤ w'.heap.size := fun w' h => ⟨hE.next (h.mono hB), Nat.le_trans hB h.size⟩
  obtain ⟨d, de, hd⟩ : ∃ c e, dcA l = (c, e) := ⟨_, _, rfl⟩
  obtain ⟨p, pe, hp⟩ : ∃ c e, prA l = (c, e) := ⟨_, _, rfl⟩
  obtain ⟨c, ce, hc⟩ : ∃ c e, cmA l m = (c, e) := ⟨_, _, rfl⟩
  obtain ⟨s, se, hs⟩ : ∃ c e, dA l x = (c, e) := ⟨_, _, rfl⟩
  obtain ⟨i, hi⟩ : ∃ i, isIA l = i := ⟨_, rfl⟩
  obtain ⟨k, hk⟩ : ∃ k, scA l = k := ⟨_, rfl⟩
  have H1 : Hid (CL 29 #[.string ⟨l.toArray⟩] (.tuple #[.string ⟨d.toArray⟩, .int .i64 de]) w) := fun w' h => by
    have h1 := c_Decay B l w' (up w' h).1 (up w' h).2 hl
    rw [hd] at h1; exact h1
  have H2 : Hid (CL 30 #[.string ⟨l.toArray⟩] (.tuple #[.string ⟨d.toArray⟩, .int .i64 de]) w) := fun w' h => by
    have h1 := c_rDecay l w' hl
    rw [hd] at h1; exact h1
  have H3 : Hid (CL 31 #[.string ⟨l.toArray⟩] (.tuple #[.string ⟨p.toArray⟩, .int .i64 pe]) w) := fun w' h => by
    have h1 := c_Promote B l w' (up w' h).1 (up w' h).2 hl
    rw [hp] at h1; exact h1
  have H4 : Hid (CL 32 #[.string ⟨l.toArray⟩] (.tuple #[.string ⟨p.toArray⟩, .int .i64 pe]) w) := fun w' h => by
    have h1 := c_rPromote l w' hl
    rw [hp] at h1; exact h1
  have H5 : Hid (CL 33 #[.string ⟨l.toArray⟩, .string ⟨m.toArray⟩] (.tuple #[.string ⟨c.toArray⟩, .int .i64 ce]) w) := fun w' h => by
    have h1 := c_Common B l m w' (up w' h).1 (up w' h).2 hl hm
    rw [hc] at h1; exact h1
  have H6 : Hid (CL 34 #[.string ⟨l.toArray⟩, .string ⟨m.toArray⟩] (.tuple #[.string ⟨c.toArray⟩, .int .i64 ce]) w) := fun w' h => by
    have h1 := c_rCommon l m w' hl hm
    rw [hc] at h1; exact h1
  have H7 : Hid (CL 35 #[.string ⟨l.toArray⟩, .string ⟨x.toArray⟩] (.tuple #[.string ⟨s.toArray⟩, .int .i64 se]) w) := fun w' h => by
    have h1 := c_Declare B l x w' (up w' h).1 (up w' h).2 hl hx
    rw [hs] at h1; exact h1
  have H8 : Hid (CL 36 #[.string ⟨l.toArray⟩, .string ⟨x.toArray⟩] (.tuple #[.string ⟨s.toArray⟩, .int .i64 se]) w) := fun w' h => by
    have h1 := c_rDeclare l x w' hl hx
    rw [hs] at h1; exact h1
  have H9 : Hid (CL 37 #[.string ⟨l.toArray⟩] (.bool i) w) := fun w' h => by
    have h1 := c_IsInt B l w' (up w' h).1 (up w' h).2 hl
    rw [hi] at h1; exact h1
  have H10 : Hid (CL 38 #[.string ⟨l.toArray⟩] (.bool i) w) := fun w' h => by
    have h1 := c_rIsInt l w'
    rw [ri_tk, hi] at h1; exact h1.mono fun e w'' h => ⟨h.1, by rw [h.2]; exact Below.refl _ _⟩
  have H11 : Hid (CL 39 #[.string ⟨l.toArray⟩] (.bool k) w) := fun w' h => by
    have h1 := c_IsScalar B l w' (up w' h).1 (up w' h).2 hl
    rw [hk] at h1; exact h1
  have H12 : Hid (CL 40 #[.string ⟨l.toArray⟩] (.bool k) w) := fun w' h => by
    rw [← hk]
    exact (c_rIsScalar l w' hl).mono fun e w'' h => ⟨h.1.trans (by unfold scA; cases tk l <;> rfl), h.2⟩
  have HW : Hid (CL 15 #[] (.bool true) w) := fun w' h => c_works B w' (up w' h).1 (up w' h).2
  clear up hE hd hp hc hs hi hk hl hm hx
  go_enter Tryz.func6, Tryz.ntmps6
  go_wp2_with fail
  refine (H1.out _ (Below.refl _ _)).mono ?_
  rintro e w1 ⟨rfl, hb⟩
  have HB1 := Lib.hid hb
  clear hb
  go_wp2_with fail
  refine (H2.out _ HB1.out).mono ?_
  rintro e w2 ⟨rfl, hb⟩
  have HB2 := Lib.hid (below_on HB1.out hb HB1.out.size)
  clear hb
  go_wp2_with fail
  refine (H3.out _ HB2.out).mono ?_
  rintro e w3 ⟨rfl, hb⟩
  have HB3 := Lib.hid (below_on HB2.out hb HB2.out.size)
  clear hb
  go_wp2_with fail
  refine (H4.out _ HB3.out).mono ?_
  rintro e w4 ⟨rfl, hb⟩
  have HB4 := Lib.hid (below_on HB3.out hb HB3.out.size)
  clear hb
  go_wp2_with fail
  refine (H5.out _ HB4.out).mono ?_
  rintro e w5 ⟨rfl, hb⟩
  have HB5 := Lib.hid (below_on HB4.out hb HB4.out.size)
  clear hb
  go_wp2_with fail
  refine (H6.out _ HB5.out).mono ?_
  rintro e w6 ⟨rfl, hb⟩
  have HB6 := Lib.hid (below_on HB5.out hb HB5.out.size)
  clear hb
  go_wp2_with fail
  refine (H7.out _ HB6.out).mono ?_
  rintro e w7 ⟨rfl, hb⟩
  have HB7 := Lib.hid (below_on HB6.out hb HB6.out.size)
  clear hb
  go_wp2_with fail
  refine (H8.out _ HB7.out).mono ?_
  rintro e w8 ⟨rfl, hb⟩
  have HB8 := Lib.hid (below_on HB7.out hb HB7.out.size)
  clear hb
  go_wp2_with fail
  refine (H9.out _ HB8.out).mono ?_
  rintro e w9 ⟨rfl, hb⟩
  have HB9 := Lib.hid (below_on HB8.out hb HB8.out.size)
  clear hb
  go_wp2_with fail
  refine (H10.out _ HB9.out).mono ?_
  rintro e wa ⟨rfl, hb⟩
  have HBa := Lib.hid (below_on HB9.out hb HB9.out.size)
  clear hb
  go_wp2_with fail
  refine (H11.out _ HBa.out).mono ?_
  rintro e wb ⟨rfl, hb⟩
  have HBb := Lib.hid (below_on HBa.out hb HBa.out.size)
  clear hb
  go_wp2_with fail
  refine (H12.out _ HBb.out).mono ?_
  rintro e wc ⟨rfl, hb⟩
  have HBc := Lib.hid (below_on HBb.out hb HBb.out.size)
  clear hb
  go_wp2_with fail
  refine (HW.out _ HBc.out).mono ?_
  rintro e wd ⟨rfl, hb⟩
  have HBd := Lib.hid (below_on HBc.out hb HBc.out.size)
  clear hb
  go_wp2_with fail
  go_ret
  exact ⟨rfl, HBd.out⟩
end Go.Proofs.YtaejddjmkgblfaaGreatDoor
