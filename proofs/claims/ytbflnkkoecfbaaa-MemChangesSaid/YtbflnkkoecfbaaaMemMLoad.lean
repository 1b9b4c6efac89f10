/-
  The contract of Load, in the code: the bytes of a memory as a word, or what is wrong.
-/
import Derived.Test.YtbflnkkoecfbaaaMemFill
namespace Go.Proofs.Ytbflnkkoecfbaaa
set_option linter.unusedVariables false
set_option linter.unusedSimpArgs false
open Go.ChangeShapes Go.WideShapes Go.ChangeAt Go.RowKit

/-- A memory that can be read: its banks, their pages as they are now. -/
def MR (w : World) (G gm gb nb cap : Nat) (R : Nat → Rg) (gn np cn : Nat → Nat) (P : Nat → Nat → Nat) (C : Nat → Nat → Nat → Int) : Prop :=
  MB w gm gb nb cap R ∧ gm < G ∧ nb ≤ 16 ∧ (∀ i, i < nb → rgB (R i) = true) ∧ (∀ i, i < nb → RdH w G gb (i * 7) (gn i) (np i) (cn i) (R i) (P i) (C i)) ∧ G ≤ w.heap.size
theorem MR.next {w w' : World} {G gm gb nb cap : Nat} {R : Nat → Rg} {gn np cn : Nat → Nat} {P : Nat → Nat → Nat} {C : Nat → Nat → Nat → Int} (h : MR w G gm gb nb cap R gn np cn P C) (hb : Below w.heap.size w w') : MR w' G gm gb nb cap R gn np cn P C := by
  obtain ⟨h1, h2, h3, h4, h5, h6⟩ := h
  exact ⟨h1.next hb, h2, h3, h4, fun i hi => (h5 i hi).next hb h6, Nat.le_trans h6 hb.size⟩
theorem MR.by_ {w : World} {G gm gb nb cap : Nat} {R : Nat → Rg} {gn np cn : Nat → Nat} {P : Nat → Nat → Nat} {C : Nat → Nat → Nat → Int} (h : MR w G gm gb nb cap R gn np cn P C) {i : Nat} (hi : i < nb) : ∀ j k, j < np i → k < 4096 → 0 ≤ C i j k ∧ C i j k ≤ 255 := by
  intro j k hj hk
  obtain ⟨_, hp, _⟩ := (h.2.2.2.2.1 i hi).2.2.2.2.2.2 j hj
  obtain ⟨cs, T, _, hc⟩ := hp
  exact (hc.2 k hk).2
/-- What a load answers. -/
def LdIs (gb nb : Nat) (R : Nat → Rg) (C : Nat → Nat → Nat → Int) (a n v e : Int) : Prop :=
  ∃ p, AccIs gb nb R a n p e ∧ (e ≠ 0 → v = 0) ∧ ∀ i, i < nb → p = some ⟨gb, i * 7, none⟩ → v = ldI (C i) (a - (R i).fr).toNat n.toNat
theorem hold_of {r : Rg} {a n : Int} (h : holdB r a n = true) : r.fr ≤ a ∧ a + n ≤ r.fr + r.sz := by unfold holdB at h; simpa using h
set_option maxHeartbeats 2000000 in
theorem c_MLoad (G gm gb nb cap : Nat) (R : Nat → Rg) (gn np cn : Nat → Nat) (P : Nat → Nat → Nat) (C : Nat → Nat → Nat → Int) (a n : Int) (w : World) (hM : MR w G gm gb nb cap R gn np cn P C) (h4 : 0 ≤ a) (h5 : a ≤ 4294967295) :
    Calls Try.prog 22 #[.pointer (some ⟨gm, 0, none⟩), .int .u32 a, .int .i64 n] w fun e w' => ∃ v c, e = .returned (.tuple #[.int .u32 v, .int .i64 c]) ∧ LdIs gb nb R C a n v c ∧ Below w.heap.size w w' := by
  have HM := Lib.hid hM
  clear hM
  go_enter Try.func22, Try.ntmps22
  go_wp2_with fail
  refine (c_access gm gb nb cap R a n _ HM.out.2.2.1 HM.out.1 HM.out.2.2.2.1 h4 h5).mono ?_
  rintro e w1 ⟨p, c, rfl, hA, hb1⟩
  have HA := Lib.hid hA
  have HB1 := Lib.hid hb1
  rcases hA with ⟨k1, rfl, rfl⟩ | ⟨k1, k2, rfl, rfl⟩ | ⟨k1, k2, hK⟩
  · clear hb1 k1
    go_wp2_with fail
    go_ret2
    exact ⟨0, 1, rfl, ⟨none, HA.out, fun _ => rfl, fun i hi h => by cases h⟩, HB1.out⟩
  · clear hb1 k1 k2
    go_wp2_with fail
    go_ret2
    exact ⟨0, 31, rfl, ⟨none, HA.out, fun _ => rfl, fun i hi h => by cases h⟩, HB1.out⟩
  · rcases hK with ⟨i, hi, hbf, hh, rfl, rfl⟩ | ⟨hno, rfl, rfl⟩
    · have hM1 := HM.out.next hb1
      have hh2 := hold_of hh
      have hbd := rg_bd (HM.out.2.2.2.1 i hi)
      have HL := Lib.hid (c_load gb (i * 7) (gn i) (np i) (cn i) G (a - (R i).fr).toNat n.toNat (R i) (P i) (C i) a w1 (by omega) (hM1.2.2.2.2.1 i hi) (HM.out.2.2.2.1 i hi) (by omega) h5 (by omega) hM1.2.2.2.2.2 (hM1.by_ hi))
      rw [show ((n.toNat : Nat) : Int) = n by omega] at HL
      clear hb1 k1 k2 hbf hh hM1 hh2 hbd
      go_wp2_with fail
      refine HL.out.mono ?_
      rintro e w2 ⟨rfl, hb2⟩
      have HB2 := Lib.hid (below_on HB1.out hb2 HB1.out.size)
      clear hb2 HL
      go_wp2_with fail
      go_ret2
      refine ⟨_, 0, rfl, ⟨_, HA.out, fun h => absurd rfl h, fun j hj h => ?_⟩, HB2.out⟩
      have e : i = j := by
        have : i * 7 = j * 7 := by injection h with h; injection h
        omega
      subst e
      rfl
    · clear hb1 k1 k2 hno
      go_wp2_with fail
      go_ret2
      exact ⟨0, 30, rfl, ⟨none, HA.out, fun _ => rfl, fun i hi h => by cases h⟩, HB1.out⟩
end Go.Proofs.Ytbflnkkoecfbaaa
