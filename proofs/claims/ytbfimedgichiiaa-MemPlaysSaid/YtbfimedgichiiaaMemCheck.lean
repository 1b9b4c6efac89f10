/-
  The contract of Check, in the code: which ranges are right.
-/
import Derived.Test.YtbfimedgichiiaaMemClash
namespace Go.Proofs.Ytbfimedgichiiaa
set_option linter.unusedVariables false
set_option linter.unusedSimpArgs false
open Go.ChangeShapes Go.WideShapes Go.ChangeAt Go.RowKit

theorem Rg.eta (r : Rg) : r = ⟨r.nm, r.fr, r.sz, r.wr, r.ex⟩ := by cases r; rfl
theorem rg_bd {r : Rg} (h : rgB r = true) : 16 ≤ r.fr ∧ r.fr ≤ 4294967296 ∧ 0 ≤ r.sz ∧ r.sz ≤ 16777216 ∧ r.fr % 16 = 0 ∧ r.sz % 16 = 0 ∧ r.fr + r.sz ≤ 4294967296 := by
  unfold rgB at h
  simp at h
  omega
/-- The ranges that stand in a slice: five cells each. -/
def RS (w : World) (b off n : Nat) (R : Nat → Rg) : Prop :=
  ∀ i, i < n → w.cell? ⟨b, off + i * 5, none⟩ = some (.string ⟨(R i).nm.toArray⟩) ∧ w.cell? ⟨b, off + i * 5 + 1, none⟩ = some (.int .i64 (R i).fr) ∧ w.cell? ⟨b, off + i * 5 + 2, none⟩ = some (.int .i64 (R i).sz) ∧ w.cell? ⟨b, off + i * 5 + 3, none⟩ = some (.bool (R i).wr) ∧ w.cell? ⟨b, off + i * 5 + 4, none⟩ = some (.bool (R i).ex)
theorem RS.next {w w' : World} {b off n : Nat} {R : Nat → Rg} (h : RS w b off n R) (k : Below w.heap.size w w') : RS w' b off n R := fun i hi => by
  obtain ⟨h0, h1, h2, h3, h4⟩ := h i hi
  exact ⟨(k.cell (cell_lt h0)).trans h0, (k.cell (cell_lt h1)).trans h1, (k.cell (cell_lt h2)).trans h2, (k.cell (cell_lt h3)).trans h3, (k.cell (cell_lt h4)).trans h4⟩
theorem RS.less {w : World} {b off n m : Nat} {R : Nat → Rg} (h : RS w b off n R) (hm : m ≤ n) : RS w b off m R := fun i hi => h i (by omega)
def anyTo (r : Rg) (R : Nat → Rg) : Nat → Bool
  | 0 => false
  | k + 1 => anyTo r R k || clB r (R k)
theorem anyTo_mono (r : Rg) (R : Nat → Rg) : ∀ (k d : Nat), anyTo r R k = true → anyTo r R (k + d) = true
  | k, 0, h => h
  | k, d + 1, h => by
    show (anyTo r R (k + d) || clB r (R (k + d))) = true
    rw [anyTo_mono r R k d h]
    rfl
def Found (r : Rg) (R : Nat → Rg) (m : Nat) (w : World) (e : Ending) (w' : World) : Prop :=
  ∃ k : Int, e = .returned (.int .i64 k) ∧ decide (0 ≤ k) = anyTo r R m ∧ -1 ≤ k ∧ k ≤ m ∧ Below w.heap.size w w'
set_option maxHeartbeats 2000000 in
theorem c_IndexFunc (b off m cap : Nat) (r : Rg) (R : Nat → Rg) (w : World) (hm : m ≤ 16) (hR : RS w b off m R) (hr : rgB r = true) (hRr : ∀ i, i < m → rgB (R i) = true) :
    Calls Try.prog 56 #[.slice (some ⟨b, off, none⟩) m cap, .func (.func 26) #[.agg #[.string ⟨r.nm.toArray⟩, .int .i64 r.fr, .int .i64 r.sz, .bool r.wr, .bool r.ex]] #[]] w (Found r R m w) := by
  have HR := Lib.hid hR
  have HRr := Lib.hid hRr
  have HB := Lib.hid (rg_bd hr)
  have HM := Lib.hid hm
  clear hR hr hRr
  go_enter Try.func56, Try.ntmps56
  go_wp2_with fail
  go_loopw [8] (fun i wr => ∃ k : Nat, k ≤ m ∧ i = .int .i64 k ∧ Hid (anyTo r R k = false) ∧ Hid (Below w.heap.size w wr)) (fun i _ => m - (intOf i).toNat)
  case atStart => exact ⟨0, Nat.zero_le _, rfl, rfl, Below.refl _ _⟩
  case round =>
    obtain ⟨k, hk, rfl, HA, HBl⟩ := hrel
    by_cases hlt : k < m
    · obtain ⟨x0, x1, x2, x3, x4⟩ := HR.out.next HBl.out k hlt
      have HBk := Lib.hid (rg_bd (HRr.out k hlt))
      go_wp2_with fail
      have h1 := HB.out
      have h2 := HBk.out
      refine (c_clashes r (R k) _ (by omega) (by omega) (by omega) (by omega) (by omega) (by omega) (by omega) (by omega)).mono ?_
      rintro e w1 ⟨rfl, hb1⟩
      have HB1 := Lib.hid (below_on HBl.out hb1 HBl.out.size)
      clear hb1 h1 h2 x0 x1 x2 x3 x4
      cases hc : clB r (R k)
      · have HC : Hid (anyTo r R (k + 1) = false) := by
          show (anyTo r R k || clB r (R k)) = false
          rw [HA.out, hc]
          rfl
        clear hc
        go_wp2_with fail
        go_roundw
        case rel => exact ⟨k + 1, by omega, by go_num, HC, HB1⟩
        case measure => simp [intOf]; omega
      · have HC : Hid (anyTo r R m = true) := by
          have := anyTo_mono r R (k + 1) (m - (k + 1)) (by show (anyTo r R k || clB r (R k)) = true; rw [hc]; simp)
          rw [show k + 1 + (m - (k + 1)) = m by omega] at this
          exact this
        clear hc
        go_wp2_with fail
        go_ret
        exact ⟨k, rfl, by rw [HC.out]; simp, by omega, by omega, HB1.out⟩
    · have hge : decide (k < m) = false := by simp; omega
      have HK := Lib.hid (show k = m by omega)
      clear hk hlt
      go_wp2_with fail
      go_ret
      exact ⟨-1, rfl, by rw [← HK.out, HA.out]; rfl, by omega, by omega, HBl.out⟩
theorem c_IndexFunc_none (a : Option Addr) (m cap : Nat) (f : Value) (r : Rg) (R : Nat → Rg) (w : World) (hm : m = 0) :
    Calls Try.prog 56 #[.slice a m cap, f] w (Found r R m w) := by
  subst hm
  go_enter Try.func56, Try.ntmps56
  go_wp2_with fail
  go_rounds 1
  go_wp2_with fail
  go_ret
  exact ⟨-1, rfl, rfl, by omega, by omega, Below.refl _ _⟩
theorem ret_b' {a b : Bool} (h : a = b) : Ending.returned (.bool a) = .returned (.bool b) := by rw [h]
theorem c_Contains (b off m cap : Nat) (r : Rg) (R : Nat → Rg) (w : World) (hm : m ≤ 16) (hR : RS w b off m R) (hr : rgB r = true) (hRr : ∀ i, i < m → rgB (R i) = true) :
    Calls Try.prog 25 #[.slice (some ⟨b, off, none⟩) m cap, .func (.func 26) #[.agg #[.string ⟨r.nm.toArray⟩, .int .i64 r.fr, .int .i64 r.sz, .bool r.wr, .bool r.ex]] #[]] w
      fun e w' => e = .returned (.bool (anyTo r R m)) ∧ Below w.heap.size w w' := by
  have HC := Lib.hid (c_IndexFunc b off m cap r R w hm hR hr hRr)
  clear hR hr hRr
  go_enter Try.func25, Try.ntmps25
  go_wp2_with fail
  refine HC.out.mono ?_
  rintro e w1 ⟨k, rfl, hk, k0, k1, hb⟩
  have HK := Lib.hid hk
  have HB := Lib.hid hb
  clear hk hb
  go_wp2_with fail
  all_goals
    go_returns
    refine ⟨ret_b' ?_, HB.out⟩
    rw [← HK.out]
    try (symm; simp; omega)
end Go.Proofs.Ytbfimedgichiiaa
