/-
  The contracts of bankOf and access, in the code: which bank an access goes to.
-/
import Derived.Test.YtbfimedgichiiaaMemCheck2
namespace Go.Proofs.Ytbfimedgichiiaa
set_option linter.unusedVariables false
set_option linter.unusedSimpArgs false
open Go.ChangeShapes Go.WideShapes Go.ChangeAt Go.RowKit

def holdB (r : Rg) (a n : Int) : Bool := decide (r.fr ≤ a ∧ a + n ≤ r.fr + r.sz)
/-- The ranges of a memory's banks: seven cells each, the first five the range's. -/
def MB (w : World) (gm gb nb cap : Nat) (R : Nat → Rg) : Prop :=
  (∃ a, w.cell? ⟨gm, 0, none⟩ = some (.slice a nb cap) ∧ (0 < nb → a = some ⟨gb, 0, none⟩)) ∧
  ∀ i, i < nb → w.cell? ⟨gb, i * 7, none⟩ = some (.string ⟨(R i).nm.toArray⟩) ∧ w.cell? ⟨gb, i * 7 + 1, none⟩ = some (.int .i64 (R i).fr) ∧ w.cell? ⟨gb, i * 7 + 2, none⟩ = some (.int .i64 (R i).sz) ∧ w.cell? ⟨gb, i * 7 + 3, none⟩ = some (.bool (R i).wr) ∧ w.cell? ⟨gb, i * 7 + 4, none⟩ = some (.bool (R i).ex)
theorem MB.next {w w' : World} {gm gb nb cap : Nat} {R : Nat → Rg} (h : MB w gm gb nb cap R) (k : Below w.heap.size w w') : MB w' gm gb nb cap R := by
  obtain ⟨⟨a, h, ha⟩, hi⟩ := h
  refine ⟨⟨a, (k.cell (cell_lt h)).trans h, ha⟩, fun i hii => ?_⟩
  obtain ⟨h0, h1, h2, h3, h4⟩ := hi i hii
  exact ⟨(k.cell (cell_lt h0)).trans h0, (k.cell (cell_lt h1)).trans h1, (k.cell (cell_lt h2)).trans h2, (k.cell (cell_lt h3)).trans h3, (k.cell (cell_lt h4)).trans h4⟩
/-- The bank that n bytes from an address on lie in, or none. -/
def BankIs (gb nb : Nat) (R : Nat → Rg) (a n : Int) (p : Option Addr) (c : Int) : Prop :=
  (∃ i, i < nb ∧ (∀ j, j < i → holdB (R j) a n = false) ∧ holdB (R i) a n = true ∧ p = some ⟨gb, i * 7, none⟩ ∧ c = 0) ∨
  ((∀ j, j < nb → holdB (R j) a n = false) ∧ p = none ∧ c = 30)
set_option maxHeartbeats 2000000 in
theorem c_bankOf (gm gb nb cap : Nat) (R : Nat → Rg) (a n : Int) (w : World) (hnb : nb ≤ 16) (hM : MB w gm gb nb cap R) (hR : ∀ i, i < nb → rgB (R i) = true) (h4 : 0 ≤ a) (h5 : a ≤ 4294967295) (h6 : 0 ≤ n) (h7 : n ≤ 140737488355328) :
    Calls Try.prog 30 #[.pointer (some ⟨gm, 0, none⟩), .int .u32 a, .int .i64 n] w fun e w' => ∃ p c, e = .returned (.tuple #[.pointer p, .int .i64 c]) ∧ BankIs gb nb R a n p c ∧ Below w.heap.size w w' := by
  have HM := Lib.hid hM
  have HR := Lib.hid hR
  obtain ⟨aB, hc0, haB⟩ := hM.1
  have HAB := Lib.hid haB
  have HC0 := Lib.hid hc0
  clear haB
  have HNB := Lib.hid hnb
  clear hM hR
  go_enter Try.func30, Try.ntmps30
  go_wp2_with fail
  clear hc0
  go_loopw [15] (fun i wr => ∃ k : Nat, k ≤ nb ∧ i = .int .i64 k ∧ Hid (∀ j, j < k → holdB (R j) a n = false) ∧ Hid (Below w.heap.size w wr)) (fun i _ => nb - (intOf i).toNat)
  case atStart => exact ⟨0, Nat.zero_le _, rfl, fun j hj => absurd hj (by omega), Below.refl _ _⟩
  case round =>
    obtain ⟨k, hk, rfl, HA, HBl⟩ := hrel
    by_cases hlt : k < nb
    · have hMk := HM.out.next HBl.out
      obtain rfl := HAB.out (by omega)
      have hc0 : wr.cell? ⟨gm, 0, none⟩ = some (.slice (some ⟨gb, 0, none⟩) nb cap) := (HBl.out.cell (cell_lt HC0.out)).trans HC0.out
      obtain ⟨x0, x1, x2, x3, x4⟩ := hMk.2 k hlt
      have HBk := Lib.hid (rg_bd (HR.out k hlt))
      clear hMk
      go_wp2_with fail
      have h2 := HBk.out
      refine (c_holds _ _ _ _ _ _ _ _ (by omega) (by omega) (by omega) (by omega) h4 h5 h6 h7).mono ?_
      rintro e w1 ⟨rfl, hb1⟩
      have HB1 := Lib.hid (below_on HBl.out hb1 HBl.out.size)
      clear hb1 h2 x0 x1 x2 x3 x4 hc0
      cases hc : holdB (R k) a n
      · have HC : Hid (∀ j, j < k + 1 → holdB (R j) a n = false) := by
          intro j hj
          rcases Nat.lt_or_ge j k with h | h
          · exact HA.out j h
          · rw [show j = k by omega]; exact hc
        have hd : decide ((R k).fr ≤ a ∧ a + n ≤ (R k).fr + (R k).sz) = false := hc
        clear hc
        rw [hd]
        clear hd
        go_wp2_with fail
        go_roundw
        case rel => exact ⟨k + 1, by omega, by go_num, HC, HB1⟩
        case measure => simp [intOf]; omega
      · have HC := Lib.hid hc
        have hd : decide ((R k).fr ≤ a ∧ a + n ≤ (R k).fr + (R k).sz) = true := hc
        clear hc
        rw [hd]
        clear hd
        go_wp2_with fail
        go_ret2
        exact ⟨_, _, rfl, .inl ⟨k, hlt, HA.out, HC.out, rfl, rfl⟩, HB1.out⟩
    · have hge : decide (k < nb) = false := by simp; omega
      have HK := Lib.hid (show k = nb by omega)
      clear hk hlt
      go_wp2_with fail
      go_ret2
      refine ⟨_, _, rfl, .inr ⟨?_, rfl, rfl⟩, HBl.out⟩
      rw [← HK.out]
      exact HA.out
/-- An access: of the bytes that it may have, the bank, or what is wrong. -/
def AccIs (gb nb : Nat) (R : Nat → Rg) (a n : Int) (p : Option Addr) (c : Int) : Prop :=
  (¬ (n = 1 ∨ n = 2 ∨ n = 4) ∧ p = none ∧ c = 1) ∨
  ((n = 1 ∨ n = 2 ∨ n = 4) ∧ ¬ a % n = 0 ∧ p = none ∧ c = 31) ∨
  ((n = 1 ∨ n = 2 ∨ n = 4) ∧ a % n = 0 ∧ BankIs gb nb R a n p c)
theorem c_access_bad (gm gb nb : Nat) (R : Nat → Rg) (a n : Int) (w : World) (hn : ¬ (n = 1 ∨ n = 2 ∨ n = 4)) :
    Calls Try.prog 50 #[.pointer (some ⟨gm, 0, none⟩), .int .u32 a, .int .i64 n] w fun e w' => ∃ p c, e = .returned (.tuple #[.pointer p, .int .i64 c]) ∧ AccIs gb nb R a n p c ∧ Below w.heap.size w w' := by
  have h1 : (n == 1) = false := beq_no (by omega)
  have h2 : (n == 2) = false := beq_no (by omega)
  have h4 : (n == 4) = false := beq_no (by omega)
  have HN := Lib.hid hn
  clear hn
  go_enter Try.func50, Try.ntmps50
  go_wp2_with fail
  all_goals first
    | (exfalso; simp_all; done)
    | (go_ret2; exact ⟨_, _, rfl, .inl ⟨HN.out, rfl, rfl⟩, Below.refl _ _⟩)
theorem c_access_off (gm gb nb : Nat) (R : Nat → Rg) (a n : Int) (w : World) (hn : n = 1 ∨ n = 2 ∨ n = 4) (hr : ¬ a % n = 0) (h4 : 0 ≤ a) (h5 : a ≤ 4294967295) :
    Calls Try.prog 50 #[.pointer (some ⟨gm, 0, none⟩), .int .u32 a, .int .i64 n] w fun e w' => ∃ p c, e = .returned (.tuple #[.pointer p, .int .i64 c]) ∧ AccIs gb nb R a n p c ∧ Below w.heap.size w w' := by
  rcases hn with rfl | rfl | rfl
  all_goals
    have HR := Lib.hid hr
    go_enter Try.func50, Try.ntmps50
    go_wp2_with fail
    all_goals first
      | (exfalso; have := HR.out; omega)
      | (exfalso; have := HR.out; simp_all; done)
      | (go_ret2; exact ⟨_, _, rfl, .inr (.inl ⟨by omega, HR.out, rfl, rfl⟩), Below.refl _ _⟩)
theorem c_access_on (gm gb nb cap : Nat) (R : Nat → Rg) (a n : Int) (w : World) (hn : n = 1 ∨ n = 2 ∨ n = 4) (hr : a % n = 0) (hnb : nb ≤ 16) (hM : MB w gm gb nb cap R) (hR : ∀ i, i < nb → rgB (R i) = true) (h4 : 0 ≤ a) (h5 : a ≤ 4294967295) :
    Calls Try.prog 50 #[.pointer (some ⟨gm, 0, none⟩), .int .u32 a, .int .i64 n] w fun e w' => ∃ p c, e = .returned (.tuple #[.pointer p, .int .i64 c]) ∧ AccIs gb nb R a n p c ∧ Below w.heap.size w w' := by
  have HC := Lib.hid (c_bankOf gm gb nb cap R a n w hnb hM hR h4 h5 (by omega) (by omega))
  clear hM hR
  rcases hn with rfl | rfl | rfl
  all_goals
    have HR := Lib.hid hr
    go_enter Try.func50, Try.ntmps50
    go_wp2_with (go_at_call 30; refine HC.out.mono ?_; rintro e w1 ⟨p, c, rfl, hb, hb1⟩; have HB1 := Lib.hid hb1; have HBK := Lib.hid hb; clear hb1 hb)
    all_goals first
      | (exfalso; have := HR.out; omega)
      | (exfalso; have := HR.out; simp_all; done)
      | (go_ret2; exact ⟨_, _, rfl, .inr (.inr ⟨by omega, HR.out, HBK.out⟩), HB1.out⟩)
theorem c_access (gm gb nb cap : Nat) (R : Nat → Rg) (a n : Int) (w : World) (hnb : nb ≤ 16) (hM : MB w gm gb nb cap R) (hR : ∀ i, i < nb → rgB (R i) = true) (h4 : 0 ≤ a) (h5 : a ≤ 4294967295) :
    Calls Try.prog 50 #[.pointer (some ⟨gm, 0, none⟩), .int .u32 a, .int .i64 n] w fun e w' => ∃ p c, e = .returned (.tuple #[.pointer p, .int .i64 c]) ∧ AccIs gb nb R a n p c ∧ Below w.heap.size w w' := by
  by_cases hn : n = 1 ∨ n = 2 ∨ n = 4
  · by_cases hr : a % n = 0
    · exact c_access_on gm gb nb cap R a n w hn hr hnb hM hR h4 h5
    · exact c_access_off gm gb nb R a n w hn hr h4 h5
  · exact c_access_bad gm gb nb R a n w hn
end Go.Proofs.Ytbfimedgichiiaa
