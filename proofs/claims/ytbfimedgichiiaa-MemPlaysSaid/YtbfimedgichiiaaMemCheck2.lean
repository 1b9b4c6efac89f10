/-
  The contract of Check, in the code: the walk over all ranges.
-/
import Derived.Test.YtbfimedgichiiaaMemCheck
namespace Go.Proofs.Ytbfimedgichiiaa
set_option linter.unusedVariables false
set_option linter.unusedSimpArgs false
open Go.ChangeShapes Go.WideShapes Go.ChangeAt Go.RowKit

/-- Are the first k ranges right, each by itself and beside those ahead of it? -/
def okTo (R : Nat → Rg) : Nat → Bool
  | 0 => true
  | k + 1 => okTo R k && (rgB (R k) && !anyTo (R k) R k)
theorem okTo_less (R : Nat → Rg) : ∀ (k d : Nat), okTo R (k + d) = true → okTo R k = true
  | k, 0, h => h
  | k, d + 1, h => by
    have h' : (okTo R (k + d) && (rgB (R (k + d)) && !anyTo (R (k + d)) R (k + d))) = true := h
    simp only [Bool.and_eq_true] at h'
    exact okTo_less R k d h'.1
theorem okTo_rg {R : Nat → Rg} {k : Nat} (h : okTo R k = true) : ∀ i, i < k → rgB (R i) = true := fun i hi => by
  have h1 := okTo_less R (i + 1) (k - (i + 1)) (by rw [show i + 1 + (k - (i + 1)) = k by omega]; exact h)
  have h2 : (okTo R i && (rgB (R i) && !anyTo (R i) R i)) = true := h1
  simp only [Bool.and_eq_true] at h2
  exact h2.2.1
@[irreducible] def chkI (R : Nat → Rg) (n : Nat) : Int := if 16 < n then 3 else if okTo R n then 0 else 5
def RgBd (R : Nat → Rg) (n : Nat) : Prop := ∀ i, i < n → (R i).nm.length ≤ maxLen ∧ -9223372036854775808 ≤ (R i).fr ∧ (R i).fr ≤ 9223372036854775807 ∧ -9223372036854775808 ≤ (R i).sz ∧ (R i).sz ≤ 9223372036854775807
/-- A range in a block of its own. -/
def K1 (w0 : World) (g : Nat) (r : Rg) (w' : World) : Prop :=
  w'.cell? ⟨g, 0, none⟩ = some (.string ⟨r.nm.toArray⟩) ∧ w'.cell? ⟨g, 1, none⟩ = some (.int .i64 r.fr) ∧ w'.cell? ⟨g, 2, none⟩ = some (.int .i64 r.sz) ∧ w'.cell? ⟨g, 3, none⟩ = some (.bool r.wr) ∧ w'.cell? ⟨g, 4, none⟩ = some (.bool r.ex) ∧ Below w0.heap.size w0 w'
theorem K1.next {w0 : World} {g : Nat} {r : Rg} {w1 w2 : World} (h : K1 w0 g r w1) (hb : Below w1.heap.size w1 w2) : K1 w0 g r w2 := by
  obtain ⟨h0, h1, h2, h3, h4, hB⟩ := h
  exact ⟨(hb.cell (cell_lt h0)).trans h0, (hb.cell (cell_lt h1)).trans h1, (hb.cell (cell_lt h2)).trans h2, (hb.cell (cell_lt h3)).trans h3, (hb.cell (cell_lt h4)).trans h4, below_on hB hb hB.size⟩
theorem c_Check_long (a : Option Addr) (n cap : Nat) (R : Nat → Rg) (w : World) (hn : 16 < n) (hm : n ≤ maxLen) :
    Calls Try.prog 6 #[.slice a n cap] w fun e w' => e = .returned (.int .i64 (chkI R n)) ∧ Below w.heap.size w w' := by
  have hd : decide ((16 : Int) < (n : Int)) = true := by simp; omega
  have HV : Hid (chkI R n = 3) := by show _ = _; unfold chkI; rw [if_pos hn]
  unfold maxLen at hm
  clear hn
  go_enter Try.func6, Try.ntmps6
  go_wp2_with fail
  go_ret
  exact ⟨ret_i HV.out.symm, Below.refl _ _⟩
set_option maxHeartbeats 8000000 in
theorem c_Check_short (b off n cap : Nat) (R : Nat → Rg) (w : World) (hn : n ≤ 16) (hcap : n ≤ cap) (hR : RS w b off n R) (hbd : RgBd R n) :
    Calls Try.prog 6 #[.slice (some ⟨b, off, none⟩) n cap] w fun e w' => e = .returned (.int .i64 (chkI R n)) ∧ Below w.heap.size w w' := by
  have hd : decide ((16 : Int) < (n : Int)) = false := by simp; omega
  have HV : Hid (chkI R n = if okTo R n then 0 else 5) := by show _ = _; unfold chkI; rw [if_neg (by omega)]
  have HR := Lib.hid hR
  have HBD := Lib.hid hbd
  have HM := Lib.hid hn
  have HCP := Lib.hid hcap
  clear hR hbd hn hcap
  go_enter Try.func6, Try.ntmps6
  go_wp2_with fail
  clear hd
  go_loopw [11] (fun i wr => ∃ k : Nat, k ≤ n ∧ i = .int .i64 k ∧ Hid (okTo R k = true) ∧ Hid (Below w.heap.size w wr)) (fun i _ => n - (intOf i).toNat)
  case atStart => exact ⟨0, Nat.zero_le _, rfl, rfl, Below.refl _ _⟩
  case round =>
    obtain ⟨k, hk, rfl, HA, HBl⟩ := hrel
    by_cases hlt : k < n
    · obtain ⟨x0, x1, x2, x3, x4⟩ := HR.out.next HBl.out k hlt
      have hml : n ≤ 16 := HM.out
      have hle : k ≤ cap := by have := HCP.out; omega
      obtain ⟨b1, b2, b3, b4, b5⟩ := HBD.out k hlt
      have HRk := Lib.hid ((HR.out.less (show k ≤ n by omega)))
      have HRr := Lib.hid (okTo_rg HA.out)
      have HS0 : ∀ wS, wS = (wr.alloc (.cells #[.string ⟨(R k).nm.toArray⟩, .int .i64 (R k).fr, .int .i64 (R k).sz, .bool (R k).wr, .bool (R k).ex] 34)).alloc (.cells #[.string ⟨(R k).nm.toArray⟩, .int .i64 (R k).fr, .int .i64 (R k).sz, .bool (R k).wr, .bool (R k).ex] 60) →
          (wS.cell? ⟨wr.heap.size + 1, 0, none⟩ = some (.string ⟨(R k).nm.toArray⟩) ∧ wS.cell? ⟨wr.heap.size + 1, 1, none⟩ = some (.int .i64 (R k).fr) ∧ wS.cell? ⟨wr.heap.size + 1, 2, none⟩ = some (.int .i64 (R k).sz) ∧ wS.cell? ⟨wr.heap.size + 1, 3, none⟩ = some (.bool (R k).wr) ∧ wS.cell? ⟨wr.heap.size + 1, 4, none⟩ = some (.bool (R k).ex) ∧ Below w.heap.size w wS) := by
        rintro wS rfl
        refine ⟨?_, ?_, ?_, ?_, ?_, (HBl.out.alloc HBl.out.size _).alloc (by have := HBl.out.size; simp; omega) _⟩ <;> simp [go_sem]
      have HS := Lib.hid HS0
      clear HS0
      cases hc : rgB (R k)
      · have hval : chkI R n = 5 := by
          rw [HV.out]
          have : okTo R n = false := by
            cases h : okTo R n
            · rfl
            · have := okTo_rg h k hlt; rw [hc] at this; cases this
          rw [this]
          rfl
        have HVV := Lib.hid hval
        clear hval
        go_wp2_with fail
        obtain ⟨y0, y1, y2, y3, y4, yB⟩ := HS.out _ rfl
        first
        | (go_region_with (go_at_call 24; refine (c_isRight (R k) _ b1 b2 b3 b4 b5).mono ?_; rw [hc]; rintro e w' ⟨rfl, hb⟩; have HZB := Lib.hid hb; clear hb))
        | fail
        all_goals
          go_wp2_with fail
          go_ret
          exact ⟨ret_i HVV.out.symm, below_on yB.drew HZB.out yB.size⟩
      · have HC1 := Lib.hid hc
        go_wp2_with fail
        obtain ⟨y0, y1, y2, y3, y4, yB⟩ := HS.out _ rfl
        first
        | (go_region_with (first | (go_at_call 24; refine (c_isRight (R k) _ b1 b2 b3 b4 b5).mono ?_; rw [hc]; rintro e w' ⟨rfl, hb⟩; obtain ⟨z0, z1, z2, z3, z4, zB⟩ := K1.next (w0 := w) (g := wr.heap.size + 1) (r := R k) (by exact ⟨y0, y1, y2, y3, y4, yB.drew⟩) hb; have HZB := Lib.hid zB; clear hb zB) | (go_at_call 25; refine (c_Contains b off k cap (R k) R _ (by omega) ((HR.out.less (show k ≤ n by omega)).next HZB.out) hc HRr.out).mono ?_; rintro e w' ⟨rfl, hb⟩; have HB9 := Lib.hid (below_on HZB.out hb HZB.out.size); clear hb)))
        | fail
        all_goals
          cases ha : anyTo (R k) R k
          · have HO : Hid (okTo R (k + 1) = true) := by
              show (okTo R k && (rgB (R k) && !anyTo (R k) R k)) = true
              rw [HA.out, HC1.out, ha]
              rfl
            go_wp2_with fail
            go_roundw
            case rel => exact ⟨k + 1, by omega, by go_num, HO, HB9⟩
            case measure => simp [intOf]; omega
          · have HVV : Hid (chkI R n = 5) := by
              show _ = _
              rw [HV.out]
              have h1 : okTo R (k + 1) = false := by
                show (okTo R k && (rgB (R k) && !anyTo (R k) R k)) = false
                rw [ha]
                simp
              have : okTo R n = false := by
                cases h : okTo R n
                · rfl
                · have := okTo_less R (k + 1) (n - (k + 1)) (by rw [show k + 1 + (n - (k + 1)) = n by omega]; exact h)
                  rw [h1] at this
                  cases this
              rw [this]
              rfl
            go_wp2_with fail
            go_ret
            exact ⟨ret_i HVV.out.symm, HB9.out⟩
    · have hge : decide (k < n) = false := by simp; omega
      have HK := Lib.hid (show k = n by omega)
      clear hk hlt
      go_wp2_with fail
      go_ret
      refine ⟨ret_i ?_, HBl.out⟩
      rw [HV.out, ← HK.out, HA.out]
      rfl
theorem c_Check_none (a : Option Addr) (n cap : Nat) (R : Nat → Rg) (w : World) (hn : n = 0) :
    Calls Try.prog 6 #[.slice a n cap] w fun e w' => e = .returned (.int .i64 (chkI R n)) ∧ Below w.heap.size w w' := by
  subst hn
  have HV : Hid (chkI R 0 = 0) := by show _ = _; unfold chkI okTo; rfl
  go_enter Try.func6, Try.ntmps6
  go_wp2_with fail
  go_rounds 1
  go_wp2_with fail
  go_ret
  exact ⟨ret_i HV.out.symm, Below.refl _ _⟩
/-- The ranges that a slice holds, nil too. -/
def RSO (w : World) (a : Option Addr) (n cap : Nat) (R : Nat → Rg) : Prop := n = 0 ∨ ∃ b off, a = some ⟨b, off, none⟩ ∧ n ≤ cap ∧ RS w b off n R
theorem RSO.next {w w' : World} {a : Option Addr} {n cap : Nat} {R : Nat → Rg} (h : RSO w a n cap R) (k : Below w.heap.size w w') : RSO w' a n cap R := by
  rcases h with h | ⟨b, off, ha, hc, h⟩
  · exact .inl h
  · exact .inr ⟨b, off, ha, hc, h.next k⟩
theorem c_Check (a : Option Addr) (n cap : Nat) (R : Nat → Rg) (w : World) (hm : n ≤ maxLen) (hR : RSO w a n cap R) (hbd : RgBd R n) :
    Calls Try.prog 6 #[.slice a n cap] w fun e w' => e = .returned (.int .i64 (chkI R n)) ∧ Below w.heap.size w w' := by
  by_cases hn : n ≤ 16
  · rcases hR with h0 | ⟨b, off, rfl, hc, hR⟩
    · exact c_Check_none a n cap R w h0
    · exact c_Check_short b off n cap R w hn hc hR hbd
  · exact c_Check_long a n cap R w (by omega) hm
end Go.Proofs.Ytbfimedgichiiaa
