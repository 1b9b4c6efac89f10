/-
  The contract of a reader that goes over blank, in the code.
-/
import Derived.Test.YtbccabpcljkamaaDoorLexRd1
namespace Go.Proofs.YtbccabpcljkamaaDoor
set_option linter.unusedVariables false
set_option linter.unusedSimpArgs false
set_option maxRecDepth 100000
open Go.RowKit

theorem cut_cons (c : UInt8) (t : List UInt8) (hc : c ≠ 10) : (Lib.cut (c :: t) [10]).1 = c :: (Lib.cut t [10]).1 := by
  have hge := Lib.index_ge t [10]
  unfold Lib.cut
  conv => lhs; unfold Lib.index
  have hp : ([10] : List UInt8).isPrefixOf (c :: t) = false := by simp [List.isPrefixOf]; exact fun h => hc h.symm
  rw [hp]
  by_cases hi : Lib.index t [10] = -1
  · simp [hi]
  · have h0 : 0 ≤ Lib.index t [10] := by omega
    have h1 : (Lib.index t [10] + 1).toNat = (Lib.index t [10]).toNat + 1 := by omega
    have hb : (Lib.index t [10] == -1) = false := by simp [hi]
    rw [hb, if_pos h0]
    simp only [Bool.false_eq_true, if_false]
    rw [if_pos (by omega), h1]
    rfl
theorem cut_le (x p : List UInt8) : (Lib.cut x p).1.length ≤ x.length := by
  unfold Lib.cut
  split
  · simp; omega
  · exact Nat.le_refl _
/-- What blank does at a place. -/
theorem bl_over (l : List UInt8) (j : Nat) (h : l.length ≤ j) : blR (l.drop j) = ([], true) := by rw [List.drop_eq_nil_of_le h]; rfl
theorem bl_blank (l : List UInt8) (j : Nat) (h : j < l.length) (hb : blk8 (l[j]?.getD 0) = true) : blR (l.drop j) = blR (l.drop (j + 1)) := by
  rw [List.getElem?_eq_getElem h, Option.getD_some] at hb
  rw [List.drop_eq_getElem_cons h, blR_blank _ _ hb]
theorem pre2 {a b : UInt8} {x : List UInt8} (h : ([a, b] : List UInt8).isPrefixOf x = true) : ∃ t, x = a :: b :: t := by
  match x, h with
  | c :: d :: t, h =>
    simp [List.isPrefixOf] at h
    exact ⟨t, by rw [h.1, h.2]⟩
  | [], h => simp [List.isPrefixOf] at h
  | [_], h => simp [List.isPrefixOf] at h
theorem bl_line (l : List UInt8) (j : Nat) (h : ([47, 47] : List UInt8).isPrefixOf (l.drop j) = true) : blR (l.drop j) = blR (l.drop (j + (Lib.cut (l.drop j) [10]).1.length)) ∧ 0 < (Lib.cut (l.drop j) [10]).1.length ∧ j + (Lib.cut (l.drop j) [10]).1.length ≤ l.length := by
  obtain ⟨t, ht⟩ := pre2 h
  have hle := cut_le (l.drop j) [10]
  have hlen : (l.drop j).length = l.length - j := List.length_drop
  refine ⟨?_, ?_, ?_⟩
  · rw [← List.drop_drop, ht]
    exact blR_line t
  · rw [ht, cut_cons _ _ (by decide)]
    simp
  · have : 0 < (l.drop j).length := by rw [ht]; simp
    omega
theorem bl_long (l : List UInt8) (j : Nat) (h : ([47, 42] : List UInt8).isPrefixOf (l.drop j) = true) :
    j + 2 ≤ l.length ∧ ((Lib.cut (l.drop (j + 2)) [42, 47]).2.2 = false → blR (l.drop j) = (l.drop j, false)) ∧
    ((Lib.cut (l.drop (j + 2)) [42, 47]).2.2 = true → blR (l.drop j) = blR (l.drop (j + (2 + (Lib.cut (l.drop (j + 2)) [42, 47]).1.length + 2))) ∧ j + (2 + (Lib.cut (l.drop (j + 2)) [42, 47]).1.length + 2) ≤ l.length) := by
  obtain ⟨t, ht⟩ := pre2 h
  have hlen : (l.drop j).length = l.length - j := List.length_drop
  have h2 : l.drop (j + 2) = t := by rw [← List.drop_drop, ht]; rfl
  have hl2 : t.length + 2 = l.length - j := by rw [← hlen, ht]; rfl
  have hb := blR_long t
  rw [h2, ht]
  refine ⟨by omega, fun hc => ?_, fun hc => ?_⟩
  · unfold Lib.cut at hc
    split at hc
    · cases hc
    · rename_i hi
      rw [if_neg hi] at hb
      exact hb
  · have hr := Lib.index_room t [42, 47]
    unfold Lib.cut at hc
    split at hc
    · rename_i hi
      have e : (Lib.cut t [42, 47]).1.length = (Lib.index t [42, 47]).toNat := by
        have := hr hi
        simp at this
        unfold Lib.cut
        rw [if_pos hi]
        simp
        omega
      rw [if_pos hi] at hb
      have hr2 := hr hi
      simp at hr2
      have e3 : l.drop (j + (2 + (Lib.index t [42, 47]).toNat + 2)) = t.drop ((Lib.index t [42, 47]).toNat + 2) := by
        rw [← List.drop_drop, ht, show 2 + (Lib.index t [42, 47]).toNat + 2 = (Lib.index t [42, 47]).toNat + 2 + 1 + 1 by omega]
        rfl
      rw [e, hb, e3]
      exact ⟨rfl, by omega⟩
    · cases hc
theorem bl_stop (l : List UInt8) (j : Nat) (h : j < l.length) (hb : blk8 (l[j]?.getD 0) = false) (h1 : ([47, 47] : List UInt8).isPrefixOf (l.drop j) = false) (h2 : ([47, 42] : List UInt8).isPrefixOf (l.drop j) = false) : blR (l.drop j) = (l.drop j, true) := by
  rw [List.getElem?_eq_getElem h, Option.getD_some] at hb
  rw [List.drop_eq_getElem_cons h] at h1 h2 ⊢
  refine blR_stop _ _ hb (fun ⟨e1, e2⟩ => ?_) (fun ⟨e1, e2⟩ => ?_)
  all_goals
    cases ht : l.drop (j + 1) with
    | nil => rw [ht] at e2; cases e2
    | cons d t =>
      rw [ht] at e2 h1 h2
      simp at e2 e1
      rw [e1, e2] at h1 h2
      simp [List.isPrefixOf] at h1 h2
/-- The place at which so much is left. -/
abbrev plc (l r : List UInt8) : Nat := l.length - r.length
theorem plc_drop (l : List UInt8) (j : Nat) (h : j ≤ l.length) : plc l (l.drop j) = j := by unfold plc; rw [List.length_drop]; omega
theorem drop_plc {l r : List UInt8} (h : r <:+ l) : l.drop (plc l r) = r := (List.suffix_iff_eq_drop.1 h).symm
theorem plc_le (l r : List UInt8) : plc l r ≤ l.length := Nat.sub_le _ _
theorem RdW.draw {b o k : Nat} {w wr w2 : World} (h : RdW b o w k wr) (hn : ∃ n, w2 = wr.drewN n) : RdW b o w k w2 := by
  obtain ⟨n, rfl⟩ := hn
  exact h.drewN n
theorem RdW.all {b k : Nat} {l : List UInt8} {w wr : World} (h : RdW b 0 w k wr) (h0 : w.cell? ⟨b, 0, none⟩ = some (.string ⟨l.toArray⟩)) (hf : w.frozen? ⟨b, 1, none⟩ = false) :
    wr.cell? ⟨b, 0, none⟩ = some (.string ⟨l.toArray⟩) ∧ wr.cell? ⟨b, 1, none⟩ = some (.int .i64 k) ∧ wr.frozen? ⟨b, 1, none⟩ = false := ⟨h.text.trans h0, h.pos, (h.frz _).trans hf⟩
set_option maxHeartbeats 4000000 in
theorem c_blank (b : Nat) (l : List UInt8) (m : Int) (k : Nat) (w : World) (hk : k ≤ l.length) (hl : l.length ≤ 65536) (hm : w.cell? ⟨1, 0, none⟩ = some (.int .i64 m)) (hmb : 1 ≠ b) (h0 : w.cell? ⟨b, 0, none⟩ = some (.string ⟨l.toArray⟩)) (h1 : w.cell? ⟨b, 1, none⟩ = some (.int .i64 k)) (hf : w.frozen? ⟨b, 1, none⟩ = false) :
    Calls Tryd.prog 28 #[.pointer (some ⟨b, 0, none⟩)] w fun e w' => e = .returned (.bool (blR (l.drop k)).2) ∧ RdW b 0 w (plc l (blR (l.drop k)).1) w' := by
  obtain ⟨R, hR⟩ : ∃ R, blR (l.drop k) = R := ⟨_, rfl⟩
  rw [hR]
  have HC := Lib.hid (fun (wr : World) (j : Nat) (h : RdW b 0 w j wr) => h.all h0 hf)
  have HM : Hid (∀ (wr : World) (j : Nat), RdW b 0 w j wr → wr.cell? ⟨1, 0, none⟩ = some (.int .i64 m)) := fun wr j h => (h.other _ (fun e => hmb (by injection e))).trans hm
  go_enter Tryd.func28, Tryd.ntmps28
  go_wp2_with fail
  go_loopg [] (l.length - k) (fun g wr => ∃ j : Nat, j + g = l.length ∧ Hid (RdW b 0 w j wr) ∧ Hid (blR (l.drop j) = R))
  case atStart => exact ⟨k, by omega, RdW.start h1, hR⟩
  case round =>
    obtain ⟨j, hjg, HW, HA⟩ := hrel
    clear h0 h1 hf hm hmb hR
    by_cases hlt : j < l.length
    · have hov : (j == l.length) = false := by simp; omega
      obtain ⟨cI, hcI⟩ : ∃ cI : Int, ((l[j]?.getD 0).toNat : Int) = cI := ⟨_, rfl⟩
      have hby : ∀ h, (((ByteArray.mk l.toArray)[j]'h).toNat : Int) = cI := fun h => (byte_at l j h).trans hcI
      have hcb : 0 ≤ cI ∧ cI ≤ 255 := by have := (l[j]?.getD 0).toNat_lt; omega
      obtain ⟨hc0, hc1⟩ := hcb
      have HBk : Hid (blk8 (l[j]?.getD 0) = blkI cI) := by show blkI _ = _; rw [hcI]
      have HB1 := Lib.hid (bl_blank l j hlt)
      have HB2 := Lib.hid (bl_line l j)
      have HB3 := Lib.hid (bl_long l j)
      have HB4 := Lib.hid (bl_stop l j hlt)
      have hj0 : (0 : Int) ≤ (j : Int) := by omega
      have hj1 : (j : Int) < (l.length : Int) := by omega
      clear hcI
      go_wp2_with fail
      have HO : Hid (Calls Tryd.prog 18 #[.pointer (some ⟨b, 0, none⟩)] wr fun e w' => e = .returned (.bool false) ∧ ∃ n, w' = wr.drewN n) := by
        obtain ⟨ht, hp, _⟩ := HC.out wr j HW.out
        have h := c_isOver b 0 l j wr ht hp
        rw [hov] at h
        exact h
      refine HO.out.mono ?_
      rintro e w2 ⟨rfl, hn⟩
      have HW2 := Lib.hid (HW.out.draw hn)
      obtain ⟨ht, hp, hfz⟩ := HC.out w2 j HW2.out
      clear hn
      go_wp2_with fail
      cases hB : blkI cI
      · have HI : Hid (∀ w : World, Calls Tryd.prog 41 #[.int .u8 cI] w fun e w' => e = .returned (.bool false) ∧ w' = w) := fun w => (c_isBlank cI w hc0 hc1).mono fun e w' h => ⟨by rw [h.1, hB], h.2.symm⟩
        have HBn : Hid (blk8 (l[j]?.getD 0) = false) := HBk.out.trans hB
        go_quiet (first | (go_at_call 41; refine Calls.quiet_of_same (HI.out _)))
        have HW3 := Lib.hid (HW2.out.drewN nq)
        obtain ⟨ht3, hp3, hfz3⟩ := HC.out _ j HW3.out
        generalize w2.drewN nq = w3 at HW3 ht3 hp3 hfz3 ⊢
        clear ht hp hfz
        go_wp2_with fail
        cases hL : ([47, 47] : List UInt8).isPrefixOf (l.drop j)
        · have HS : Hid (Calls Tryd.prog 42 #[.pointer (some ⟨b, 0, none⟩), .string ⟨#[47, 47]⟩] w3 fun e w' => e = .returned (.bool false) ∧ ∃ n, w' = w3.drewN n) := by
            have h := c_sees b l [47, 47] j w3 (Nat.le_of_lt hlt) ht3 hp3
            rw [hL] at h
            exact h
          refine HS.out.mono ?_
          rintro e w4 ⟨rfl, hn⟩
          have HW4 := Lib.hid (HW3.out.draw hn)
          obtain ⟨ht4, hp4, hfz4⟩ := HC.out w4 j HW4.out
          clear hn ht3 hp3 hfz3
          go_wp2_with fail
          cases hL2 : ([47, 42] : List UInt8).isPrefixOf (l.drop j)
          · have HS2 : Hid (Calls Tryd.prog 42 #[.pointer (some ⟨b, 0, none⟩), .string ⟨#[47, 42]⟩] w4 fun e w' => e = .returned (.bool false) ∧ ∃ n, w' = w4.drewN n) := by
              have h := c_sees b l [47, 42] j w4 (Nat.le_of_lt hlt) ht4 hp4
              rw [hL2] at h
              exact h
            refine HS2.out.mono ?_
            rintro e w5 ⟨rfl, hn⟩
            have HW5 := Lib.hid (HW4.out.draw hn)
            clear hn ht4 hp4 hfz4
            have HV : Hid (R = (l.drop j, true)) := HA.out.symm.trans (HB4.out HBn.out hL hL2)
            go_wp2_with fail
            go_ret
            rw [HV.out]
            refine ⟨rfl, ?_⟩
            show RdW b 0 w (plc l (l.drop j)) _
            rw [plc_drop l j (Nat.le_of_lt hlt)]
            exact HW5.out
          · have HS2 : Hid (Calls Tryd.prog 42 #[.pointer (some ⟨b, 0, none⟩), .string ⟨#[47, 42]⟩] w4 fun e w' => e = .returned (.bool true) ∧ ∃ n, w' = w4.drewN n) := by
              have h := c_sees b l [47, 42] j w4 (Nat.le_of_lt hlt) ht4 hp4
              rw [hL2] at h
              exact h
            refine HS2.out.mono ?_
            rintro e w5 ⟨rfl, hn⟩
            have HW5 := Lib.hid (HW4.out.draw hn)
            obtain ⟨ht5, hp5, hfz5⟩ := HC.out w5 j HW5.out
            clear hn ht4 hp4 hfz4
            obtain ⟨hj2, hB3⟩ := HB3.out hL2
            have HB3b := Lib.hid hB3
            clear hB3
            obtain ⟨x, hx⟩ : ∃ x, l.drop j = x := ⟨_, rfl⟩
            have HXl : Hid (x.length = l.length - j) := by show _ = _; rw [← hx, List.length_drop]
            have hx2 : l.drop (j + 2) = x.drop 2 := by rw [← hx, List.drop_drop]
            have HR : Hid (Calls Tryd.prog 44 #[.pointer (some ⟨b, 0, none⟩)] w5 fun e w' => e = .returned (.string ⟨x.toArray⟩) ∧ ∃ n, w' = w5.drewN n) := by rw [← hx]; exact c_rest b l j w5 (Nat.le_of_lt hlt) ht5 hp5
            rw [hx2] at HB3b
            rw [hx] at HB3b HA
            obtain ⟨z, hz⟩ : ∃ z, x.drop 2 = z := ⟨_, rfl⟩
            have hex : (⟨x.toArray⟩ : ByteArray).extract 2 x.length = ⟨z.toArray⟩ := by rw [ext_end, hz]
            have HZl : Hid (z.length ≤ 65536) := by show _ ≤ _; have := HXl.out; rw [← hz, List.length_drop]; omega
            have h2x : (2 : Int) ≤ (x.length : Int) := by have := HXl.out; omega
            rw [hz] at HB3b
            obtain ⟨y, hy⟩ : ∃ y, (Lib.cut z [42, 47]).1 = y := ⟨_, rfl⟩
            have HCt : Hid (∀ w : World, w.cell? ⟨1, 0, none⟩ = some (.int .i64 m) → Calls Tryd.prog 43 #[.string ⟨z.toArray⟩, .string ⟨#[42, 47]⟩] w fun e w' => (∃ u, e = .returned (.tuple #[.string ⟨y.toArray⟩, .string u, .bool (Lib.cut z [42, 47]).2.2])) ∧ ∃ n, w' = w.drewN n) := fun w h => (c_sCut z [42, 47] m w HZl.out h).mono fun e w' hh => ⟨⟨_, by rw [← hy]; exact hh.1⟩, hh.2⟩
            rw [hy] at HB3b
            clear hy hz hx2 ht5 hp5 hfz5
            go_wp2_with fail
            refine HR.out.mono ?_
            rintro e w6 ⟨rfl, hn⟩
            have HW6 := Lib.hid (HW5.out.draw hn)
            have HM6 := Lib.hid (HM.out w6 j HW6.out)
            clear hn
            cases hE : (Lib.cut z [42, 47]).2.2
            · rw [hE] at HCt
              have HV := Lib.hid (HA.out.symm.trans (HB3b.out.1 hE))
              go_wp2_with fail
              refine (HCt.out _ HM6.out).mono ?_
              rintro e w7 ⟨⟨u, rfl⟩, hn⟩
              have HW7 := Lib.hid (HW6.out.draw hn)
              clear hn
              go_wp2_with fail
              go_ret
              rw [HV.out]
              refine ⟨rfl, ?_⟩
              show RdW b 0 w (plc l x) _
              rw [← hx, plc_drop l j (Nat.le_of_lt hlt)]
              exact HW7.out
            · rw [hE] at HCt
              have HV := Lib.hid (HA.out.symm.trans (HB3b.out.2 hE).1)
              have hyl := (HB3b.out.2 hE).2
              go_wp2_with fail
              refine (HCt.out _ HM6.out).mono ?_
              rintro e w7 ⟨⟨u, rfl⟩, hn⟩
              have HW7 := Lib.hid (HW6.out.draw hn)
              obtain ⟨ht7, hp7, hfz7⟩ := HC.out w7 j HW7.out
              clear hn hx
              have hyz : (j : Int) + (2 + (y.length : Int) + 2) ≤ (l.length : Int) := by omega
              have hll : (l.length : Int) ≤ 65536 := by omega
              go_wp2_with fail
              go_roundg (gk - (2 + y.length + 2))
              case measure => omega
              case rel => exact ⟨j + (2 + y.length + 2), by omega, by show RdW _ _ _ _ _; have := HW7.out.set (j + (2 + y.length + 2)); simpa using this, HV.out.symm⟩
        · have HS : Hid (Calls Tryd.prog 42 #[.pointer (some ⟨b, 0, none⟩), .string ⟨#[47, 47]⟩] w3 fun e w' => e = .returned (.bool true) ∧ ∃ n, w' = w3.drewN n) := by
            have h := c_sees b l [47, 47] j w3 (Nat.le_of_lt hlt) ht3 hp3
            rw [hL] at h
            exact h
          refine HS.out.mono ?_
          rintro e w4 ⟨rfl, hn⟩
          have HW4 := Lib.hid (HW3.out.draw hn)
          obtain ⟨ht4, hp4, hfz4⟩ := HC.out w4 j HW4.out
          clear hn ht3 hp3 hfz3
          have HM4 := Lib.hid (HM.out w4 j HW4.out)
          obtain ⟨hb0, hb1, hb2⟩ := HB2.out hL
          obtain ⟨x, hx⟩ : ∃ x, l.drop j = x := ⟨_, rfl⟩
          have HXl : Hid (x.length ≤ 65536) := by show _ ≤ _; rw [← hx, List.length_drop]; omega
          have HR : Hid (Calls Tryd.prog 44 #[.pointer (some ⟨b, 0, none⟩)] w4 fun e w' => e = .returned (.string ⟨x.toArray⟩) ∧ ∃ n, w' = w4.drewN n) := by rw [← hx]; exact c_rest b l j w4 (Nat.le_of_lt hlt) ht4 hp4
          rw [hx] at hb0 hb1 hb2
          obtain ⟨y, hy⟩ : ∃ y, (Lib.cut x [10]).1 = y := ⟨_, rfl⟩
          have HCt : Hid (∀ w : World, w.cell? ⟨1, 0, none⟩ = some (.int .i64 m) → Calls Tryd.prog 43 #[.string ⟨x.toArray⟩, .string ⟨#[10]⟩] w fun e w' => (∃ u v, e = .returned (.tuple #[.string ⟨y.toArray⟩, .string u, .bool v])) ∧ ∃ n, w' = w.drewN n) := fun w h => (c_sCut x [10] m w HXl.out h).mono fun e w' hh => ⟨⟨_, _, by rw [← hy]; exact hh.1⟩, hh.2⟩
          rw [hy] at hb0 hb1 hb2
          have HN0 : Hid (blR (l.drop (j + y.length)) = R) := by
            rw [hx] at HA
            exact hb0.symm.trans HA.out
          clear hb0 hy
          go_wp2_with fail
          refine HR.out.mono ?_
          rintro e w5 ⟨rfl, hn⟩
          have HW5 := Lib.hid (HW4.out.draw hn)
          have HM5 := Lib.hid (HM.out w5 j HW5.out)
          clear hn ht4 hp4 hfz4
          go_wp2_with fail
          refine (HCt.out w5 HM5.out).mono ?_
          rintro e w6 ⟨⟨u, v, rfl⟩, hn⟩
          have HW6 := Lib.hid (HW5.out.draw hn)
          obtain ⟨ht6, hp6, hfz6⟩ := HC.out w6 j HW6.out
          clear hn hx
          have hyl : (y.length : Int) ≤ (l.length : Int) := by omega
          have hjy : (j : Int) + (y.length : Int) ≤ (l.length : Int) := by omega
          have hll : (l.length : Int) ≤ 65536 := by omega
          go_wp2_with fail
          go_roundg (gk - y.length)
          case measure => omega
          case rel => exact ⟨j + y.length, by omega, by show RdW _ _ _ _ _; have := HW6.out.set (j + y.length); simpa using this, HN0⟩
      · have HA2 : Hid (blR (l.drop (j + 1)) = R) := (HB1.out (HBk.out.trans hB)).symm.trans HA.out
        have HI : Hid (∀ w : World, Calls Tryd.prog 41 #[.int .u8 cI] w fun e w' => e = .returned (.bool true) ∧ w' = w) := fun w => (c_isBlank cI w hc0 hc1).mono fun e w' h => ⟨by rw [h.1, hB], h.2.symm⟩
        go_quiet (first | (go_at_call 41; refine Calls.quiet_of_same (HI.out _)))
        go_wp2_with fail
        go_roundg (gk - 1)
        case measure => omega
        case rel => exact ⟨j + 1, by omega, (HW2.out.drewN _).set (j + 1), HA2⟩
    · have hov : (j == l.length) = true := by simp; omega
      have HV : Hid (R = ([], true)) := HA.out.symm.trans (bl_over l j (by omega))
      obtain ⟨ht, hp, _⟩ := HC.out wr j HW.out
      go_wp2_with fail
      refine (c_isOver b 0 l j _ ht hp).mono ?_
      rw [hov]
      rintro e w2 ⟨rfl, n, rfl⟩
      go_wp2_with fail
      go_ret
      rw [HV.out]
      have e : j = l.length := by omega
      subst e
      exact ⟨rfl, HW.out.drewN _⟩
end Go.Proofs.YtbccabpcljkamaaDoor
