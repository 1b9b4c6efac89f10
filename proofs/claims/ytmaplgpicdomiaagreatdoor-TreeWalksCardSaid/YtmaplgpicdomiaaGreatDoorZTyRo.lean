/-
  The contracts of the document's own look at a type: its letter, what it is of, in the code.
-/
import Derived.Test.YtmaplgpicdomiaaGreatDoorZTyDe
import Derived.Test.YtmaplgpicdomiaaGreatDoorZTyK1
namespace Go.Proofs.YtmaplgpicdomiaaGreatDoor
set_option linter.unusedVariables false
set_option linter.unusedSimpArgs false

theorem dig_val {c : UInt8} (h : dig8 c = true) : 48 ≤ c.toNat ∧ c.toNat ≤ 57 := by
  unfold dig8 digI at h
  simp at h
  omega
theorem dig_of {c : UInt8} (h1 : 48 ≤ c.toNat) (h2 : c.toNat ≤ 57) : dig8 c = true := by
  unfold dig8 digI
  simp
  omega
theorem canon : ∀ (n : Nat) (d : List UInt8), d.length = n → d ≠ [] → d.all dig8 = true → (1 < d.length → d.head? ≠ some 48) → Lib.decDigits (valF 0 d) = d ∧ (d.head? ≠ some 48 → 1 ≤ valF 0 d)
  | 0, d, hl, h0, _, _ => absurd (List.length_eq_zero_iff.1 hl) h0
  | n + 1, d, hl, h0, ha, hz => by
    obtain ⟨d', c, rfl⟩ : ∃ d' c, d = d' ++ [c] := ⟨d.dropLast, d.getLast h0, (List.dropLast_concat_getLast h0).symm⟩
    have hc : dig8 c = true := by
      rw [List.all_append, Bool.and_eq_true] at ha
      simpa using ha.2
    have ha' : d'.all dig8 = true := by
      rw [List.all_append, Bool.and_eq_true] at ha
      exact ha.1
    obtain ⟨c1, c2⟩ := dig_val hc
    have hv : valF 0 (d' ++ [c]) = 10 * valF 0 d' + (c.toNat - 48) := by
      rw [valF_app]
      show valF 0 d' * 10 + (c.toNat - 48) = _
      omega
    by_cases hd : d' = []
    · subst hd
      rw [hv]
      have e0 : valF 0 [] = 0 := rfl
      rw [e0, Lib.decDigits, dif_pos (by omega), show 48 + (10 * 0 + (c.toNat - 48)) = c.toNat by omega]
      refine ⟨by simp, fun h => ?_⟩
      have hne : c.toNat ≠ 48 := fun e => h (by
        have : c = 48 := UInt8.toNat_inj.1 (by rw [e]; rfl)
        rw [this]
        rfl)
      omega
    · have hz' : 1 < d'.length → d'.head? ≠ some 48 := fun h => by
        have h2 := hz (by simp; omega)
        cases d' with
        | nil => exact absurd rfl hd
        | cons e r => simpa using h2
      have hh : d'.head? ≠ some 48 := by
        have h2 := hz (by have := List.length_pos_iff.2 hd; simp; omega)
        cases d' with
        | nil => exact absurd rfl hd
        | cons e r => simpa using h2
      obtain ⟨h1, h2⟩ := canon n d' (by simp at hl; omega) hd ha' hz'
      have h3 := h2 hh
      refine ⟨?_, fun _ => by rw [hv]; omega⟩
      rw [hv, Lib.decDigits, dif_neg (by omega), show (10 * valF 0 d' + (c.toNat - 48)) / 10 = valF 0 d' by omega, h1, show 48 + (10 * valF 0 d' + (c.toNat - 48)) % 10 = c.toNat by omega]
      congr 1
      simp
theorem dec_all (n : Nat) : (Lib.decDigits n).all dig8 = true := List.all_eq_true.2 fun c hc => dig_of (bk_digits n n (Nat.le_refl _) c hc).1 (bk_digits n n (Nat.le_refl _) c hc).2
theorem dec_len15 {n : Nat} (h : n ≤ 1099511627776) : (Lib.decDigits n).length ≤ 15 := by
  have hl : ∀ (d m : Nat), m < 10 ^ (d + 1) → (Lib.decDigits m).length ≤ d + 1 := by
    intro d
    induction d with
    | zero => intro m hm; rw [Lib.decDigits, dif_pos (by simpa using hm)]; simp
    | succ d ih =>
      intro m hm
      rw [Lib.decDigits]
      split
      · simp
      · have := ih (m / 10) (by rw [Nat.pow_succ] at hm; omega)
        simp
        omega
  have := hl 12 n (by omega)
  omega
theorem dec_head : ∀ (n m : Nat), m ≤ n → 1 < (Lib.decDigits m).length → (Lib.decDigits m).head? ≠ some 48
  | 0, m, hm, h => by
    rw [Lib.decDigits, dif_pos (by omega)] at h
    simp at h
  | n + 1, m, hm, h => by
    rw [Lib.decDigits] at h ⊢
    split at h
    · simp at h
    · rename_i h10
      rw [dif_neg h10]
      by_cases h100 : m / 10 < 10
      · rw [Lib.decDigits, dif_pos h100]
        simp
        intro e
        have e2 := congrArg UInt8.toNat e
        simp at e2
        omega
      · have hl : 1 < (Lib.decDigits (m / 10)).length := by
          rw [Lib.decDigits, dif_neg h100]
          have : Lib.decDigits (m / 10 / 10) ≠ [] := by
            rw [Lib.decDigits]
            split <;> simp
          have := List.length_pos_iff.2 this
          simp
          omega
        have ih := dec_head n (m / 10) (by omega) hl
        cases hd : Lib.decDigits (m / 10) with
        | nil => rw [hd] at hl; simp at hl
        | cons e r => rw [hd] at ih; simpa using ih
/-- A count by its digits. -/
def whP (d : List UInt8) : Option Nat := if d ≠ [] ∧ d.length ≤ 15 ∧ (1 < d.length → d.head? ≠ some 48) ∧ valF 0 d ≤ 1099511627776 then some (valF 0 d) else none
theorem tw_dec (n : Nat) (y : List UInt8) : (Lib.decDigits n ++ 58 :: y).takeWhile dig8 = Lib.decDigits n := by
  rw [List.takeWhile_append_of_pos (fun c hc => List.all_eq_true.1 (dec_all n) c hc)]
  have : dig8 58 = false := by decide
  simp [List.takeWhile, this]
theorem cnt_tie (r : List UInt8) : cntP r = (whP (r.takeWhile dig8)).bind fun n => if (r.drop (r.takeWhile dig8).length).head? = some 58 then some (n, r.drop ((r.takeWhile dig8).length + 1)) else none := by
  cases hc : cntP r with
  | some p =>
    obtain ⟨n, y⟩ := p
    obtain ⟨hn, hr⟩ := cnt_eq hc
    have htw : r.takeWhile dig8 = Lib.decDigits n := by rw [hr]; exact tw_dec n y
    have hw : whP (Lib.decDigits n) = some n := by
      unfold whP
      rw [valF_dec n n (Nat.le_refl _), if_pos ⟨by rw [Lib.decDigits]; split <;> simp, dec_len15 hn, dec_head n n (Nat.le_refl _), hn⟩]
    rw [htw, hw]
    simp only [Option.bind_some]
    rw [hr, List.drop_left, List.drop_append]
    simp
  | none =>
    symm
    cases hw : whP (r.takeWhile dig8) with
    | none => rfl
    | some n =>
      simp only [Option.bind_some]
      split
      · rename_i h58
        exfalso
        unfold whP at hw
        split at hw
        · rename_i hh
          obtain ⟨h0, _, hz, hv⟩ := hh
          cases hw
          have hcn := (canon _ _ rfl h0 (List.all_eq_true.2 fun c hc => List.all_eq_true.1 (List.all_takeWhile) c hc) hz).1
          have hr : r = Lib.decDigits (valF 0 (r.takeWhile dig8)) ++ 58 :: (r.drop (r.takeWhile dig8).length).drop 1 := by
            rw [hcn, ← head_drop h58]
            obtain ⟨y, hy⟩ := List.takeWhile_prefix (p := dig8) (l := r)
            have e : r.drop (r.takeWhile dig8).length = y := by
              have h := congrArg (List.drop (r.takeWhile dig8).length) hy
              rw [List.drop_left] at h
              exact h.symm
            rw [e]
            exact hy.symm
          rw [hr, cnt_full _ _ hv] at hc
          cases hc
        · cases hw
      · rfl
end Go.Proofs.YtmaplgpicdomiaaGreatDoor
namespace Go.Proofs.YtmaplgpicdomiaaGreatDoor
set_option linter.unusedVariables false
set_option linter.unusedSimpArgs false
set_option maxRecDepth 100000
open Go.RowKit

/-- How many digits stand from a place on. -/
def twD (l : List UInt8) (m : Nat) : Nat := ((l.drop m).takeWhile dig8).length
theorem tw_end {l : List UInt8} {m : Nat} (h : l.length ≤ m) : twD l m = 0 := by
  unfold twD
  rw [List.drop_of_length_le h]
  rfl
theorem tw_step {l : List UInt8} {m : Nat} (h : m < l.length) : twD l m = if dig8 (l[m]?.getD 0) = true then 1 + twD l (m + 1) else 0 := by
  unfold twD
  rw [List.drop_eq_getElem_cons h, List.getElem?_eq_getElem h]
  simp only [Option.getD_some]
  rw [List.takeWhile_cons]
  split
  · rw [List.length_cons]
    omega
  · rfl
theorem dig_I (c : UInt8) (cI : Int) (h : (c.toNat : Int) = cI) : dig8 c = (decide (48 ≤ cI) && decide (cI ≤ 57)) := by
  unfold dig8 digI
  rw [h]
set_option maxHeartbeats 4000000 in
theorem c_rdigits (l : List UInt8) (k : Nat) (w : World) (hk : k ≤ l.length) (hl : l.length ≤ 65536) :
    Calls Tryz.prog 102 #[.string ⟨l.toArray⟩, .int .i64 k] w fun e w' => e = .returned (.int .i64 ((k + twD l k : Nat) : Int)) ∧ ∃ n, w' = w.drewN n := by
  have HK := Lib.hid hk
  have HL := Lib.hid hl
  obtain ⟨E, hE⟩ : ∃ E, k + twD l k = E := ⟨_, rfl⟩
  rw [hE]
  have HE := Lib.hid hE
  clear hk hl hE
  go_enter Tryz.func102, Tryz.ntmps102
  go_wp2_with fail
  go_loopg [1] (l.length + 1) (fun g v1 wr => ∃ m : Nat, l.length - m < g ∧ v1 = .int .i64 (m : Int) ∧ Hid (m ≤ l.length ∧ E = m + twD l m) ∧ ∃ n, wr = w.drewN n)
  case atStart => exact ⟨k, by omega, rfl, ⟨HK.out, HE.out.symm⟩, 0, by simp [World.drewN_zero]⟩
  case round =>
    obtain ⟨m, hm, rfl, HR, n, rfl⟩ := hrel
    by_cases hlt : m < l.length
    · have hd : decide ((m : Int) < (l.length : Int)) = true := by simp; omega
      obtain ⟨cI, hcI⟩ : ∃ cI : Int, ((l[m]?.getD 0).toNat : Int) = cI := ⟨_, rfl⟩
      have hby : ∀ h, (((ByteArray.mk l.toArray)[m]'h).toNat : Int) = cI := fun h => (byte_at l m h).trans hcI
      have hj0 : (0 : Int) ≤ (m : Int) := by omega
      have hj1 : (m : Int) < (l.length : Int) := by omega
      have hwm : IntKind.i64.wrap ((m : Int) + 1) = ((m + 1 : Nat) : Int) := by rw [IntKind.wrap_i64]; have := HL.out; omega
      have HS := Lib.hid (tw_step hlt)
      rw [dig_I _ cI hcI] at HS
      have HM : Hid (l.length - m - 1 < gk ∧ m + 1 ≤ l.length ∧ l.length - (m + 1) < l.length - m) := ⟨by omega, by omega, by omega⟩
      clear hcI
      cases h1 : decide (48 ≤ cI)
      · rw [h1] at HS
        have hEm : E = m := by have := HR.out.2; rw [HS.out] at this; simpa using this
        subst hEm
        clear hm
        go_wp2_with fail
        go_ret
        exact ⟨rfl, _, rfl⟩
      · cases h2 : decide (cI ≤ 57)
        · rw [h1, h2] at HS
          have hEm : E = m := by have := HR.out.2; rw [HS.out] at this; simpa using this
          subst hEm
          clear hm
          go_wp2_with fail
          go_ret
          exact ⟨rfl, _, rfl⟩
        · rw [h1, h2] at HS
          have HN : Hid (m + 1 ≤ l.length ∧ E = m + 1 + twD l (m + 1)) := ⟨HM.out.2.1, by have := HR.out.2; rw [HS.out] at this; simp at this; omega⟩
          have HG := Lib.hid hm
          clear hm
          go_wp2_with fail
          go_roundg (l.length - m)
          case measure => exact HG.out
          case rel => exact ⟨m + 1, HM.out.2.2, rfl, HN, _, rfl⟩
    · have hd : decide ((m : Int) < (l.length : Int)) = false := by simp; omega
      have hEm : E = m := by
        have h := HR.out.2
        rw [tw_end (by omega)] at h
        exact h
      subst hEm
      clear hm
      go_wp2_with fail
      go_ret
      exact ⟨rfl, _, rfl⟩
end Go.Proofs.YtmaplgpicdomiaaGreatDoor
namespace Go.Proofs.YtmaplgpicdomiaaGreatDoor
set_option linter.unusedVariables false
set_option linter.unusedSimpArgs false
open Go.ChangeShapes Go.WideShapes Go.ChangeAt Go.RowKit

theorem beq_no {a b : Int} (h : ¬ a = b) : (a == b) = false := by simp [h]
theorem take_one (l : List UInt8) (k : Nat) (h : k < l.length) : l.take (k + 1) = l.take k ++ [l[k]?.getD 0] := by
  rw [List.take_add_one, List.getElem?_eq_getElem h]
  rfl
def wv (l : List UInt8) : Int := l.foldl (fun n c => 10 * n + (c.toNat : Int) - 48) 0
theorem wv_snoc (l : List UInt8) (c : UInt8) : wv (l ++ [c]) = 10 * wv l + (c.toNat : Int) - 48 := by
  unfold wv
  rw [List.foldl_append]
  rfl
theorem pow15 (n : Nat) (h : n ≤ 15) : (10 : Int) ^ n ≤ 1000000000000000 := by
  have h1 : 10 ^ n ≤ 10 ^ 15 := Nat.pow_le_pow_right (by decide) h
  have h2 := Int.ofNat_le.2 h1
  rw [Int.natCast_pow, Int.natCast_pow] at h2
  exact h2
def dgB (c : UInt8) : Bool := decide (48 ≤ c.toNat) && decide (c.toNat ≤ 57)
theorem wv_bd : ∀ (n : Nat) (l : List UInt8), l.length = n → (∀ c ∈ l, dgB c = true) → 0 ≤ wv l ∧ wv l < 10 ^ n
  | 0, l, h, _ => by rw [List.length_eq_zero_iff.1 h]; simp [wv]
  | n + 1, l, h, hd => by
    have hne : l ≠ [] := by rintro rfl; simp at h
    have e : l = l.dropLast ++ [l.getLast hne] := (List.dropLast_concat_getLast hne).symm
    have ih := wv_bd n l.dropLast (by rw [List.length_dropLast]; omega) (fun c hc => hd c (List.dropLast_subset _ hc))
    have hc := hd _ (List.getLast_mem hne)
    unfold dgB at hc
    simp at hc
    rw [e, wv_snoc, Int.pow_succ]
    omega
@[irreducible] def whB (l : List UInt8) : Bool := !l.isEmpty && decide (l.length ≤ 15) && !(decide (1 < l.length) && decide (l[0]?.getD 0 = 48)) && l.all dgB
@[irreducible] def whN (l : List UInt8) : Int := if whB l then wv l else 0
@[irreducible] def whO (l : List UInt8) : Bool := whB l && decide (wv l ≤ 1099511627776)
theorem wh_no (l : List UInt8) (h : whB l = false) : whN l = 0 ∧ whO l = false := by
  unfold whN whO
  rw [h]
  exact ⟨rfl, rfl⟩
theorem wh_yes (l : List UInt8) (h : whB l = true) : whN l = wv l ∧ whO l = decide (wv l ≤ 1099511627776) := by
  unfold whN whO
  rw [h]
  exact ⟨rfl, rfl⟩
theorem ret_ib {a b : Int} {c d : Bool} (h : a = b) (g : c = d) : Ending.returned (.tuple #[.int .i64 a, .bool c]) = .returned (.tuple #[.int .i64 b, .bool d]) := by rw [h, g]
theorem byte_is (l : List UInt8) (k : Nat) (hlt : k < l.length) (h : k < (ByteArray.mk l.toArray).size) : (((ByteArray.mk l.toArray)[k]'h).toNat : Int) = ((l[k]'hlt).toNat : Int) := by
  rw [byte_at l k h, List.getElem?_eq_getElem hlt]
  rfl
set_option maxRecDepth 100000 in
set_option maxHeartbeats 1000000 in
theorem c_Whole_one (l : List UInt8) (w : World) (h1 : l.length = 1) (hB : whB l = l.all dgB) :
    Calls Tryz.prog 103 #[.string ⟨l.toArray⟩, .int .i64 1099511627776] w fun e w' => e = .returned (.tuple #[.int .i64 (whN l), .bool (whO l)]) ∧ w = w' := by
  have HB := Lib.hid hB
  have h2 : l.length ≤ 15 := by omega
  have t0 : ((l.length : Int) == 0) = false := beq_no (by omega)
  have t1 : decide ((15 : Int) < (l.length : Int)) = false := by simp; omega
  have t2 : decide ((1 : Int) < (l.length : Int)) = false := by simp; omega
  clear hB h1
  go_enter Tryz.func103, Tryz.ntmps103
  go_wp2
  clear t0 t1 t2
  go_loop [6, 7] (fun n i => ∃ k : Nat, k ≤ l.length ∧ i = .int .i64 k ∧ n = .int .i64 (wv (l.take k)) ∧ Hid (∀ c ∈ l.take k, dgB c = true)) (fun _ i => l.length - (intOf i).toNat)
  case atStart => exact ⟨0, Nat.zero_le _, rfl, rfl, fun c hc => by simp at hc⟩
  case round =>
    obtain ⟨k, hk, rfl, rfl, hd⟩ := hrel
    have hwb := wv_bd _ (l.take k) rfl hd.out
    have hw0 := hwb.1
    have hw1 : wv (l.take k) < 1000000000000000 := by
      have := pow15 (l.take k).length (by rw [List.length_take]; omega)
      omega
    clear hwb
    by_cases hlt : k < l.length
    · have HT := Lib.hid (take_one l k hlt)
      obtain ⟨c, hc⟩ : ∃ c : Int, ((l[k]'hlt).toNat : Int) = c := ⟨_, rfl⟩
      have hby : ∀ h, (((ByteArray.mk l.toArray)[k]'h).toNat : Int) = c := fun h => (byte_is l k hlt h).trans hc
      have hcb : 0 ≤ c ∧ c ≤ 255 := by have := (l[k]'hlt).toNat_lt; omega
      obtain ⟨hc0, hc1⟩ := hcb
      have HG : Hid (l[k]?.getD 0 = l[k]'hlt) := by show _ = _; rw [List.getElem?_eq_getElem hlt]; rfl
      have HC := Lib.hid hc
      have HM := Lib.hid (List.getElem_mem hlt)
      clear hc
      by_cases hdg : 48 ≤ c ∧ c ≤ 57
      · obtain ⟨hd0, hd1⟩ := hdg
        go_wp2
        go_round
        case rel =>
          refine ⟨k + 1, by omega, by go_num, ?_, ?_⟩
          · rw [HT.out, HG.out, wv_snoc, HC.out]
          · show ∀ _, _
            rw [HT.out, HG.out]
            intro x hx
            rcases List.mem_append.1 hx with hx | hx
            · exact hd.out x hx
            · simp at hx
              subst hx
              have := HC.out
              unfold dgB
              simp
              omega
        case measure => simp [intOf]; omega
      · have HF : Hid (whB l = false) := by
          show _ = _
          rw [HB.out]
          have := HC.out
          rw [List.all_eq_false]
          exact ⟨_, HM.out, by unfold dgB; simp; omega⟩
        have hdg' : c < 48 ∨ 57 < c := by omega
        clear hdg
        rcases hdg' with hx | hx
        · go_wp2
          go_ret2
          exact ⟨ret_ib (wh_no l HF.out).1.symm (wh_no l HF.out).2.symm, rfl⟩
        · have hx' : decide (c < 48) = false := by simp; omega
          go_wp2
          go_ret2
          exact ⟨ret_ib (wh_no l HF.out).1.symm (wh_no l HF.out).2.symm, rfl⟩
    · have hge : decide (k < l.length) = false := by simp; omega
      have HK := Lib.hid (show l.take k = l by rw [List.take_of_length_le (by omega)])
      clear hk hlt
      go_wp2
      go_ret2
      have hT : whB l = true := by
        rw [HB.out, List.all_eq_true]
        have := hd.out
        rw [HK.out] at this
        exact this
      obtain ⟨e1, e2⟩ := wh_yes l hT
      refine ⟨ret_ib ?_ ?_, rfl⟩
      · rw [e1, HK.out]
      · rw [e2, HK.out]
set_option maxRecDepth 100000 in
set_option maxHeartbeats 1000000 in
theorem c_Whole_more (l : List UInt8) (w : World) (h1 : 1 < l.length) (h2 : l.length ≤ 15) (h3 : ¬ l[0]?.getD 0 = 48) (hB : whB l = l.all dgB) :
    Calls Tryz.prog 103 #[.string ⟨l.toArray⟩, .int .i64 1099511627776] w fun e w' => e = .returned (.tuple #[.int .i64 (whN l), .bool (whO l)]) ∧ w = w' := by
  have HB := Lib.hid hB
  have t0 : ((l.length : Int) == 0) = false := beq_no (by omega)
  have t1 : decide ((15 : Int) < (l.length : Int)) = false := by simp; omega
  have t2 : decide ((1 : Int) < (l.length : Int)) = true := by simp; omega
  have t3 : 0 < l.length := by omega
  obtain ⟨c0, hc0⟩ : ∃ c : Int, ((l[0]'t3).toNat : Int) = c := ⟨_, rfl⟩
  have hb0 : ∀ h, (((ByteArray.mk l.toArray)[0]'h).toNat : Int) = c0 := fun h => (byte_is l 0 t3 h).trans hc0
  have hn0 : (c0 == 48) = false := by
    simp only [beq_eq_false_iff_ne, ne_eq]
    intro e
    apply h3
    rw [List.getElem?_eq_getElem t3]
    apply UInt8.toNat_inj.1
    show (l[0]'t3).toNat = 48
    omega
  have H2 := Lib.hid h2
  clear hB h1 h2 h3 hc0
  go_enter Tryz.func103, Tryz.ntmps103
  go_wp2
  clear t0 t1 t2 hb0 hn0
  have h2 := H2.out
  go_loop [6, 7] (fun n i => ∃ k : Nat, k ≤ l.length ∧ i = .int .i64 k ∧ n = .int .i64 (wv (l.take k)) ∧ Hid (∀ c ∈ l.take k, dgB c = true)) (fun _ i => l.length - (intOf i).toNat)
  case atStart => exact ⟨0, Nat.zero_le _, rfl, rfl, fun c hc => by simp at hc⟩
  case round =>
    obtain ⟨k, hk, rfl, rfl, hd⟩ := hrel
    have hwb := wv_bd _ (l.take k) rfl hd.out
    have hw0 := hwb.1
    have hw1 : wv (l.take k) < 1000000000000000 := by
      have := pow15 (l.take k).length (by rw [List.length_take]; omega)
      omega
    clear hwb
    by_cases hlt : k < l.length
    · have HT := Lib.hid (take_one l k hlt)
      obtain ⟨c, hc⟩ : ∃ c : Int, ((l[k]'hlt).toNat : Int) = c := ⟨_, rfl⟩
      have hby : ∀ h, (((ByteArray.mk l.toArray)[k]'h).toNat : Int) = c := fun h => (byte_is l k hlt h).trans hc
      have hcb : 0 ≤ c ∧ c ≤ 255 := by have := (l[k]'hlt).toNat_lt; omega
      obtain ⟨hc0, hc1⟩ := hcb
      have HG : Hid (l[k]?.getD 0 = l[k]'hlt) := by show _ = _; rw [List.getElem?_eq_getElem hlt]; rfl
      have HC := Lib.hid hc
      have HM := Lib.hid (List.getElem_mem hlt)
      clear hc
      by_cases hdg : 48 ≤ c ∧ c ≤ 57
      · obtain ⟨hd0, hd1⟩ := hdg
        go_wp2
        go_round
        case rel =>
          refine ⟨k + 1, by omega, by go_num, ?_, ?_⟩
          · rw [HT.out, HG.out, wv_snoc, HC.out]
          · show ∀ _, _
            rw [HT.out, HG.out]
            intro x hx
            rcases List.mem_append.1 hx with hx | hx
            · exact hd.out x hx
            · simp at hx
              subst hx
              have := HC.out
              unfold dgB
              simp
              omega
        case measure => simp [intOf]; omega
      · have HF : Hid (whB l = false) := by
          show _ = _
          rw [HB.out]
          have := HC.out
          rw [List.all_eq_false]
          exact ⟨_, HM.out, by unfold dgB; simp; omega⟩
        have hdg' : c < 48 ∨ 57 < c := by omega
        clear hdg
        rcases hdg' with hx | hx
        · go_wp2
          go_ret2
          exact ⟨ret_ib (wh_no l HF.out).1.symm (wh_no l HF.out).2.symm, rfl⟩
        · have hx' : decide (c < 48) = false := by simp; omega
          go_wp2
          go_ret2
          exact ⟨ret_ib (wh_no l HF.out).1.symm (wh_no l HF.out).2.symm, rfl⟩
    · have hge : decide (k < l.length) = false := by simp; omega
      have HK := Lib.hid (show l.take k = l by rw [List.take_of_length_le (by omega)])
      clear hk hlt
      go_wp2
      go_ret2
      have hT : whB l = true := by
        rw [HB.out, List.all_eq_true]
        have := hd.out
        rw [HK.out] at this
        exact this
      obtain ⟨e1, e2⟩ := wh_yes l hT
      refine ⟨ret_ib ?_ ?_, rfl⟩
      · rw [e1, HK.out]
      · rw [e2, HK.out]
set_option maxRecDepth 100000 in
set_option maxHeartbeats 1000000 in
theorem c_Whole_zero (l : List UInt8) (w : World) (h1 : 1 < l.length) (h2 : l.length ≤ 15) (h3 : l[0]?.getD 0 = 48) (hB : whB l = false) :
    Calls Tryz.prog 103 #[.string ⟨l.toArray⟩, .int .i64 1099511627776] w fun e w' => e = .returned (.tuple #[.int .i64 (whN l), .bool (whO l)]) ∧ w = w' := by
  have HB := Lib.hid hB
  have t0 : ((l.length : Int) == 0) = false := beq_no (by omega)
  have t1 : decide ((15 : Int) < (l.length : Int)) = false := by simp; omega
  have t2 : decide ((1 : Int) < (l.length : Int)) = true := by simp; omega
  have t3 : 0 < l.length := by omega
  have hb0 : ∀ h, (((ByteArray.mk l.toArray)[0]'h).toNat : Int) = 48 := fun h => (byte_at l 0 h).trans (by rw [h3]; rfl)
  clear hB h1 h2 h3
  go_enter Tryz.func103, Tryz.ntmps103
  go_wp2
  go_ret2
  exact ⟨ret_ib (wh_no l HB.out).1.symm (wh_no l HB.out).2.symm, rfl⟩
set_option maxRecDepth 100000 in
theorem c_Whole_long (l : List UInt8) (w : World) (h1 : 15 < l.length) (hm : l.length ≤ 65536) (hB : whB l = false) :
    Calls Tryz.prog 103 #[.string ⟨l.toArray⟩, .int .i64 1099511627776] w fun e w' => e = .returned (.tuple #[.int .i64 (whN l), .bool (whO l)]) ∧ w = w' := by
  have HB := Lib.hid hB
  have t0 : ((l.length : Int) == 0) = false := beq_no (by omega)
  have t1 : decide ((15 : Int) < (l.length : Int)) = true := by simp; omega
  clear hB h1
  go_enter Tryz.func103, Tryz.ntmps103
  go_wp2
  go_ret2
  exact ⟨ret_ib (wh_no l HB.out).1.symm (wh_no l HB.out).2.symm, rfl⟩
theorem c_Whole_none (w : World) :
    Calls Tryz.prog 103 #[.string ⟨#[]⟩, .int .i64 1099511627776] w fun e w' => e = .returned (.tuple #[.int .i64 0, .bool false]) ∧ w = w' := by
  go_enter Tryz.func103, Tryz.ntmps103
  go_wp2
  go_ret2
  exact ⟨rfl, rfl⟩
theorem c_Whole (l : List UInt8) (w : World) (hm : l.length ≤ 65536) :
    Calls Tryz.prog 103 #[.string ⟨l.toArray⟩, .int .i64 1099511627776] w fun e w' => e = .returned (.tuple #[.int .i64 (whN l), .bool (whO l)]) ∧ w = w' := by
  by_cases h0 : l = []
  · subst h0
    have hB : whB [] = false := by unfold whB; rfl
    obtain ⟨e1, e2⟩ := wh_no [] hB
    rw [e1, e2]
    exact c_Whole_none w
  · have hl : 0 < l.length := List.length_pos_iff.2 h0
    have hE : l.isEmpty = false := by simpa using h0
    by_cases h15 : 15 < l.length
    · exact c_Whole_long l w h15 hm (by unfold whB; simp; omega)
    · by_cases h1 : l.length = 1
      · exact c_Whole_one l w h1 (by unfold whB; simp [hE, h1])
      · by_cases h48 : l[0]?.getD 0 = 48
        · exact c_Whole_zero l w (by omega) (by omega) h48 (by unfold whB; simp [h48]; omega)
        · exact c_Whole_more l w (by omega) (by omega) h48 (by unfold whB; simp [hE, h48]; omega)

/-! ### number -/
end Go.Proofs.YtmaplgpicdomiaaGreatDoor
namespace Go.Proofs.YtmaplgpicdomiaaGreatDoor
set_option linter.unusedVariables false
set_option linter.unusedSimpArgs false
set_option maxRecDepth 100000
open Go.RowKit

def strA (T : List (List UInt8)) : Array Value := (T.map fun l => Value.string ⟨l.toArray⟩).toArray
theorem str_at (T : List (List UInt8)) (w : World) (k : Nat) (s : List UInt8) (hs : T[k]? = some s) : (w.alloc (.cells (strA T) 9)).cell? ⟨w.heap.size, k, none⟩ = some (.string ⟨s.toArray⟩) := by
  rw [cell_of_row (w.alloc (.cells (strA T) 9)) w.heap.size k (strA T) 9 (0, 0) (heap_alloc_new w _)]
  unfold strA
  rw [List.getElem?_toArray, List.getElem?_map, hs]
  rfl
set_option maxHeartbeats 1000000 in
theorem c_In (g cap n : Nat) (T : List (List UInt8)) (l : List UInt8) (w : World) (hn : T.length = n) (hn2 : n ≤ 64) (hc : n ≤ cap) (hT : ∀ k s, T[k]? = some s → w.cell? ⟨g, k, none⟩ = some (.string ⟨s.toArray⟩)) :
    Calls Tryz.prog 40 #[.slice (some ⟨g, 0, none⟩) n cap, .string ⟨l.toArray⟩] w fun e w' => e = .returned (.bool (T.contains l)) ∧ w = w' := by
  have HT := Lib.hid hT
  have HN := Lib.hid hn
  obtain ⟨r, hr⟩ : ∃ r, r = T.contains l := ⟨_, rfl⟩
  have HRr := Lib.hid hr
  rw [← hr]
  clear hT hn hr
  go_enter Tryz.func40, Tryz.ntmps40
  go_wp2
  go_loop [5] (fun i => ∃ k : Nat, k ≤ n ∧ i = .int .i64 k ∧ Hid ((T.take k).contains l = false)) (fun i => n - (intOf i).toNat)
  case atStart => exact ⟨0, Nat.zero_le _, rfl, rfl⟩
  case round =>
    obtain ⟨k, hk, rfl, HK⟩ := hrel
    by_cases hlt : k < n
    · obtain ⟨s, hs⟩ : ∃ s, T[k]? = some s := ⟨_, List.getElem?_eq_getElem (by rw [HN.out]; exact hlt)⟩
      have hcell := HT.out k s hs
      have HTk : Hid (T.take (k + 1) = T.take k ++ [s]) := by show _ = _; rw [List.take_add_one, hs]; rfl
      have HIn : Hid (s ∈ T) := List.mem_of_getElem? hs
      have hk0 : (0 : Int) ≤ (k : Int) := by omega
      have hk1 : (k : Int) < (n : Int) := by omega
      clear hs
      cases he : (s == l)
      · have HNx : Hid ((T.take (k + 1)).contains l = false) := by
          have h := HK.out
          rw [List.contains_eq_any_beq] at h
          show _ = _
          rw [HTk.out, List.contains_eq_any_beq, List.any_append, h]
          have : (l == s) = false := by rw [Bool.eq_false_iff]; intro h2; rw [beq_iff_eq] at h2; subst h2; simp at he
          simp [this]
        go_wp2
        go_round
        case rel => exact ⟨k + 1, by omega, by go_num, HNx⟩
        case measure => simp [intOf]; omega
      · have HV : Hid (r = true) := by
          rw [beq_iff_eq] at he
          subst he
          show _ = _
          rw [HRr.out, List.contains_iff_mem]
          exact HIn.out
        go_wp2
        go_ret
        exact ⟨ret_b HV.out.symm, rfl⟩
    · have hge : decide (k < n) = false := by simp; omega
      have HV : Hid (r = false) := by
        have h := HK.out
        rw [List.take_of_length_le (by rw [HN.out]; omega)] at h
        exact HRr.out.trans h
      clear hk hlt
      go_wp2
      go_ret
      exact ⟨ret_b HV.out.symm, rfl⟩
set_option maxHeartbeats 1000000 in
theorem c_bKey (l : List UInt8) (w : World) :
    Calls Tryz.prog 57 #[.string ⟨l.toArray⟩] w fun e w' => e = .returned (.bool (keyB l)) ∧ Below w.heap.size w w' := by
  have HI : Hid (Calls Tryz.prog 40 #[.slice (some ⟨w.heap.size, 0, none⟩) 20 20, .string ⟨l.toArray⟩] (w.alloc (.cells (strA keyTab) 9)) fun e w' => e = .returned (.bool (keyB l)) ∧ w.alloc (.cells (strA keyTab) 9) = w') := by
    have h := c_In w.heap.size 20 20 keyTab l (w.alloc (.cells (strA keyTab) 9)) (by decide) (by decide) (by decide) (fun k s hs => str_at keyTab w k s hs)
    have e : keyB l = keyTab.contains l := by unfold keyB; rfl
    rw [e]
    exact h
  go_enter Tryz.func57, Tryz.ntmps57
  go_wp2_with fail
  refine HI.out.mono ?_
  rintro e w2 ⟨rfl, rfl⟩
  go_wp2_with fail
  go_ret
  exact ⟨rfl, (Below.refl _ _).alloc (Nat.le_refl _) _⟩
theorem c_bletter (c : Int) (w : World) (h0 : 0 ≤ c) (h1 : c ≤ 255) :
    Calls Tryz.prog 66 #[.int .u8 c] w fun e w' => e = .returned (.bool (ltrI c)) ∧ w = w' := by
  go_enter Tryz.func66, Tryz.ntmps66
  go_wp2
  all_goals
    go_ret
    refine ⟨ret_b ?_, rfl⟩
    unfold ltrI
    rw [Bool.eq_iff_iff]
    simp
    omega
end Go.Proofs.YtmaplgpicdomiaaGreatDoor
namespace Go.Proofs.YtmaplgpicdomiaaGreatDoor
set_option linter.unusedVariables false
set_option linter.unusedSimpArgs false
set_option maxRecDepth 100000
open Go.RowKit

theorem take_snoc {l : List UInt8} {k : Nat} (h : k < l.length) : l.take (k + 1) = l.take k ++ [l[k]?.getD 0] := by
  rw [List.take_add_one, List.getElem?_eq_getElem h]
  rfl
set_option maxHeartbeats 2000000 in
theorem c_bWord (l : List UInt8) (w : World) (hl : l.length ≤ 140737488355328) :
    Calls Tryz.prog 56 #[.string ⟨l.toArray⟩] w fun e w' => e = .returned (.bool (wordB l)) ∧ w = w' := by
  by_cases h0 : l = []
  · have HV : Hid (wordB l = false) := by show _ = _; unfold wordB; simp [h0]
    rw [HV.out]
    subst h0
    go_enter Tryz.func56, Tryz.ntmps56
    go_wp2_with fail
    go_ret
    exact ⟨rfl, rfl⟩
  have he : l.isEmpty = false := by cases l with
    | nil => exact absurd rfl h0
    | cons => rfl
  have he2 : (l == []) = false := by simp [h0]
  have hpos : 0 < l.length := List.length_pos_iff.2 h0
  obtain ⟨cI, hcI⟩ : ∃ cI : Int, ((l[0]?.getD 0).toNat : Int) = cI := ⟨_, rfl⟩
  have hby : ∀ h, (((ByteArray.mk l.toArray)[0]'h).toNat : Int) = cI := fun h => (byte_at l 0 h).trans hcI
  have hcb : 0 ≤ cI ∧ cI ≤ 255 := by have := (l[0]?.getD 0).toNat_lt; omega
  obtain ⟨hc0, hc1⟩ := hcb
  have HWd : Hid (wordB l = (ltrI cI && l.all wrd8)) := by
    show _ = _
    unfold wordB
    have : ltr8 (l[0]?.getD 0) = ltrI cI := by show ltrI _ = _; rw [hcI]
    rw [this]
    simp [h0]
  clear hcI h0
  cases hL : ltrI cI
  · have HV : Hid (wordB l = false) := by show _ = _; rw [HWd.out, hL]; rfl
    rw [HV.out]
    go_enter Tryz.func56, Tryz.ntmps56
    go_wp2_with fail
    refine (c_bletter cI _ hc0 hc1).mono ?_
    rw [hL]
    rintro e w2 ⟨rfl, rfl⟩
    go_wp2_with fail
    go_ret
    exact ⟨rfl, rfl⟩
  · have HV : Hid (wordB l = l.all wrd8) := by show _ = _; rw [HWd.out, hL]; rfl
    rw [HV.out]
    obtain ⟨r, hr⟩ : ∃ r, l.all wrd8 = r := ⟨_, rfl⟩
    rw [hr]
    have HR := Lib.hid hr
    clear hr
    go_enter Tryz.func56, Tryz.ntmps56
    go_wp2_with fail
    refine (c_bletter cI _ hc0 hc1).mono ?_
    rw [hL]
    rintro e w2 ⟨rfl, rfl⟩
    go_wp2_with fail
    clear hby hc0 hc1
    go_loop [3] (fun i => ∃ k : Nat, k ≤ l.length ∧ i = .int .i64 k ∧ Hid ((l.take k).all wrd8 = true)) (fun i => l.length - (intOf i).toNat)
    case atStart => exact ⟨0, Nat.zero_le _, rfl, rfl⟩
    case round =>
      obtain ⟨k, hk, rfl, HK⟩ := hrel
      by_cases hlt : k < l.length
      · obtain ⟨cI, hcI⟩ : ∃ cI : Int, ((l[k]?.getD 0).toNat : Int) = cI := ⟨_, rfl⟩
        have hby : ∀ h, (((ByteArray.mk l.toArray)[k]'h).toNat : Int) = cI := fun h => (byte_at l k h).trans hcI
        have hcb : 0 ≤ cI ∧ cI ≤ 255 := by have := (l[k]?.getD 0).toNat_lt; omega
        obtain ⟨hc0, hc1⟩ := hcb
        have HW8 : Hid (wrd8 (l[k]?.getD 0) = (ltrI cI || digI cI)) := by show (ltrI _ || digI _) = _; rw [hcI]
        have HTk := Lib.hid (take_snoc hlt)
        have HNx : Hid ((ltrI cI || digI cI) = true → (l.take (k + 1)).all wrd8 = true) := fun h => by
          rw [HTk.out, List.all_append, HK.out, Bool.true_and]
          show (wrd8 _ && true) = true
          rw [HW8.out, h]
          rfl
        have HNo : Hid ((ltrI cI || digI cI) = false → r = false) := fun h => by
          rw [← HR.out, List.all_eq_false]
          refine ⟨l[k]?.getD 0, ?_, by rw [HW8.out, h]; simp⟩
          rw [List.getElem?_eq_getElem hlt]
          exact List.getElem_mem hlt
        have hk0 : (0 : Int) ≤ (k : Int) := by omega
        have hk1 : (k : Int) < (l.length : Int) := by omega
        clear hcI
        cases hLk : ltrI cI
        · cases hD : digI cI
          · have HV2 := Lib.hid (HNo.out (by rw [hLk, hD]; rfl))
            have hor : cI < 48 ∨ 48 ≤ cI ∧ 57 < cI := by unfold digI at hD; simp at hD; omega
            rcases hor with h48 | ⟨h48, h57⟩
            all_goals
              go_wp2_with fail
              refine (c_bletter cI _ hc0 hc1).mono ?_
              rw [hLk]
              rintro e w2 ⟨rfl, rfl⟩
              go_wp2_with fail
              go_ret
              exact ⟨ret_b HV2.out.symm, rfl⟩
          · have HA2 := Lib.hid (HNx.out (by rw [hLk, hD]; rfl))
            have hin : 48 ≤ cI ∧ cI ≤ 57 := by unfold digI at hD; simpa using hD
            obtain ⟨h48, h57⟩ := hin
            go_wp2_with fail
            refine (c_bletter cI _ hc0 hc1).mono ?_
            rw [hLk]
            rintro e w2 ⟨rfl, rfl⟩
            go_wp2_with fail
            go_round
            case rel => exact ⟨k + 1, by omega, by go_num, HA2.out⟩
            case measure => simp [intOf]; omega
        · have HA2 := Lib.hid (HNx.out (by rw [hLk]; rfl))
          go_wp2_with fail
          refine (c_bletter cI _ hc0 hc1).mono ?_
          rw [hLk]
          rintro e w2 ⟨rfl, rfl⟩
          go_wp2_with fail
          go_round
          case rel => exact ⟨k + 1, by omega, by go_num, HA2.out⟩
          case measure => simp [intOf]; omega
      · have hge : decide (k < l.length) = false := by simp; omega
        have HV2 : Hid (r = true) := by
          have h := HK.out
          rw [List.take_of_length_le (by omega)] at h
          exact HR.out.symm.trans h
        clear hk hlt
        go_wp2_with fail
        go_ret
        exact ⟨ret_b HV2.out.symm, rfl⟩
set_option maxHeartbeats 2000000 in
theorem c_bName (l : List UInt8) (w : World) (hl : l.length ≤ 9223372036854775807) :
    Calls Tryz.prog 39 #[.string ⟨l.toArray⟩] w fun e w' => e = .returned (.bool (nameB l)) ∧ Below w.heap.size w w' := by
  have HN : Hid (nameB l = (decide (l.length ≤ 31) && wordB l && !keyB l)) := by show _ = _; unfold nameB; rfl
  rw [HN.out]
  by_cases h1 : l.length ≤ 31
  · have hd : decide ((l.length : Int) ≤ 31) = true := by simp; omega
    have HD : Hid (decide (l.length ≤ 31) = true) := by show _ = _; simp [h1]
    rw [HD.out]
    cases hw : wordB l
    · go_enter Tryz.func39, Tryz.ntmps39
      go_wp2_with fail
      refine (c_bWord l _ (by omega)).mono ?_
      rw [hw]
      rintro e w2 ⟨rfl, rfl⟩
      go_wp2_with fail
      go_ret
      exact ⟨rfl, Below.refl _ _⟩
    · cases hk : keyB l
      all_goals
        go_enter Tryz.func39, Tryz.ntmps39
        go_wp2_with fail
        refine (c_bWord l _ (by omega)).mono ?_
        rw [hw]
        rintro e w2 ⟨rfl, rfl⟩
        go_wp2_with fail
        refine (c_bKey l _).mono ?_
        rw [hk]
        rintro e w2 ⟨rfl, hb⟩
        go_wp2_with fail
        go_ret
        exact ⟨rfl, hb⟩
  · have hd : decide ((l.length : Int) ≤ 31) = false := by simp; omega
    have HD : Hid (decide (l.length ≤ 31) = false) := by show _ = _; simp; omega
    rw [HD.out]
    go_enter Tryz.func39, Tryz.ntmps39
    go_wp2_with fail
    go_ret
    exact ⟨rfl, Below.refl _ _⟩
theorem dg_eq (c : UInt8) : dgB c = dig8 c := by
  unfold dgB dig8 digI
  congr 1
  · congr 1
    apply propext
    omega
  · congr 1
    apply propext
    omega
theorem wv_val (d : List UInt8) : ∀ (e : List UInt8) (acc : Nat), e.all dig8 = true → wv d = (acc : Int) → wv (d ++ e) = (valF acc e : Int) := by
  intro e
  induction e generalizing d with
  | nil => intro acc _ h; rw [List.append_nil]; exact h
  | cons c e ih =>
    intro acc ha h
    rw [List.all_cons, Bool.and_eq_true] at ha
    obtain ⟨c1, c2⟩ := dig_val ha.1
    have h2 := ih (d ++ [c]) (acc * 10 + (c.toNat - 48)) ha.2 (by rw [wv_snoc, h]; omega)
    rw [List.append_assoc, List.singleton_append] at h2
    exact h2
/-- The document's whole number and the reader's count. -/
theorem wh_tie (d : List UInt8) (ha : d.all dig8 = true) : whO d = (whP d).isSome ∧ ∀ n, whP d = some n → whN d = (n : Int) := by
  have hv : wv d = (valF 0 d : Int) := wv_val [] d 0 ha rfl
  have had : d.all dgB = true := List.all_eq_true.2 fun c hc => by rw [dg_eq]; exact List.all_eq_true.1 ha c hc
  have hh : (d[0]?.getD 0 = 48) = (d.head? = some 48) ∨ d = [] := by
    cases d with
    | nil => exact .inr rfl
    | cons c r => exact .inl (by simp)
  rcases hh with hh | rfl
  · have hb : whB d = (decide (d ≠ []) && decide (d.length ≤ 15) && !(decide (1 < d.length) && decide (d.head? = some 48))) := by
      unfold whB
      rw [had, Bool.and_true]
      simp only [hh]
      cases d <;> rfl
    unfold whO whN whP
    rw [hb, hv]
    by_cases h0 : d = []
    · subst h0; exact ⟨rfl, fun n h => by cases h⟩
    · by_cases h1 : d.length ≤ 15
      · by_cases h2 : 1 < d.length
        · by_cases h3 : d.head? = some 48
          · simp [h0, h1, h2, h3]
          · by_cases h4 : valF 0 d ≤ 1099511627776
            · have h5 : (valF 0 d : Int) ≤ 1099511627776 := by omega
              simp [h0, h1, h2, h3, h4, h5]
            · have h5 : ¬ (valF 0 d : Int) ≤ 1099511627776 := by omega
              simp [h0, h1, h2, h3, h4, h5]
        · by_cases h4 : valF 0 d ≤ 1099511627776
          · have h5 : (valF 0 d : Int) ≤ 1099511627776 := by omega
            simp [h0, h1, h2, h4, h5]
          · have h5 : ¬ (valF 0 d : Int) ≤ 1099511627776 := by omega
            simp [h0, h1, h2, h4, h5]
      · simp [h0, h1]
  · refine ⟨?_, fun n h => by unfold whP at h; simp at h⟩
    unfold whO whB whP
    rfl
end Go.Proofs.YtmaplgpicdomiaaGreatDoor
namespace Go.Proofs.YtmaplgpicdomiaaGreatDoor
set_option linter.unusedVariables false
set_option linter.unusedSimpArgs false
set_option maxRecDepth 100000
open Go.RowKit

/-- What the document's reader answers. -/
def NxR (l : List UInt8) (k : Nat) (w : World) (e : Ending) (w' : World) : Prop :=
  (∃ (j : Int) (q : Bool), e = .returned (.tuple #[.int .i64 j, .bool q]) ∧ ((∃ t y, rd (l.drop k) = some (t, y) ∧ q = true ∧ j = ((plc l y : Nat) : Int)) ∨ (rd (l.drop k) = none ∧ q = false))) ∧ Below w.heap.size w w'
def NxC (m : Nat) : Prop := ∀ (l : List UInt8) (k : Nat) (w : World), k ≤ l.length → l.length ≤ 65536 → l.length - k ≤ m →
  Calls Tryz.prog 88 #[.string ⟨l.toArray⟩, .int .i64 k] w fun e w' => NxR l k w e w'
theorem drop_at {l : List UInt8} {k : Nat} (h : k < l.length) : l.drop k = l[k]?.getD 0 :: l.drop (k + 1) := by
  rw [List.drop_eq_getElem_cons h, List.getElem?_eq_getElem h]
  rfl
set_option maxHeartbeats 4000000 in
theorem nx_base (l : List UInt8) (k : Nat) (cI : Int) (hcI : ((l[k]?.getD 0).toNat : Int) = cI) (w : World) (hk : k < l.length) (hl : l.length ≤ 65536) (hb : cI = 118 ∨ cI = 99 ∨ cI = 115 ∨ cI = 105 ∨ cI = 117 ∨ cI = 106) :
    Calls Tryz.prog 88 #[.string ⟨l.toArray⟩, .int .i64 k] w fun e w' => NxR l k w e w' := by
  have hby : ∀ h, (((ByteArray.mk l.toArray)[k]'h).toNat : Int) = cI := fun h => (byte_at l k h).trans hcI
  have hj0 : (0 : Int) ≤ (k : Int) := by omega
  have hj1 : (k : Int) < (l.length : Int) := by omega
  have hge : decide ((l.length : Int) ≤ (k : Int)) = false := by simp; omega
  have hwm : IntKind.i64.wrap ((k : Int) + 1) = ((k + 1 : Nat) : Int) := by rw [IntKind.wrap_i64]; omega
  have HR : Hid (rd (l.drop k) = some (.base (l[k]?.getD 0), l.drop (k + 1)) ∧ plc l (l.drop (k + 1)) = k + 1) := by
    refine ⟨?_, plc_drop (by omega)⟩
    rw [drop_at hk]
    refine rd_base _ _ ?_
    have e : ∀ (n : Nat), n < 256 → cI = (n : Int) → l[k]?.getD 0 = UInt8.ofNat n := fun n hn h => by
      apply UInt8.toNat_inj.1
      have := of_eq_true (rfl : (True) = True)
      simp
      omega
    rcases hb with h | h | h | h | h | h
    · rw [e 118 (by decide) h]; rfl
    · rw [e 99 (by decide) h]; rfl
    · rw [e 115 (by decide) h]; rfl
    · rw [e 105 (by decide) h]; rfl
    · rw [e 117 (by decide) h]; rfl
    · rw [e 106 (by decide) h]; rfl
  have HD : Hid (∀ w', Below w.heap.size w w' → NxR l k w (.returned (.tuple #[.int .i64 ((k : Int) + 1), .bool true])) w') := fun w' h => ⟨⟨_, true, rfl, .inl ⟨_, _, HR.out.1, rfl, by rw [HR.out.2]; rfl⟩⟩, h⟩
  clear hcI hk hl
  rcases hb with rfl | rfl | rfl | rfl | rfl | rfl
  all_goals
    go_enter Tryz.func88, Tryz.ntmps88
    go_wp2_with fail
    refine bodyPost_ret (v := .tuple #[.int .i64 ((k : Int) + 1), .bool true]) (by simp [results, Tryz.results88, go_sem]) rfl ?_
    exact HD.out _ (Below.refl _ _)
set_option maxHeartbeats 4000000 in
theorem nx_end (l : List UInt8) (w : World) (hl : l.length ≤ 65536) :
    Calls Tryz.prog 88 #[.string ⟨l.toArray⟩, .int .i64 l.length] w fun e w' => NxR l l.length w e w' := by
  have HD : Hid (NxR l l.length w (.returned (.tuple #[.int .i64 0, .bool false])) w) := ⟨⟨_, false, rfl, .inr ⟨by rw [List.drop_length]; rfl, rfl⟩⟩, Below.refl _ _⟩
  clear hl
  go_enter Tryz.func88, Tryz.ntmps88
  go_wp2_with fail
  refine bodyPost_ret (v := .tuple #[.int .i64 0, .bool false]) (by simp [results, Tryz.results88, go_sem]) rfl ?_
  exact HD.out
set_option maxHeartbeats 4000000 in
theorem nx_oth (l : List UInt8) (k : Nat) (cI : Int) (hcI : ((l[k]?.getD 0).toNat : Int) = cI) (w : World) (hk : k < l.length) (hl : l.length ≤ 65536) (hb : ¬ (cI = 118 ∨ cI = 99 ∨ cI = 115 ∨ cI = 105 ∨ cI = 117 ∨ cI = 106)) (h1 : cI ≠ 112) (h2 : cI ≠ 97) (h3 : cI ≠ 83) (h4 : cI ≠ 102) :
    Calls Tryz.prog 88 #[.string ⟨l.toArray⟩, .int .i64 k] w fun e w' => NxR l k w e w' := by
  have hby : ∀ h, (((ByteArray.mk l.toArray)[k]'h).toNat : Int) = cI := fun h => (byte_at l k h).trans hcI
  have hj0 : (0 : Int) ≤ (k : Int) := by omega
  have hj1 : (k : Int) < (l.length : Int) := by omega
  have hge : decide ((l.length : Int) ≤ (k : Int)) = false := by simp; omega
  have hne : ∀ n : Nat, n < 256 → cI ≠ (n : Int) → l[k]?.getD 0 ≠ UInt8.ofNat n := fun n hn h e => h (by rw [← hcI, e]; simp; omega)
  have HD : Hid (NxR l k w (.returned (.tuple #[.int .i64 0, .bool false])) w) := by
    refine ⟨⟨_, false, rfl, .inr ⟨?_, rfl⟩⟩, Below.refl _ _⟩
    rw [drop_at hk]
    refine rd_none _ _ ?_ (hne 112 (by decide) h1) (hne 97 (by decide) h2) (hne 83 (by decide) h3) (hne 102 (by decide) h4)
    unfold baseC
    simp only [Bool.or_eq_false_iff, beq_eq_false_iff_ne]
    exact ⟨⟨⟨⟨⟨hne 118 (by decide) (fun e => hb (by simp [e])), hne 99 (by decide) (fun e => hb (by simp [e]))⟩, hne 115 (by decide) (fun e => hb (by simp [e]))⟩, hne 105 (by decide) (fun e => hb (by simp [e]))⟩, hne 117 (by decide) (fun e => hb (by simp [e]))⟩, hne 106 (by decide) (fun e => hb (by simp [e]))⟩
  have e1 : (cI == 118) = false := by simp; exact fun e => hb (by simp [e])
  have e2 : (cI == 99) = false := by simp; exact fun e => hb (by simp [e])
  have e3 : (cI == 115) = false := by simp; exact fun e => hb (by simp [e])
  have e4 : (cI == 105) = false := by simp; exact fun e => hb (by simp [e])
  have e5 : (cI == 117) = false := by simp; exact fun e => hb (by simp [e])
  have e6 : (cI == 106) = false := by simp; exact fun e => hb (by simp [e])
  have e7 : (cI == 112) = false := by simp [h1]
  have e8 : (cI == 97) = false := by simp [h2]
  have e9 : (cI == 83) = false := by simp [h3]
  have e0 : (cI == 102) = false := by simp [h4]
  clear hcI hk hl hne hb h1 h2 h3 h4
  go_enter Tryz.func88, Tryz.ntmps88
  go_wp2_with fail
  refine bodyPost_ret (v := .tuple #[.int .i64 0, .bool false]) (by simp [results, Tryz.results88, go_sem]) rfl ?_
  exact HD.out
set_option maxHeartbeats 4000000 in
theorem nx_ptr (m : Nat) (hN : NxC m) (l : List UInt8) (k : Nat) (hcI : ((l[k]?.getD 0).toNat : Int) = 112) (w : World) (hk : k < l.length) (hl : l.length ≤ 65536) (hm : l.length - k ≤ m + 1) :
    Calls Tryz.prog 88 #[.string ⟨l.toArray⟩, .int .i64 k] w fun e w' => NxR l k w e w' := by
  have hby : ∀ h, (((ByteArray.mk l.toArray)[k]'h).toNat : Int) = 112 := fun h => (byte_at l k h).trans hcI
  have hj0 : (0 : Int) ≤ (k : Int) := by omega
  have hj1 : (k : Int) < (l.length : Int) := by omega
  have hge : decide ((l.length : Int) ≤ (k : Int)) = false := by simp; omega
  have hwm : IntKind.i64.wrap ((k : Int) + 1) = ((k + 1 : Nat) : Int) := by rw [IntKind.wrap_i64]; omega
  have hc : l[k]?.getD 0 = 112 := by
    apply UInt8.toNat_inj.1
    show _ = 112
    omega
  have HNx := Lib.hid (hN l (k + 1) w (by omega) hl (by omega))
  have HR : Hid (rd (l.drop k) = (rd (l.drop (k + 1))).map fun p => (.ptr p.1, p.2)) := by
    show _ = _
    rw [drop_at hk, hc]
    exact rd_ptr _
  clear hcI hk hl hm hc hN
  go_enter Tryz.func88, Tryz.ntmps88
  go_wp2_with fail
  refine HNx.out.mono ?_
  rintro e w2 ⟨⟨j, q, rfl, hq⟩, hb⟩
  have HD : Hid (NxR l k w (.returned (.tuple #[.int .i64 j, .bool q])) w2) := by
    refine ⟨⟨j, q, rfl, ?_⟩, hb⟩
    rcases hq with ⟨t, y, h1, h2, h3⟩ | ⟨h1, h2⟩
    · exact .inl ⟨.ptr t, y, by rw [HR.out, h1]; rfl, h2, h3⟩
    · exact .inr ⟨by rw [HR.out, h1]; rfl, h2⟩
  clear hq hb
  go_wp2_with fail
  refine bodyPost_ret (v := .tuple #[.int .i64 j, .bool q]) (by simp [results, Tryz.results88, go_sem]) rfl ?_
  exact HD.out
end Go.Proofs.YtmaplgpicdomiaaGreatDoor
namespace Go.Proofs.YtmaplgpicdomiaaGreatDoor
set_option linter.unusedVariables false
set_option linter.unusedSimpArgs false
set_option maxRecDepth 100000
open Go.RowKit

theorem tw_take (r : List UInt8) : r.take (r.takeWhile dig8).length = r.takeWhile dig8 := by
  obtain ⟨y, hy⟩ := List.takeWhile_prefix (p := dig8) (l := r)
  have h := congrArg (List.take (r.takeWhile dig8).length) hy
  rw [List.take_left] at h
  exact h.symm
set_option maxHeartbeats 8000000 in
theorem nx_arr (m : Nat) (hN : NxC m) (l : List UInt8) (k : Nat) (hcI : ((l[k]?.getD 0).toNat : Int) = 97) (w : World) (hk : k < l.length) (hl : l.length ≤ 65536) (hm : l.length - k ≤ m + 1) :
    Calls Tryz.prog 88 #[.string ⟨l.toArray⟩, .int .i64 k] w fun e w' => NxR l k w e w' := by
  have hby : ∀ h, (((ByteArray.mk l.toArray)[k]'h).toNat : Int) = 97 := fun h => (byte_at l k h).trans hcI
  have hj0 : (0 : Int) ≤ (k : Int) := by omega
  have hj1 : (k : Int) < (l.length : Int) := by omega
  have hge : decide (l.length ≤ k) = false := by simp; omega
  have hwm : IntKind.i64.wrap ((k : Int) + 1) = ((k + 1 : Nat) : Int) := by rw [IntKind.wrap_i64]; omega
  have hc : l[k]?.getD 0 = 97 := by
    apply UInt8.toNat_inj.1
    show _ = 97
    omega
  obtain ⟨D, hD⟩ : ∃ D, k + 1 + twD l (k + 1) = D := ⟨_, rfl⟩
  obtain ⟨dl, hdl⟩ : ∃ dl, (l.drop (k + 1)).takeWhile dig8 = dl := ⟨_, rfl⟩
  have hDl : D = k + 1 + dl.length := by rw [← hD, ← hdl]; rfl
  have hle : D ≤ l.length := by
    have h1 := (List.takeWhile_prefix (p := dig8) (l := l.drop (k + 1))).length_le
    rw [hdl, List.length_drop] at h1
    omega
  have HDg := Lib.hid (c_rdigits l (k + 1) w (by omega) hl)
  rw [hD] at HDg
  have hall : dl.all dig8 = true := by
    rw [← hdl]
    exact List.all_eq_true.2 fun c hc => List.all_eq_true.1 List.all_takeWhile c hc
  have hex : (⟨l.toArray⟩ : ByteArray).extract (k + 1) D = ⟨dl.toArray⟩ := by
    rw [ext_sub]
    congr 2
    rw [show D - (k + 1) = dl.length by omega, ← hdl]
    exact tw_take _
  have HWh := Lib.hid (fun w => c_Whole dl w (by omega))
  obtain ⟨hwo, hwn⟩ := wh_tie dl hall
  have hdr : (l.drop (k + 1)).drop dl.length = l.drop D := by rw [List.drop_drop, hDl]
  have hdr1 : (l.drop (k + 1)).drop (dl.length + 1) = l.drop (D + 1) := by rw [List.drop_drop, hDl]; rfl
  have hct := cnt_tie (l.drop (k + 1))
  rw [hdl, hdr, hdr1] at hct
  have hrd : rd (l.drop k) = (cntP (l.drop (k + 1))).bind fun p => (rd p.2).map fun q => (.arr p.1 q.1, q.2) := by
    rw [drop_at hk, hc]
    exact rd_arr _
  rw [hct] at hrd
  have HNx : Hid (D < l.length → ∀ w, Calls Tryz.prog 88 #[.string ⟨l.toArray⟩, .int .i64 ((D + 1 : Nat) : Int)] w fun e w' => NxR l (D + 1) w e w') := fun h w => hN l (D + 1) w (by omega) hl (by omega)
  have HNo : Hid (rd (l.drop k) = none → ∀ w', Below w.heap.size w w' → NxR l k w (.returned (.tuple #[.int .i64 0, .bool false])) w') := fun h w' hb => ⟨⟨_, false, rfl, .inr ⟨h, rfl⟩⟩, hb⟩
  have hkD : (k : Int) + 1 ≤ (D : Int) := by omega
  have hkD2 : k + 1 ≤ D := by omega
  have hk10 : (0 : Int) ≤ (k : Int) + 1 := by omega
  have hD0 : (0 : Int) ≤ (D : Int) := by omega
  have hDl2 : (D : Int) ≤ (l.length : Int) := by omega
  have HRd := Lib.hid hrd
  have HLl := Lib.hid (And.intro hl hle)
  obtain ⟨qo, hqo⟩ : ∃ q, whO dl = q := ⟨_, rfl⟩
  rw [hqo] at HWh hwo
  have HWo := Lib.hid hwo
  obtain ⟨vn, hvn⟩ : ∃ v, whN dl = v := ⟨_, rfl⟩
  rw [hvn] at HWh
  clear hcI hc hD hdl hDl hall hwn hdr hdr1 hct hrd hN hqo hvn hm hwo hl hle hk
  go_enter Tryz.func88, Tryz.ntmps88
  go_wp2_with fail
  refine HDg.out.mono ?_
  rintro e w2 ⟨rfl, n, rfl⟩
  go_wp2_with fail
  refine (HWh.out _).mono ?_
  rintro e w3 ⟨rfl, hw3⟩
  subst hw3
  cases qo
  · have hnone : whP dl = none := by
      have := HWo.out
      cases hw : whP dl with
      | none => rfl
      | some x => rw [hw] at this; cases this
    have HX := Lib.hid (HNo.out (by rw [HRd.out, hnone]; rfl))
    clear hnone
    go_wp2_with fail
    refine bodyPost_ret (v := .tuple #[.int .i64 0, .bool false]) (by simp [results, Tryz.results88, go_sem]) rfl ?_
    exact HX.out _ (below_drewN (Below.refl _ _) _)
  · obtain ⟨vv, hvv⟩ : ∃ v, whP dl = some v := by
      have := HWo.out
      exact Option.isSome_iff_exists.1 this.symm
    have HRd2 : Hid (rd (l.drop k) = (if (l.drop D).head? = some 58 then some (vv, l.drop (D + 1)) else none).bind fun p => (rd p.2).map fun q => (.arr p.1 q.1, q.2)) := by
      show _ = _
      rw [HRd.out, hvv]
      rfl
    clear hvv
    by_cases hDe : D < l.length
    · have hge2 : decide (l.length ≤ D) = false := by simp; omega
      have hDlt : (D : Int) < (l.length : Int) := by omega
      obtain ⟨c2, hc2⟩ : ∃ c : Int, ((l[D]?.getD 0).toNat : Int) = c := ⟨_, rfl⟩
      have hby2 : ∀ h, (((ByteArray.mk l.toArray)[D]'h).toNat : Int) = c2 := fun h => (byte_at l D h).trans hc2
      have hwm2 : IntKind.i64.wrap ((D : Int) + 1) = ((D + 1 : Nat) : Int) := by rw [IntKind.wrap_i64]; have := HLl.out.1; omega
      have hhd : (l.drop D).head? = some (l[D]?.getD 0) := by rw [drop_at hDe]; rfl
      have HN2 := Lib.hid (HNx.out hDe)
      by_cases h58 : c2 = 58
      · subst h58
        have h8 : l[D]?.getD 0 = 58 := by
          apply UInt8.toNat_inj.1
          show _ = 58
          omega
        have HRd3 : Hid (rd (l.drop k) = (rd (l.drop (D + 1))).map fun q => (.arr vv q.1, q.2)) := by
          show _ = _
          rw [HRd2.out, hhd, h8, if_pos rfl]
          rfl
        clear hc2 hhd h8 hDe
        go_wp2_with fail
        refine (HN2.out _).mono ?_
        rintro e w4 ⟨⟨j, q, rfl, hq⟩, hb⟩
        have HD : Hid (NxR l k w (.returned (.tuple #[.int .i64 j, .bool q])) w4) := by
          refine ⟨⟨j, q, rfl, ?_⟩, (below_drewN (Below.refl w.heap.size w) n).trans hb⟩
          rcases hq with ⟨t, y, h1, h2, h3⟩ | ⟨h1, h2⟩
          · exact .inl ⟨.arr vv t, y, by rw [HRd3.out, h1]; rfl, h2, h3⟩
          · exact .inr ⟨by rw [HRd3.out, h1]; rfl, h2⟩
        clear hq hb
        go_wp2_with fail
        refine bodyPost_ret (v := .tuple #[.int .i64 j, .bool q]) (by simp [results, Tryz.results88, go_sem]) rfl ?_
        exact HD.out
      · have hne : (c2 == 58) = false := by simp [h58]
        have HX := Lib.hid (HNo.out (by
          rw [HRd2.out, hhd, if_neg]
          · rfl
          · intro e
            apply h58
            rw [← hc2, Option.some.inj e]
            rfl))
        clear hc2 hhd hDe h58
        go_wp2_with fail
        refine bodyPost_ret (v := .tuple #[.int .i64 0, .bool false]) (by simp [results, Tryz.results88, go_sem]) rfl ?_
        exact HX.out _ (below_drewN (Below.refl _ _) _)
    · have hge2 : decide (l.length ≤ D) = true := by simp; omega
      have HX := Lib.hid (HNo.out (by
        rw [HRd2.out, List.drop_of_length_le (by omega), if_neg (by simp)]
        rfl))
      clear hDe
      go_wp2_with fail
      refine bodyPost_ret (v := .tuple #[.int .i64 0, .bool false]) (by simp [results, Tryz.results88, go_sem]) rfl ?_
      exact HX.out _ (below_drewN (Below.refl _ _) _)
end Go.Proofs.YtmaplgpicdomiaaGreatDoor
namespace Go.Proofs.YtmaplgpicdomiaaGreatDoor
set_option linter.unusedVariables false
set_option linter.unusedSimpArgs false
set_option maxRecDepth 100000
open Go.RowKit

def notS (c : UInt8) : Bool := !(c == 59)
def nsD (l : List UInt8) (m : Nat) : Nat := ((l.drop m).takeWhile notS).length
theorem ns_end {l : List UInt8} {m : Nat} (h : l.length ≤ m) : nsD l m = 0 := by
  unfold nsD
  rw [List.drop_of_length_le h]
  rfl
theorem ns_step {l : List UInt8} {m : Nat} (h : m < l.length) : nsD l m = if notS (l[m]?.getD 0) = true then 1 + nsD l (m + 1) else 0 := by
  unfold nsD
  rw [List.drop_eq_getElem_cons h, List.getElem?_eq_getElem h]
  simp only [Option.getD_some]
  rw [List.takeWhile_cons]
  split
  · rw [List.length_cons]
    omega
  · rfl
theorem upTo_tw : ∀ (r : List UInt8), upTo 59 r = if (r.takeWhile notS).length < r.length then some (r.takeWhile notS, r.drop ((r.takeWhile notS).length + 1)) else none
  | [] => rfl
  | c :: r => by
    unfold upTo
    rw [List.takeWhile_cons]
    by_cases h : c = 59
    · subst h
      rfl
    · have hn : notS c = true := by unfold notS; simp [h]
      rw [if_neg h, hn, upTo_tw r]
      simp only [if_true, List.length_cons]
      by_cases h2 : (r.takeWhile notS).length < r.length
      · rw [if_pos h2, if_pos (by omega)]
        rfl
      · rw [if_neg h2, if_neg (by omega)]
        rfl
theorem ns_take (r : List UInt8) : r.take (r.takeWhile notS).length = r.takeWhile notS := by
  obtain ⟨y, hy⟩ := List.takeWhile_prefix (p := notS) (l := r)
  have h := congrArg (List.take (r.takeWhile notS).length) hy
  rw [List.take_left] at h
  exact h.symm
set_option maxHeartbeats 8000000 in
theorem nx_str (l : List UInt8) (k : Nat) (hcI : ((l[k]?.getD 0).toNat : Int) = 83) (w : World) (hk : k < l.length) (hl : l.length ≤ 65536) :
    Calls Tryz.prog 88 #[.string ⟨l.toArray⟩, .int .i64 k] w fun e w' => NxR l k w e w' := by
  have hby : ∀ h, (((ByteArray.mk l.toArray)[k]'h).toNat : Int) = 83 := fun h => (byte_at l k h).trans hcI
  have hj0 : (0 : Int) ≤ (k : Int) := by omega
  have hj1 : (k : Int) < (l.length : Int) := by omega
  have hge : decide (l.length ≤ k) = false := by simp; omega
  have hwm : IntKind.i64.wrap ((k : Int) + 1) = ((k + 1 : Nat) : Int) := by rw [IntKind.wrap_i64]; omega
  have hc : l[k]?.getD 0 = 83 := by
    apply UInt8.toNat_inj.1
    show _ = 83
    omega
  obtain ⟨E, hE⟩ : ∃ E, k + 1 + nsD l (k + 1) = E := ⟨_, rfl⟩
  obtain ⟨s, hs⟩ : ∃ s, (l.drop (k + 1)).takeWhile notS = s := ⟨_, rfl⟩
  have hEl : E = k + 1 + s.length := by rw [← hE, ← hs]; rfl
  have hle : E ≤ l.length := by
    have h1 := (List.takeWhile_prefix (p := notS) (l := l.drop (k + 1))).length_le
    rw [hs, List.length_drop] at h1
    omega
  have hex : (⟨l.toArray⟩ : ByteArray).extract (k + 1) E = ⟨s.toArray⟩ := by
    rw [ext_sub]
    congr 2
    rw [show E - (k + 1) = s.length by omega, ← hs]
    exact ns_take _
  have hrd : rd (l.drop k) = if E < l.length then if nameB s = true then some (.str s, l.drop (E + 1)) else none else none := by
    rw [drop_at hk, hc, rd_str]
    have hu := upTo_tw (l.drop (k + 1))
    rw [hs, List.length_drop, List.drop_drop] at hu
    unfold tagP
    rw [hu]
    by_cases h : E < l.length
    · rw [if_pos (by omega), if_pos h]
      simp only
      split
      · show some (Ty.str s, _) = _
        rw [show k + 1 + (s.length + 1) = E + 1 by omega]
      · rfl
    · rw [if_neg (by omega), if_neg h]
      rfl
  have hpl : E < l.length → ((plc l (l.drop (E + 1)) : Nat) : Int) = (E : Int) + 1 := fun h => by rw [plc_drop (by omega)]; rfl
  have HNm := Lib.hid (fun w => c_bName s w (by omega))
  have HH := Lib.hid (And.intro hrd (And.intro hpl (And.intro hl (And.intro hle hE))))
  have hk10 : (0 : Int) ≤ (k : Int) + 1 := by omega
  have hkE : (k : Int) + 1 ≤ (E : Int) := by omega
  have hkE2 : k + 1 ≤ E := by omega
  have hEl2 : (E : Int) ≤ (l.length : Int) := by omega
  have hE0 : (0 : Int) ≤ (E : Int) := by omega
  have HK := Lib.hid hk
  clear hcI hc hE hs hEl hle hrd hpl hk hl
  go_enter Tryz.func88, Tryz.ntmps88
  go_wp2_with fail
  go_loopg [9] (l.length + 1) (fun g v9 wr => ∃ m : Nat, l.length - m < g ∧ v9 = .int .i64 (m : Int) ∧ Hid (m ≤ l.length ∧ E = m + nsD l m) ∧ ∃ n, wr = w.drewN n)
  case atStart => exact ⟨k + 1, by omega, rfl, ⟨HK.out, HH.out.2.2.2.2.symm⟩, 0, by simp [World.drewN_zero]⟩
  case round =>
    obtain ⟨m, hm, rfl, HR, n, rfl⟩ := hrel
    by_cases hlt : m < l.length
    · have hd : decide ((m : Int) < (l.length : Int)) = true := by simp; omega
      obtain ⟨cI, hcI⟩ : ∃ cI : Int, ((l[m]?.getD 0).toNat : Int) = cI := ⟨_, rfl⟩
      have hby2 : ∀ h, (((ByteArray.mk l.toArray)[m]'h).toNat : Int) = cI := fun h => (byte_at l m h).trans hcI
      have hm0 : (0 : Int) ≤ (m : Int) := by omega
      have hm1 : (m : Int) < (l.length : Int) := by omega
      have hwm2 : IntKind.i64.wrap ((m : Int) + 1) = ((m + 1 : Nat) : Int) := by rw [IntKind.wrap_i64]; have := HH.out.2.2.1; omega
      have HS := Lib.hid (ns_step hlt)
      have HM : Hid (l.length - m - 1 < gk ∧ m + 1 ≤ l.length ∧ l.length - (m + 1) < l.length - m) := ⟨by omega, by omega, by omega⟩
      by_cases h59 : cI = 59
      · have hns : notS (l[m]?.getD 0) = false := by
          have : l[m]?.getD 0 = 59 := by
            apply UInt8.toNat_inj.1
            show _ = 59
            omega
          rw [this]
          rfl
        rw [hns] at HS
        have hEm : E = m := by have := HR.out.2; rw [HS.out] at this; simpa using this
        subst hEm
        have hEl : E < l.length := hlt
        have hwe : IntKind.i64.wrap ((E : Int) + 1) = (E : Int) + 1 := by rw [IntKind.wrap_i64]; have := HH.out.2.2.1; omega
        subst h59
        clear hcI hns hm hwm2
        have hdE : decide (E < l.length) = true := by simp; omega
        have hdI : decide ((E : Int) < (l.length : Int)) = true := hd
        cases hnm : nameB s
        all_goals
          have HX : Hid (∀ w', Below w.heap.size w w' → NxR l k w (.returned (.tuple #[.int .i64 ((E : Int) + 1), .bool (nameB s)])) w') := fun w' hb => by
            refine ⟨⟨_, _, rfl, ?_⟩, hb⟩
            rw [HH.out.1, if_pos hEl]
            rw [hnm]
            first
              | exact .inl ⟨_, _, if_pos rfl, rfl, (HH.out.2.1 hEl).symm⟩
              | exact .inr ⟨if_neg (by simp), rfl⟩
          rw [hnm] at HX
          have HNn := Lib.hid (HNm.out (w.drewN n))
          rw [hnm] at HNn
          clear hnm
          go_wp2_with fail
          refine HNn.out.mono ?_
          rintro e w4 ⟨rfl, hb⟩
          have HB4 := Lib.hid ((below_drewN (Below.refl w.heap.size w) n).trans hb)
          clear hb
          go_wp2_with fail
          refine bodyPost_ret (v := .tuple #[.int .i64 ((E : Int) + 1), .bool _]) (by simp [results, Tryz.results88, go_sem]; rfl) rfl ?_
          exact HX.out _ HB4.out
      · have hne : (cI == 59) = false := by simp [h59]
        have hns : notS (l[m]?.getD 0) = true := by
          unfold notS
          simp
          intro e
          apply h59
          rw [← hcI, e]
          rfl
        rw [hns] at HS
        have HN : Hid (m + 1 ≤ l.length ∧ E = m + 1 + nsD l (m + 1)) := ⟨HM.out.2.1, by have := HR.out.2; rw [HS.out] at this; simp at this; omega⟩
        have HG := Lib.hid hm
        clear hm hcI hns h59
        go_wp2_with fail
        go_roundg (l.length - m)
        case measure => exact HG.out
        case rel => exact ⟨m + 1, HM.out.2.2, rfl, HN, _, rfl⟩
    · have hd : decide ((m : Int) < (l.length : Int)) = false := by simp; omega
      have hEm : E = m := by
        have h := HR.out.2
        rw [ns_end (by omega)] at h
        exact h
      subst hEm
      have hwe : IntKind.i64.wrap ((E : Int) + 1) = (E : Int) + 1 := by rw [IntKind.wrap_i64]; have := HH.out.2.2; omega
      have HX : Hid (∀ w', Below w.heap.size w w' → NxR l k w (.returned (.tuple #[.int .i64 ((E : Int) + 1), .bool false])) w') := fun w' hb => ⟨⟨_, _, rfl, .inr ⟨by rw [HH.out.1, if_neg hlt], rfl⟩⟩, hb⟩
      have hdE : decide (E < l.length) = false := by simp; omega
      clear hm hlt
      go_wp2_with fail
      refine bodyPost_ret (v := .tuple #[.int .i64 ((E : Int) + 1), .bool false]) (by simp [results, Tryz.results88, go_sem]) rfl ?_
      exact HX.out _ (below_drewN (Below.refl _ _) _)
end Go.Proofs.YtmaplgpicdomiaaGreatDoor
namespace Go.Proofs.YtmaplgpicdomiaaGreatDoor
set_option linter.unusedVariables false
set_option linter.unusedSimpArgs false
set_option maxRecDepth 100000
open Go.RowKit

/-- What is left behind a type; behind a list of types. -/
def rE (r : List UInt8) : Option (List UInt8) := (rd r).map Prod.snd
def lE (r : List UInt8) : Option (List UInt8) := (rdL r).map Prod.snd
theorem rE_fn (r : List UInt8) : rE (102 :: r) = ((parL r).map Prod.snd).bind rE := by
  unfold rE
  rw [rd_fn]
  cases parL r with
  | none => rfl
  | some p =>
    simp only [Option.bind_some, Option.map_some]
    cases rd p.2 <;> rfl
theorem lE_step (r : List UInt8) : lE r = (rE r).bind fun y => if y.head? = some 44 then lE (y.drop 1) else if y.head? = some 41 then some (y.drop 1) else none := by
  unfold lE rE
  rw [rdL_step]
  cases rd r with
  | none => rfl
  | some p =>
    simp only [Option.bind_some, Option.map_some]
    split
    · cases rdL (p.2.drop 1) <;> rfl
    · split <;> rfl
theorem nx_of {l : List UInt8} {k : Nat} {w w' : World} {j : Int} {q : Bool} (h : (∃ y, rE (l.drop k) = some y ∧ q = true ∧ j = ((plc l y : Nat) : Int)) ∨ (rE (l.drop k) = none ∧ q = false)) (hb : Below w.heap.size w w') : NxR l k w (.returned (.tuple #[.int .i64 j, .bool q])) w' := by
  refine ⟨⟨j, q, rfl, ?_⟩, hb⟩
  unfold rE at h
  rcases h with ⟨y, h1, h2, h3⟩ | ⟨h1, h2⟩
  · obtain ⟨p, hp, hy⟩ := Option.map_eq_some_iff.1 h1
    exact .inl ⟨p.1, y, by rw [hp, ← hy], h2, h3⟩
  · exact .inr ⟨Option.map_eq_none_iff.1 h1, h2⟩
theorem nx_to {l : List UInt8} {k : Nat} (hk : k ≤ l.length) {j : Int} {q : Bool} (h : (∃ t y, rd (l.drop k) = some (t, y) ∧ q = true ∧ j = ((plc l y : Nat) : Int)) ∨ (rd (l.drop k) = none ∧ q = false)) :
    (∃ P : Nat, q = true ∧ j = (P : Int) ∧ rE (l.drop k) = some (l.drop P) ∧ k < P ∧ P ≤ l.length) ∨ (q = false ∧ rE (l.drop k) = none) := by
  rcases h with ⟨t, y, h1, h2, h3⟩ | ⟨h1, h2⟩
  · obtain ⟨hs, hp⟩ := rd_suf2 h1 hk
    exact .inl ⟨plc l y, h2, h3, by unfold rE; rw [h1, drop_plc hs]; rfl, hp, plc_le _ _⟩
  · exact .inr ⟨h2, by unfold rE; rw [h1]; rfl⟩
theorem head_at (l : List UInt8) (k : Nat) : (l.drop k).head? = l[k]? := by
  rw [List.head?_drop]
set_option maxHeartbeats 8000000 in
theorem c_signed (m : Nat) (hN : NxC m) (l : List UInt8) (k : Nat) (hcI : ((l[k]?.getD 0).toNat : Int) = 102) (w : World) (hk : k < l.length) (hl : l.length ≤ 65536) (hm : l.length - k ≤ m + 1) :
    Calls Tryz.prog 104 #[.string ⟨l.toArray⟩, .int .i64 k] w fun e w' => NxR l k w e w' := by
  have hc : l[k]?.getD 0 = 102 := by
    apply UInt8.toNat_inj.1
    show _ = 102
    omega
  have HFn : Hid (rE (l.drop k) = ((parL (l.drop (k + 1))).map Prod.snd).bind rE) := by
    show _ = _
    rw [drop_at hk, hc]
    exact rE_fn _
  have HNx : Hid (∀ p, k < p → p ≤ l.length → ∀ w, Calls Tryz.prog 88 #[.string ⟨l.toArray⟩, .int .i64 (p : Int)] w fun e w' => NxR l p w e w') := fun p h1 h2 w => hN l p w h2 hl (by omega)
  have HNo : Hid (rE (l.drop k) = none → ∀ w', Below w.heap.size w w' → NxR l k w (.returned (.tuple #[.int .i64 0, .bool false])) w') := fun h w' hb => nx_of (.inr ⟨h, rfl⟩) hb
  have hj0 : (0 : Int) ≤ (k : Int) := by omega
  have hwm : IntKind.i64.wrap ((k : Int) + 1) = ((k + 1 : Nat) : Int) := by rw [IntKind.wrap_i64]; omega
  have hwm2 : IntKind.i64.wrap ((k : Int) + 2) = ((k + 2 : Nat) : Int) := by rw [IntKind.wrap_i64]; omega
  have HL := Lib.hid (And.intro hl hk)
  have hPar : parL (l.drop (k + 1)) = if (l.drop (k + 1)).head? = some 40 then if (l.drop (k + 2)).head? = some 41 then some (.nil, l.drop (k + 3)) else rdL (l.drop (k + 2)) else none := by
    unfold parL
    rw [List.drop_drop, List.drop_drop]
  have HPar := Lib.hid hPar
  clear hcI hc hN hm hPar
  by_cases h1 : k + 1 < l.length
  · have hge : decide ((l.length : Int) ≤ (k : Int) + 1) = false := by simp; omega
    have hk1 : (k : Int) + 1 < (l.length : Int) := by omega
    have hk10 : (0 : Int) ≤ (k : Int) + 1 := by omega
    obtain ⟨c1, hc1⟩ : ∃ c : Int, ((l[k + 1]?.getD 0).toNat : Int) = c := ⟨_, rfl⟩
    have hby1 : ∀ h, (((ByteArray.mk l.toArray)[k + 1]'h).toNat : Int) = c1 := fun h => (byte_at l (k + 1) h).trans hc1
    have hh1 : (l.drop (k + 1)).head? = some (l[k + 1]?.getD 0) := by rw [drop_at h1]; rfl
    by_cases h40 : c1 = 40
    · have hne : (c1 != 40) = false := by simp [h40]
      have HPar2 : Hid (parL (l.drop (k + 1)) = if (l.drop (k + 2)).head? = some 41 then some (.nil, l.drop (k + 3)) else rdL (l.drop (k + 2))) := by
        show _ = _
        rw [HPar.out, hh1, if_pos]
        congr 1
        apply UInt8.toNat_inj.1
        show _ = 40
        omega
      have hwm3 : wrap64 ((k : Int) + 2 + 1) = ((k + 3 : Nat) : Int) := by unfold wrap64; omega
      clear hc1 hh1 h40
      by_cases h2 : k + 2 < l.length
      · have hk2 : (k : Int) + 2 < (l.length : Int) := by omega
        have hk20 : (0 : Int) ≤ (k : Int) + 2 := by omega
        have hd2 : decide ((k : Int) + 2 < (l.length : Int)) = true := by simp; omega
        obtain ⟨c2, hc2⟩ : ∃ c : Int, ((l[k + 2]?.getD 0).toNat : Int) = c := ⟨_, rfl⟩
        have hby2 : ∀ h, (((ByteArray.mk l.toArray)[k + 2]'h).toNat : Int) = c2 := fun h => (byte_at l (k + 2) h).trans hc2
        have hh2 : (l.drop (k + 2)).head? = some (l[k + 2]?.getD 0) := by rw [drop_at h2]; rfl
        by_cases h41 : c2 = 41
        · have he : (c2 == 41) = true := by simp [h41]
          have HRE : Hid (rE (l.drop k) = rE (l.drop (k + 3))) := by
            show _ = _
            rw [HFn.out, HPar2.out, hh2, if_pos]
            · rfl
            · congr 1
              apply UInt8.toNat_inj.1
              show _ = 41
              omega
          have HN3 := Lib.hid (HNx.out (k + 3) (by omega) (by omega))
          have hk3 : k + 3 ≤ l.length := by omega
          have HK3 := Lib.hid hk3
          clear hc2 hh2 h41 hk hl h1 h2 hk3
          go_enter Tryz.func104, Tryz.ntmps104
          go_wp2_with fail
          refine (HN3.out _).mono ?_
          rintro e w4 ⟨⟨j, q, rfl, hq⟩, hb⟩
          have HD : Hid (NxR l k w (.returned (.tuple #[.int .i64 j, .bool q])) w4) := by
            refine nx_of ?_ hb
            rw [HRE.out]
            rcases nx_to HK3.out hq with ⟨P, h1, h2, h3, h4, h5⟩ | ⟨h1, h2⟩
            · exact .inl ⟨_, h3, h1, by rw [h2, plc_drop h5]⟩
            · exact .inr ⟨h2, h1⟩
          clear hq hb
          go_wp2_with fail
          refine bodyPost_ret (v := .tuple #[.int .i64 j, .bool q]) (by simp [results, Tryz.results104, go_sem]) rfl ?_
          exact HD.out
        · have he : (c2 == 41) = false := by simp [h41]
          have HRE : Hid (rE (l.drop k) = (lE (l.drop (k + 2))).bind rE) := by
            show _ = _
            rw [HFn.out, HPar2.out, hh2, if_neg]
            · rfl
            · intro e
              apply h41
              rw [← hc2, Option.some.inj e]
              rfl
          have HK2 := Lib.hid (show k + 2 ≤ l.length by omega)
          clear hc2 hh2 h41 hk hl h1 h2
          go_enter Tryz.func104, Tryz.ntmps104
          go_wp2_with fail
          clear hby2 he
          go_loopg [6] (l.length + 1) (fun g v6 wr => ∃ p : Nat, l.length - p < g ∧ v6 = .int .i64 (p : Int) ∧ Hid (k < p ∧ p ≤ l.length ∧ rE (l.drop k) = (lE (l.drop p)).bind rE ∧ Below w.heap.size w wr))
          case atStart => exact ⟨k + 2, by omega, rfl, by omega, HK2.out, HRE.out, Below.refl _ _⟩
          case round =>
            obtain ⟨p, hp, rfl, HR⟩ := hrel
            have HP := Lib.hid hp
            have HNp := Lib.hid (HNx.out p HR.out.1 HR.out.2.1)
            clear hp
            go_wp2_with fail
            refine (HNp.out _).mono ?_
            rintro e w4 ⟨⟨j, q, rfl, hq⟩, hb⟩
            have HB4 := Lib.hid (below_on HR.out.2.2.2 hb HR.out.2.2.2.size)
            have HQ := Lib.hid (nx_to HR.out.2.1 hq)
            clear hq hb HNp
            cases q
            · have hno : rE (l.drop p) = none := by
                rcases HQ.out with ⟨P, h1, _⟩ | ⟨_, h2⟩
                · cases h1
                · exact h2
              have HX := Lib.hid (HNo.out (by rw [HR.out.2.2.1, lE_step, hno]; rfl))
              clear hno
              go_wp2_with fail
              refine bodyPost_ret (v := .tuple #[.int .i64 0, .bool false]) (by simp [results, Tryz.results104, go_sem]) rfl ?_
              exact HX.out _ HB4.out
            · obtain ⟨P, hjP, hrP, hpP, hPl⟩ : ∃ P : Nat, j = (P : Int) ∧ rE (l.drop p) = some (l.drop P) ∧ p < P ∧ P ≤ l.length := by
                rcases HQ.out with ⟨P, _, h2, h3, h4, h5⟩ | ⟨h1, _⟩
                · exact ⟨P, h2, h3, h4, h5⟩
                · cases h1
              subst hjP
              have HRp : Hid (rE (l.drop k) = (if (l.drop P).head? = some 44 then lE (l.drop (P + 1)) else if (l.drop P).head? = some 41 then some (l.drop (P + 1)) else none).bind rE) := by
                show _ = _
                rw [HR.out.2.2.1, lE_step, hrP]
                simp only [Option.bind_some, List.drop_drop]
              have HPp := Lib.hid (And.intro hpP hPl)
              clear hrP HQ hpP
              by_cases hPe : P < l.length
              · have hgeP : decide (l.length ≤ P) = false := by simp; omega
                have hP0 : (0 : Int) ≤ (P : Int) := by omega
                have hP1 : (P : Int) < (l.length : Int) := by omega
                obtain ⟨c3, hc3⟩ : ∃ c : Int, ((l[P]?.getD 0).toNat : Int) = c := ⟨_, rfl⟩
                have hby3 : ∀ h, (((ByteArray.mk l.toArray)[P]'h).toNat : Int) = c3 := fun h => (byte_at l P h).trans hc3
                have hh3 : (l.drop P).head? = some (l[P]?.getD 0) := by rw [drop_at hPe]; rfl
                have hwP : IntKind.i64.wrap ((P : Int) + 1) = ((P + 1 : Nat) : Int) := by rw [IntKind.wrap_i64]; have := HL.out.1; omega
                have HPe := Lib.hid hPe
                by_cases h44 : c3 = 44
                · have hb44 : l[P]?.getD 0 = 44 := by apply UInt8.toNat_inj.1; show _ = 44; omega
                  have HN : Hid (k < P + 1 ∧ P + 1 ≤ l.length ∧ rE (l.drop k) = (lE (l.drop (P + 1))).bind rE ∧ Below w.heap.size w w4) := ⟨by have := HR.out.1; have := HPp.out.1; omega, hPe, by rw [HRp.out, hh3, hb44, if_pos rfl], HB4.out⟩
                  have HM : Hid (l.length - p < gk + 1 ∧ l.length - (P + 1) < l.length - p) := ⟨by have := HP.out; omega, by have := HPp.out.1; have := HPe.out; omega⟩
                  have HMp := Lib.hid (show l.length - p < gk from HP.out)
                  subst h44
                  clear hc3 hh3 hb44 hPe hPl
                  go_wp2_with fail
                  go_roundg (l.length - p)
                  case measure => exact HMp.out
                  case rel => exact ⟨P + 1, HM.out.2, rfl, HN⟩
                · have h44n : l[P]?.getD 0 ≠ 44 := fun e => h44 (by rw [← hc3, e]; rfl)
                  by_cases h41 : c3 = 41
                  · have hb41 : l[P]?.getD 0 = 41 := by apply UInt8.toNat_inj.1; show _ = 41; omega
                    have HRE3 : Hid (rE (l.drop k) = rE (l.drop (P + 1))) := by
                      show _ = _
                      rw [HRp.out, hh3, if_neg (fun e => h44n (Option.some.inj e)), hb41, if_pos rfl]
                      rfl
                    have HN3 := Lib.hid (HNx.out (P + 1) (by have := HR.out.1; have := HPp.out.1; omega) hPe)
                    have HPe1 := Lib.hid (show P + 1 ≤ l.length from hPe)
                    subst h41
                    clear hc3 hh3 hb41 hPe hPl h44 h44n
                    go_wp2_with fail
                    refine (HN3.out _).mono ?_
                    rintro e w5 ⟨⟨j, q, rfl, hq⟩, hb⟩
                    have HD : Hid (NxR l k w (.returned (.tuple #[.int .i64 j, .bool q])) w5) := by
                      refine nx_of ?_ (below_on HB4.out hb HB4.out.size)
                      rw [HRE3.out]
                      rcases nx_to HPe1.out hq with ⟨P', h1, h2, h3, h4, h5⟩ | ⟨h1, h2⟩
                      · exact .inl ⟨_, h3, h1, by rw [h2, plc_drop h5]⟩
                      · exact .inr ⟨h2, h1⟩
                    clear hq hb
                    go_wp2_with fail
                    refine bodyPost_ret (v := .tuple #[.int .i64 j, .bool q]) (by simp [results, Tryz.results104, go_sem]) rfl ?_
                    exact HD.out
                  · have h41n : l[P]?.getD 0 ≠ 41 := fun e => h41 (by rw [← hc3, e]; rfl)
                    have HX := Lib.hid (HNo.out (by
                      rw [HRp.out, hh3, if_neg (fun e => h44n (Option.some.inj e)), if_neg (fun e => h41n (Option.some.inj e))]
                      rfl))
                    have e44 : (c3 == 44) = false := by simp [h44]
                    have e41 : (c3 == 41) = false := by simp [h41]
                    have f44 : (c3 != 44) = true := by simp [h44]
                    have f41 : (c3 != 41) = true := by simp [h41]
                    clear hc3 hh3 hPe hPl h44 h44n h41 h41n
                    go_wp2_with fail
                    refine bodyPost_ret (v := .tuple #[.int .i64 0, .bool false]) (by simp [results, Tryz.results104, go_sem]) rfl ?_
                    exact HX.out _ HB4.out
              · have hgeP : decide (l.length ≤ P) = true := by simp; omega
                have HX := Lib.hid (HNo.out (by
                  rw [HRp.out, List.drop_of_length_le (show l.length ≤ P by omega), if_neg (by simp), if_neg (by simp)]
                  rfl))
                clear hPe hPl
                go_wp2_with fail
                refine bodyPost_ret (v := .tuple #[.int .i64 0, .bool false]) (by simp [results, Tryz.results104, go_sem]) rfl ?_
                exact HX.out _ HB4.out
      · have hd2 : decide ((k : Int) + 2 < (l.length : Int)) = false := by simp; omega
        have hk2' : ¬ (k : Int) + 2 < (l.length : Int) := by omega
        have HRE : Hid (rE (l.drop k) = (lE (l.drop (k + 2))).bind rE) := by
          show _ = _
          rw [HFn.out, HPar2.out, List.drop_of_length_le (show l.length ≤ k + 2 by omega), if_neg (by simp)]
          rfl
        have HK2 := Lib.hid (show k + 2 ≤ l.length by omega)
        clear hk hl h1 h2
        go_enter Tryz.func104, Tryz.ntmps104
        go_wp2_with fail
        go_loopg [6] (l.length + 1) (fun g v6 wr => ∃ p : Nat, l.length - p < g ∧ v6 = .int .i64 (p : Int) ∧ Hid (k < p ∧ p ≤ l.length ∧ rE (l.drop k) = (lE (l.drop p)).bind rE ∧ Below w.heap.size w wr))
        case atStart => exact ⟨k + 2, by omega, rfl, by omega, HK2.out, HRE.out, Below.refl _ _⟩
        case round =>
          obtain ⟨p, hp, rfl, HR⟩ := hrel
          have HP := Lib.hid hp
          have HNp := Lib.hid (HNx.out p HR.out.1 HR.out.2.1)
          clear hp
          go_wp2_with fail
          refine (HNp.out _).mono ?_
          rintro e w4 ⟨⟨j, q, rfl, hq⟩, hb⟩
          have HB4 := Lib.hid (below_on HR.out.2.2.2 hb HR.out.2.2.2.size)
          have HQ := Lib.hid (nx_to HR.out.2.1 hq)
          clear hq hb HNp
          cases q
          · have hno : rE (l.drop p) = none := by
              rcases HQ.out with ⟨P, h1, _⟩ | ⟨_, h2⟩
              · cases h1
              · exact h2
            have HX := Lib.hid (HNo.out (by rw [HR.out.2.2.1, lE_step, hno]; rfl))
            clear hno
            go_wp2_with fail
            refine bodyPost_ret (v := .tuple #[.int .i64 0, .bool false]) (by simp [results, Tryz.results104, go_sem]) rfl ?_
            exact HX.out _ HB4.out
          · obtain ⟨P, hjP, hrP, hpP, hPl⟩ : ∃ P : Nat, j = (P : Int) ∧ rE (l.drop p) = some (l.drop P) ∧ p < P ∧ P ≤ l.length := by
              rcases HQ.out with ⟨P, _, h2, h3, h4, h5⟩ | ⟨h1, _⟩
              · exact ⟨P, h2, h3, h4, h5⟩
              · cases h1
            subst hjP
            have HRp : Hid (rE (l.drop k) = (if (l.drop P).head? = some 44 then lE (l.drop (P + 1)) else if (l.drop P).head? = some 41 then some (l.drop (P + 1)) else none).bind rE) := by
              show _ = _
              rw [HR.out.2.2.1, lE_step, hrP]
              simp only [Option.bind_some, List.drop_drop]
            have HPp := Lib.hid (And.intro hpP hPl)
            clear hrP HQ hpP
            by_cases hPe : P < l.length
            · have hgeP : decide (l.length ≤ P) = false := by simp; omega
              have hP0 : (0 : Int) ≤ (P : Int) := by omega
              have hP1 : (P : Int) < (l.length : Int) := by omega
              obtain ⟨c3, hc3⟩ : ∃ c : Int, ((l[P]?.getD 0).toNat : Int) = c := ⟨_, rfl⟩
              have hby3 : ∀ h, (((ByteArray.mk l.toArray)[P]'h).toNat : Int) = c3 := fun h => (byte_at l P h).trans hc3
              have hh3 : (l.drop P).head? = some (l[P]?.getD 0) := by rw [drop_at hPe]; rfl
              have hwP : IntKind.i64.wrap ((P : Int) + 1) = ((P + 1 : Nat) : Int) := by rw [IntKind.wrap_i64]; have := HL.out.1; omega
              have HPe := Lib.hid hPe
              by_cases h44 : c3 = 44
              · have hb44 : l[P]?.getD 0 = 44 := by apply UInt8.toNat_inj.1; show _ = 44; omega
                have HN : Hid (k < P + 1 ∧ P + 1 ≤ l.length ∧ rE (l.drop k) = (lE (l.drop (P + 1))).bind rE ∧ Below w.heap.size w w4) := ⟨by have := HR.out.1; have := HPp.out.1; omega, hPe, by rw [HRp.out, hh3, hb44, if_pos rfl], HB4.out⟩
                have HM : Hid (l.length - p < gk + 1 ∧ l.length - (P + 1) < l.length - p) := ⟨by have := HP.out; omega, by have := HPp.out.1; have := HPe.out; omega⟩
                have HMp := Lib.hid (show l.length - p < gk from HP.out)
                subst h44
                clear hc3 hh3 hb44 hPe hPl
                go_wp2_with fail
                go_roundg (l.length - p)
                case measure => exact HMp.out
                case rel => exact ⟨P + 1, HM.out.2, rfl, HN⟩
              · have h44n : l[P]?.getD 0 ≠ 44 := fun e => h44 (by rw [← hc3, e]; rfl)
                by_cases h41 : c3 = 41
                · have hb41 : l[P]?.getD 0 = 41 := by apply UInt8.toNat_inj.1; show _ = 41; omega
                  have HRE3 : Hid (rE (l.drop k) = rE (l.drop (P + 1))) := by
                    show _ = _
                    rw [HRp.out, hh3, if_neg (fun e => h44n (Option.some.inj e)), hb41, if_pos rfl]
                    rfl
                  have HN3 := Lib.hid (HNx.out (P + 1) (by have := HR.out.1; have := HPp.out.1; omega) hPe)
                  have HPe1 := Lib.hid (show P + 1 ≤ l.length from hPe)
                  subst h41
                  clear hc3 hh3 hb41 hPe hPl h44 h44n
                  go_wp2_with fail
                  refine (HN3.out _).mono ?_
                  rintro e w5 ⟨⟨j, q, rfl, hq⟩, hb⟩
                  have HD : Hid (NxR l k w (.returned (.tuple #[.int .i64 j, .bool q])) w5) := by
                    refine nx_of ?_ (below_on HB4.out hb HB4.out.size)
                    rw [HRE3.out]
                    rcases nx_to HPe1.out hq with ⟨P', h1, h2, h3, h4, h5⟩ | ⟨h1, h2⟩
                    · exact .inl ⟨_, h3, h1, by rw [h2, plc_drop h5]⟩
                    · exact .inr ⟨h2, h1⟩
                  clear hq hb
                  go_wp2_with fail
                  refine bodyPost_ret (v := .tuple #[.int .i64 j, .bool q]) (by simp [results, Tryz.results104, go_sem]) rfl ?_
                  exact HD.out
                · have h41n : l[P]?.getD 0 ≠ 41 := fun e => h41 (by rw [← hc3, e]; rfl)
                  have HX := Lib.hid (HNo.out (by
                    rw [HRp.out, hh3, if_neg (fun e => h44n (Option.some.inj e)), if_neg (fun e => h41n (Option.some.inj e))]
                    rfl))
                  have e44 : (c3 == 44) = false := by simp [h44]
                  have e41 : (c3 == 41) = false := by simp [h41]
                  have f44 : (c3 != 44) = true := by simp [h44]
                  have f41 : (c3 != 41) = true := by simp [h41]
                  clear hc3 hh3 hPe hPl h44 h44n h41 h41n
                  go_wp2_with fail
                  refine bodyPost_ret (v := .tuple #[.int .i64 0, .bool false]) (by simp [results, Tryz.results104, go_sem]) rfl ?_
                  exact HX.out _ HB4.out
            · have hgeP : decide (l.length ≤ P) = true := by simp; omega
              have HX := Lib.hid (HNo.out (by
                rw [HRp.out, List.drop_of_length_le (show l.length ≤ P by omega), if_neg (by simp), if_neg (by simp)]
                rfl))
              clear hPe hPl
              go_wp2_with fail
              refine bodyPost_ret (v := .tuple #[.int .i64 0, .bool false]) (by simp [results, Tryz.results104, go_sem]) rfl ?_
              exact HX.out _ HB4.out
    · have hne : (c1 != 40) = true := by simp [h40]
      have HX := Lib.hid (HNo.out (by
        rw [HFn.out, HPar.out, hh1, if_neg]
        · rfl
        · intro e
          apply h40
          rw [← hc1, Option.some.inj e]
          rfl))
      clear hc1 hh1 h40 hk hl
      go_enter Tryz.func104, Tryz.ntmps104
      go_wp2_with fail
      refine bodyPost_ret (v := .tuple #[.int .i64 0, .bool false]) (by simp [results, Tryz.results104, go_sem]) rfl ?_
      exact HX.out _ (Below.refl _ _)
  · have hk1' : ¬ (k : Int) + 1 < (l.length : Int) := by omega
    have hge : decide ((l.length : Int) ≤ (k : Int) + 1) = true := by simp; omega
    have HX := Lib.hid (HNo.out (by
      rw [HFn.out, HPar.out, List.drop_of_length_le (show l.length ≤ k + 1 by omega), if_neg (by simp)]
      rfl))
    clear h1 hk hl
    go_enter Tryz.func104, Tryz.ntmps104
    go_wp2_with fail
    refine bodyPost_ret (v := .tuple #[.int .i64 0, .bool false]) (by simp [results, Tryz.results104, go_sem]) rfl ?_
    exact HX.out _ (Below.refl _ _)
end Go.Proofs.YtmaplgpicdomiaaGreatDoor
namespace Go.Proofs.YtmaplgpicdomiaaGreatDoor
set_option linter.unusedVariables false
set_option linter.unusedSimpArgs false
set_option maxRecDepth 100000
open Go.RowKit

set_option maxHeartbeats 4000000 in
theorem nx_fn (m : Nat) (hN : NxC m) (l : List UInt8) (k : Nat) (hcI : ((l[k]?.getD 0).toNat : Int) = 102) (w : World) (hk : k < l.length) (hl : l.length ≤ 65536) (hm : l.length - k ≤ m + 1) :
    Calls Tryz.prog 88 #[.string ⟨l.toArray⟩, .int .i64 k] w fun e w' => NxR l k w e w' := by
  have hby : ∀ h, (((ByteArray.mk l.toArray)[k]'h).toNat : Int) = 102 := fun h => (byte_at l k h).trans hcI
  have hj0 : (0 : Int) ≤ (k : Int) := by omega
  have hj1 : (k : Int) < (l.length : Int) := by omega
  have hge : decide (l.length ≤ k) = false := by simp; omega
  have HS := Lib.hid (c_signed m hN l k hcI w hk hl hm)
  clear hcI hk hl hm hN
  go_enter Tryz.func88, Tryz.ntmps88
  go_wp2_with fail
  refine HS.out.mono ?_
  rintro e w2 ⟨⟨j, q, rfl, hq⟩, hb⟩
  have HD : Hid (NxR l k w (.returned (.tuple #[.int .i64 j, .bool q])) w2) := ⟨⟨j, q, rfl, hq⟩, hb⟩
  clear hq hb
  go_wp2_with fail
  refine bodyPost_ret (v := .tuple #[.int .i64 j, .bool q]) (by simp [results, Tryz.results88, go_sem]) rfl ?_
  exact HD.out
theorem nx_zero : NxC 0 := fun l k w hk hl hm => by
  obtain rfl : k = l.length := by omega
  exact nx_end l w hl
theorem nx_succ (m : Nat) (hN : NxC m) : NxC (m + 1) := fun l k w hk hl hm => by
  by_cases hkl : k = l.length
  · subst hkl
    exact nx_end l w hl
  · have hlt : k < l.length := by omega
    obtain ⟨cI, hcI⟩ : ∃ cI : Int, ((l[k]?.getD 0).toNat : Int) = cI := ⟨_, rfl⟩
    by_cases hb : cI = 118 ∨ cI = 99 ∨ cI = 115 ∨ cI = 105 ∨ cI = 117 ∨ cI = 106
    · exact nx_base l k cI hcI w hlt hl hb
    · by_cases h1 : cI = 112
      · exact nx_ptr m hN l k (by rw [hcI, h1]) w hlt hl hm
      · by_cases h2 : cI = 97
        · exact nx_arr m hN l k (by rw [hcI, h2]) w hlt hl hm
        · by_cases h3 : cI = 83
          · exact nx_str l k (by rw [hcI, h3]) w hlt hl
          · by_cases h4 : cI = 102
            · exact nx_fn m hN l k (by rw [hcI, h4]) w hlt hl hm
            · exact nx_oth l k cI hcI w hlt hl hb h1 h2 h3 h4
theorem c_rnext : ∀ m, NxC m
  | 0 => nx_zero
  | m + 1 => nx_succ m (c_rnext m)
set_option maxHeartbeats 4000000 in
/-- A type's form, as the document has it. -/
theorem c_rForm (l : List UInt8) (w : World) (hm : l.length ≤ 9223372036854775807) :
    Calls Tryz.prog 74 #[.string ⟨l.toArray⟩] w fun e w' => e = .returned (.bool (tk l).isSome) ∧ Below w.heap.size w w' := by
  by_cases hl : l.length ≤ 65536
  · have hgt : decide (65536 < l.length) = false := by simp; omega
    have hgtI : decide ((65536 : Int) < (l.length : Int)) = false := by simp; omega
    have HN := Lib.hid (c_rnext l.length l 0 w (Nat.zero_le _) hl (by omega))
    have HT := Lib.hid (tyR_rd l)
    have HK : Hid (tk l = tyR l) := by show _ = _; unfold tk; rw [if_pos hl]
    obtain ⟨Q, hQ⟩ : ∃ Q, (tk l).isSome = Q := ⟨_, rfl⟩
    rw [hQ]
    have HQ := Lib.hid hQ
    clear hl hQ
    go_enter Tryz.func74, Tryz.ntmps74
    go_wp2_with fail
    refine HN.out.mono ?_
    rintro e w2 ⟨⟨j, q, rfl, hq⟩, hb⟩
    have HB := Lib.hid hb
    rw [List.drop_zero] at hq
    rcases hq with ⟨t, y, h1, rfl, rfl⟩ | ⟨h1, rfl⟩
    · have hs := rd_suf h1
      have hpy : plc l y = l.length - y.length := rfl
      have hyl : y.length ≤ l.length := by rw [hs, List.length_append]; omega
      have HR : Hid ((tk l).isSome = (((plc l y : Nat) : Int) == (l.length : Int))) := by
        show _ = _
        rw [HK.out, HT.out, h1]
        cases y with
        | nil =>
          have : plc l [] = l.length := rfl
          rw [this]
          simp
        | cons c y =>
          have : ¬ ((plc l (c :: y) : Nat) : Int) = (l.length : Int) := by
            rw [hpy]
            rw [List.length_cons] at hyl ⊢
            omega
          simp [this]
      clear hb hs hpy hyl h1
      cases he : (((plc l y : Nat) : Int) == (l.length : Int))
      all_goals
        rw [he] at HR
        have hq : Q = _ := HQ.out.symm.trans HR.out
        subst hq
        have he2 : (plc l y == l.length) = _ := (show (plc l y == l.length) = (((plc l y : Nat) : Int) == (l.length : Int)) by rw [Bool.eq_iff_iff]; simp; omega).trans he
        go_wp2_with fail
        go_ret
        exact ⟨rfl, HB.out⟩
    · have HR : Hid ((tk l).isSome = false) := by
        show _ = _
        rw [HK.out, HT.out, h1]
        rfl
      have hq : Q = _ := HQ.out.symm.trans HR.out
      subst hq
      clear hb h1
      go_wp2_with fail
      go_ret
      exact ⟨rfl, HB.out⟩
  · have hgt : decide (65536 < l.length) = true := by simp; omega
    have hgtI : decide ((65536 : Int) < (l.length : Int)) = true := by simp; omega
    have HR : Hid ((tk l).isSome = false) := by show _ = _; unfold tk; rw [if_neg hl]; rfl
    rw [HR.out]
    clear hl
    go_enter Tryz.func74, Tryz.ntmps74
    go_wp2_with fail
    go_ret
    exact ⟨rfl, Below.refl _ _⟩
end Go.Proofs.YtmaplgpicdomiaaGreatDoor
namespace Go.Proofs.YtmaplgpicdomiaaGreatDoor
set_option linter.unusedVariables false
set_option linter.unusedSimpArgs false
set_option maxRecDepth 100000
open Go.RowKit

theorem code_let (t : Ty) : ∃ r, t.code = t.letter :: r := by
  cases t with
  | base c => exact ⟨_, rfl⟩
  | ptr t => exact ⟨_, rfl⟩
  | arr n t => exact ⟨_, rfl⟩
  | str s => exact ⟨_, rfl⟩
  | fn ps r => cases ps <;> exact ⟨_, rfl⟩
theorem c_rkind (t : Ty) (w : World) :
    Calls Tryz.prog 90 #[.string ⟨t.code.toArray⟩] w fun e w' => e = .returned (.int .u8 t.letter.toNat) ∧ w' = w := by
  obtain ⟨r, hr⟩ := code_let t
  obtain ⟨cI, hcI⟩ : ∃ cI : Int, (t.letter.toNat : Int) = cI := ⟨_, rfl⟩
  have hby : ∀ h, (((ByteArray.mk t.code.toArray)[0]'h).toNat : Int) = cI := fun h => (byte_at t.code 0 h).trans (by rw [hr]; exact hcI)
  have hln : (0 : Int) < (t.code.length : Int) := by rw [hr, List.length_cons]; omega
  have hln2 : 0 < t.code.length := by omega
  rw [hcI]
  clear hcI hr
  go_enter Tryz.func90, Tryz.ntmps90
  go_wp2_with fail
  go_ret
  exact ⟨rfl, rfl⟩
set_option maxHeartbeats 4000000 in
theorem c_rinner_ptr (u : Ty) (w : World) (hl : (Ty.ptr u).code.length ≤ 65536) :
    Calls Tryz.prog 91 #[.string ⟨(Ty.ptr u).code.toArray⟩] w fun e w' => e = .returned (.tuple #[.string ⟨u.code.toArray⟩, .int .i64 0]) ∧ Below w.heap.size w w' := by
  have HK := Lib.hid (c_rkind (.ptr u))
  have hk0 : (((Ty.ptr u).letter.toNat : Int)) = 112 := rfl
  rw [hk0] at HK
  have hex : (⟨(Ty.ptr u).code.toArray⟩ : ByteArray).extract 1 (Ty.ptr u).code.length = ⟨u.code.toArray⟩ := by rw [ext_end]; rfl
  have hln : (1 : Int) ≤ ((Ty.ptr u).code.length : Int) := by show (1 : Int) ≤ (((112 :: u.code).length : Nat) : Int); rw [List.length_cons]; omega
  have hln2 : 1 ≤ (Ty.ptr u).code.length := by omega
  obtain ⟨l, hlc⟩ : ∃ l, (Ty.ptr u).code = l := ⟨_, rfl⟩
  rw [hlc] at HK hex hln hln2 ⊢
  clear hl hlc hk0
  go_enter Tryz.func91, Tryz.ntmps91
  go_wp2_with fail
  refine (HK.out _).mono ?_
  rintro e w2 ⟨rfl, rfl⟩
  go_wp2_with fail
  refine bodyPost_ret (v := .tuple #[.string ⟨u.code.toArray⟩, .int .i64 0]) (by simp [results, Tryz.results91, go_sem]) rfl ?_
  exact ⟨rfl, Below.refl _ _⟩
set_option maxHeartbeats 4000000 in
theorem c_rinner_arr (n : Nat) (u : Ty) (w : World) (hn : n ≤ 1099511627776) (hl : (Ty.arr n u).code.length ≤ 65536) :
    Calls Tryz.prog 91 #[.string ⟨(Ty.arr n u).code.toArray⟩] w fun e w' => e = .returned (.tuple #[.string ⟨u.code.toArray⟩, .int .i64 n]) ∧ Below w.heap.size w w' := by
  have HK := Lib.hid (c_rkind (.arr n u))
  have hk0 : (((Ty.arr n u).letter.toNat : Int)) = 97 := rfl
  rw [hk0] at HK
  have hcode : (Ty.arr n u).code = 97 :: (Lib.decDigits n ++ 58 :: u.code) := rfl
  have hlen : (Ty.arr n u).code.length = 1 + (Lib.decDigits n).length + 1 + u.code.length := by
    rw [hcode]
    simp only [List.length_cons, List.length_append]
    omega
  have hd1 : (Ty.arr n u).code.drop 1 = Lib.decDigits n ++ 58 :: u.code := rfl
  have htw : twD (Ty.arr n u).code 1 = (Lib.decDigits n).length := by
    unfold twD
    rw [hd1, tw_dec]
  obtain ⟨D, hD⟩ : ∃ D, 1 + (Lib.decDigits n).length = D := ⟨_, rfl⟩
  have HDg := Lib.hid (fun w => c_rdigits (Ty.arr n u).code 1 w (by omega) hl)
  rw [htw, hD] at HDg
  have hex1 : (⟨(Ty.arr n u).code.toArray⟩ : ByteArray).extract 1 D = ⟨(Lib.decDigits n).toArray⟩ := by
    rw [ext_sub, hd1, show D - 1 = (Lib.decDigits n).length by omega, List.take_left]
  have hex2 : (⟨(Ty.arr n u).code.toArray⟩ : ByteArray).extract (D + 1) (Ty.arr n u).code.length = ⟨u.code.toArray⟩ := by
    rw [ext_end, hcode, ← hD]
    congr 2
    rw [show 1 + (Lib.decDigits n).length + 1 = ((Lib.decDigits n).length + 1) + 1 by omega, List.drop_succ_cons, List.drop_append]
    simp
  have hdl : (Lib.decDigits n).length ≤ 15 := dec_len15 hn
  have hwn : whN (Lib.decDigits n) = (n : Int) := (wh_tie _ (dec_all n)).2 n (by
    unfold whP
    rw [valF_dec n n (Nat.le_refl _), if_pos ⟨by rw [Lib.decDigits]; split <;> simp, hdl, dec_head n n (Nat.le_refl _), hn⟩])
  have HWh := Lib.hid (fun w => c_Whole (Lib.decDigits n) w (by omega))
  rw [hwn] at HWh
  obtain ⟨l, hlc⟩ : ∃ l, (Ty.arr n u).code = l := ⟨_, rfl⟩
  obtain ⟨ds, hds⟩ : ∃ ds, Lib.decDigits n = ds := ⟨_, rfl⟩
  obtain ⟨qo, hqo⟩ : ∃ q, whO (Lib.decDigits n) = q := ⟨_, rfl⟩
  rw [hqo] at HWh
  rw [hlc] at HK HDg hex1 hex2 hlen hl ⊢
  rw [hds] at hex1 HWh hlen
  have hD1 : (1 : Int) ≤ (D : Int) := by omega
  have hD1n : 1 ≤ D := by omega
  have hD2 : (D : Int) + 1 ≤ (l.length : Int) := by rw [hds] at hD; omega
  have hD3 : (D : Int) ≤ (l.length : Int) := by omega
  have hD0 : (0 : Int) ≤ (D : Int) + 1 := by omega
  have hD4 : (0 : Int) ≤ (D : Int) := by omega
  have hwm : IntKind.i64.wrap ((D : Int) + 1) = ((D + 1 : Nat) : Int) := by rw [IntKind.wrap_i64]; omega
  clear hl hlc hk0 hcode hlen hd1 htw hD hdl hwn hds hqo hn
  go_enter Tryz.func91, Tryz.ntmps91
  go_wp2_with fail
  refine (HK.out _).mono ?_
  rintro e w2 ⟨rfl, rfl⟩
  go_wp2_with fail
  refine (HDg.out _).mono ?_
  rintro e w3 ⟨rfl, m, rfl⟩
  go_wp2_with fail
  refine (HWh.out _).mono ?_
  rintro e w4 ⟨rfl, hw⟩
  subst hw
  go_wp2_with fail
  refine bodyPost_ret (v := .tuple #[.string ⟨u.code.toArray⟩, .int .i64 n]) (by simp [results, Tryz.results91, go_sem]) rfl ?_
  exact ⟨rfl, below_drewN (Below.refl _ _) _⟩
/-- Is a text an integer's code? -/
def riI (l : List UInt8) : Bool := l == [99] || l == [115] || l == [105] || l == [117]
theorem c_rIsInt (l : List UInt8) (w : World) :
    Calls Tryz.prog 105 #[.string ⟨l.toArray⟩] w fun e w' => e = .returned (.bool (riI l)) ∧ w' = w := by
  unfold riI
  cases h1 : l == [99]
  all_goals
    cases h2 : l == [115]
    all_goals
      cases h3 : l == [105]
      all_goals
        cases h4 : l == [117]
        all_goals
          go_enter Tryz.func105, Tryz.ntmps105
          go_wp2_with fail
          go_ret
          exact ⟨rfl, rfl⟩
theorem ri_int (t : Ty) (h : t.wf) : riI t.code = intI t.letter.toNat := by
  cases t with
  | base c =>
    have hc : baseC c = true := h
    unfold baseC at hc
    simp at hc
    rcases hc with ((((hc | hc) | hc) | hc) | hc) | hc <;> (subst hc; rfl)
  | ptr t => rfl
  | arr n t => rfl
  | str s => rfl
  | fn ps r => cases ps <;> rfl
set_option maxHeartbeats 4000000 in
theorem c_rIsScalar (l : List UInt8) (w : World) (hm : l.length ≤ 9223372036854775807) :
    Calls Tryz.prog 93 #[.string ⟨l.toArray⟩] w fun e w' => e = .returned (.bool (match tk l with | none => false | some t => scaI t.letter.toNat)) ∧ Below w.heap.size w w' := by
  have HF := Lib.hid (c_rForm l w hm)
  have HI := Lib.hid (c_rIsInt l)
  rcases ho : tk l with _ | t
  · rw [ho] at HF
    show Calls _ _ _ w fun e w' => e = .returned (.bool false) ∧ Below w.heap.size w w'
    clear ho
    go_enter Tryz.func93, Tryz.ntmps93
    go_wp2_with fail
    refine HF.out.mono ?_
    rintro e w2 ⟨rfl, hb⟩
    have HB := Lib.hid hb
    clear hb
    rw [show (none : Option Ty).isSome = false from rfl]
    go_wp2_with fail
    go_ret
    exact ⟨rfl, HB.out⟩
  · rw [ho] at HF
    obtain ⟨hwf, hlc, _⟩ := tk_some ho
    have HK := Lib.hid (c_rkind t)
    rw [← hlc] at HK
    have hi : riI l = intI t.letter.toNat := by rw [hlc]; exact ri_int t hwf
    rw [hi] at HI
    show Calls _ _ _ w fun e w' => e = .returned (.bool (scaI t.letter.toNat)) ∧ Below w.heap.size w w'
    unfold scaI
    obtain ⟨x0, hx0⟩ : ∃ x : Int, (t.letter.toNat : Int) = x := ⟨_, rfl⟩
    rw [hx0] at HI HK ⊢
    clear ho hwf hlc hi hx0
    cases h1 : intI x0
    all_goals
      cases h2 : x0 == 112
      all_goals
        rw [h1] at HI
        go_enter Tryz.func93, Tryz.ntmps93
        go_wp2_with fail
        refine HF.out.mono ?_
        rintro e w2 ⟨rfl, hb⟩
        have HB := Lib.hid hb
        clear hb
        rw [show (some t).isSome = true from rfl]
        go_wp2_with fail
        refine (HI.out _).mono ?_
        rintro e w3 ⟨rfl, rfl⟩
        first
          | (go_wp2_with fail
             go_ret
             exact ⟨rfl, HB.out⟩)
          | (go_wp2_with fail
             refine (HK.out _).mono ?_
             rintro e w4 ⟨rfl, rfl⟩
             go_wp2_with fail
             go_ret
             exact ⟨rfl, HB.out⟩)
end Go.Proofs.YtmaplgpicdomiaaGreatDoor
