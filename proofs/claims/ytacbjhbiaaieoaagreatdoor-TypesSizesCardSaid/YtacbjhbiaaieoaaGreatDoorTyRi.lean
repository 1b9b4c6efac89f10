/-
  The contracts of the document's own names, in the code.
-/
import Derived.Test.YtacbjhbiaaieoaaGreatDoorTyDe
import Derived.Test.YtacbjhbiaaieoaaGreatDoorTyLr
namespace Go.Proofs.YtacbjhbiaaieoaaGreatDoor
set_option linter.unusedVariables false
set_option linter.unusedSimpArgs false

theorem dig_val {c : UInt8} (h : dig8 c = true) : 48 ≤ c.toNat ∧ c.toNat ≤ 57 := by
  unfold dig8 digI at h
  simp at h
  omega
theorem dig_of {c : UInt8} (h1 : 48 ≤ c.toNat) (h2 : c.toNat ≤ 57) : dig8 c = true := by
  unfold dig8 digI
  simp
  omega
theorem canon : ∀ (n : Nat) (d : List UInt8), d.length = n → d ≠ [] → d.all dig8 = true → (1 < d.length → d.head? ≠ some 48) → Lib.decDigits (valF 0 d) = d ∧ (d.head? ≠ some 48 → 1 ≤ valF 0 d)
  | 0, d, hl, h0, _, _ => absurd (List.length_eq_zero_iff.1 hl) h0
  | n + 1, d, hl, h0, ha, hz => by
    obtain ⟨d', c, rfl⟩ : ∃ d' c, d = d' ++ [c] := ⟨d.dropLast, d.getLast h0, (List.dropLast_concat_getLast h0).symm⟩
    have hc : dig8 c = true := by
      rw [List.all_append, Bool.and_eq_true] at ha
      simpa using ha.2
    have ha' : d'.all dig8 = true := by
      rw [List.all_append, Bool.and_eq_true] at ha
      exact ha.1
    obtain ⟨c1, c2⟩ := dig_val hc
    have hv : valF 0 (d' ++ [c]) = 10 * valF 0 d' + (c.toNat - 48) := by
      rw [valF_app]
      show valF 0 d' * 10 + (c.toNat - 48) = _
      omega
    by_cases hd : d' = []
    · subst hd
      rw [hv]
      have e0 : valF 0 [] = 0 := rfl
      rw [e0, Lib.decDigits, dif_pos (by omega), show 48 + (10 * 0 + (c.toNat - 48)) = c.toNat by omega]
      refine ⟨by simp, fun h => ?_⟩
      have hne : c.toNat ≠ 48 := fun e => h (by
        have : c = 48 := UInt8.toNat_inj.1 (by rw [e]; rfl)
        rw [this]
        rfl)
      omega
    · have hz' : 1 < d'.length → d'.head? ≠ some 48 := fun h => by
        have h2 := hz (by simp; omega)
        cases d' with
        | nil => exact absurd rfl hd
        | cons e r => simpa using h2
      have hh : d'.head? ≠ some 48 := by
        have h2 := hz (by have := List.length_pos_iff.2 hd; simp; omega)
        cases d' with
        | nil => exact absurd rfl hd
        | cons e r => simpa using h2
      obtain ⟨h1, h2⟩ := canon n d' (by simp at hl; omega) hd ha' hz'
      have h3 := h2 hh
      refine ⟨?_, fun _ => by rw [hv]; omega⟩
      rw [hv, Lib.decDigits, dif_neg (by omega), show (10 * valF 0 d' + (c.toNat - 48)) / 10 = valF 0 d' by omega, h1, show 48 + (10 * valF 0 d' + (c.toNat - 48)) % 10 = c.toNat by omega]
      congr 1
      simp
theorem dec_all (n : Nat) : (Lib.decDigits n).all dig8 = true := List.all_eq_true.2 fun c hc => dig_of (bk_digits n n (Nat.le_refl _) c hc).1 (bk_digits n n (Nat.le_refl _) c hc).2
theorem dec_len15 {n : Nat} (h : n ≤ 1099511627776) : (Lib.decDigits n).length ≤ 15 := by
  have hl : ∀ (d m : Nat), m < 10 ^ (d + 1) → (Lib.decDigits m).length ≤ d + 1 := by
    intro d
    induction d with
    | zero => intro m hm; rw [Lib.decDigits, dif_pos (by simpa using hm)]; simp
    | succ d ih =>
      intro m hm
      rw [Lib.decDigits]
      split
      · simp
      · have := ih (m / 10) (by rw [Nat.pow_succ] at hm; omega)
        simp
        omega
  have := hl 12 n (by omega)
  omega
theorem dec_head : ∀ (n m : Nat), m ≤ n → 1 < (Lib.decDigits m).length → (Lib.decDigits m).head? ≠ some 48
  | 0, m, hm, h => by
    rw [Lib.decDigits, dif_pos (by omega)] at h
    simp at h
  | n + 1, m, hm, h => by
    rw [Lib.decDigits] at h ⊢
    split at h
    · simp at h
    · rename_i h10
      rw [dif_neg h10]
      by_cases h100 : m / 10 < 10
      · rw [Lib.decDigits, dif_pos h100]
        simp
        intro e
        have e2 := congrArg UInt8.toNat e
        simp at e2
        omega
      · have hl : 1 < (Lib.decDigits (m / 10)).length := by
          rw [Lib.decDigits, dif_neg h100]
          have : Lib.decDigits (m / 10 / 10) ≠ [] := by
            rw [Lib.decDigits]
            split <;> simp
          have := List.length_pos_iff.2 this
          simp
          omega
        have ih := dec_head n (m / 10) (by omega) hl
        cases hd : Lib.decDigits (m / 10) with
        | nil => rw [hd] at hl; simp at hl
        | cons e r => rw [hd] at ih; simpa using ih
/-- A count by its digits. -/
def whP (d : List UInt8) : Option Nat := if d ≠ [] ∧ d.length ≤ 15 ∧ (1 < d.length → d.head? ≠ some 48) ∧ valF 0 d ≤ 1099511627776 then some (valF 0 d) else none
theorem tw_dec (n : Nat) (y : List UInt8) : (Lib.decDigits n ++ 58 :: y).takeWhile dig8 = Lib.decDigits n := by
  rw [List.takeWhile_append_of_pos (fun c hc => List.all_eq_true.1 (dec_all n) c hc)]
  have : dig8 58 = false := by decide
  simp [List.takeWhile, this]
theorem cnt_tie (r : List UInt8) : cntP r = (whP (r.takeWhile dig8)).bind fun n => if (r.drop (r.takeWhile dig8).length).head? = some 58 then some (n, r.drop ((r.takeWhile dig8).length + 1)) else none := by
  cases hc : cntP r with
  | some p =>
    obtain ⟨n, y⟩ := p
    obtain ⟨hn, hr⟩ := cnt_eq hc
    have htw : r.takeWhile dig8 = Lib.decDigits n := by rw [hr]; exact tw_dec n y
    have hw : whP (Lib.decDigits n) = some n := by
      unfold whP
      rw [valF_dec n n (Nat.le_refl _), if_pos ⟨by rw [Lib.decDigits]; split <;> simp, dec_len15 hn, dec_head n n (Nat.le_refl _), hn⟩]
    rw [htw, hw]
    simp only [Option.bind_some]
    rw [hr, List.drop_left, List.drop_append]
    simp
  | none =>
    symm
    cases hw : whP (r.takeWhile dig8) with
    | none => rfl
    | some n =>
      simp only [Option.bind_some]
      split
      · rename_i h58
        exfalso
        unfold whP at hw
        split at hw
        · rename_i hh
          obtain ⟨h0, _, hz, hv⟩ := hh
          cases hw
          have hcn := (canon _ _ rfl h0 (List.all_eq_true.2 fun c hc => List.all_eq_true.1 (List.all_takeWhile) c hc) hz).1
          have hr : r = Lib.decDigits (valF 0 (r.takeWhile dig8)) ++ 58 :: (r.drop (r.takeWhile dig8).length).drop 1 := by
            rw [hcn, ← head_drop h58]
            obtain ⟨y, hy⟩ := List.takeWhile_prefix (p := dig8) (l := r)
            have e : r.drop (r.takeWhile dig8).length = y := by
              have h := congrArg (List.drop (r.takeWhile dig8).length) hy
              rw [List.drop_left] at h
              exact h.symm
            rw [e]
            exact hy.symm
          rw [hr, cnt_full _ _ hv] at hc
          cases hc
        · cases hw
      · rfl
end Go.Proofs.YtacbjhbiaaieoaaGreatDoor
namespace Go.Proofs.YtacbjhbiaaieoaaGreatDoor
set_option linter.unusedVariables false
set_option linter.unusedSimpArgs false
set_option maxRecDepth 100000
open Go.RowKit

/-- How many digits stand from a place on. -/
def twD (l : List UInt8) (m : Nat) : Nat := ((l.drop m).takeWhile dig8).length
theorem tw_end {l : List UInt8} {m : Nat} (h : l.length ≤ m) : twD l m = 0 := by
  unfold twD
  rw [List.drop_of_length_le h]
  rfl
theorem tw_step {l : List UInt8} {m : Nat} (h : m < l.length) : twD l m = if dig8 (l[m]?.getD 0) = true then 1 + twD l (m + 1) else 0 := by
  unfold twD
  rw [List.drop_eq_getElem_cons h, List.getElem?_eq_getElem h]
  simp only [Option.getD_some]
  rw [List.takeWhile_cons]
  split
  · rw [List.length_cons]
    omega
  · rfl
theorem dig_I (c : UInt8) (cI : Int) (h : (c.toNat : Int) = cI) : dig8 c = (decide (48 ≤ cI) && decide (cI ≤ 57)) := by
  unfold dig8 digI
  rw [h]
set_option maxHeartbeats 4000000 in
theorem c_rdigits (l : List UInt8) (k : Nat) (w : World) (hk : k ≤ l.length) (hl : l.length ≤ 65536) :
    Calls Tryz.prog 74 #[.string ⟨l.toArray⟩, .int .i64 k] w fun e w' => e = .returned (.int .i64 ((k + twD l k : Nat) : Int)) ∧ ∃ n, w' = w.drewN n := by
  have HK := Lib.hid hk
  have HL := Lib.hid hl
  obtain ⟨E, hE⟩ : ∃ E, k + twD l k = E := ⟨_, rfl⟩
  rw [hE]
  have HE := Lib.hid hE
  clear hk hl hE
  go_enter Tryz.func74, Tryz.ntmps74
  go_wp2_with fail
  go_loopg [1] (l.length + 1) (fun g v1 wr => ∃ m : Nat, l.length - m < g ∧ v1 = .int .i64 (m : Int) ∧ Hid (m ≤ l.length ∧ E = m + twD l m) ∧ ∃ n, wr = w.drewN n)
  case atStart => exact ⟨k, by omega, rfl, ⟨HK.out, HE.out.symm⟩, 0, by simp [World.drewN_zero]⟩
  case round =>
    obtain ⟨m, hm, rfl, HR, n, rfl⟩ := hrel
    by_cases hlt : m < l.length
    · have hd : decide ((m : Int) < (l.length : Int)) = true := by simp; omega
      obtain ⟨cI, hcI⟩ : ∃ cI : Int, ((l[m]?.getD 0).toNat : Int) = cI := ⟨_, rfl⟩
      have hby : ∀ h, (((ByteArray.mk l.toArray)[m]'h).toNat : Int) = cI := fun h => (byte_at l m h).trans hcI
      have hj0 : (0 : Int) ≤ (m : Int) := by omega
      have hj1 : (m : Int) < (l.length : Int) := by omega
      have hwm : IntKind.i64.wrap ((m : Int) + 1) = ((m + 1 : Nat) : Int) := by rw [IntKind.wrap_i64]; have := HL.out; omega
      have HS := Lib.hid (tw_step hlt)
      rw [dig_I _ cI hcI] at HS
      have HM : Hid (l.length - m - 1 < gk ∧ m + 1 ≤ l.length ∧ l.length - (m + 1) < l.length - m) := ⟨by omega, by omega, by omega⟩
      clear hcI
      cases h1 : decide (48 ≤ cI)
      · rw [h1] at HS
        have hEm : E = m := by have := HR.out.2; rw [HS.out] at this; simpa using this
        subst hEm
        clear hm
        go_wp2_with fail
        go_ret
        exact ⟨rfl, _, rfl⟩
      · cases h2 : decide (cI ≤ 57)
        · rw [h1, h2] at HS
          have hEm : E = m := by have := HR.out.2; rw [HS.out] at this; simpa using this
          subst hEm
          clear hm
          go_wp2_with fail
          go_ret
          exact ⟨rfl, _, rfl⟩
        · rw [h1, h2] at HS
          have HN : Hid (m + 1 ≤ l.length ∧ E = m + 1 + twD l (m + 1)) := ⟨HM.out.2.1, by have := HR.out.2; rw [HS.out] at this; simp at this; omega⟩
          have HG := Lib.hid hm
          clear hm
          go_wp2_with fail
          go_roundg (l.length - m)
          case measure => exact HG.out
          case rel => exact ⟨m + 1, HM.out.2.2, rfl, HN, _, rfl⟩
    · have hd : decide ((m : Int) < (l.length : Int)) = false := by simp; omega
      have hEm : E = m := by
        have h := HR.out.2
        rw [tw_end (by omega)] at h
        exact h
      subst hEm
      clear hm
      go_wp2_with fail
      go_ret
      exact ⟨rfl, _, rfl⟩
end Go.Proofs.YtacbjhbiaaieoaaGreatDoor
namespace Go.Proofs.YtacbjhbiaaieoaaGreatDoor
set_option linter.unusedVariables false
set_option linter.unusedSimpArgs false
open Go.ChangeShapes Go.WideShapes Go.ChangeAt Go.RowKit

theorem beq_no {a b : Int} (h : ¬ a = b) : (a == b) = false := by simp [h]
theorem take_one (l : List UInt8) (k : Nat) (h : k < l.length) : l.take (k + 1) = l.take k ++ [l[k]?.getD 0] := by
  rw [List.take_add_one, List.getElem?_eq_getElem h]
  rfl
def wv (l : List UInt8) : Int := l.foldl (fun n c => 10 * n + (c.toNat : Int) - 48) 0
theorem wv_snoc (l : List UInt8) (c : UInt8) : wv (l ++ [c]) = 10 * wv l + (c.toNat : Int) - 48 := by
  unfold wv
  rw [List.foldl_append]
  rfl
theorem pow15 (n : Nat) (h : n ≤ 15) : (10 : Int) ^ n ≤ 1000000000000000 := by
  have h1 : 10 ^ n ≤ 10 ^ 15 := Nat.pow_le_pow_right (by decide) h
  have h2 := Int.ofNat_le.2 h1
  rw [Int.natCast_pow, Int.natCast_pow] at h2
  exact h2
def dgB (c : UInt8) : Bool := decide (48 ≤ c.toNat) && decide (c.toNat ≤ 57)
theorem wv_bd : ∀ (n : Nat) (l : List UInt8), l.length = n → (∀ c ∈ l, dgB c = true) → 0 ≤ wv l ∧ wv l < 10 ^ n
  | 0, l, h, _ => by rw [List.length_eq_zero_iff.1 h]; simp [wv]
  | n + 1, l, h, hd => by
    have hne : l ≠ [] := by rintro rfl; simp at h
    have e : l = l.dropLast ++ [l.getLast hne] := (List.dropLast_concat_getLast hne).symm
    have ih := wv_bd n l.dropLast (by rw [List.length_dropLast]; omega) (fun c hc => hd c (List.dropLast_subset _ hc))
    have hc := hd _ (List.getLast_mem hne)
    unfold dgB at hc
    simp at hc
    rw [e, wv_snoc, Int.pow_succ]
    omega
@[irreducible] def whB (l : List UInt8) : Bool := !l.isEmpty && decide (l.length ≤ 15) && !(decide (1 < l.length) && decide (l[0]?.getD 0 = 48)) && l.all dgB
@[irreducible] def whN (l : List UInt8) : Int := if whB l then wv l else 0
@[irreducible] def whO (l : List UInt8) : Bool := whB l && decide (wv l ≤ 1099511627776)
theorem wh_no (l : List UInt8) (h : whB l = false) : whN l = 0 ∧ whO l = false := by
  unfold whN whO
  rw [h]
  exact ⟨rfl, rfl⟩
theorem wh_yes (l : List UInt8) (h : whB l = true) : whN l = wv l ∧ whO l = decide (wv l ≤ 1099511627776) := by
  unfold whN whO
  rw [h]
  exact ⟨rfl, rfl⟩
theorem ret_ib {a b : Int} {c d : Bool} (h : a = b) (g : c = d) : Ending.returned (.tuple #[.int .i64 a, .bool c]) = .returned (.tuple #[.int .i64 b, .bool d]) := by rw [h, g]
theorem byte_is (l : List UInt8) (k : Nat) (hlt : k < l.length) (h : k < (ByteArray.mk l.toArray).size) : (((ByteArray.mk l.toArray)[k]'h).toNat : Int) = ((l[k]'hlt).toNat : Int) := by
  rw [byte_at l k h, List.getElem?_eq_getElem hlt]
  rfl
set_option maxRecDepth 100000 in
set_option maxHeartbeats 1000000 in
theorem c_Whole_one (l : List UInt8) (w : World) (h1 : l.length = 1) (hB : whB l = l.all dgB) :
    Calls Tryz.prog 75 #[.string ⟨l.toArray⟩, .int .i64 1099511627776] w fun e w' => e = .returned (.tuple #[.int .i64 (whN l), .bool (whO l)]) ∧ w = w' := by
  have HB := Lib.hid hB
  have h2 : l.length ≤ 15 := by omega
  have t0 : ((l.length : Int) == 0) = false := beq_no (by omega)
  have t1 : decide ((15 : Int) < (l.length : Int)) = false := by simp; omega
  have t2 : decide ((1 : Int) < (l.length : Int)) = false := by simp; omega
  clear hB h1
  go_enter Tryz.func75, Tryz.ntmps75
  go_wp2
  clear t0 t1 t2
  go_loop [6, 7] (fun n i => ∃ k : Nat, k ≤ l.length ∧ i = .int .i64 k ∧ n = .int .i64 (wv (l.take k)) ∧ Hid (∀ c ∈ l.take k, dgB c = true)) (fun _ i => l.length - (intOf i).toNat)
  case atStart => exact ⟨0, Nat.zero_le _, rfl, rfl, fun c hc => by simp at hc⟩
  case round =>
    obtain ⟨k, hk, rfl, rfl, hd⟩ := hrel
    have hwb := wv_bd _ (l.take k) rfl hd.out
    have hw0 := hwb.1
    have hw1 : wv (l.take k) < 1000000000000000 := by
      have := pow15 (l.take k).length (by rw [List.length_take]; omega)
      omega
    clear hwb
    by_cases hlt : k < l.length
    · have HT := Lib.hid (take_one l k hlt)
      obtain ⟨c, hc⟩ : ∃ c : Int, ((l[k]'hlt).toNat : Int) = c := ⟨_, rfl⟩
      have hby : ∀ h, (((ByteArray.mk l.toArray)[k]'h).toNat : Int) = c := fun h => (byte_is l k hlt h).trans hc
      have hcb : 0 ≤ c ∧ c ≤ 255 := by have := (l[k]'hlt).toNat_lt; omega
      obtain ⟨hc0, hc1⟩ := hcb
      have HG : Hid (l[k]?.getD 0 = l[k]'hlt) := by show _ = _; rw [List.getElem?_eq_getElem hlt]; rfl
      have HC := Lib.hid hc
      have HM := Lib.hid (List.getElem_mem hlt)
      clear hc
      by_cases hdg : 48 ≤ c ∧ c ≤ 57
      · obtain ⟨hd0, hd1⟩ := hdg
        go_wp2
        go_round
        case rel =>
          refine ⟨k + 1, by omega, by go_num, ?_, ?_⟩
          · rw [HT.out, HG.out, wv_snoc, HC.out]
          · show ∀ _, _
            rw [HT.out, HG.out]
            intro x hx
            rcases List.mem_append.1 hx with hx | hx
            · exact hd.out x hx
            · simp at hx
              subst hx
              have := HC.out
              unfold dgB
              simp
              omega
        case measure => simp [intOf]; omega
      · have HF : Hid (whB l = false) := by
          show _ = _
          rw [HB.out]
          have := HC.out
          rw [List.all_eq_false]
          exact ⟨_, HM.out, by unfold dgB; simp; omega⟩
        have hdg' : c < 48 ∨ 57 < c := by omega
        clear hdg
        rcases hdg' with hx | hx
        · go_wp2
          go_ret2
          exact ⟨ret_ib (wh_no l HF.out).1.symm (wh_no l HF.out).2.symm, rfl⟩
        · have hx' : decide (c < 48) = false := by simp; omega
          go_wp2
          go_ret2
          exact ⟨ret_ib (wh_no l HF.out).1.symm (wh_no l HF.out).2.symm, rfl⟩
    · have hge : decide (k < l.length) = false := by simp; omega
      have HK := Lib.hid (show l.take k = l by rw [List.take_of_length_le (by omega)])
      clear hk hlt
      go_wp2
      go_ret2
      have hT : whB l = true := by
        rw [HB.out, List.all_eq_true]
        have := hd.out
        rw [HK.out] at this
        exact this
      obtain ⟨e1, e2⟩ := wh_yes l hT
      refine ⟨ret_ib ?_ ?_, rfl⟩
      · rw [e1, HK.out]
      · rw [e2, HK.out]
set_option maxRecDepth 100000 in
set_option maxHeartbeats 1000000 in
theorem c_Whole_more (l : List UInt8) (w : World) (h1 : 1 < l.length) (h2 : l.length ≤ 15) (h3 : ¬ l[0]?.getD 0 = 48) (hB : whB l = l.all dgB) :
    Calls Tryz.prog 75 #[.string ⟨l.toArray⟩, .int .i64 1099511627776] w fun e w' => e = .returned (.tuple #[.int .i64 (whN l), .bool (whO l)]) ∧ w = w' := by
  have HB := Lib.hid hB
  have t0 : ((l.length : Int) == 0) = false := beq_no (by omega)
  have t1 : decide ((15 : Int) < (l.length : Int)) = false := by simp; omega
  have t2 : decide ((1 : Int) < (l.length : Int)) = true := by simp; omega
  have t3 : 0 < l.length := by omega
  obtain ⟨c0, hc0⟩ : ∃ c : Int, ((l[0]'t3).toNat : Int) = c := ⟨_, rfl⟩
  have hb0 : ∀ h, (((ByteArray.mk l.toArray)[0]'h).toNat : Int) = c0 := fun h => (byte_is l 0 t3 h).trans hc0
  have hn0 : (c0 == 48) = false := by
    simp only [beq_eq_false_iff_ne, ne_eq]
    intro e
    apply h3
    rw [List.getElem?_eq_getElem t3]
    apply UInt8.toNat_inj.1
    show (l[0]'t3).toNat = 48
    omega
  have H2 := Lib.hid h2
  clear hB h1 h2 h3 hc0
  go_enter Tryz.func75, Tryz.ntmps75
  go_wp2
  clear t0 t1 t2 hb0 hn0
  have h2 := H2.out
  go_loop [6, 7] (fun n i => ∃ k : Nat, k ≤ l.length ∧ i = .int .i64 k ∧ n = .int .i64 (wv (l.take k)) ∧ Hid (∀ c ∈ l.take k, dgB c = true)) (fun _ i => l.length - (intOf i).toNat)
  case atStart => exact ⟨0, Nat.zero_le _, rfl, rfl, fun c hc => by simp at hc⟩
  case round =>
    obtain ⟨k, hk, rfl, rfl, hd⟩ := hrel
    have hwb := wv_bd _ (l.take k) rfl hd.out
    have hw0 := hwb.1
    have hw1 : wv (l.take k) < 1000000000000000 := by
      have := pow15 (l.take k).length (by rw [List.length_take]; omega)
      omega
    clear hwb
    by_cases hlt : k < l.length
    · have HT := Lib.hid (take_one l k hlt)
      obtain ⟨c, hc⟩ : ∃ c : Int, ((l[k]'hlt).toNat : Int) = c := ⟨_, rfl⟩
      have hby : ∀ h, (((ByteArray.mk l.toArray)[k]'h).toNat : Int) = c := fun h => (byte_is l k hlt h).trans hc
      have hcb : 0 ≤ c ∧ c ≤ 255 := by have := (l[k]'hlt).toNat_lt; omega
      obtain ⟨hc0, hc1⟩ := hcb
      have HG : Hid (l[k]?.getD 0 = l[k]'hlt) := by show _ = _; rw [List.getElem?_eq_getElem hlt]; rfl
      have HC := Lib.hid hc
      have HM := Lib.hid (List.getElem_mem hlt)
      clear hc
      by_cases hdg : 48 ≤ c ∧ c ≤ 57
      · obtain ⟨hd0, hd1⟩ := hdg
        go_wp2
        go_round
        case rel =>
          refine ⟨k + 1, by omega, by go_num, ?_, ?_⟩
          · rw [HT.out, HG.out, wv_snoc, HC.out]
          · show ∀ _, _
            rw [HT.out, HG.out]
            intro x hx
            rcases List.mem_append.1 hx with hx | hx
            · exact hd.out x hx
            · simp at hx
              subst hx
              have := HC.out
              unfold dgB
              simp
              omega
        case measure => simp [intOf]; omega
      · have HF : Hid (whB l = false) := by
          show _ = _
          rw [HB.out]
          have := HC.out
          rw [List.all_eq_false]
          exact ⟨_, HM.out, by unfold dgB; simp; omega⟩
        have hdg' : c < 48 ∨ 57 < c := by omega
        clear hdg
        rcases hdg' with hx | hx
        · go_wp2
          go_ret2
          exact ⟨ret_ib (wh_no l HF.out).1.symm (wh_no l HF.out).2.symm, rfl⟩
        · have hx' : decide (c < 48) = false := by simp; omega
          go_wp2
          go_ret2
          exact ⟨ret_ib (wh_no l HF.out).1.symm (wh_no l HF.out).2.symm, rfl⟩
    · have hge : decide (k < l.length) = false := by simp; omega
      have HK := Lib.hid (show l.take k = l by rw [List.take_of_length_le (by omega)])
      clear hk hlt
      go_wp2
      go_ret2
      have hT : whB l = true := by
        rw [HB.out, List.all_eq_true]
        have := hd.out
        rw [HK.out] at this
        exact this
      obtain ⟨e1, e2⟩ := wh_yes l hT
      refine ⟨ret_ib ?_ ?_, rfl⟩
      · rw [e1, HK.out]
      · rw [e2, HK.out]
set_option maxRecDepth 100000 in
set_option maxHeartbeats 1000000 in
theorem c_Whole_zero (l : List UInt8) (w : World) (h1 : 1 < l.length) (h2 : l.length ≤ 15) (h3 : l[0]?.getD 0 = 48) (hB : whB l = false) :
    Calls Tryz.prog 75 #[.string ⟨l.toArray⟩, .int .i64 1099511627776] w fun e w' => e = .returned (.tuple #[.int .i64 (whN l), .bool (whO l)]) ∧ w = w' := by
  have HB := Lib.hid hB
  have t0 : ((l.length : Int) == 0) = false := beq_no (by omega)
  have t1 : decide ((15 : Int) < (l.length : Int)) = false := by simp; omega
  have t2 : decide ((1 : Int) < (l.length : Int)) = true := by simp; omega
  have t3 : 0 < l.length := by omega
  have hb0 : ∀ h, (((ByteArray.mk l.toArray)[0]'h).toNat : Int) = 48 := fun h => (byte_at l 0 h).trans (by rw [h3]; rfl)
  clear hB h1 h2 h3
  go_enter Tryz.func75, Tryz.ntmps75
  go_wp2
  go_ret2
  exact ⟨ret_ib (wh_no l HB.out).1.symm (wh_no l HB.out).2.symm, rfl⟩
set_option maxRecDepth 100000 in
theorem c_Whole_long (l : List UInt8) (w : World) (h1 : 15 < l.length) (hm : l.length ≤ 65536) (hB : whB l = false) :
    Calls Tryz.prog 75 #[.string ⟨l.toArray⟩, .int .i64 1099511627776] w fun e w' => e = .returned (.tuple #[.int .i64 (whN l), .bool (whO l)]) ∧ w = w' := by
  have HB := Lib.hid hB
  have t0 : ((l.length : Int) == 0) = false := beq_no (by omega)
  have t1 : decide ((15 : Int) < (l.length : Int)) = true := by simp; omega
  clear hB h1
  go_enter Tryz.func75, Tryz.ntmps75
  go_wp2
  go_ret2
  exact ⟨ret_ib (wh_no l HB.out).1.symm (wh_no l HB.out).2.symm, rfl⟩
theorem c_Whole_none (w : World) :
    Calls Tryz.prog 75 #[.string ⟨#[]⟩, .int .i64 1099511627776] w fun e w' => e = .returned (.tuple #[.int .i64 0, .bool false]) ∧ w = w' := by
  go_enter Tryz.func75, Tryz.ntmps75
  go_wp2
  go_ret2
  exact ⟨rfl, rfl⟩
theorem c_Whole (l : List UInt8) (w : World) (hm : l.length ≤ 65536) :
    Calls Tryz.prog 75 #[.string ⟨l.toArray⟩, .int .i64 1099511627776] w fun e w' => e = .returned (.tuple #[.int .i64 (whN l), .bool (whO l)]) ∧ w = w' := by
  by_cases h0 : l = []
  · subst h0
    have hB : whB [] = false := by unfold whB; rfl
    obtain ⟨e1, e2⟩ := wh_no [] hB
    rw [e1, e2]
    exact c_Whole_none w
  · have hl : 0 < l.length := List.length_pos_iff.2 h0
    have hE : l.isEmpty = false := by simpa using h0
    by_cases h15 : 15 < l.length
    · exact c_Whole_long l w h15 hm (by unfold whB; simp; omega)
    · by_cases h1 : l.length = 1
      · exact c_Whole_one l w h1 (by unfold whB; simp [hE, h1])
      · by_cases h48 : l[0]?.getD 0 = 48
        · exact c_Whole_zero l w (by omega) (by omega) h48 (by unfold whB; simp [h48]; omega)
        · exact c_Whole_more l w (by omega) (by omega) h48 (by unfold whB; simp [hE, h48]; omega)

/-! ### number -/
end Go.Proofs.YtacbjhbiaaieoaaGreatDoor
namespace Go.Proofs.YtacbjhbiaaieoaaGreatDoor
set_option linter.unusedVariables false
set_option linter.unusedSimpArgs false
set_option maxRecDepth 100000
open Go.RowKit

def strA (T : List (List UInt8)) : Array Value := (T.map fun l => Value.string ⟨l.toArray⟩).toArray
theorem str_at (T : List (List UInt8)) (w : World) (k : Nat) (s : List UInt8) (hs : T[k]? = some s) : (w.alloc (.cells (strA T) 9)).cell? ⟨w.heap.size, k, none⟩ = some (.string ⟨s.toArray⟩) := by
  rw [cell_of_row (w.alloc (.cells (strA T) 9)) w.heap.size k (strA T) 9 (0, 0) (heap_alloc_new w _)]
  unfold strA
  rw [List.getElem?_toArray, List.getElem?_map, hs]
  rfl
set_option maxHeartbeats 1000000 in
theorem c_In (g cap n : Nat) (T : List (List UInt8)) (l : List UInt8) (w : World) (hn : T.length = n) (hn2 : n ≤ 64) (hc : n ≤ cap) (hT : ∀ k s, T[k]? = some s → w.cell? ⟨g, k, none⟩ = some (.string ⟨s.toArray⟩)) :
    Calls Tryz.prog 115 #[.slice (some ⟨g, 0, none⟩) n cap, .string ⟨l.toArray⟩] w fun e w' => e = .returned (.bool (T.contains l)) ∧ w = w' := by
  have HT := Lib.hid hT
  have HN := Lib.hid hn
  obtain ⟨r, hr⟩ : ∃ r, r = T.contains l := ⟨_, rfl⟩
  have HRr := Lib.hid hr
  rw [← hr]
  clear hT hn hr
  go_enter Tryz.func115, Tryz.ntmps115
  go_wp2
  go_loop [5] (fun i => ∃ k : Nat, k ≤ n ∧ i = .int .i64 k ∧ Hid ((T.take k).contains l = false)) (fun i => n - (intOf i).toNat)
  case atStart => exact ⟨0, Nat.zero_le _, rfl, rfl⟩
  case round =>
    obtain ⟨k, hk, rfl, HK⟩ := hrel
    by_cases hlt : k < n
    · obtain ⟨s, hs⟩ : ∃ s, T[k]? = some s := ⟨_, List.getElem?_eq_getElem (by rw [HN.out]; exact hlt)⟩
      have hcell := HT.out k s hs
      have HTk : Hid (T.take (k + 1) = T.take k ++ [s]) := by show _ = _; rw [List.take_add_one, hs]; rfl
      have HIn : Hid (s ∈ T) := List.mem_of_getElem? hs
      have hk0 : (0 : Int) ≤ (k : Int) := by omega
      have hk1 : (k : Int) < (n : Int) := by omega
      clear hs
      cases he : (s == l)
      · have HNx : Hid ((T.take (k + 1)).contains l = false) := by
          have h := HK.out
          rw [List.contains_eq_any_beq] at h
          show _ = _
          rw [HTk.out, List.contains_eq_any_beq, List.any_append, h]
          have : (l == s) = false := by rw [Bool.eq_false_iff]; intro h2; rw [beq_iff_eq] at h2; subst h2; simp at he
          simp [this]
        go_wp2
        go_round
        case rel => exact ⟨k + 1, by omega, by go_num, HNx⟩
        case measure => simp [intOf]; omega
      · have HV : Hid (r = true) := by
          rw [beq_iff_eq] at he
          subst he
          show _ = _
          rw [HRr.out, List.contains_iff_mem]
          exact HIn.out
        go_wp2
        go_ret
        exact ⟨ret_b HV.out.symm, rfl⟩
    · have hge : decide (k < n) = false := by simp; omega
      have HV : Hid (r = false) := by
        have h := HK.out
        rw [List.take_of_length_le (by rw [HN.out]; omega)] at h
        exact HRr.out.trans h
      clear hk hlt
      go_wp2
      go_ret
      exact ⟨ret_b HV.out.symm, rfl⟩
set_option maxHeartbeats 1000000 in
theorem c_bKey (l : List UInt8) (w : World) :
    Calls Tryz.prog 93 #[.string ⟨l.toArray⟩] w fun e w' => e = .returned (.bool (keyB l)) ∧ Below w.heap.size w w' := by
  have HI : Hid (Calls Tryz.prog 115 #[.slice (some ⟨w.heap.size, 0, none⟩) 20 20, .string ⟨l.toArray⟩] (w.alloc (.cells (strA keyTab) 9)) fun e w' => e = .returned (.bool (keyB l)) ∧ w.alloc (.cells (strA keyTab) 9) = w') := by
    have h := c_In w.heap.size 20 20 keyTab l (w.alloc (.cells (strA keyTab) 9)) (by decide) (by decide) (by decide) (fun k s hs => str_at keyTab w k s hs)
    have e : keyB l = keyTab.contains l := by unfold keyB; rfl
    rw [e]
    exact h
  go_enter Tryz.func93, Tryz.ntmps93
  go_wp2_with fail
  refine HI.out.mono ?_
  rintro e w2 ⟨rfl, rfl⟩
  go_wp2_with fail
  go_ret
  exact ⟨rfl, (Below.refl _ _).alloc (Nat.le_refl _) _⟩
theorem c_bletter (c : Int) (w : World) (h0 : 0 ≤ c) (h1 : c ≤ 255) :
    Calls Tryz.prog 114 #[.int .u8 c] w fun e w' => e = .returned (.bool (ltrI c)) ∧ w = w' := by
  go_enter Tryz.func114, Tryz.ntmps114
  go_wp2
  all_goals
    go_ret
    refine ⟨ret_b ?_, rfl⟩
    unfold ltrI
    rw [Bool.eq_iff_iff]
    simp
    omega
end Go.Proofs.YtacbjhbiaaieoaaGreatDoor
namespace Go.Proofs.YtacbjhbiaaieoaaGreatDoor
set_option linter.unusedVariables false
set_option linter.unusedSimpArgs false
set_option maxRecDepth 100000
open Go.RowKit

theorem take_snoc {l : List UInt8} {k : Nat} (h : k < l.length) : l.take (k + 1) = l.take k ++ [l[k]?.getD 0] := by
  rw [List.take_add_one, List.getElem?_eq_getElem h]
  rfl
set_option maxHeartbeats 2000000 in
theorem c_bWord (l : List UInt8) (w : World) (hl : l.length ≤ 140737488355328) :
    Calls Tryz.prog 92 #[.string ⟨l.toArray⟩] w fun e w' => e = .returned (.bool (wordB l)) ∧ w = w' := by
  by_cases h0 : l = []
  · have HV : Hid (wordB l = false) := by show _ = _; unfold wordB; simp [h0]
    rw [HV.out]
    subst h0
    go_enter Tryz.func92, Tryz.ntmps92
    go_wp2_with fail
    go_ret
    exact ⟨rfl, rfl⟩
  have he : l.isEmpty = false := by cases l with
    | nil => exact absurd rfl h0
    | cons => rfl
  have he2 : (l == []) = false := by simp [h0]
  have hpos : 0 < l.length := List.length_pos_iff.2 h0
  obtain ⟨cI, hcI⟩ : ∃ cI : Int, ((l[0]?.getD 0).toNat : Int) = cI := ⟨_, rfl⟩
  have hby : ∀ h, (((ByteArray.mk l.toArray)[0]'h).toNat : Int) = cI := fun h => (byte_at l 0 h).trans hcI
  have hcb : 0 ≤ cI ∧ cI ≤ 255 := by have := (l[0]?.getD 0).toNat_lt; omega
  obtain ⟨hc0, hc1⟩ := hcb
  have HWd : Hid (wordB l = (ltrI cI && l.all wrd8)) := by
    show _ = _
    unfold wordB
    have : ltr8 (l[0]?.getD 0) = ltrI cI := by show ltrI _ = _; rw [hcI]
    rw [this]
    simp [h0]
  clear hcI h0
  cases hL : ltrI cI
  · have HV : Hid (wordB l = false) := by show _ = _; rw [HWd.out, hL]; rfl
    rw [HV.out]
    go_enter Tryz.func92, Tryz.ntmps92
    go_wp2_with fail
    refine (c_bletter cI _ hc0 hc1).mono ?_
    rw [hL]
    rintro e w2 ⟨rfl, rfl⟩
    go_wp2_with fail
    go_ret
    exact ⟨rfl, rfl⟩
  · have HV : Hid (wordB l = l.all wrd8) := by show _ = _; rw [HWd.out, hL]; rfl
    rw [HV.out]
    obtain ⟨r, hr⟩ : ∃ r, l.all wrd8 = r := ⟨_, rfl⟩
    rw [hr]
    have HR := Lib.hid hr
    clear hr
    go_enter Tryz.func92, Tryz.ntmps92
    go_wp2_with fail
    refine (c_bletter cI _ hc0 hc1).mono ?_
    rw [hL]
    rintro e w2 ⟨rfl, rfl⟩
    go_wp2_with fail
    clear hby hc0 hc1
    go_loop [3] (fun i => ∃ k : Nat, k ≤ l.length ∧ i = .int .i64 k ∧ Hid ((l.take k).all wrd8 = true)) (fun i => l.length - (intOf i).toNat)
    case atStart => exact ⟨0, Nat.zero_le _, rfl, rfl⟩
    case round =>
      obtain ⟨k, hk, rfl, HK⟩ := hrel
      by_cases hlt : k < l.length
      · obtain ⟨cI, hcI⟩ : ∃ cI : Int, ((l[k]?.getD 0).toNat : Int) = cI := ⟨_, rfl⟩
        have hby : ∀ h, (((ByteArray.mk l.toArray)[k]'h).toNat : Int) = cI := fun h => (byte_at l k h).trans hcI
        have hcb : 0 ≤ cI ∧ cI ≤ 255 := by have := (l[k]?.getD 0).toNat_lt; omega
        obtain ⟨hc0, hc1⟩ := hcb
        have HW8 : Hid (wrd8 (l[k]?.getD 0) = (ltrI cI || digI cI)) := by show (ltrI _ || digI _) = _; rw [hcI]
        have HTk := Lib.hid (take_snoc hlt)
        have HNx : Hid ((ltrI cI || digI cI) = true → (l.take (k + 1)).all wrd8 = true) := fun h => by
          rw [HTk.out, List.all_append, HK.out, Bool.true_and]
          show (wrd8 _ && true) = true
          rw [HW8.out, h]
          rfl
        have HNo : Hid ((ltrI cI || digI cI) = false → r = false) := fun h => by
          rw [← HR.out, List.all_eq_false]
          refine ⟨l[k]?.getD 0, ?_, by rw [HW8.out, h]; simp⟩
          rw [List.getElem?_eq_getElem hlt]
          exact List.getElem_mem hlt
        have hk0 : (0 : Int) ≤ (k : Int) := by omega
        have hk1 : (k : Int) < (l.length : Int) := by omega
        clear hcI
        cases hLk : ltrI cI
        · cases hD : digI cI
          · have HV2 := Lib.hid (HNo.out (by rw [hLk, hD]; rfl))
            have hor : cI < 48 ∨ 48 ≤ cI ∧ 57 < cI := by unfold digI at hD; simp at hD; omega
            rcases hor with h48 | ⟨h48, h57⟩
            all_goals
              go_wp2_with fail
              refine (c_bletter cI _ hc0 hc1).mono ?_
              rw [hLk]
              rintro e w2 ⟨rfl, rfl⟩
              go_wp2_with fail
              go_ret
              exact ⟨ret_b HV2.out.symm, rfl⟩
          · have HA2 := Lib.hid (HNx.out (by rw [hLk, hD]; rfl))
            have hin : 48 ≤ cI ∧ cI ≤ 57 := by unfold digI at hD; simpa using hD
            obtain ⟨h48, h57⟩ := hin
            go_wp2_with fail
            refine (c_bletter cI _ hc0 hc1).mono ?_
            rw [hLk]
            rintro e w2 ⟨rfl, rfl⟩
            go_wp2_with fail
            go_round
            case rel => exact ⟨k + 1, by omega, by go_num, HA2.out⟩
            case measure => simp [intOf]; omega
        · have HA2 := Lib.hid (HNx.out (by rw [hLk]; rfl))
          go_wp2_with fail
          refine (c_bletter cI _ hc0 hc1).mono ?_
          rw [hLk]
          rintro e w2 ⟨rfl, rfl⟩
          go_wp2_with fail
          go_round
          case rel => exact ⟨k + 1, by omega, by go_num, HA2.out⟩
          case measure => simp [intOf]; omega
      · have hge : decide (k < l.length) = false := by simp; omega
        have HV2 : Hid (r = true) := by
          have h := HK.out
          rw [List.take_of_length_le (by omega)] at h
          exact HR.out.symm.trans h
        clear hk hlt
        go_wp2_with fail
        go_ret
        exact ⟨ret_b HV2.out.symm, rfl⟩
set_option maxHeartbeats 2000000 in
theorem c_bName (l : List UInt8) (w : World) (hl : l.length ≤ 9223372036854775807) :
    Calls Tryz.prog 67 #[.string ⟨l.toArray⟩] w fun e w' => e = .returned (.bool (nameB l)) ∧ Below w.heap.size w w' := by
  have HN : Hid (nameB l = (decide (l.length ≤ 31) && wordB l && !keyB l)) := by show _ = _; unfold nameB; rfl
  rw [HN.out]
  by_cases h1 : l.length ≤ 31
  · have hd : decide ((l.length : Int) ≤ 31) = true := by simp; omega
    have HD : Hid (decide (l.length ≤ 31) = true) := by show _ = _; simp [h1]
    rw [HD.out]
    cases hw : wordB l
    · go_enter Tryz.func67, Tryz.ntmps67
      go_wp2_with fail
      refine (c_bWord l _ (by omega)).mono ?_
      rw [hw]
      rintro e w2 ⟨rfl, rfl⟩
      go_wp2_with fail
      go_ret
      exact ⟨rfl, Below.refl _ _⟩
    · cases hk : keyB l
      all_goals
        go_enter Tryz.func67, Tryz.ntmps67
        go_wp2_with fail
        refine (c_bWord l _ (by omega)).mono ?_
        rw [hw]
        rintro e w2 ⟨rfl, rfl⟩
        go_wp2_with fail
        refine (c_bKey l _).mono ?_
        rw [hk]
        rintro e w2 ⟨rfl, hb⟩
        go_wp2_with fail
        go_ret
        exact ⟨rfl, hb⟩
  · have hd : decide ((l.length : Int) ≤ 31) = false := by simp; omega
    have HD : Hid (decide (l.length ≤ 31) = false) := by show _ = _; simp; omega
    rw [HD.out]
    go_enter Tryz.func67, Tryz.ntmps67
    go_wp2_with fail
    go_ret
    exact ⟨rfl, Below.refl _ _⟩
theorem dg_eq (c : UInt8) : dgB c = dig8 c := by
  unfold dgB dig8 digI
  congr 1
  · congr 1
    apply propext
    omega
  · congr 1
    apply propext
    omega
theorem wv_val (d : List UInt8) : ∀ (e : List UInt8) (acc : Nat), e.all dig8 = true → wv d = (acc : Int) → wv (d ++ e) = (valF acc e : Int) := by
  intro e
  induction e generalizing d with
  | nil => intro acc _ h; rw [List.append_nil]; exact h
  | cons c e ih =>
    intro acc ha h
    rw [List.all_cons, Bool.and_eq_true] at ha
    obtain ⟨c1, c2⟩ := dig_val ha.1
    have h2 := ih (d ++ [c]) (acc * 10 + (c.toNat - 48)) ha.2 (by rw [wv_snoc, h]; omega)
    rw [List.append_assoc, List.singleton_append] at h2
    exact h2
/-- The document's whole number and the reader's count. -/
theorem wh_tie (d : List UInt8) (ha : d.all dig8 = true) : whO d = (whP d).isSome ∧ ∀ n, whP d = some n → whN d = (n : Int) := by
  have hv : wv d = (valF 0 d : Int) := wv_val [] d 0 ha rfl
  have had : d.all dgB = true := List.all_eq_true.2 fun c hc => by rw [dg_eq]; exact List.all_eq_true.1 ha c hc
  have hh : (d[0]?.getD 0 = 48) = (d.head? = some 48) ∨ d = [] := by
    cases d with
    | nil => exact .inr rfl
    | cons c r => exact .inl (by simp)
  rcases hh with hh | rfl
  · have hb : whB d = (decide (d ≠ []) && decide (d.length ≤ 15) && !(decide (1 < d.length) && decide (d.head? = some 48))) := by
      unfold whB
      rw [had, Bool.and_true]
      simp only [hh]
      cases d <;> rfl
    unfold whO whN whP
    rw [hb, hv]
    by_cases h0 : d = []
    · subst h0; exact ⟨rfl, fun n h => by cases h⟩
    · by_cases h1 : d.length ≤ 15
      · by_cases h2 : 1 < d.length
        · by_cases h3 : d.head? = some 48
          · simp [h0, h1, h2, h3]
          · by_cases h4 : valF 0 d ≤ 1099511627776
            · have h5 : (valF 0 d : Int) ≤ 1099511627776 := by omega
              simp [h0, h1, h2, h3, h4, h5]
            · have h5 : ¬ (valF 0 d : Int) ≤ 1099511627776 := by omega
              simp [h0, h1, h2, h3, h4, h5]
        · by_cases h4 : valF 0 d ≤ 1099511627776
          · have h5 : (valF 0 d : Int) ≤ 1099511627776 := by omega
            simp [h0, h1, h2, h4, h5]
          · have h5 : ¬ (valF 0 d : Int) ≤ 1099511627776 := by omega
            simp [h0, h1, h2, h4, h5]
      · simp [h0, h1]
  · refine ⟨?_, fun n h => by unfold whP at h; simp at h⟩
    unfold whO whB whP
    rfl
end Go.Proofs.YtacbjhbiaaieoaaGreatDoor
