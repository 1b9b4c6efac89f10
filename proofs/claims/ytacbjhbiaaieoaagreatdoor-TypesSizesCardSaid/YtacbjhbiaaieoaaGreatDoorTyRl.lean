/-
  The contract of the document's own reader of a type, in the code: a struct.
-/
import Derived.Test.YtacbjhbiaaieoaaGreatDoorTyRi
namespace Go.Proofs.YtacbjhbiaaieoaaGreatDoor
set_option linter.unusedVariables false
set_option linter.unusedSimpArgs false
set_option maxRecDepth 100000
open Go.RowKit

/-- What the document's reader answers. -/
def NxR (l : List UInt8) (k : Nat) (w : World) (e : Ending) (w' : World) : Prop :=
  (∃ (j : Int) (q : Bool), e = .returned (.tuple #[.int .i64 j, .bool q]) ∧ ((∃ t y, rd (l.drop k) = some (t, y) ∧ q = true ∧ j = ((plc l y : Nat) : Int)) ∨ (rd (l.drop k) = none ∧ q = false))) ∧ Below w.heap.size w w'
def NxC (m : Nat) : Prop := ∀ (l : List UInt8) (k : Nat) (w : World), k ≤ l.length → l.length ≤ 65536 → l.length - k ≤ m →
  Calls Tryz.prog 44 #[.string ⟨l.toArray⟩, .int .i64 k] w fun e w' => NxR l k w e w'
theorem drop_at {l : List UInt8} {k : Nat} (h : k < l.length) : l.drop k = l[k]?.getD 0 :: l.drop (k + 1) := by
  rw [List.drop_eq_getElem_cons h, List.getElem?_eq_getElem h]
  rfl
set_option maxHeartbeats 4000000 in
theorem nx_base (l : List UInt8) (k : Nat) (cI : Int) (hcI : ((l[k]?.getD 0).toNat : Int) = cI) (w : World) (hk : k < l.length) (hl : l.length ≤ 65536) (hb : cI = 118 ∨ cI = 99 ∨ cI = 115 ∨ cI = 105 ∨ cI = 117 ∨ cI = 106) :
    Calls Tryz.prog 44 #[.string ⟨l.toArray⟩, .int .i64 k] w fun e w' => NxR l k w e w' := by
  have hby : ∀ h, (((ByteArray.mk l.toArray)[k]'h).toNat : Int) = cI := fun h => (byte_at l k h).trans hcI
  have hj0 : (0 : Int) ≤ (k : Int) := by omega
  have hj1 : (k : Int) < (l.length : Int) := by omega
  have hge : decide ((l.length : Int) ≤ (k : Int)) = false := by simp; omega
  have hwm : IntKind.i64.wrap ((k : Int) + 1) = ((k + 1 : Nat) : Int) := by rw [IntKind.wrap_i64]; omega
  have HR : Hid (rd (l.drop k) = some (.base (l[k]?.getD 0), l.drop (k + 1)) ∧ plc l (l.drop (k + 1)) = k + 1) := by
    refine ⟨?_, plc_drop (by omega)⟩
    rw [drop_at hk]
    refine rd_base _ _ ?_
    have e : ∀ (n : Nat), n < 256 → cI = (n : Int) → l[k]?.getD 0 = UInt8.ofNat n := fun n hn h => by
      apply UInt8.toNat_inj.1
      have := of_eq_true (rfl : (True) = True)
      simp
      omega
    rcases hb with h | h | h | h | h | h
    · rw [e 118 (by decide) h]; rfl
    · rw [e 99 (by decide) h]; rfl
    · rw [e 115 (by decide) h]; rfl
    · rw [e 105 (by decide) h]; rfl
    · rw [e 117 (by decide) h]; rfl
    · rw [e 106 (by decide) h]; rfl
  have HD : Hid (∀ w', Below w.heap.size w w' → NxR l k w (.returned (.tuple #[.int .i64 ((k : Int) + 1), .bool true])) w') := fun w' h => ⟨⟨_, true, rfl, .inl ⟨_, _, HR.out.1, rfl, by rw [HR.out.2]; rfl⟩⟩, h⟩
  clear hcI hk hl
  rcases hb with rfl | rfl | rfl | rfl | rfl | rfl
  all_goals
    go_enter Tryz.func44, Tryz.ntmps44
    go_wp2_with fail
    refine bodyPost_ret (v := .tuple #[.int .i64 ((k : Int) + 1), .bool true]) (by simp [results, Tryz.results44, go_sem]) rfl ?_
    exact HD.out _ (Below.refl _ _)
set_option maxHeartbeats 4000000 in
theorem nx_end (l : List UInt8) (w : World) (hl : l.length ≤ 65536) :
    Calls Tryz.prog 44 #[.string ⟨l.toArray⟩, .int .i64 l.length] w fun e w' => NxR l l.length w e w' := by
  have HD : Hid (NxR l l.length w (.returned (.tuple #[.int .i64 0, .bool false])) w) := ⟨⟨_, false, rfl, .inr ⟨by rw [List.drop_length]; rfl, rfl⟩⟩, Below.refl _ _⟩
  clear hl
  go_enter Tryz.func44, Tryz.ntmps44
  go_wp2_with fail
  refine bodyPost_ret (v := .tuple #[.int .i64 0, .bool false]) (by simp [results, Tryz.results44, go_sem]) rfl ?_
  exact HD.out
set_option maxHeartbeats 4000000 in
theorem nx_oth (l : List UInt8) (k : Nat) (cI : Int) (hcI : ((l[k]?.getD 0).toNat : Int) = cI) (w : World) (hk : k < l.length) (hl : l.length ≤ 65536) (hb : ¬ (cI = 118 ∨ cI = 99 ∨ cI = 115 ∨ cI = 105 ∨ cI = 117 ∨ cI = 106)) (h1 : cI ≠ 112) (h2 : cI ≠ 97) (h3 : cI ≠ 83) (h4 : cI ≠ 102) :
    Calls Tryz.prog 44 #[.string ⟨l.toArray⟩, .int .i64 k] w fun e w' => NxR l k w e w' := by
  have hby : ∀ h, (((ByteArray.mk l.toArray)[k]'h).toNat : Int) = cI := fun h => (byte_at l k h).trans hcI
  have hj0 : (0 : Int) ≤ (k : Int) := by omega
  have hj1 : (k : Int) < (l.length : Int) := by omega
  have hge : decide ((l.length : Int) ≤ (k : Int)) = false := by simp; omega
  have hne : ∀ n : Nat, n < 256 → cI ≠ (n : Int) → l[k]?.getD 0 ≠ UInt8.ofNat n := fun n hn h e => h (by rw [← hcI, e]; simp; omega)
  have HD : Hid (NxR l k w (.returned (.tuple #[.int .i64 0, .bool false])) w) := by
    refine ⟨⟨_, false, rfl, .inr ⟨?_, rfl⟩⟩, Below.refl _ _⟩
    rw [drop_at hk]
    refine rd_none _ _ ?_ (hne 112 (by decide) h1) (hne 97 (by decide) h2) (hne 83 (by decide) h3) (hne 102 (by decide) h4)
    unfold baseC
    simp only [Bool.or_eq_false_iff, beq_eq_false_iff_ne]
    exact ⟨⟨⟨⟨⟨hne 118 (by decide) (fun e => hb (by simp [e])), hne 99 (by decide) (fun e => hb (by simp [e]))⟩, hne 115 (by decide) (fun e => hb (by simp [e]))⟩, hne 105 (by decide) (fun e => hb (by simp [e]))⟩, hne 117 (by decide) (fun e => hb (by simp [e]))⟩, hne 106 (by decide) (fun e => hb (by simp [e]))⟩
  have e1 : (cI == 118) = false := by simp; exact fun e => hb (by simp [e])
  have e2 : (cI == 99) = false := by simp; exact fun e => hb (by simp [e])
  have e3 : (cI == 115) = false := by simp; exact fun e => hb (by simp [e])
  have e4 : (cI == 105) = false := by simp; exact fun e => hb (by simp [e])
  have e5 : (cI == 117) = false := by simp; exact fun e => hb (by simp [e])
  have e6 : (cI == 106) = false := by simp; exact fun e => hb (by simp [e])
  have e7 : (cI == 112) = false := by simp [h1]
  have e8 : (cI == 97) = false := by simp [h2]
  have e9 : (cI == 83) = false := by simp [h3]
  have e0 : (cI == 102) = false := by simp [h4]
  clear hcI hk hl hne hb h1 h2 h3 h4
  go_enter Tryz.func44, Tryz.ntmps44
  go_wp2_with fail
  refine bodyPost_ret (v := .tuple #[.int .i64 0, .bool false]) (by simp [results, Tryz.results44, go_sem]) rfl ?_
  exact HD.out
set_option maxHeartbeats 4000000 in
theorem nx_ptr (m : Nat) (hN : NxC m) (l : List UInt8) (k : Nat) (hcI : ((l[k]?.getD 0).toNat : Int) = 112) (w : World) (hk : k < l.length) (hl : l.length ≤ 65536) (hm : l.length - k ≤ m + 1) :
    Calls Tryz.prog 44 #[.string ⟨l.toArray⟩, .int .i64 k] w fun e w' => NxR l k w e w' := by
  have hby : ∀ h, (((ByteArray.mk l.toArray)[k]'h).toNat : Int) = 112 := fun h => (byte_at l k h).trans hcI
  have hj0 : (0 : Int) ≤ (k : Int) := by omega
  have hj1 : (k : Int) < (l.length : Int) := by omega
  have hge : decide ((l.length : Int) ≤ (k : Int)) = false := by simp; omega
  have hwm : IntKind.i64.wrap ((k : Int) + 1) = ((k + 1 : Nat) : Int) := by rw [IntKind.wrap_i64]; omega
  have hc : l[k]?.getD 0 = 112 := by
    apply UInt8.toNat_inj.1
    show _ = 112
    omega
  have HNx := Lib.hid (hN l (k + 1) w (by omega) hl (by omega))
  have HR : Hid (rd (l.drop k) = (rd (l.drop (k + 1))).map fun p => (.ptr p.1, p.2)) := by
    show _ = _
    rw [drop_at hk, hc]
    exact rd_ptr _
  clear hcI hk hl hm hc hN
  go_enter Tryz.func44, Tryz.ntmps44
  go_wp2_with fail
  refine HNx.out.mono ?_
  rintro e w2 ⟨⟨j, q, rfl, hq⟩, hb⟩
  have HD : Hid (NxR l k w (.returned (.tuple #[.int .i64 j, .bool q])) w2) := by
    refine ⟨⟨j, q, rfl, ?_⟩, hb⟩
    rcases hq with ⟨t, y, h1, h2, h3⟩ | ⟨h1, h2⟩
    · exact .inl ⟨.ptr t, y, by rw [HR.out, h1]; rfl, h2, h3⟩
    · exact .inr ⟨by rw [HR.out, h1]; rfl, h2⟩
  clear hq hb
  go_wp2_with fail
  refine bodyPost_ret (v := .tuple #[.int .i64 j, .bool q]) (by simp [results, Tryz.results44, go_sem]) rfl ?_
  exact HD.out
end Go.Proofs.YtacbjhbiaaieoaaGreatDoor
namespace Go.Proofs.YtacbjhbiaaieoaaGreatDoor
set_option linter.unusedVariables false
set_option linter.unusedSimpArgs false
set_option maxRecDepth 100000
open Go.RowKit

theorem tw_take (r : List UInt8) : r.take (r.takeWhile dig8).length = r.takeWhile dig8 := by
  obtain ⟨y, hy⟩ := List.takeWhile_prefix (p := dig8) (l := r)
  have h := congrArg (List.take (r.takeWhile dig8).length) hy
  rw [List.take_left] at h
  exact h.symm
set_option maxHeartbeats 8000000 in
theorem nx_arr (m : Nat) (hN : NxC m) (l : List UInt8) (k : Nat) (hcI : ((l[k]?.getD 0).toNat : Int) = 97) (w : World) (hk : k < l.length) (hl : l.length ≤ 65536) (hm : l.length - k ≤ m + 1) :
    Calls Tryz.prog 44 #[.string ⟨l.toArray⟩, .int .i64 k] w fun e w' => NxR l k w e w' := by
  have hby : ∀ h, (((ByteArray.mk l.toArray)[k]'h).toNat : Int) = 97 := fun h => (byte_at l k h).trans hcI
  have hj0 : (0 : Int) ≤ (k : Int) := by omega
  have hj1 : (k : Int) < (l.length : Int) := by omega
  have hge : decide (l.length ≤ k) = false := by simp; omega
  have hwm : IntKind.i64.wrap ((k : Int) + 1) = ((k + 1 : Nat) : Int) := by rw [IntKind.wrap_i64]; omega
  have hc : l[k]?.getD 0 = 97 := by
    apply UInt8.toNat_inj.1
    show _ = 97
    omega
  obtain ⟨D, hD⟩ : ∃ D, k + 1 + twD l (k + 1) = D := ⟨_, rfl⟩
  obtain ⟨dl, hdl⟩ : ∃ dl, (l.drop (k + 1)).takeWhile dig8 = dl := ⟨_, rfl⟩
  have hDl : D = k + 1 + dl.length := by rw [← hD, ← hdl]; rfl
  have hle : D ≤ l.length := by
    have h1 := (List.takeWhile_prefix (p := dig8) (l := l.drop (k + 1))).length_le
    rw [hdl, List.length_drop] at h1
    omega
  have HDg := Lib.hid (c_rdigits l (k + 1) w (by omega) hl)
  rw [hD] at HDg
  have hall : dl.all dig8 = true := by
    rw [← hdl]
    exact List.all_eq_true.2 fun c hc => List.all_eq_true.1 List.all_takeWhile c hc
  have hex : (⟨l.toArray⟩ : ByteArray).extract (k + 1) D = ⟨dl.toArray⟩ := by
    rw [ext_sub]
    congr 2
    rw [show D - (k + 1) = dl.length by omega, ← hdl]
    exact tw_take _
  have HWh := Lib.hid (fun w => c_Whole dl w (by omega))
  obtain ⟨hwo, hwn⟩ := wh_tie dl hall
  have hdr : (l.drop (k + 1)).drop dl.length = l.drop D := by rw [List.drop_drop, hDl]
  have hdr1 : (l.drop (k + 1)).drop (dl.length + 1) = l.drop (D + 1) := by rw [List.drop_drop, hDl]; rfl
  have hct := cnt_tie (l.drop (k + 1))
  rw [hdl, hdr, hdr1] at hct
  have hrd : rd (l.drop k) = (cntP (l.drop (k + 1))).bind fun p => (rd p.2).map fun q => (.arr p.1 q.1, q.2) := by
    rw [drop_at hk, hc]
    exact rd_arr _
  rw [hct] at hrd
  have HNx : Hid (D < l.length → ∀ w, Calls Tryz.prog 44 #[.string ⟨l.toArray⟩, .int .i64 ((D + 1 : Nat) : Int)] w fun e w' => NxR l (D + 1) w e w') := fun h w => hN l (D + 1) w (by omega) hl (by omega)
  have HNo : Hid (rd (l.drop k) = none → ∀ w', Below w.heap.size w w' → NxR l k w (.returned (.tuple #[.int .i64 0, .bool false])) w') := fun h w' hb => ⟨⟨_, false, rfl, .inr ⟨h, rfl⟩⟩, hb⟩
  have hkD : (k : Int) + 1 ≤ (D : Int) := by omega
  have hkD2 : k + 1 ≤ D := by omega
  have hk10 : (0 : Int) ≤ (k : Int) + 1 := by omega
  have hD0 : (0 : Int) ≤ (D : Int) := by omega
  have hDl2 : (D : Int) ≤ (l.length : Int) := by omega
  have HRd := Lib.hid hrd
  have HLl := Lib.hid (And.intro hl hle)
  obtain ⟨qo, hqo⟩ : ∃ q, whO dl = q := ⟨_, rfl⟩
  rw [hqo] at HWh hwo
  have HWo := Lib.hid hwo
  obtain ⟨vn, hvn⟩ : ∃ v, whN dl = v := ⟨_, rfl⟩
  rw [hvn] at HWh
  clear hcI hc hD hdl hDl hall hwn hdr hdr1 hct hrd hN hqo hvn hm hwo hl hle hk
  go_enter Tryz.func44, Tryz.ntmps44
  go_wp2_with fail
  refine HDg.out.mono ?_
  rintro e w2 ⟨rfl, n, rfl⟩
  go_wp2_with fail
  refine (HWh.out _).mono ?_
  rintro e w3 ⟨rfl, hw3⟩
  subst hw3
  cases qo
  · have hnone : whP dl = none := by
      have := HWo.out
      cases hw : whP dl with
      | none => rfl
      | some x => rw [hw] at this; cases this
    have HX := Lib.hid (HNo.out (by rw [HRd.out, hnone]; rfl))
    clear hnone
    go_wp2_with fail
    refine bodyPost_ret (v := .tuple #[.int .i64 0, .bool false]) (by simp [results, Tryz.results44, go_sem]) rfl ?_
    exact HX.out _ (below_drewN (Below.refl _ _) _)
  · obtain ⟨vv, hvv⟩ : ∃ v, whP dl = some v := by
      have := HWo.out
      exact Option.isSome_iff_exists.1 this.symm
    have HRd2 : Hid (rd (l.drop k) = (if (l.drop D).head? = some 58 then some (vv, l.drop (D + 1)) else none).bind fun p => (rd p.2).map fun q => (.arr p.1 q.1, q.2)) := by
      show _ = _
      rw [HRd.out, hvv]
      rfl
    clear hvv
    by_cases hDe : D < l.length
    · have hge2 : decide (l.length ≤ D) = false := by simp; omega
      have hDlt : (D : Int) < (l.length : Int) := by omega
      obtain ⟨c2, hc2⟩ : ∃ c : Int, ((l[D]?.getD 0).toNat : Int) = c := ⟨_, rfl⟩
      have hby2 : ∀ h, (((ByteArray.mk l.toArray)[D]'h).toNat : Int) = c2 := fun h => (byte_at l D h).trans hc2
      have hwm2 : IntKind.i64.wrap ((D : Int) + 1) = ((D + 1 : Nat) : Int) := by rw [IntKind.wrap_i64]; have := HLl.out.1; omega
      have hhd : (l.drop D).head? = some (l[D]?.getD 0) := by rw [drop_at hDe]; rfl
      have HN2 := Lib.hid (HNx.out hDe)
      by_cases h58 : c2 = 58
      · subst h58
        have h8 : l[D]?.getD 0 = 58 := by
          apply UInt8.toNat_inj.1
          show _ = 58
          omega
        have HRd3 : Hid (rd (l.drop k) = (rd (l.drop (D + 1))).map fun q => (.arr vv q.1, q.2)) := by
          show _ = _
          rw [HRd2.out, hhd, h8, if_pos rfl]
          rfl
        clear hc2 hhd h8 hDe
        go_wp2_with fail
        refine (HN2.out _).mono ?_
        rintro e w4 ⟨⟨j, q, rfl, hq⟩, hb⟩
        have HD : Hid (NxR l k w (.returned (.tuple #[.int .i64 j, .bool q])) w4) := by
          refine ⟨⟨j, q, rfl, ?_⟩, (below_drewN (Below.refl w.heap.size w) n).trans hb⟩
          rcases hq with ⟨t, y, h1, h2, h3⟩ | ⟨h1, h2⟩
          · exact .inl ⟨.arr vv t, y, by rw [HRd3.out, h1]; rfl, h2, h3⟩
          · exact .inr ⟨by rw [HRd3.out, h1]; rfl, h2⟩
        clear hq hb
        go_wp2_with fail
        refine bodyPost_ret (v := .tuple #[.int .i64 j, .bool q]) (by simp [results, Tryz.results44, go_sem]) rfl ?_
        exact HD.out
      · have hne : (c2 == 58) = false := by simp [h58]
        have HX := Lib.hid (HNo.out (by
          rw [HRd2.out, hhd, if_neg]
          · rfl
          · intro e
            apply h58
            rw [← hc2, Option.some.inj e]
            rfl))
        clear hc2 hhd hDe h58
        go_wp2_with fail
        refine bodyPost_ret (v := .tuple #[.int .i64 0, .bool false]) (by simp [results, Tryz.results44, go_sem]) rfl ?_
        exact HX.out _ (below_drewN (Below.refl _ _) _)
    · have hge2 : decide (l.length ≤ D) = true := by simp; omega
      have HX := Lib.hid (HNo.out (by
        rw [HRd2.out, List.drop_of_length_le (by omega), if_neg (by simp)]
        rfl))
      clear hDe
      go_wp2_with fail
      refine bodyPost_ret (v := .tuple #[.int .i64 0, .bool false]) (by simp [results, Tryz.results44, go_sem]) rfl ?_
      exact HX.out _ (below_drewN (Below.refl _ _) _)
end Go.Proofs.YtacbjhbiaaieoaaGreatDoor
namespace Go.Proofs.YtacbjhbiaaieoaaGreatDoor
set_option linter.unusedVariables false
set_option linter.unusedSimpArgs false
set_option maxRecDepth 100000
open Go.RowKit

def notS (c : UInt8) : Bool := !(c == 59)
def nsD (l : List UInt8) (m : Nat) : Nat := ((l.drop m).takeWhile notS).length
theorem ns_end {l : List UInt8} {m : Nat} (h : l.length ≤ m) : nsD l m = 0 := by
  unfold nsD
  rw [List.drop_of_length_le h]
  rfl
theorem ns_step {l : List UInt8} {m : Nat} (h : m < l.length) : nsD l m = if notS (l[m]?.getD 0) = true then 1 + nsD l (m + 1) else 0 := by
  unfold nsD
  rw [List.drop_eq_getElem_cons h, List.getElem?_eq_getElem h]
  simp only [Option.getD_some]
  rw [List.takeWhile_cons]
  split
  · rw [List.length_cons]
    omega
  · rfl
theorem upTo_tw : ∀ (r : List UInt8), upTo 59 r = if (r.takeWhile notS).length < r.length then some (r.takeWhile notS, r.drop ((r.takeWhile notS).length + 1)) else none
  | [] => rfl
  | c :: r => by
    unfold upTo
    rw [List.takeWhile_cons]
    by_cases h : c = 59
    · subst h
      rfl
    · have hn : notS c = true := by unfold notS; simp [h]
      rw [if_neg h, hn, upTo_tw r]
      simp only [if_true, List.length_cons]
      by_cases h2 : (r.takeWhile notS).length < r.length
      · rw [if_pos h2, if_pos (by omega)]
        rfl
      · rw [if_neg h2, if_neg (by omega)]
        rfl
theorem ns_take (r : List UInt8) : r.take (r.takeWhile notS).length = r.takeWhile notS := by
  obtain ⟨y, hy⟩ := List.takeWhile_prefix (p := notS) (l := r)
  have h := congrArg (List.take (r.takeWhile notS).length) hy
  rw [List.take_left] at h
  exact h.symm
set_option maxHeartbeats 8000000 in
theorem nx_str (l : List UInt8) (k : Nat) (hcI : ((l[k]?.getD 0).toNat : Int) = 83) (w : World) (hk : k < l.length) (hl : l.length ≤ 65536) :
    Calls Tryz.prog 44 #[.string ⟨l.toArray⟩, .int .i64 k] w fun e w' => NxR l k w e w' := by
  have hby : ∀ h, (((ByteArray.mk l.toArray)[k]'h).toNat : Int) = 83 := fun h => (byte_at l k h).trans hcI
  have hj0 : (0 : Int) ≤ (k : Int) := by omega
  have hj1 : (k : Int) < (l.length : Int) := by omega
  have hge : decide (l.length ≤ k) = false := by simp; omega
  have hwm : IntKind.i64.wrap ((k : Int) + 1) = ((k + 1 : Nat) : Int) := by rw [IntKind.wrap_i64]; omega
  have hc : l[k]?.getD 0 = 83 := by
    apply UInt8.toNat_inj.1
    show _ = 83
    omega
  obtain ⟨E, hE⟩ : ∃ E, k + 1 + nsD l (k + 1) = E := ⟨_, rfl⟩
  obtain ⟨s, hs⟩ : ∃ s, (l.drop (k + 1)).takeWhile notS = s := ⟨_, rfl⟩
  have hEl : E = k + 1 + s.length := by rw [← hE, ← hs]; rfl
  have hle : E ≤ l.length := by
    have h1 := (List.takeWhile_prefix (p := notS) (l := l.drop (k + 1))).length_le
    rw [hs, List.length_drop] at h1
    omega
  have hex : (⟨l.toArray⟩ : ByteArray).extract (k + 1) E = ⟨s.toArray⟩ := by
    rw [ext_sub]
    congr 2
    rw [show E - (k + 1) = s.length by omega, ← hs]
    exact ns_take _
  have hrd : rd (l.drop k) = if E < l.length then if nameB s = true then some (.str s, l.drop (E + 1)) else none else none := by
    rw [drop_at hk, hc, rd_str]
    have hu := upTo_tw (l.drop (k + 1))
    rw [hs, List.length_drop, List.drop_drop] at hu
    unfold tagP
    rw [hu]
    by_cases h : E < l.length
    · rw [if_pos (by omega), if_pos h]
      simp only
      split
      · show some (Ty.str s, _) = _
        rw [show k + 1 + (s.length + 1) = E + 1 by omega]
      · rfl
    · rw [if_neg (by omega), if_neg h]
      rfl
  have hpl : E < l.length → ((plc l (l.drop (E + 1)) : Nat) : Int) = (E : Int) + 1 := fun h => by rw [plc_drop (by omega)]; rfl
  have HNm := Lib.hid (fun w => c_bName s w (by omega))
  have HH := Lib.hid (And.intro hrd (And.intro hpl (And.intro hl (And.intro hle hE))))
  have hk10 : (0 : Int) ≤ (k : Int) + 1 := by omega
  have hkE : (k : Int) + 1 ≤ (E : Int) := by omega
  have hkE2 : k + 1 ≤ E := by omega
  have hEl2 : (E : Int) ≤ (l.length : Int) := by omega
  have hE0 : (0 : Int) ≤ (E : Int) := by omega
  have HK := Lib.hid hk
  clear hcI hc hE hs hEl hle hrd hpl hk hl
  go_enter Tryz.func44, Tryz.ntmps44
  go_wp2_with fail
  go_loopg [9] (l.length + 1) (fun g v9 wr => ∃ m : Nat, l.length - m < g ∧ v9 = .int .i64 (m : Int) ∧ Hid (m ≤ l.length ∧ E = m + nsD l m) ∧ ∃ n, wr = w.drewN n)
  case atStart => exact ⟨k + 1, by omega, rfl, ⟨HK.out, HH.out.2.2.2.2.symm⟩, 0, by simp [World.drewN_zero]⟩
  case round =>
    obtain ⟨m, hm, rfl, HR, n, rfl⟩ := hrel
    by_cases hlt : m < l.length
    · have hd : decide ((m : Int) < (l.length : Int)) = true := by simp; omega
      obtain ⟨cI, hcI⟩ : ∃ cI : Int, ((l[m]?.getD 0).toNat : Int) = cI := ⟨_, rfl⟩
      have hby2 : ∀ h, (((ByteArray.mk l.toArray)[m]'h).toNat : Int) = cI := fun h => (byte_at l m h).trans hcI
      have hm0 : (0 : Int) ≤ (m : Int) := by omega
      have hm1 : (m : Int) < (l.length : Int) := by omega
      have hwm2 : IntKind.i64.wrap ((m : Int) + 1) = ((m + 1 : Nat) : Int) := by rw [IntKind.wrap_i64]; have := HH.out.2.2.1; omega
      have HS := Lib.hid (ns_step hlt)
      have HM : Hid (l.length - m - 1 < gk ∧ m + 1 ≤ l.length ∧ l.length - (m + 1) < l.length - m) := ⟨by omega, by omega, by omega⟩
      by_cases h59 : cI = 59
      · have hns : notS (l[m]?.getD 0) = false := by
          have : l[m]?.getD 0 = 59 := by
            apply UInt8.toNat_inj.1
            show _ = 59
            omega
          rw [this]
          rfl
        rw [hns] at HS
        have hEm : E = m := by have := HR.out.2; rw [HS.out] at this; simpa using this
        subst hEm
        have hEl : E < l.length := hlt
        have hwe : IntKind.i64.wrap ((E : Int) + 1) = (E : Int) + 1 := by rw [IntKind.wrap_i64]; have := HH.out.2.2.1; omega
        subst h59
        clear hcI hns hm hwm2
        have hdE : decide (E < l.length) = true := by simp; omega
        have hdI : decide ((E : Int) < (l.length : Int)) = true := hd
        cases hnm : nameB s
        all_goals
          have HX : Hid (∀ w', Below w.heap.size w w' → NxR l k w (.returned (.tuple #[.int .i64 ((E : Int) + 1), .bool (nameB s)])) w') := fun w' hb => by
            refine ⟨⟨_, _, rfl, ?_⟩, hb⟩
            rw [HH.out.1, if_pos hEl]
            rw [hnm]
            first
              | exact .inl ⟨_, _, if_pos rfl, rfl, (HH.out.2.1 hEl).symm⟩
              | exact .inr ⟨if_neg (by simp), rfl⟩
          rw [hnm] at HX
          have HNn := Lib.hid (HNm.out (w.drewN n))
          rw [hnm] at HNn
          clear hnm
          go_wp2_with fail
          refine HNn.out.mono ?_
          rintro e w4 ⟨rfl, hb⟩
          have HB4 := Lib.hid ((below_drewN (Below.refl w.heap.size w) n).trans hb)
          clear hb
          go_wp2_with fail
          refine bodyPost_ret (v := .tuple #[.int .i64 ((E : Int) + 1), .bool _]) (by simp [results, Tryz.results44, go_sem]; rfl) rfl ?_
          exact HX.out _ HB4.out
      · have hne : (cI == 59) = false := by simp [h59]
        have hns : notS (l[m]?.getD 0) = true := by
          unfold notS
          simp
          intro e
          apply h59
          rw [← hcI, e]
          rfl
        rw [hns] at HS
        have HN : Hid (m + 1 ≤ l.length ∧ E = m + 1 + nsD l (m + 1)) := ⟨HM.out.2.1, by have := HR.out.2; rw [HS.out] at this; simp at this; omega⟩
        have HG := Lib.hid hm
        clear hm hcI hns h59
        go_wp2_with fail
        go_roundg (l.length - m)
        case measure => exact HG.out
        case rel => exact ⟨m + 1, HM.out.2.2, rfl, HN, _, rfl⟩
    · have hd : decide ((m : Int) < (l.length : Int)) = false := by simp; omega
      have hEm : E = m := by
        have h := HR.out.2
        rw [ns_end (by omega)] at h
        exact h
      subst hEm
      have hwe : IntKind.i64.wrap ((E : Int) + 1) = (E : Int) + 1 := by rw [IntKind.wrap_i64]; have := HH.out.2.2; omega
      have HX : Hid (∀ w', Below w.heap.size w w' → NxR l k w (.returned (.tuple #[.int .i64 ((E : Int) + 1), .bool false])) w') := fun w' hb => ⟨⟨_, _, rfl, .inr ⟨by rw [HH.out.1, if_neg hlt], rfl⟩⟩, hb⟩
      have hdE : decide (E < l.length) = false := by simp; omega
      clear hm hlt
      go_wp2_with fail
      refine bodyPost_ret (v := .tuple #[.int .i64 ((E : Int) + 1), .bool false]) (by simp [results, Tryz.results44, go_sem]) rfl ?_
      exact HX.out _ (below_drewN (Below.refl _ _) _)
end Go.Proofs.YtacbjhbiaaieoaaGreatDoor
