/-
  The contracts of the document's own look at a type: its letter, what it is of, in the code.
-/
import Derived.Test.YtacbjhbiaaieoaaGreatDoorTyRl
import Derived.Test.YtacbjhbiaaieoaaGreatDoorTyRm
import Derived.Test.YtacbjhbiaaieoaaGreatDoorTyTw
namespace Go.Proofs.YtacbjhbiaaieoaaGreatDoor
set_option linter.unusedVariables false
set_option linter.unusedSimpArgs false
set_option maxRecDepth 100000
open Go.RowKit

set_option maxHeartbeats 4000000 in
theorem nx_fn (m : Nat) (hN : NxC m) (l : List UInt8) (k : Nat) (hcI : ((l[k]?.getD 0).toNat : Int) = 102) (w : World) (hk : k < l.length) (hl : l.length ≤ 65536) (hm : l.length - k ≤ m + 1) :
    Calls Tryz.prog 44 #[.string ⟨l.toArray⟩, .int .i64 k] w fun e w' => NxR l k w e w' := by
  have hby : ∀ h, (((ByteArray.mk l.toArray)[k]'h).toNat : Int) = 102 := fun h => (byte_at l k h).trans hcI
  have hj0 : (0 : Int) ≤ (k : Int) := by omega
  have hj1 : (k : Int) < (l.length : Int) := by omega
  have hge : decide (l.length ≤ k) = false := by simp; omega
  have HS := Lib.hid (c_signed m hN l k hcI w hk hl hm)
  clear hcI hk hl hm hN
  go_enter Tryz.func44, Tryz.ntmps44
  go_wp2_with fail
  refine HS.out.mono ?_
  rintro e w2 ⟨⟨j, q, rfl, hq⟩, hb⟩
  have HD : Hid (NxR l k w (.returned (.tuple #[.int .i64 j, .bool q])) w2) := ⟨⟨j, q, rfl, hq⟩, hb⟩
  clear hq hb
  go_wp2_with fail
  refine bodyPost_ret (v := .tuple #[.int .i64 j, .bool q]) (by simp [results, Tryz.results44, go_sem]) rfl ?_
  exact HD.out
theorem nx_zero : NxC 0 := fun l k w hk hl hm => by
  obtain rfl : k = l.length := by omega
  exact nx_end l w hl
theorem nx_succ (m : Nat) (hN : NxC m) : NxC (m + 1) := fun l k w hk hl hm => by
  by_cases hkl : k = l.length
  · subst hkl
    exact nx_end l w hl
  · have hlt : k < l.length := by omega
    obtain ⟨cI, hcI⟩ : ∃ cI : Int, ((l[k]?.getD 0).toNat : Int) = cI := ⟨_, rfl⟩
    by_cases hb : cI = 118 ∨ cI = 99 ∨ cI = 115 ∨ cI = 105 ∨ cI = 117 ∨ cI = 106
    · exact nx_base l k cI hcI w hlt hl hb
    · by_cases h1 : cI = 112
      · exact nx_ptr m hN l k (by rw [hcI, h1]) w hlt hl hm
      · by_cases h2 : cI = 97
        · exact nx_arr m hN l k (by rw [hcI, h2]) w hlt hl hm
        · by_cases h3 : cI = 83
          · exact nx_str l k (by rw [hcI, h3]) w hlt hl
          · by_cases h4 : cI = 102
            · exact nx_fn m hN l k (by rw [hcI, h4]) w hlt hl hm
            · exact nx_oth l k cI hcI w hlt hl hb h1 h2 h3 h4
theorem c_rnext : ∀ m, NxC m
  | 0 => nx_zero
  | m + 1 => nx_succ m (c_rnext m)
set_option maxHeartbeats 4000000 in
/-- A type's form, as the document has it. -/
theorem c_rForm (l : List UInt8) (w : World) (hm : l.length ≤ 9223372036854775807) :
    Calls Tryz.prog 11 #[.string ⟨l.toArray⟩] w fun e w' => e = .returned (.bool (tk l).isSome) ∧ Below w.heap.size w w' := by
  by_cases hl : l.length ≤ 65536
  · have hgt : decide (65536 < l.length) = false := by simp; omega
    have hgtI : decide ((65536 : Int) < (l.length : Int)) = false := by simp; omega
    have HN := Lib.hid (c_rnext l.length l 0 w (Nat.zero_le _) hl (by omega))
    have HT := Lib.hid (tyR_rd l)
    have HK : Hid (tk l = tyR l) := by show _ = _; unfold tk; rw [if_pos hl]
    obtain ⟨Q, hQ⟩ : ∃ Q, (tk l).isSome = Q := ⟨_, rfl⟩
    rw [hQ]
    have HQ := Lib.hid hQ
    clear hl hQ
    go_enter Tryz.func11, Tryz.ntmps11
    go_wp2_with fail
    refine HN.out.mono ?_
    rintro e w2 ⟨⟨j, q, rfl, hq⟩, hb⟩
    have HB := Lib.hid hb
    rw [List.drop_zero] at hq
    rcases hq with ⟨t, y, h1, rfl, rfl⟩ | ⟨h1, rfl⟩
    · have hs := rd_suf h1
      have hpy : plc l y = l.length - y.length := rfl
      have hyl : y.length ≤ l.length := by rw [hs, List.length_append]; omega
      have HR : Hid ((tk l).isSome = (((plc l y : Nat) : Int) == (l.length : Int))) := by
        show _ = _
        rw [HK.out, HT.out, h1]
        cases y with
        | nil =>
          have : plc l [] = l.length := rfl
          rw [this]
          simp
        | cons c y =>
          have : ¬ ((plc l (c :: y) : Nat) : Int) = (l.length : Int) := by
            rw [hpy]
            rw [List.length_cons] at hyl ⊢
            omega
          simp [this]
      clear hb hs hpy hyl h1
      cases he : (((plc l y : Nat) : Int) == (l.length : Int))
      all_goals
        rw [he] at HR
        have hq : Q = _ := HQ.out.symm.trans HR.out
        subst hq
        have he2 : (plc l y == l.length) = _ := (show (plc l y == l.length) = (((plc l y : Nat) : Int) == (l.length : Int)) by rw [Bool.eq_iff_iff]; simp; omega).trans he
        go_wp2_with fail
        go_ret
        exact ⟨rfl, HB.out⟩
    · have HR : Hid ((tk l).isSome = false) := by
        show _ = _
        rw [HK.out, HT.out, h1]
        rfl
      have hq : Q = _ := HQ.out.symm.trans HR.out
      subst hq
      clear hb h1
      go_wp2_with fail
      go_ret
      exact ⟨rfl, HB.out⟩
  · have hgt : decide (65536 < l.length) = true := by simp; omega
    have hgtI : decide ((65536 : Int) < (l.length : Int)) = true := by simp; omega
    have HR : Hid ((tk l).isSome = false) := by show _ = _; unfold tk; rw [if_neg hl]; rfl
    rw [HR.out]
    clear hl
    go_enter Tryz.func11, Tryz.ntmps11
    go_wp2_with fail
    go_ret
    exact ⟨rfl, Below.refl _ _⟩
end Go.Proofs.YtacbjhbiaaieoaaGreatDoor
namespace Go.Proofs.YtacbjhbiaaieoaaGreatDoor
set_option linter.unusedVariables false
set_option linter.unusedSimpArgs false
set_option maxRecDepth 100000
open Go.RowKit

theorem code_let (t : Ty) : ∃ r, t.code = t.letter :: r := by
  cases t with
  | base c => exact ⟨_, rfl⟩
  | ptr t => exact ⟨_, rfl⟩
  | arr n t => exact ⟨_, rfl⟩
  | str s => exact ⟨_, rfl⟩
  | fn ps r => cases ps <;> exact ⟨_, rfl⟩
theorem c_rkind (t : Ty) (w : World) :
    Calls Tryz.prog 56 #[.string ⟨t.code.toArray⟩] w fun e w' => e = .returned (.int .u8 t.letter.toNat) ∧ w' = w := by
  obtain ⟨r, hr⟩ := code_let t
  obtain ⟨cI, hcI⟩ : ∃ cI : Int, (t.letter.toNat : Int) = cI := ⟨_, rfl⟩
  have hby : ∀ h, (((ByteArray.mk t.code.toArray)[0]'h).toNat : Int) = cI := fun h => (byte_at t.code 0 h).trans (by rw [hr]; exact hcI)
  have hln : (0 : Int) < (t.code.length : Int) := by rw [hr, List.length_cons]; omega
  have hln2 : 0 < t.code.length := by omega
  rw [hcI]
  clear hcI hr
  go_enter Tryz.func56, Tryz.ntmps56
  go_wp2_with fail
  go_ret
  exact ⟨rfl, rfl⟩
set_option maxHeartbeats 4000000 in
theorem c_rinner_ptr (u : Ty) (w : World) (hl : (Ty.ptr u).code.length ≤ 65536) :
    Calls Tryz.prog 57 #[.string ⟨(Ty.ptr u).code.toArray⟩] w fun e w' => e = .returned (.tuple #[.string ⟨u.code.toArray⟩, .int .i64 0]) ∧ Below w.heap.size w w' := by
  have HK := Lib.hid (c_rkind (.ptr u))
  have hk0 : (((Ty.ptr u).letter.toNat : Int)) = 112 := rfl
  rw [hk0] at HK
  have hex : (⟨(Ty.ptr u).code.toArray⟩ : ByteArray).extract 1 (Ty.ptr u).code.length = ⟨u.code.toArray⟩ := by rw [ext_end]; rfl
  have hln : (1 : Int) ≤ ((Ty.ptr u).code.length : Int) := by show (1 : Int) ≤ (((112 :: u.code).length : Nat) : Int); rw [List.length_cons]; omega
  have hln2 : 1 ≤ (Ty.ptr u).code.length := by omega
  obtain ⟨l, hlc⟩ : ∃ l, (Ty.ptr u).code = l := ⟨_, rfl⟩
  rw [hlc] at HK hex hln hln2 ⊢
  clear hl hlc hk0
  go_enter Tryz.func57, Tryz.ntmps57
  go_wp2_with fail
  refine (HK.out _).mono ?_
  rintro e w2 ⟨rfl, rfl⟩
  go_wp2_with fail
  refine bodyPost_ret (v := .tuple #[.string ⟨u.code.toArray⟩, .int .i64 0]) (by simp [results, Tryz.results57, go_sem]) rfl ?_
  exact ⟨rfl, Below.refl _ _⟩
set_option maxHeartbeats 4000000 in
theorem c_rinner_arr (n : Nat) (u : Ty) (w : World) (hn : n ≤ 1099511627776) (hl : (Ty.arr n u).code.length ≤ 65536) :
    Calls Tryz.prog 57 #[.string ⟨(Ty.arr n u).code.toArray⟩] w fun e w' => e = .returned (.tuple #[.string ⟨u.code.toArray⟩, .int .i64 n]) ∧ Below w.heap.size w w' := by
  have HK := Lib.hid (c_rkind (.arr n u))
  have hk0 : (((Ty.arr n u).letter.toNat : Int)) = 97 := rfl
  rw [hk0] at HK
  have hcode : (Ty.arr n u).code = 97 :: (Lib.decDigits n ++ 58 :: u.code) := rfl
  have hlen : (Ty.arr n u).code.length = 1 + (Lib.decDigits n).length + 1 + u.code.length := by
    rw [hcode]
    simp only [List.length_cons, List.length_append]
    omega
  have hd1 : (Ty.arr n u).code.drop 1 = Lib.decDigits n ++ 58 :: u.code := rfl
  have htw : twD (Ty.arr n u).code 1 = (Lib.decDigits n).length := by
    unfold twD
    rw [hd1, tw_dec]
  obtain ⟨D, hD⟩ : ∃ D, 1 + (Lib.decDigits n).length = D := ⟨_, rfl⟩
  have HDg := Lib.hid (fun w => c_rdigits (Ty.arr n u).code 1 w (by omega) hl)
  rw [htw, hD] at HDg
  have hex1 : (⟨(Ty.arr n u).code.toArray⟩ : ByteArray).extract 1 D = ⟨(Lib.decDigits n).toArray⟩ := by
    rw [ext_sub, hd1, show D - 1 = (Lib.decDigits n).length by omega, List.take_left]
  have hex2 : (⟨(Ty.arr n u).code.toArray⟩ : ByteArray).extract (D + 1) (Ty.arr n u).code.length = ⟨u.code.toArray⟩ := by
    rw [ext_end, hcode, ← hD]
    congr 2
    rw [show 1 + (Lib.decDigits n).length + 1 = ((Lib.decDigits n).length + 1) + 1 by omega, List.drop_succ_cons, List.drop_append]
    simp
  have hdl : (Lib.decDigits n).length ≤ 15 := dec_len15 hn
  have hwn : whN (Lib.decDigits n) = (n : Int) := (wh_tie _ (dec_all n)).2 n (by
    unfold whP
    rw [valF_dec n n (Nat.le_refl _), if_pos ⟨by rw [Lib.decDigits]; split <;> simp, hdl, dec_head n n (Nat.le_refl _), hn⟩])
  have HWh := Lib.hid (fun w => c_Whole (Lib.decDigits n) w (by omega))
  rw [hwn] at HWh
  obtain ⟨l, hlc⟩ : ∃ l, (Ty.arr n u).code = l := ⟨_, rfl⟩
  obtain ⟨ds, hds⟩ : ∃ ds, Lib.decDigits n = ds := ⟨_, rfl⟩
  obtain ⟨qo, hqo⟩ : ∃ q, whO (Lib.decDigits n) = q := ⟨_, rfl⟩
  rw [hqo] at HWh
  rw [hlc] at HK HDg hex1 hex2 hlen hl ⊢
  rw [hds] at hex1 HWh hlen
  have hD1 : (1 : Int) ≤ (D : Int) := by omega
  have hD1n : 1 ≤ D := by omega
  have hD2 : (D : Int) + 1 ≤ (l.length : Int) := by rw [hds] at hD; omega
  have hD3 : (D : Int) ≤ (l.length : Int) := by omega
  have hD0 : (0 : Int) ≤ (D : Int) + 1 := by omega
  have hD4 : (0 : Int) ≤ (D : Int) := by omega
  have hwm : IntKind.i64.wrap ((D : Int) + 1) = ((D + 1 : Nat) : Int) := by rw [IntKind.wrap_i64]; omega
  clear hl hlc hk0 hcode hlen hd1 htw hD hdl hwn hds hqo hn
  go_enter Tryz.func57, Tryz.ntmps57
  go_wp2_with fail
  refine (HK.out _).mono ?_
  rintro e w2 ⟨rfl, rfl⟩
  go_wp2_with fail
  refine (HDg.out _).mono ?_
  rintro e w3 ⟨rfl, m, rfl⟩
  go_wp2_with fail
  refine (HWh.out _).mono ?_
  rintro e w4 ⟨rfl, hw⟩
  subst hw
  go_wp2_with fail
  refine bodyPost_ret (v := .tuple #[.string ⟨u.code.toArray⟩, .int .i64 n]) (by simp [results, Tryz.results57, go_sem]) rfl ?_
  exact ⟨rfl, below_drewN (Below.refl _ _) _⟩
/-- Is a text an integer's code? -/
def riI (l : List UInt8) : Bool := l == [99] || l == [115] || l == [105] || l == [117]
theorem c_rIsInt (l : List UInt8) (w : World) :
    Calls Tryz.prog 38 #[.string ⟨l.toArray⟩] w fun e w' => e = .returned (.bool (riI l)) ∧ w' = w := by
  unfold riI
  cases h1 : l == [99]
  all_goals
    cases h2 : l == [115]
    all_goals
      cases h3 : l == [105]
      all_goals
        cases h4 : l == [117]
        all_goals
          go_enter Tryz.func38, Tryz.ntmps38
          go_wp2_with fail
          go_ret
          exact ⟨rfl, rfl⟩
theorem ri_int (t : Ty) (h : t.wf) : riI t.code = intI t.letter.toNat := by
  cases t with
  | base c =>
    have hc : baseC c = true := h
    unfold baseC at hc
    simp at hc
    rcases hc with ((((hc | hc) | hc) | hc) | hc) | hc <;> (subst hc; rfl)
  | ptr t => rfl
  | arr n t => rfl
  | str s => rfl
  | fn ps r => cases ps <;> rfl
set_option maxHeartbeats 4000000 in
theorem c_rIsScalar (l : List UInt8) (w : World) (hm : l.length ≤ 9223372036854775807) :
    Calls Tryz.prog 40 #[.string ⟨l.toArray⟩] w fun e w' => e = .returned (.bool (match tk l with | none => false | some t => scaI t.letter.toNat)) ∧ Below w.heap.size w w' := by
  have HF := Lib.hid (c_rForm l w hm)
  have HI := Lib.hid (c_rIsInt l)
  rcases ho : tk l with _ | t
  · rw [ho] at HF
    show Calls _ _ _ w fun e w' => e = .returned (.bool false) ∧ Below w.heap.size w w'
    clear ho
    go_enter Tryz.func40, Tryz.ntmps40
    go_wp2_with fail
    refine HF.out.mono ?_
    rintro e w2 ⟨rfl, hb⟩
    have HB := Lib.hid hb
    clear hb
    rw [show (none : Option Ty).isSome = false from rfl]
    go_wp2_with fail
    go_ret
    exact ⟨rfl, HB.out⟩
  · rw [ho] at HF
    obtain ⟨hwf, hlc, _⟩ := tk_some ho
    have HK := Lib.hid (c_rkind t)
    rw [← hlc] at HK
    have hi : riI l = intI t.letter.toNat := by rw [hlc]; exact ri_int t hwf
    rw [hi] at HI
    show Calls _ _ _ w fun e w' => e = .returned (.bool (scaI t.letter.toNat)) ∧ Below w.heap.size w w'
    unfold scaI
    obtain ⟨x0, hx0⟩ : ∃ x : Int, (t.letter.toNat : Int) = x := ⟨_, rfl⟩
    rw [hx0] at HI HK ⊢
    clear ho hwf hlc hi hx0
    cases h1 : intI x0
    all_goals
      cases h2 : x0 == 112
      all_goals
        rw [h1] at HI
        go_enter Tryz.func40, Tryz.ntmps40
        go_wp2_with fail
        refine HF.out.mono ?_
        rintro e w2 ⟨rfl, hb⟩
        have HB := Lib.hid hb
        clear hb
        rw [show (some t).isSome = true from rfl]
        go_wp2_with fail
        refine (HI.out _).mono ?_
        rintro e w3 ⟨rfl, rfl⟩
        first
          | (go_wp2_with fail
             go_ret
             exact ⟨rfl, HB.out⟩)
          | (go_wp2_with fail
             refine (HK.out _).mono ?_
             rintro e w4 ⟨rfl, rfl⟩
             go_wp2_with fail
             go_ret
             exact ⟨rfl, HB.out⟩)
end Go.Proofs.YtacbjhbiaaieoaaGreatDoor
