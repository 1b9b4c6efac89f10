/-
  The contract of the library's ParseUint at the base 16, at 32 and at 8 bits, over any program that lays it: the number, or an error that is not nil.
-/
import Derived.Test.YtbccabpcljkamaaDoorLexT
import Derived.Shelf.Pu.ParseUintPublic10
import Derived.Lib.Hide
namespace Go.Proofs.YtbccabpcljkamaaDoor
set_option linter.unusedVariables false
set_option linter.unusedSimpArgs false
open Go.Shelf Go.RowKit Go.Proofs
variable {P : Program} {ρ : Ren}

theorem lowV (n : Nat) (h : n < 256) : bits .or .u8 (n : Int) 32 = ((n ||| 32 : Nat) : Int) := by
  have : ∀ k : Fin 256, bits .or .u8 ((k.val : Nat) : Int) 32 = ((k.val ||| 32 : Nat) : Int) := by decide +kernel
  exact this ⟨n, h⟩
theorem low_hex (n : Nat) (h : n < 256) (hd : ¬ (48 ≤ n ∧ n ≤ 57)) : (97 ≤ (n ||| 32) ∧ (n ||| 32) ≤ 102) ↔ (97 ≤ n ∧ n ≤ 102) ∨ (65 ≤ n ∧ n ≤ 70) := by
  have : ∀ k : Fin 256, (97 ≤ (k.val ||| 32) ∧ (k.val ||| 32) ≤ 102) ↔ (97 ≤ k.val ∧ k.val ≤ 102) ∨ (65 ≤ k.val ∧ k.val ≤ 70) := by decide +kernel
  exact this ⟨n, h⟩
theorem low_val (n : Nat) (h : n < 256) (h2 : 97 ≤ (n ||| 32) ∧ (n ||| 32) ≤ 102) : (n ||| 32) = if 97 ≤ n then n else n + 32 := by
  have : ∀ k : Fin 256, 97 ≤ (k.val ||| 32) ∧ (k.val ||| 32) ≤ 102 → (k.val ||| 32) = if 97 ≤ k.val then k.val else k.val + 32 := by decide +kernel
  exact this ⟨n, h⟩ h2
theorem hexV_dig (c : UInt8) (h : 48 ≤ c.toNat ∧ c.toNat ≤ 57) : hexV c = some (c.toNat - 48) := by unfold hexV; rw [if_pos h]
theorem hexV_let (c : UInt8) (hd : ¬ (48 ≤ c.toNat ∧ c.toNat ≤ 57)) (h : 97 ≤ (c.toNat ||| 32) ∧ (c.toNat ||| 32) ≤ 102) : hexV c = some ((c.toNat ||| 32) - 87) := by
  have hb : c.toNat < 256 := c.toNat_lt
  have h1 := (low_hex _ hb hd).1 h
  have h2 := low_val _ hb h
  unfold hexV
  rw [if_neg hd]
  by_cases h3 : 97 ≤ c.toNat ∧ c.toNat ≤ 102
  · rw [if_pos h3, h2, if_pos h3.1]
  · rw [if_neg h3, if_pos (by omega), h2, if_neg (by omega)]
    congr 1
theorem hexV_no (c : UInt8) (hd : ¬ (48 ≤ c.toNat ∧ c.toNat ≤ 57)) (h : ¬ (97 ≤ (c.toNat ||| 32) ∧ (c.toNat ||| 32) ≤ 102)) : hexV c = none := by
  have hb : c.toNat < 256 := c.toNat_lt
  have h1 := fun hx => h ((low_hex _ hb hd).2 hx)
  unfold hexV
  rw [if_neg hd, if_neg (fun h => h1 (.inl h)), if_neg (fun h => h1 (.inr h))]

set_option maxHeartbeats 32000000 in
set_option maxRecDepth 100000 in
theorem hex_in_b32 (L : LaysPu.n16 P ρ) (t : ByteArray) (hne : t.size ≠ 0) (hmax : t.size ≤ 9223372036854775806) (w : World) :
    Calls P (ρ.f 16) #[.string t, .int .i64 16, .int .i64 32] w fun e w' => e = .returned (Lib.uintTupleM (ρ.t 34) 4294967295 (parse16 4294967295 0 t.data.toList)) ∧ w' = Lib.bytesWorld w (ρ.t 5) t := by
  have mixed := L.mixed
  have t9 := L.t9; have a9 := L.a9; have z9 := L.z9; have v9 := L.v9
  have t3 := L.t3; have a3 := L.a3; have z3 := L.z3; have v3 := L.v3
  have t22 := L.t22; have a22 := L.a22; have z22 := L.z22; have v22 := L.v22
  have t24 := L.t24; have a24 := L.a24; have z24 := L.z24; have v24 := L.v24
  have t4 := L.t4; have a4 := L.a4; have z4 := L.z4; have v4 := L.v4
  have t34 := L.t34; have a34 := L.a34; have z34 := L.z34; have v34 := L.v34
  have t5 := L.t5; have a5 := L.a5; have z5 := L.z5; have v5 := L.v5
  have t36 := L.t36; have a36 := L.a36; have z36 := L.z36; have v36 := L.v36
  have t37 := L.t37; have a37 := L.a37; have z37 := L.z37; have v37 := L.v37
  have t0 := L.t0; have a0 := L.a0; have z0 := L.z0; have v0 := L.v0
  have e19 : ∀ args w, (callFunc (ρ.f 19) args).run P w = .ok (.enter (ρ.f 19) args) w := enters_of L.f19 (by kernel_rfl) rfl
  have hemp : t.toList.isEmpty = false := by
    rw [← decide_eq_emptyBytes]
    exact decide_eq_false (fun h => hne (by rw [h]; rfl))
  have hcv := Lib.run_convert_string_bytes (P := P) w (ρ.t 9) (ρ.t 37) (ρ.t 5) t (u := .string) L.t9 L.t37 L.t5
  have hB : ∀ j, j < t.size → (Lib.bytesWorld w (ρ.t 5) t).cell? ⟨w.heap.size, j, none⟩ = some (.int .u8 (t.data.toList.getD j 0).toNat) := fun j hj => Lib.bytesWorld_cell w (ρ.t 5) t j hj
  obtain ⟨W1, hW1⟩ : ∃ W1, W1 = Lib.bytesWorld w (ρ.t 5) t := ⟨_, rfl⟩
  rw [← hW1] at hcv hB ⊢
  clear hW1
  obtain ⟨bs, hL⟩ : ∃ bs, bs = t.data.toList := ⟨_, rfl⟩
  have hLn : bs.length = t.size := by rw [hL, Lib.size_eq]
  rw [← hL] at hB ⊢
  clear hL
  have hmv : IntKind.u64.wrap (IntKind.u64.wrap 4294967296 - 1) = 4294967295 := by
    rw [IntKind.wrap_u64, IntKind.wrap_u64]
    decide
  go_enter L.f16, BodyPu.n16_ntmps ρ
  go_wp2
  go_loop [12, 13, 101] (fun vu vn vi => ∃ (k acc : Nat) (a : Int), vu = .bool false ∧ vn = .int .u64 a ∧ vi = .int .i64 k ∧ k ≤ t.size ∧ Hid (a = (acc : Int) ∧ acc ≤ 4294967295 ∧ parse16 4294967295 0 bs = parse16 4294967295 acc (bs.drop k)))
    (fun _ _ vi => t.size - (intOf vi).toNat)
  case atStart => exact ⟨0, 0, 0, rfl, rfl, rfl, by omega, rfl, by omega, rfl⟩
  case round =>
    obtain ⟨k, acc, a, rfl, rfl, rfl, hk, hh⟩ := hrel
    obtain ⟨ha, hacc, hdec⟩ := hh.out
    clear hh
    have a0 : 0 ≤ a := by omega
    have a1 : a ≤ 4294967295 := by omega
    by_cases hkn : k < t.size
    · have hc := hB k hkn
      have hdrop : bs.drop k = bs[k]'(by omega) :: bs.drop (k + 1) := List.drop_eq_getElem_cons (by omega)
      have hget : bs.getD k 0 = bs[k]'(by omega) := by simp [List.getD, List.getElem?_eq_getElem (show k < bs.length by omega)]
      rw [hdrop] at hdec
      rw [hget] at hc
      generalize bs[k]'(by omega) = c at hc hdec
      have hc256 : c.toNat < 256 := c.toNat_lt
      clear hB hdrop hget
      by_cases hdig : 48 ≤ c.toNat ∧ c.toNat ≤ 57
      · have hhv := hexV_dig c hdig
        obtain ⟨hd0, hd1⟩ := hdig
        by_cases hov : 4294967295 < acc * 16 + (c.toNat - 48)
        · have hF : parse16 4294967295 acc (c :: bs.drop (k + 1)) = .range := by simp [parse16, hhv, hov]
          rw [hF] at hdec
          have iov : 4294967295 < a * 16 + ((c.toNat : Int) - 48) := by omega
          clear hacc hF hov ha hhv
          go_wp2
          go_ret2
          exact ⟨rfl, rfl⟩
        · have hF : parse16 4294967295 acc (c :: bs.drop (k + 1)) = parse16 4294967295 (acc * 16 + (c.toNat - 48)) (bs.drop (k + 1)) := by simp [parse16, hhv, hov]
          have HN : Hid (a * 16 + ((c.toNat : Int) - 48) = ((acc * 16 + (c.toNat - 48) : Nat) : Int) ∧ acc * 16 + (c.toNat - 48) ≤ 4294967295 ∧ parse16 4294967295 0 bs = parse16 4294967295 (acc * 16 + (c.toNat - 48)) (bs.drop (k + 1))) := Lib.hid ⟨by omega, by omega, hdec.trans hF⟩
          have iov : a * 16 + ((c.toNat : Int) - 48) ≤ 4294967295 := by omega
          clear hacc hF hov hdec ha hhv
          go_wp2
          refine ⟨⟨k + 1, acc * 16 + (c.toNat - 48), a * 16 + ((c.toNat : Int) - 48), rfl, (by first | rfl | (congr 1; omega)), (by first | rfl | (congr 1; omega)), by omega, HN⟩, by simp [intOf]; omega⟩
      · have hlow := lowV c.toNat hc256
        by_cases hlet : 97 ≤ (c.toNat ||| 32) ∧ (c.toNat ||| 32) ≤ 102
        · have hhv := hexV_let c hdig hlet
          have hcn : ¬ c.toNat = 95 := by
            intro h95
            rw [h95] at hlet
            revert hlet
            decide
          obtain ⟨lv, hlv⟩ : ∃ lv : Int, ((c.toNat ||| 32 : Nat) : Int) = lv := ⟨_, rfl⟩
          obtain ⟨d, hd⟩ : ∃ d : Nat, (c.toNat ||| 32) - 87 = d := ⟨_, rfl⟩
          rw [hd] at hhv
          have hld : lv = 87 + (d : Int) := by omega
          have hd10 : 10 ≤ d ∧ d ≤ 15 := by omega
          rw [hlv] at hlow
          clear hlv hlet hd
          obtain ⟨hl0, hl1⟩ : 97 ≤ lv ∧ lv ≤ 102 := by omega
          by_cases hov : 4294967295 < acc * 16 + d
          · have hF : parse16 4294967295 acc (c :: bs.drop (k + 1)) = .range := by simp [parse16, hhv, hov]
            rw [hF] at hdec
            have iov : 4294967295 < a * 16 + (lv - 97 + 10) := by omega
            clear hacc hF hov ha hhv hld hd10
            go_wp2_with (go_at_fn (ρ.f 19); refine (AnyPu.internal_strconv_lower { L with } _ _).mono ?_; rintro e w' ⟨rfl, rfl⟩; try rw [hlow])
            all_goals first | (exfalso; omega) | skip
            all_goals go_ret2
            all_goals first | exact ⟨rfl, rfl⟩ | exact ⟨by rw [hdec]; rfl, rfl⟩
          · have hF : parse16 4294967295 acc (c :: bs.drop (k + 1)) = parse16 4294967295 (acc * 16 + d) (bs.drop (k + 1)) := by simp [parse16, hhv, hov]
            have HN : Hid (a * 16 + (lv - 97 + 10) = ((acc * 16 + d : Nat) : Int) ∧ acc * 16 + d ≤ 4294967295 ∧ parse16 4294967295 0 bs = parse16 4294967295 (acc * 16 + d) (bs.drop (k + 1))) := Lib.hid ⟨by omega, by omega, hdec.trans hF⟩
            have iov : a * 16 + (lv - 97 + 10) ≤ 4294967295 := by omega
            clear hacc hF hov hdec ha hhv hld hd10
            go_wp2_with (go_at_fn (ρ.f 19); refine (AnyPu.internal_strconv_lower { L with } _ _).mono ?_; rintro e w' ⟨rfl, rfl⟩; try rw [hlow])
            all_goals first | (exfalso; omega) | skip
            all_goals refine ⟨⟨k + 1, acc * 16 + d, a * 16 + (lv - 97 + 10), rfl, (by first | rfl | (congr 1; omega)), (by first | rfl | (congr 1; omega)), by omega, HN⟩, by simp [intOf]; omega⟩
        · have hhv := hexV_no c hdig hlet
          have hF : parse16 4294967295 acc (c :: bs.drop (k + 1)) = Lib.NumEnd.syntax := by simp [parse16, hhv]
          rw [hF] at hdec
          obtain ⟨lv, hlv⟩ : ∃ lv : Int, ((c.toNat ||| 32 : Nat) : Int) = lv := ⟨_, rfl⟩
          have hl : ¬ (97 ≤ lv ∧ lv ≤ 102) := by omega
          have hlb : 0 ≤ lv ∧ lv ≤ 255 := by
            have hb0 := bits_lo_u8 .or (c.toNat : Int) 32
            have hb1 := bits_hi_u8 .or (c.toNat : Int) 32
            rw [hlow] at hb0 hb1
            omega
          obtain ⟨hl0, hl1⟩ := hlb
          have hlu : bits .or .u8 95 32 = 127 := by decide
          rw [hlv] at hlow
          clear hlv hlet hhv hacc hF ha
          go_wp2_with (go_at_fn (ρ.f 19); refine (AnyPu.internal_strconv_lower { L with } _ _).mono ?_; rintro e w' ⟨rfl, rfl⟩; try rw [hlow]; try rw [hlu])
          all_goals first | (exfalso; omega) | skip
          all_goals go_ret2
          all_goals first | exact ⟨rfl, rfl⟩ | exact ⟨by rw [hdec]; rfl, rfl⟩
    · have hkk : k = t.size := by omega
      subst hkk
      have hF : parse16 4294967295 acc (bs.drop t.size) = .ok acc := by rw [List.drop_eq_nil_of_le (by omega)]; rfl
      rw [hF] at hdec
      subst ha
      clear hacc hF a0 a1
      go_wp2
      go_ret2
      exact ⟨rfl, rfl⟩

set_option maxHeartbeats 32000000 in
set_option maxRecDepth 100000 in
theorem hex_in_b8 (L : LaysPu.n16 P ρ) (t : ByteArray) (hne : t.size ≠ 0) (hmax : t.size ≤ 9223372036854775806) (w : World) :
    Calls P (ρ.f 16) #[.string t, .int .i64 16, .int .i64 8] w fun e w' => e = .returned (Lib.uintTupleM (ρ.t 34) 255 (parse16 255 0 t.data.toList)) ∧ w' = Lib.bytesWorld w (ρ.t 5) t := by
  have mixed := L.mixed
  have t9 := L.t9; have a9 := L.a9; have z9 := L.z9; have v9 := L.v9
  have t3 := L.t3; have a3 := L.a3; have z3 := L.z3; have v3 := L.v3
  have t22 := L.t22; have a22 := L.a22; have z22 := L.z22; have v22 := L.v22
  have t24 := L.t24; have a24 := L.a24; have z24 := L.z24; have v24 := L.v24
  have t4 := L.t4; have a4 := L.a4; have z4 := L.z4; have v4 := L.v4
  have t34 := L.t34; have a34 := L.a34; have z34 := L.z34; have v34 := L.v34
  have t5 := L.t5; have a5 := L.a5; have z5 := L.z5; have v5 := L.v5
  have t36 := L.t36; have a36 := L.a36; have z36 := L.z36; have v36 := L.v36
  have t37 := L.t37; have a37 := L.a37; have z37 := L.z37; have v37 := L.v37
  have t0 := L.t0; have a0 := L.a0; have z0 := L.z0; have v0 := L.v0
  have e19 : ∀ args w, (callFunc (ρ.f 19) args).run P w = .ok (.enter (ρ.f 19) args) w := enters_of L.f19 (by kernel_rfl) rfl
  have hemp : t.toList.isEmpty = false := by
    rw [← decide_eq_emptyBytes]
    exact decide_eq_false (fun h => hne (by rw [h]; rfl))
  have hcv := Lib.run_convert_string_bytes (P := P) w (ρ.t 9) (ρ.t 37) (ρ.t 5) t (u := .string) L.t9 L.t37 L.t5
  have hB : ∀ j, j < t.size → (Lib.bytesWorld w (ρ.t 5) t).cell? ⟨w.heap.size, j, none⟩ = some (.int .u8 (t.data.toList.getD j 0).toNat) := fun j hj => Lib.bytesWorld_cell w (ρ.t 5) t j hj
  obtain ⟨W1, hW1⟩ : ∃ W1, W1 = Lib.bytesWorld w (ρ.t 5) t := ⟨_, rfl⟩
  rw [← hW1] at hcv hB ⊢
  clear hW1
  obtain ⟨bs, hL⟩ : ∃ bs, bs = t.data.toList := ⟨_, rfl⟩
  have hLn : bs.length = t.size := by rw [hL, Lib.size_eq]
  rw [← hL] at hB ⊢
  clear hL
  have hmv : IntKind.u64.wrap (IntKind.u64.wrap 256 - 1) = 255 := by
    rw [IntKind.wrap_u64, IntKind.wrap_u64]
    decide
  go_enter L.f16, BodyPu.n16_ntmps ρ
  go_wp2
  go_loop [12, 13, 101] (fun vu vn vi => ∃ (k acc : Nat) (a : Int), vu = .bool false ∧ vn = .int .u64 a ∧ vi = .int .i64 k ∧ k ≤ t.size ∧ Hid (a = (acc : Int) ∧ acc ≤ 255 ∧ parse16 255 0 bs = parse16 255 acc (bs.drop k)))
    (fun _ _ vi => t.size - (intOf vi).toNat)
  case atStart => exact ⟨0, 0, 0, rfl, rfl, rfl, by omega, rfl, by omega, rfl⟩
  case round =>
    obtain ⟨k, acc, a, rfl, rfl, rfl, hk, hh⟩ := hrel
    obtain ⟨ha, hacc, hdec⟩ := hh.out
    clear hh
    have a0 : 0 ≤ a := by omega
    have a1 : a ≤ 255 := by omega
    by_cases hkn : k < t.size
    · have hc := hB k hkn
      have hdrop : bs.drop k = bs[k]'(by omega) :: bs.drop (k + 1) := List.drop_eq_getElem_cons (by omega)
      have hget : bs.getD k 0 = bs[k]'(by omega) := by simp [List.getD, List.getElem?_eq_getElem (show k < bs.length by omega)]
      rw [hdrop] at hdec
      rw [hget] at hc
      generalize bs[k]'(by omega) = c at hc hdec
      have hc256 : c.toNat < 256 := c.toNat_lt
      clear hB hdrop hget
      by_cases hdig : 48 ≤ c.toNat ∧ c.toNat ≤ 57
      · have hhv := hexV_dig c hdig
        obtain ⟨hd0, hd1⟩ := hdig
        by_cases hov : 255 < acc * 16 + (c.toNat - 48)
        · have hF : parse16 255 acc (c :: bs.drop (k + 1)) = .range := by simp [parse16, hhv, hov]
          rw [hF] at hdec
          have iov : 255 < a * 16 + ((c.toNat : Int) - 48) := by omega
          clear hacc hF hov ha hhv
          go_wp2
          go_ret2
          exact ⟨rfl, rfl⟩
        · have hF : parse16 255 acc (c :: bs.drop (k + 1)) = parse16 255 (acc * 16 + (c.toNat - 48)) (bs.drop (k + 1)) := by simp [parse16, hhv, hov]
          have HN : Hid (a * 16 + ((c.toNat : Int) - 48) = ((acc * 16 + (c.toNat - 48) : Nat) : Int) ∧ acc * 16 + (c.toNat - 48) ≤ 255 ∧ parse16 255 0 bs = parse16 255 (acc * 16 + (c.toNat - 48)) (bs.drop (k + 1))) := Lib.hid ⟨by omega, by omega, hdec.trans hF⟩
          have iov : a * 16 + ((c.toNat : Int) - 48) ≤ 255 := by omega
          clear hacc hF hov hdec ha hhv
          go_wp2
          refine ⟨⟨k + 1, acc * 16 + (c.toNat - 48), a * 16 + ((c.toNat : Int) - 48), rfl, (by first | rfl | (congr 1; omega)), (by first | rfl | (congr 1; omega)), by omega, HN⟩, by simp [intOf]; omega⟩
      · have hlow := lowV c.toNat hc256
        by_cases hlet : 97 ≤ (c.toNat ||| 32) ∧ (c.toNat ||| 32) ≤ 102
        · have hhv := hexV_let c hdig hlet
          have hcn : ¬ c.toNat = 95 := by
            intro h95
            rw [h95] at hlet
            revert hlet
            decide
          obtain ⟨lv, hlv⟩ : ∃ lv : Int, ((c.toNat ||| 32 : Nat) : Int) = lv := ⟨_, rfl⟩
          obtain ⟨d, hd⟩ : ∃ d : Nat, (c.toNat ||| 32) - 87 = d := ⟨_, rfl⟩
          rw [hd] at hhv
          have hld : lv = 87 + (d : Int) := by omega
          have hd10 : 10 ≤ d ∧ d ≤ 15 := by omega
          rw [hlv] at hlow
          clear hlv hlet hd
          obtain ⟨hl0, hl1⟩ : 97 ≤ lv ∧ lv ≤ 102 := by omega
          by_cases hov : 255 < acc * 16 + d
          · have hF : parse16 255 acc (c :: bs.drop (k + 1)) = .range := by simp [parse16, hhv, hov]
            rw [hF] at hdec
            have iov : 255 < a * 16 + (lv - 97 + 10) := by omega
            clear hacc hF hov ha hhv hld hd10
            go_wp2_with (go_at_fn (ρ.f 19); refine (AnyPu.internal_strconv_lower { L with } _ _).mono ?_; rintro e w' ⟨rfl, rfl⟩; try rw [hlow])
            all_goals first | (exfalso; omega) | skip
            all_goals go_ret2
            all_goals first | exact ⟨rfl, rfl⟩ | exact ⟨by rw [hdec]; rfl, rfl⟩
          · have hF : parse16 255 acc (c :: bs.drop (k + 1)) = parse16 255 (acc * 16 + d) (bs.drop (k + 1)) := by simp [parse16, hhv, hov]
            have HN : Hid (a * 16 + (lv - 97 + 10) = ((acc * 16 + d : Nat) : Int) ∧ acc * 16 + d ≤ 255 ∧ parse16 255 0 bs = parse16 255 (acc * 16 + d) (bs.drop (k + 1))) := Lib.hid ⟨by omega, by omega, hdec.trans hF⟩
            have iov : a * 16 + (lv - 97 + 10) ≤ 255 := by omega
            clear hacc hF hov hdec ha hhv hld hd10
            go_wp2_with (go_at_fn (ρ.f 19); refine (AnyPu.internal_strconv_lower { L with } _ _).mono ?_; rintro e w' ⟨rfl, rfl⟩; try rw [hlow])
            all_goals first | (exfalso; omega) | skip
            all_goals refine ⟨⟨k + 1, acc * 16 + d, a * 16 + (lv - 97 + 10), rfl, (by first | rfl | (congr 1; omega)), (by first | rfl | (congr 1; omega)), by omega, HN⟩, by simp [intOf]; omega⟩
        · have hhv := hexV_no c hdig hlet
          have hF : parse16 255 acc (c :: bs.drop (k + 1)) = Lib.NumEnd.syntax := by simp [parse16, hhv]
          rw [hF] at hdec
          obtain ⟨lv, hlv⟩ : ∃ lv : Int, ((c.toNat ||| 32 : Nat) : Int) = lv := ⟨_, rfl⟩
          have hl : ¬ (97 ≤ lv ∧ lv ≤ 102) := by omega
          have hlb : 0 ≤ lv ∧ lv ≤ 255 := by
            have hb0 := bits_lo_u8 .or (c.toNat : Int) 32
            have hb1 := bits_hi_u8 .or (c.toNat : Int) 32
            rw [hlow] at hb0 hb1
            omega
          obtain ⟨hl0, hl1⟩ := hlb
          have hlu : bits .or .u8 95 32 = 127 := by decide
          rw [hlv] at hlow
          clear hlv hlet hhv hacc hF ha
          go_wp2_with (go_at_fn (ρ.f 19); refine (AnyPu.internal_strconv_lower { L with } _ _).mono ?_; rintro e w' ⟨rfl, rfl⟩; try rw [hlow]; try rw [hlu])
          all_goals first | (exfalso; omega) | skip
          all_goals go_ret2
          all_goals first | exact ⟨rfl, rfl⟩ | exact ⟨by rw [hdec]; rfl, rfl⟩
    · have hkk : k = t.size := by omega
      subst hkk
      have hF : parse16 255 acc (bs.drop t.size) = .ok acc := by rw [List.drop_eq_nil_of_le (by omega)]; rfl
      rw [hF] at hdec
      subst ha
      clear hacc hF a0 a1
      go_wp2
      go_ret2
      exact ⟨rfl, rfl⟩

/-- What the library's ParseUint answers: a number and no error, or some number and an error. -/
def NumR (x : Lib.NumEnd Nat) (e : Ending) : Prop := (∃ u : Nat, x = .ok u ∧ e = .returned (.tuple #[.int .u64 u, .nilIface])) ∨ (numOk x = none ∧ ∃ (v : Int) (tp : TypeId) (p : Value), e = .returned (.tuple #[.int .u64 v, .iface tp p]))

set_option maxHeartbeats 4000000 in
set_option maxRecDepth 100000 in
theorem hex_b32 (L : LaysPu.n14 P ρ) (s : ByteArray) (hlim : s.size ≤ 281474976710656) (ev ev2 : Value) (w : World) (hv : w.cell? ⟨(ρ.g 0), 0, none⟩ = some ev) (hev : ev = .nilIface ∨ ∃ te pe, ev = .iface te pe) (hv2 : w.cell? ⟨(ρ.g 1), 0, none⟩ = some ev2) (hev2 : ev2 = .nilIface ∨ ∃ te pe, ev2 = .iface te pe) :
    Calls P (ρ.f 14) #[.string s, .int .i64 16, .int .i64 32] w fun e w' => NumR (parse16B 32 s.data.toList) e ∧ Below w.heap.size w w' := by
  have mixed := L.mixed
  have t9 := L.t9; have a9 := L.a9; have z9 := L.z9; have v9 := L.v9
  have t3 := L.t3; have a3 := L.a3; have z3 := L.z3; have v3 := L.v3
  have t22 := L.t22; have a22 := L.a22; have z22 := L.z22; have v22 := L.v22
  have t24 := L.t24; have a24 := L.a24; have z24 := L.z24; have v24 := L.v24
  have t25 := L.t25; have a25 := L.a25; have z25 := L.z25; have v25 := L.v25
  have t4 := L.t4; have a4 := L.a4; have z4 := L.z4; have v4 := L.v4
  have e16 : ∀ args w, (callFunc (ρ.f 16) args).run P w = .ok (.enter (ρ.f 16) args) w := enters_of L.f16 (by kernel_rfl) rfl
  have e17 : ∀ args w, (callFunc (ρ.f 17) args).run P w = .ok (.enter (ρ.f 17) args) w := enters_of L.f17 (by kernel_rfl) rfl
  have hG : (ρ.g 0) < w.heap.size := Lib.lt_of_cell hv
  have hG2 : (ρ.g 1) < w.heap.size := Lib.lt_of_cell hv2
  have hI : Calls P (ρ.f 16) #[.string s, .int .i64 16, .int .i64 32] w fun e w' => e = .returned (Lib.uintTupleM (ρ.t 34) 4294967295 (parse16B 32 s.data.toList)) ∧ (w' = w ∨ w' = Lib.bytesWorld w (ρ.t 5) s) := by
    by_cases h0 : s.size = 0
    · have ht : s = ⟨#[]⟩ := by
        apply ByteArray.ext
        exact Array.eq_empty_of_size_eq_zero h0
      subst ht
      exact (AnyPu.internal_strconv_ParseUint_empty { L with } 16 32 w).mono fun e w' ⟨he, hw⟩ => ⟨he, Or.inl hw⟩
    · have hne : s.data.toList ≠ [] := fun h => h0 (by rw [Lib.size_eq, h]; rfl)
      refine (hex_in_b32 { L with } s h0 (by omega) w).mono fun e w' ⟨he, hw⟩ => ⟨?_, Or.inr hw⟩
      rw [he, parse16B, if_neg hne]
  rcases hx : parse16B 32 s.data.toList with u | _ | _
  · rw [hx] at hI
    have hI : Calls P (ρ.f 16) #[.string s, .int .i64 16, .int .i64 32] w fun e w' => e = .returned (.tuple #[.int .u64 u, .nilIface]) ∧ (w' = w ∨ w' = Lib.bytesWorld w (ρ.t 5) s) := hI
    clear hx
    go_enter L.f14, BodyPu.n14_ntmps ρ
    go_wp2_with (go_at_fn (ρ.f 16); refine hI.mono ?_; rintro e W1 ⟨rfl, hW⟩)
    go_wp2
    go_ret2
    refine ⟨.inl ⟨u, rfl, rfl⟩, ?_⟩
    rcases hW with rfl | rfl
    · exact Below.refl _ _
    · exact Lib.bytesWorld_below _ _ _
  · rw [hx] at hI
    have hI : Calls P (ρ.f 16) #[.string s, .int .i64 16, .int .i64 32] w fun e w' => e = .returned (.tuple #[.int .u64 0, .iface (ρ.t 34) (.int .i64 2)]) ∧ (w' = w ∨ w' = Lib.bytesWorld w (ρ.t 5) s) := hI
    clear hx
    go_enter L.f14, BodyPu.n14_ntmps ρ
    go_wp2_with (go_at_fn (ρ.f 16); refine hI.mono ?_)
    rintro e W1 ⟨rfl, hW⟩
    have hb1 : Below w.heap.size w W1 := by
      rcases hW with rfl | rfl
      · exact Below.refl _ _
      · exact Lib.bytesWorld_below _ _ _
    have hv1 : W1.cell? ⟨(ρ.g 0), 0, none⟩ = some ev := (hb1.cell (show (⟨(ρ.g 0), 0, none⟩ : Addr).block < w.heap.size from hG)).trans hv
    clear hW
    go_wp2_with (go_at_fn (ρ.f 17); refine (AnyPu.strconv_toError_syntax { L with } ⟨#[80, 97, 114, 115, 101, 85, 105, 110, 116]⟩ s 16 32 ev _ hlim ?_ hev).mono ?_)
    · exact hv1
    rintro e W2 ⟨N, rfl, h1, h2, h3⟩
    go_wp2
    go_ret2
    exact ⟨.inr ⟨rfl, _, _, _, rfl⟩, hb1.trans (h3.mono hb1.size)⟩
  · rw [hx] at hI
    have hI : Calls P (ρ.f 16) #[.string s, .int .i64 16, .int .i64 32] w fun e w' => e = .returned (.tuple #[.int .u64 4294967295, .iface (ρ.t 34) (.int .i64 1)]) ∧ (w' = w ∨ w' = Lib.bytesWorld w (ρ.t 5) s) := hI
    clear hx
    go_enter L.f14, BodyPu.n14_ntmps ρ
    go_wp2_with (go_at_fn (ρ.f 16); refine hI.mono ?_)
    rintro e W1 ⟨rfl, hW⟩
    have hb1 : Below w.heap.size w W1 := by
      rcases hW with rfl | rfl
      · exact Below.refl _ _
      · exact Lib.bytesWorld_below _ _ _
    have hv1 : W1.cell? ⟨(ρ.g 1), 0, none⟩ = some ev2 := (hb1.cell (show (⟨(ρ.g 1), 0, none⟩ : Addr).block < w.heap.size from hG2)).trans hv2
    clear hW
    go_wp2_with (go_at_fn (ρ.f 17); refine (AnyPu.strconv_toError_range { L with } ⟨#[80, 97, 114, 115, 101, 85, 105, 110, 116]⟩ s 16 32 ev2 _ hlim ?_ hev2).mono ?_)
    · exact hv1
    rintro e W2 ⟨N, rfl, h1, h2, h3⟩
    go_wp2
    go_ret2
    exact ⟨.inr ⟨rfl, _, _, _, rfl⟩, hb1.trans (h3.mono hb1.size)⟩

set_option maxHeartbeats 4000000 in
set_option maxRecDepth 100000 in
theorem hex_b8 (L : LaysPu.n14 P ρ) (s : ByteArray) (hlim : s.size ≤ 281474976710656) (ev ev2 : Value) (w : World) (hv : w.cell? ⟨(ρ.g 0), 0, none⟩ = some ev) (hev : ev = .nilIface ∨ ∃ te pe, ev = .iface te pe) (hv2 : w.cell? ⟨(ρ.g 1), 0, none⟩ = some ev2) (hev2 : ev2 = .nilIface ∨ ∃ te pe, ev2 = .iface te pe) :
    Calls P (ρ.f 14) #[.string s, .int .i64 16, .int .i64 8] w fun e w' => NumR (parse16B 8 s.data.toList) e ∧ Below w.heap.size w w' := by
  have mixed := L.mixed
  have t9 := L.t9; have a9 := L.a9; have z9 := L.z9; have v9 := L.v9
  have t3 := L.t3; have a3 := L.a3; have z3 := L.z3; have v3 := L.v3
  have t22 := L.t22; have a22 := L.a22; have z22 := L.z22; have v22 := L.v22
  have t24 := L.t24; have a24 := L.a24; have z24 := L.z24; have v24 := L.v24
  have t25 := L.t25; have a25 := L.a25; have z25 := L.z25; have v25 := L.v25
  have t4 := L.t4; have a4 := L.a4; have z4 := L.z4; have v4 := L.v4
  have e16 : ∀ args w, (callFunc (ρ.f 16) args).run P w = .ok (.enter (ρ.f 16) args) w := enters_of L.f16 (by kernel_rfl) rfl
  have e17 : ∀ args w, (callFunc (ρ.f 17) args).run P w = .ok (.enter (ρ.f 17) args) w := enters_of L.f17 (by kernel_rfl) rfl
  have hG : (ρ.g 0) < w.heap.size := Lib.lt_of_cell hv
  have hG2 : (ρ.g 1) < w.heap.size := Lib.lt_of_cell hv2
  have hI : Calls P (ρ.f 16) #[.string s, .int .i64 16, .int .i64 8] w fun e w' => e = .returned (Lib.uintTupleM (ρ.t 34) 255 (parse16B 8 s.data.toList)) ∧ (w' = w ∨ w' = Lib.bytesWorld w (ρ.t 5) s) := by
    by_cases h0 : s.size = 0
    · have ht : s = ⟨#[]⟩ := by
        apply ByteArray.ext
        exact Array.eq_empty_of_size_eq_zero h0
      subst ht
      exact (AnyPu.internal_strconv_ParseUint_empty { L with } 16 8 w).mono fun e w' ⟨he, hw⟩ => ⟨he, Or.inl hw⟩
    · have hne : s.data.toList ≠ [] := fun h => h0 (by rw [Lib.size_eq, h]; rfl)
      refine (hex_in_b8 { L with } s h0 (by omega) w).mono fun e w' ⟨he, hw⟩ => ⟨?_, Or.inr hw⟩
      rw [he, parse16B, if_neg hne]
  rcases hx : parse16B 8 s.data.toList with u | _ | _
  · rw [hx] at hI
    have hI : Calls P (ρ.f 16) #[.string s, .int .i64 16, .int .i64 8] w fun e w' => e = .returned (.tuple #[.int .u64 u, .nilIface]) ∧ (w' = w ∨ w' = Lib.bytesWorld w (ρ.t 5) s) := hI
    clear hx
    go_enter L.f14, BodyPu.n14_ntmps ρ
    go_wp2_with (go_at_fn (ρ.f 16); refine hI.mono ?_; rintro e W1 ⟨rfl, hW⟩)
    go_wp2
    go_ret2
    refine ⟨.inl ⟨u, rfl, rfl⟩, ?_⟩
    rcases hW with rfl | rfl
    · exact Below.refl _ _
    · exact Lib.bytesWorld_below _ _ _
  · rw [hx] at hI
    have hI : Calls P (ρ.f 16) #[.string s, .int .i64 16, .int .i64 8] w fun e w' => e = .returned (.tuple #[.int .u64 0, .iface (ρ.t 34) (.int .i64 2)]) ∧ (w' = w ∨ w' = Lib.bytesWorld w (ρ.t 5) s) := hI
    clear hx
    go_enter L.f14, BodyPu.n14_ntmps ρ
    go_wp2_with (go_at_fn (ρ.f 16); refine hI.mono ?_)
    rintro e W1 ⟨rfl, hW⟩
    have hb1 : Below w.heap.size w W1 := by
      rcases hW with rfl | rfl
      · exact Below.refl _ _
      · exact Lib.bytesWorld_below _ _ _
    have hv1 : W1.cell? ⟨(ρ.g 0), 0, none⟩ = some ev := (hb1.cell (show (⟨(ρ.g 0), 0, none⟩ : Addr).block < w.heap.size from hG)).trans hv
    clear hW
    go_wp2_with (go_at_fn (ρ.f 17); refine (AnyPu.strconv_toError_syntax { L with } ⟨#[80, 97, 114, 115, 101, 85, 105, 110, 116]⟩ s 16 8 ev _ hlim ?_ hev).mono ?_)
    · exact hv1
    rintro e W2 ⟨N, rfl, h1, h2, h3⟩
    go_wp2
    go_ret2
    exact ⟨.inr ⟨rfl, _, _, _, rfl⟩, hb1.trans (h3.mono hb1.size)⟩
  · rw [hx] at hI
    have hI : Calls P (ρ.f 16) #[.string s, .int .i64 16, .int .i64 8] w fun e w' => e = .returned (.tuple #[.int .u64 255, .iface (ρ.t 34) (.int .i64 1)]) ∧ (w' = w ∨ w' = Lib.bytesWorld w (ρ.t 5) s) := hI
    clear hx
    go_enter L.f14, BodyPu.n14_ntmps ρ
    go_wp2_with (go_at_fn (ρ.f 16); refine hI.mono ?_)
    rintro e W1 ⟨rfl, hW⟩
    have hb1 : Below w.heap.size w W1 := by
      rcases hW with rfl | rfl
      · exact Below.refl _ _
      · exact Lib.bytesWorld_below _ _ _
    have hv1 : W1.cell? ⟨(ρ.g 1), 0, none⟩ = some ev2 := (hb1.cell (show (⟨(ρ.g 1), 0, none⟩ : Addr).block < w.heap.size from hG2)).trans hv2
    clear hW
    go_wp2_with (go_at_fn (ρ.f 17); refine (AnyPu.strconv_toError_range { L with } ⟨#[80, 97, 114, 115, 101, 85, 105, 110, 116]⟩ s 16 8 ev2 _ hlim ?_ hev2).mono ?_)
    · exact hv1
    rintro e W2 ⟨N, rfl, h1, h2, h3⟩
    go_wp2
    go_ret2
    exact ⟨.inr ⟨rfl, _, _, _, rfl⟩, hb1.trans (h3.mono hb1.size)⟩
end Go.Proofs.YtbccabpcljkamaaDoor
