/-
  Contracts of the calls that make and read texts of words: both functions of each pair return the same text, bytes and number, for every argument; they write nothing that was there.
-/
import Derived.Test.YtlmdbpdfjjfapaaTextFacts
import Derived.Deep.QuietTactic
import Derived.BigQuiet
import Derived.Laws.AppendOwnNone
namespace Go.Proofs.Ytlmdbpdfjjfapaa
set_option linter.unusedVariables false
open Go.ChangeShapes Go.WideShapes Go.ChangeAt Go.RowKit

/-! ### Hex -/
theorem tand15 (x : Int) (h0 : 0 ≤ x) (h1 : x ≤ 4294967295) : bits BinOp.and IntKind.u32 x 15 = x % 16 := by
  have h := u32_and_nat x.toNat 15 (by omega) (by omega)
  have e : (x.toNat : Int) = x := Int.toNat_of_nonneg h0
  rw [e] at h
  have h2 : bits BinOp.and IntKind.u32 x 15 = ((x.toNat &&& 15 : Nat) : Int) := h
  rw [h2, Nat.and_two_pow_sub_one_eq_mod x.toNat 4]
  omega
theorem conv8 (w : World) (c0 c1 c2 c3 c4 c5 c6 c7 : Int) : (convert 31 9 (.slice (some ⟨w.heap.size, 0, none⟩) 8 8)).run Try.prog (w.alloc (.cells #[.int .u8 c0, .int .u8 c1, .int .u8 c2, .int .u8 c3, .int .u8 c4, .int .u8 c5, .int .u8 c6, .int .u8 c7] 45)) = .ok (.string (strOfNums [c0, c1, c2, c3, c4, c5, c6, c7])) (w.alloc (.cells #[.int .u8 c0, .int .u8 c1, .int .u8 c2, .int .u8 c3, .int .u8 c4, .int .u8 c5, .int .u8 c6, .int .u8 c7] 45)) := by
  refine run_convert_bytes_arg _ 31 5 Try.underlying31 Try.underlying5 w.heap.size 0 8 8 [c0, c1, c2, c3, c4, c5, c6, c7] rfl ?_ 9 Try.underlying9
  intro i hi
  have : i = 0 ∨ i = 1 ∨ i = 2 ∨ i = 3 ∨ i = 4 ∨ i = 5 ∨ i = 6 ∨ i = 7 := by omega
  rcases this with rfl | rfl | rfl | rfl | rfl | rfl | rfl | rfl <;> simp [go_sem]
theorem conv1 (w : World) (n : Nat) (c : Int) (hn : n = w.heap.size) : (convert 31 9 (.slice (some ⟨n, 0, none⟩) 1 1)).run Try.prog (w.alloc (.cells #[.int .u8 c] 5)) = .ok (.string (strOfNums [c])) (w.alloc (.cells #[.int .u8 c] 5)) := by
  subst hn
  refine run_convert_bytes_arg _ 31 5 Try.underlying31 Try.underlying5 w.heap.size 0 1 1 [c] rfl ?_ 9 Try.underlying9
  intro i hi
  have : i = 0 := by omega
  subst this
  simp [go_sem]
theorem ret_str {a b : ByteArray} (h : a = b) : Ending.returned (.string a) = .returned (.string b) := by rw [h]
theorem c29 (a : Int) (w : World) (h0 : 0 ≤ a) (h1 : a ≤ 4294967295) :
    Calls Try.prog 29 #[.int .u32 a] w fun e w' => e = .returned (.string (hexS a)) ∧ Below w.heap.size w w' := by
  have b0 := tand15 a h0 h1
  have b1 := tand15 (a / 16) (by omega) (by omega)
  have b2 := tand15 (a / 256) (by omega) (by omega)
  have b3 := tand15 (a / 4096) (by omega) (by omega)
  have b4 := tand15 (a / 65536) (by omega) (by omega)
  have b5 := tand15 (a / 1048576) (by omega) (by omega)
  have b6 := tand15 (a / 16777216) (by omega) (by omega)
  have b7 := tand15 (a / 268435456) (by omega) (by omega)
  have hc := conv8 w
  go_enter Try.func29, Try.ntmps29
  go_wp2
  go_rounds 9
  go_ret
  refine ⟨ret_str ?_, ?_⟩
  · clear hc b0 b1 b2 b3 b4 b5 b6 b7
    unfold hexS
    simp (disch := omega) only [hexAt]
  · exact (Below.refl _ _).alloc (Nat.le_refl _) _
set_option maxHeartbeats 2000000 in
theorem c30 (a : Int) (w : World) (h0 : 0 ≤ a) (h1 : a ≤ 4294967295) :
    Calls Try.prog 30 #[.int .u32 a] w fun e w' => e = .returned (.string (hexS a)) ∧ Below w.heap.size w w' := by
  have hc := conv1
  go_enter Try.func30, Try.ntmps30
  go_wp2
  go_rounds 9
  go_ret
  refine ⟨ret_str ?_, ?_⟩
  · clear hc
    have e2 : a / 16 / 16 = a / 256 := by omega
    have e3 : a / 256 / 16 = a / 4096 := by omega
    have e4 : a / 4096 / 16 = a / 65536 := by omega
    have e5 : a / 65536 / 16 = a / 1048576 := by omega
    have e6 : a / 1048576 / 16 = a / 16777216 := by omega
    have e7 : a / 16777216 / 16 = a / 268435456 := by omega
    unfold hexS
    simp (disch := omega) only [hexAt, e2, e3, e4, e5, e6, e7, ← str_nil, str_cons]
  · go_grown

/-! ### Bytes -/
theorem c27 (a : Int) (w : World) (h0 : 0 ≤ a) (h1 : a ≤ 4294967295) :
    Calls Try.prog 27 #[.int .u32 a] w fun e w' => e = .returned (.slice (some ⟨w.heap.size, 0, none⟩) 4 4) ∧ w' = w.alloc (.cells #[.int .u8 (a % 256), .int .u8 (a / 256 % 256), .int .u8 (a / 65536 % 256), .int .u8 (a / 16777216)] 5) := by
  go_enter Try.func27, Try.ntmps27
  go_wp2
  go_ret
  exact ⟨rfl, rfl⟩
theorem c28 (a : Int) (w : World) (h0 : 0 ≤ a) (h1 : a ≤ 4294967295) :
    Calls Try.prog 28 #[.int .u32 a] w fun e w' => e = .returned (.slice (some ⟨w.heap.size, 0, none⟩) 4 4) ∧ w' = w.alloc (.cells #[.int .u8 (a % 256), .int .u8 (a / 256 % 256), .int .u8 (a / 65536 % 256), .int .u8 (a / 16777216)] 5) := by
  go_enter Try.func28, Try.ntmps28
  go_wp2
  go_ret
  exact ⟨rfl, rfl⟩

/-! ### digitOf, Parse -/
theorem ret_ub {a b : Int} {c d : Bool} (h : a = b) (g : c = d) : Ending.returned (.tuple #[.int .u32 a, .bool c]) = .returned (.tuple #[.int .u32 b, .bool d]) := by rw [h, g]
theorem ret_ue {a b c d : Int} (h : a = b) (g : c = d) : Ending.returned (.tuple #[.int .u32 a, .int .i64 c]) = .returned (.tuple #[.int .u32 b, .int .i64 d]) := by rw [h, g]
theorem c34_good (c : Int) (w : World) (h : goodD c = true) :
    Calls Try.prog 34 #[.int .u8 c] w fun e w' => e = .returned (.tuple #[.int .u32 (digV c), .bool true]) ∧ w = w' := by
  have hg := goodD_or c h
  by_cases hc : c ≤ 57
  · have k1 : 48 ≤ c := by omega
    have HD : Hid (digV c = c - 48) := by unfold digV Hid; rw [if_pos hc]
    clear hg h
    go_enter Try.func34, Try.ntmps34
    go_wp2
    all_goals go_ret2
    all_goals exact ⟨ret_ub HD.out.symm rfl, rfl⟩
  · have k1 : 97 ≤ c := by omega
    have k2 : c ≤ 102 := by omega
    have HD : Hid (digV c = c - 97 + 10) := by unfold digV Hid; rw [if_neg hc]; omega
    clear hg h
    go_enter Try.func34, Try.ntmps34
    go_wp2
    all_goals go_ret2
    all_goals exact ⟨ret_ub HD.out.symm rfl, rfl⟩
theorem c34_bad (c : Int) (w : World) (h0 : 0 ≤ c) (h1 : c ≤ 255) (h : goodD c = false) :
    Calls Try.prog 34 #[.int .u8 c] w fun e w' => e = .returned (.tuple #[.int .u32 0, .bool false]) ∧ w = w' := by
  have hg : ¬ ((48 ≤ c ∧ c ≤ 57) ∨ (97 ≤ c ∧ c ≤ 102)) := fun k => by rw [goodD_mk c k] at h; cases h
  have HG := Lib.hid hg
  clear hg h
  go_enter Try.func34, Try.ntmps34
  go_wp2
  all_goals first
    | (exfalso; have := HG.out; omega)
    | (go_ret2; exact ⟨rfl, rfl⟩)
theorem or16 (x d : Int) (h0 : 0 ≤ x) (h1 : x < 268435456) (h2 : 0 ≤ d) (h3 : d ≤ 15) : bits BinOp.or IntKind.u32 (x * 16) d = x * 16 + d := by
  rw [u32_or _ _ (by omega) (by omega) h2 (by omega)]
  have e : (x * 16).toNat = 2 ^ 4 * x.toNat := by omega
  rw [e, ← Nat.two_pow_add_eq_or_of_lt (show d.toNat < 2 ^ 4 by omega) x.toNat]
  omega
theorem pre_yes (s : ByteArray) (hs : s.size = 10) (h0 : byteI s 0 = 48) (h1 : byteI s 1 = 120) : ((s.extract 0 2).toList == [48, 120]) = true := by
  obtain ⟨x0, x1, x2, x3, x4, x5, x6, x7, x8, x9, hx⟩ := ten hs
  simp only [byteI, hx, List.getElem?_cons_succ, List.getElem?_cons_zero, Option.getD_some] at h0 h1
  have p0 : x0 = 48 := by apply UInt8.toNat_inj.1; simpa using (by omega : x0.toNat = 48)
  have p1 : x1 = 120 := by apply UInt8.toNat_inj.1; simpa using (by omega : x1.toNat = 120)
  rw [ByteArray.toList_eq]
  simp [ByteArray.data_extract, hx, p0, p1]
theorem pre_no (s : ByteArray) (hs : s.size = 10) (h : ¬ (byteI s 0 = 48 ∧ byteI s 1 = 120)) : ((s.extract 0 2).toList == [48, 120]) = false := by
  obtain ⟨x0, x1, x2, x3, x4, x5, x6, x7, x8, x9, hx⟩ := ten hs
  cases hc : ((s.extract 0 2).toList == [48, 120]) with
  | false => rfl
  | true =>
    exfalso
    apply h
    rw [ByteArray.toList_eq] at hc
    simp [ByteArray.data_extract, hx] at hc
    simp [byteI, hx, hc.1, hc.2]
theorem c24_long (s : ByteArray) (w : World) (h0 : s.size ≤ maxLen) (h : ¬ s.size = 10) :
    Calls Try.prog 24 #[.string s] w fun e w' => e = .returned (.tuple #[.int .u32 (parseV s), .int .i64 (parseE s)]) ∧ w = w' := by
  have HV := Lib.hid (parseV_no s fun k => h k.1)
  have HE := Lib.hid (parseE_no s fun k => h k.1)
  unfold maxLen at h0
  go_enter Try.func24, Try.ntmps24
  go_wp2
  all_goals first
    | (exfalso; omega)
    | (go_ret2; exact ⟨ret_ue HV.out.symm HE.out.symm, rfl⟩)
theorem c24_pre (s : ByteArray) (w : World) (hs : s.size = 10) (h : ¬ (byteI s 0 = 48 ∧ byteI s 1 = 120)) :
    Calls Try.prog 24 #[.string s] w fun e w' => e = .returned (.tuple #[.int .u32 (parseV s), .int .i64 (parseE s)]) ∧ w = w' := by
  have HV := Lib.hid (parseV_no s fun k => h ⟨k.2.1, k.2.2.1⟩)
  have HE := Lib.hid (parseE_no s fun k => h ⟨k.2.1, k.2.2.1⟩)
  have hp := pre_no s hs h
  clear h
  go_enter Try.func24, Try.ntmps24
  go_wp2
  go_ret2
  exact ⟨ret_ue HV.out.symm HE.out.symm, rfl⟩
theorem c24_in (s : ByteArray) (w : World) (hs : s.size = 10) (h0 : byteI s 0 = 48) (h1 : byteI s 1 = 120) :
    Calls Try.prog 24 #[.string s] w fun e w' => e = .returned (.tuple #[.int .u32 (parseV s), .int .i64 (parseE s)]) ∧ w = w' := by
  have hp := pre_yes s hs h0 h1
  have H0 := Lib.hid h0
  have H1 := Lib.hid h1
  clear h0 h1
  go_enter Try.func24, Try.ntmps24
  go_wp2
  go_loop [4, 5] (fun v i => ∃ j : Nat, j ≤ 8 ∧ i = .int .i64 ((j + 2 : Nat) : Int) ∧ v = .int .u32 (pN s j) ∧ Hid (∀ i, i < j → goodD (byteI s (i + 2)) = true)) (fun _ i => 10 - (intOf i).toNat)
  case atStart => exact ⟨0, by omega, rfl, rfl, fun i hi => by omega⟩
  case round =>
    obtain ⟨j, hj, rfl, rfl, HG⟩ := hrel
    clear hp
    have hb := pN_bd s j HG.out
    have hb0 := hb.1
    by_cases hlt : j < 8
    · have hb1 : pN s j < 268435456 := by have := pow16 j (by omega); omega
      clear hb
      have hx : ((s[j + 2]'(by omega)).toNat : Int) = byteI s (j + 2) := byteI_eq s (j + 2) (by omega)
      have hy := byteI_bd s (j + 2)
      have hy0 := hy.1
      have hy1 := hy.2
      clear hy
      cases hg : goodD (byteI s (j + 2)) with
      | true =>
        have hd := digV_bd _ hg
        have hd0 := hd.1
        have hd1 := hd.2
        have ho := or16 (pN s j) (digV (byteI s (j + 2))) hb0 hb1 hd0 hd1
        have HGG := Lib.hid hg
        clear hd hg
        go_wp2_with (go_at_call 34; refine (c34_good _ _ HGG.out).mono ?_; rintro e w' ⟨rfl, rfl⟩)
        go_round
        case rel => exact ⟨j + 1, by omega, by go_num, rfl, fun i hi => by
          by_cases hij : i = j
          · subst hij; exact HGG.out
          · exact HG.out i (by omega)⟩
        case measure => simp [intOf]; omega
      | false =>
        have HGG := Lib.hid hg
        clear hg
        go_wp2_with (go_at_call 34; refine (c34_bad _ _ hy0 hy1 HGG.out).mono ?_; rintro e w' ⟨rfl, rfl⟩)
        have HN : Hid (¬ okS s) := fun k => by
          have := k.2.2.2 j hlt
          rw [HGG.out] at this
          cases this
        go_ret2
        exact ⟨ret_ue (parseV_no s HN.out).symm (parseE_no s HN.out).symm, rfl⟩
    · obtain rfl : j = 8 := by omega
      have HN : Hid (okS s) := ⟨hs, H0.out, H1.out, HG.out⟩
      go_wp2
      go_ret2
      exact ⟨ret_ue (parseV_ok s HN.out).symm (parseE_ok s HN.out).symm, rfl⟩
theorem c24 (s : ByteArray) (w : World) (h0 : s.size ≤ maxLen) :
    Calls Try.prog 24 #[.string s] w fun e w' => e = .returned (.tuple #[.int .u32 (parseV s), .int .i64 (parseE s)]) ∧ w = w' := by
  by_cases hs : s.size = 10
  · by_cases hp : byteI s 0 = 48 ∧ byteI s 1 = 120
    · exact c24_in s w hs hp.1 hp.2
    · exact c24_pre s w hs hp
  · exact c24_long s w h0 hs
theorem c25_long (s : ByteArray) (w : World) (h0 : s.size ≤ maxLen) (h : ¬ s.size = 10) :
    Calls Try.prog 25 #[.string s] w fun e w' => e = .returned (.tuple #[.int .u32 (parseV s), .int .i64 (parseE s)]) ∧ Below w.heap.size w w' := by
  have HV := Lib.hid (parseV_no s fun k => h k.1)
  have HE := Lib.hid (parseE_no s fun k => h k.1)
  unfold maxLen at h0
  go_enter Try.func25, Try.ntmps25
  go_wp2_with fail
  all_goals first
    | (exfalso; omega)
    | (go_ret2; exact ⟨ret_ue HV.out.symm HE.out.symm, Below.refl _ _⟩)
theorem refD_low (c : Int) (h : c < 97) : refD c = c - 48 := by unfold refD; rw [if_neg (by omega)]
theorem refD_high (c : Int) (h : 97 ≤ c) : refD c = c - 97 + 10 := by unfold refD; rw [if_pos h]
theorem u32_eq {a b : Int} (h : a = b) : Value.int .u32 a = .int .u32 b := by rw [h]
theorem c25_in (s : ByteArray) (w : World) (hs : s.size = 10) :
    Calls Try.prog 25 #[.string s] w fun e w' => e = .returned (.tuple #[.int .u32 (parseV s), .int .i64 (parseE s)]) ∧ Below w.heap.size w w' := by
  have HI := Lib.hid (hex_iff s hs)
  go_enter Try.func25, Try.ntmps25
  go_wp2
  go_loop [4, 5] (fun v i => ∃ j : Nat, j ≤ 8 ∧ i = .int .i64 ((j + 2 : Nat) : Int) ∧ v = .int .u32 (refN s j)) (fun _ i => 10 - (intOf i).toNat)
  case atStart => exact ⟨0, by omega, rfl, rfl⟩
  case round =>
    obtain ⟨j, hj, rfl, rfl⟩ := hrel
    have hb := refN_bd s j
    have hb0 := hb.1
    have hb1 := hb.2
    clear hb
    by_cases hlt : j < 8
    · have hx : ((s[j + 2]'(by omega)).toNat : Int) = byteI s (j + 2) := byteI_eq s (j + 2) (by omega)
      have hy := byteI_bd s (j + 2)
      have hy0 := hy.1
      have hy1 := hy.2
      clear hy
      by_cases hc : byteI s (j + 2) < 97
      · have HD := Lib.hid (refD_low _ hc)
        go_wp2
        go_round
        case rel => exact ⟨j + 1, by omega, by go_num, u32_eq (by rw [refN, HD.out])⟩
        case measure => simp [intOf]; omega
      · have hc' : 97 ≤ byteI s (j + 2) := by omega
        have HD := Lib.hid (refD_high _ hc')
        go_wp2
        go_round
        case rel => exact ⟨j + 1, by omega, by go_num, u32_eq (by rw [refN, HD.out])⟩
        case measure => simp [intOf]; omega
    · obtain rfl : j = 8 := by omega
      by_cases hk : okS s
      · have ht := HI.out.1 hk
        have HK := Lib.hid hk
        clear hk
        go_wp2_with (go_at_call 30; refine (c30 _ _ hb0 hb1).mono ?_; rintro e w1 ⟨rfl, hbel⟩)
        go_ret2
        have hk := HK.out
        exact ⟨ret_ue (by rw [parseV_ok s hk, refN_good s 8 (by omega) hk.2.2.2]) (parseE_ok s hk).symm, hbel⟩
      · have ht := HI.out.2 hk
        have HK := Lib.hid hk
        clear hk
        go_wp2_with (go_at_call 30; refine (c30 _ _ hb0 hb1).mono ?_; rintro e w1 ⟨rfl, hbel⟩)
        go_ret2
        exact ⟨ret_ue (parseV_no s HK.out).symm (parseE_no s HK.out).symm, hbel⟩
theorem c25 (s : ByteArray) (w : World) (h0 : s.size ≤ maxLen) :
    Calls Try.prog 25 #[.string s] w fun e w' => e = .returned (.tuple #[.int .u32 (parseV s), .int .i64 (parseE s)]) ∧ Below w.heap.size w w' := by
  by_cases hs : s.size = 10
  · exact c25_in s w hs
  · exact c25_long s w h0 hs
end Go.Proofs.Ytlmdbpdfjjfapaa
