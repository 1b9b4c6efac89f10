/-
  The statement IsaApartCardSaid: for every two instructions the law on words and texts that stand apart returns true, and its arguments read as before; the four listed tables are tied to the program's text.
-/
import Derived.Test.YtmojkphddaebkaaDoorIsaFrame
import Derived.Test.YtmojkphddaebkaaDoorIsaText
import Derived.Test.YtmojkphddaebkaaDoorTie
import Derived.Test.YtmojkphddaebkaaDoorCards
import Derived.Stop.LaidErr
import Derived.SevenTiedAt
namespace Go.Proofs.YtmojkphddaebkaaDoor.isaApart
set_option linter.unusedVariables false
set_option linter.unusedSimpArgs false
open Go.ChangeShapes Go.WideShapes Go.ChangeAt Go.WideElems Go.RowKit
open Go.ChangeMaps (open_string shut_string)

theorem of_laid {W : World} (h : laidMetH Tryd.prog Rows.isaApartRow.laid W) : NmH W ∧ PwH W := by
  rw [MakeChecks.laidMetH_plain _ _ _ (by kernel_rfl)] at h
  have h1 : laidMet Tryd.prog [(_, Rows.laid_math_bits_deBruijn32tab), (_, Rows.laid_math_bits_deBruijn64tab), (_, Rows.laid_internal_strconv_uint64pow10), (_, Rows.laid_catapult_isa_names)] W := h
  have h3 := h1.tail.tail
  have h4 := h3.tail
  obtain ⟨cs, T, fr, f, p, hb, hd⟩ := laid_head h3 (by kernel_rfl) (by kernel_rfl)
  obtain ⟨cs', T', fr', f', p', hb', hd'⟩ := laid_head h4 (by kernel_rfl) (by kernel_rfl)
  exact ⟨nm_of ⟨T', fr', hb'⟩ hd', pw_of Tryd.underlying109 Tryd.underlying100 (by kernel_rfl) (by kernel_rfl) hb hd⟩
/-- Two instructions' boxes, behind a call that keeps what was there. -/
theorem apart_inj (o d a b i o' d' a' b' i' : Int) (h : chkB o d a b i = true) (k : chkB o' d' a' b' i' = true) :
    (encV o d a b i = encV o' d' a' b' i' → o = o' ∧ d = d' ∧ a = a' ∧ b = b' ∧ i = i') ∧ (prL o d a b i = prL o' d' a' b' i' → o = o' ∧ d = d' ∧ a = a' ∧ b = b' ∧ i = i') := by
  obtain ⟨a1, a2, a3, a4, a5⟩ := enc_back o d a b i h
  obtain ⟨b1, b2, b3, b4, b5⟩ := enc_back o' d' a' b' i' k
  obtain ⟨c1, c2, c3, c4, c5⟩ := txt_back o d a b i h
  obtain ⟨e1, e2, e3, e4, e5⟩ := txt_back o' d' a' b' i' k
  constructor
  · intro q
    rw [q] at a1 a2 a3 a4 a5
    exact ⟨a1.symm.trans b1, a2.symm.trans b2, a3.symm.trans b3, a4.symm.trans b4, a5.symm.trans b5⟩
  · intro q
    rw [q] at c1 c2 c3 c4 c5
    exact ⟨c1.symm.trans e1, c2.symm.trans e2, c3.symm.trans e3, c4.symm.trans e4, c5.symm.trans e5⟩
theorem walk_start (o d a b i o' d' a' b' i' : Int) (w : World) (p0 : -9223372036854775808 ≤ o ∧ o ≤ 9223372036854775807) (p1 : -9223372036854775808 ≤ d ∧ d ≤ 9223372036854775807) (p2 : -9223372036854775808 ≤ a ∧ a ≤ 9223372036854775807) (p3 : -9223372036854775808 ≤ b ∧ b ≤ 9223372036854775807) (p4 : -9223372036854775808 ≤ i ∧ i ≤ 9223372036854775807) (p5 : -9223372036854775808 ≤ o' ∧ o' ≤ 9223372036854775807) (p6 : -9223372036854775808 ≤ d' ∧ d' ≤ 9223372036854775807) (p7 : -9223372036854775808 ≤ a' ∧ a' ≤ 9223372036854775807) (p8 : -9223372036854775808 ≤ b' ∧ b' ≤ 9223372036854775807) (p9 : -9223372036854775808 ≤ i' ∧ i' ≤ 9223372036854775807) (hn : NmH w) (hp : PwH w) (c1 c2 : Bool) (k1 : chkB o d a b i = c1) (k2 : chkB o' d' a' b' i' = c2) (hc : ¬ (c1 = true ∧ c2 = true)) :
    Calls Tryd.prog 8 #[.agg #[.int .i64 o, .int .i64 d, .int .i64 a, .int .i64 b, .int .i64 i], .agg #[.int .i64 o', .int .i64 d', .int .i64 a', .int .i64 b', .int .i64 i']] w fun e w' => e = .returned (.bool true) ∧ Below w.heap.size w w' := by
  have HN := Lib.hid hn
  have HP := Lib.hid hp
  have C1 := Lib.hid (c_Check o d a b i)
  have C2 := Lib.hid (c_Check o' d' a' b' i')
  rw [k1] at C1
  rw [k2] at C2
  have HQ := Lib.hid hc
  clear hn hp k1 k2 hc
  cases c1
  · rw [errI_no] at C1
    go_enter Tryd.func8, Tryd.ntmps8
    go_wp2_with fail
    refine (c_works _ (HN.out.next ((below_new w _).alloc (by simp) _) rfl) (HP.out.next ((below_new w _).alloc (by simp) _) rfl)).mono ?_
    rintro e w1 ⟨rfl, hb1⟩
    have ⟨x0, x1, x2, x3, x4, xf⟩ := ((Box.new w o d a b i _).next (below_new _ _) rfl).next hb1 rfl
    have ⟨y0, y1, y2, y3, y4, yf⟩ := (Box.new (w.alloc _) o' d' a' b' i' _).next hb1 rfl
    simp at y0 y1 y2 y3 y4 yf
    have hB1 := Lib.hid (below_on (below_on (below_new w _) (below_new _ _) (by simp)) hb1 (by simp; omega))
    clear hb1
    go_wp2_with fail
    refine (C1.out _ p0 p1 p2 p3 p4).mono ?_
    rintro e w2 ⟨rfl, hb2⟩
    have hB2 := Lib.hid (below_on hB1.out hb2 hB1.out.size)
    clear hb2
    go_wp2_with fail
    go_ret
    exact ⟨rfl, hB2.out⟩
  · cases c2
    · rw [errI_yes] at C1
      rw [errI_no] at C2
      go_enter Tryd.func8, Tryd.ntmps8
      go_wp2_with fail
      refine (c_works _ (HN.out.next ((below_new w _).alloc (by simp) _) rfl) (HP.out.next ((below_new w _).alloc (by simp) _) rfl)).mono ?_
      rintro e w1 ⟨rfl, hb1⟩
      have ⟨x0, x1, x2, x3, x4, xf⟩ := ((Box.new w o d a b i _).next (below_new _ _) rfl).next hb1 rfl
      have Y1 := (Box.new (w.alloc (.cells #[.int .i64 o, .int .i64 d, .int .i64 a, .int .i64 b, .int .i64 i] 23)) o' d' a' b' i' 23).next hb1 rfl
      have hB1 := Lib.hid (below_on (below_on (below_new w _) (below_new _ _) (by simp)) hb1 (by simp; omega))
      clear hb1
      go_wp2_with fail
      refine (C1.out _ p0 p1 p2 p3 p4).mono ?_
      rintro e w2 ⟨rfl, hb2⟩
      have ⟨y0, y1, y2, y3, y4, yf⟩ := Y1.next hb2 rfl
      simp at y0 y1 y2 y3 y4 yf
      have hB2 := Lib.hid (below_on hB1.out hb2 hB1.out.size)
      clear hb2 x0 x1 x2 x3 x4 xf Y1
      go_wp2_with fail
      refine (C2.out _ p5 p6 p7 p8 p9).mono ?_
      rintro e w3 ⟨rfl, hb3⟩
      have hB3 := Lib.hid (below_on hB2.out hb3 hB2.out.size)
      clear hb3
      go_wp2_with fail
      go_ret
      exact ⟨rfl, hB3.out⟩
    · exact absurd ⟨rfl, rfl⟩ HQ.out
set_option maxHeartbeats 4000000 in
theorem walk_both (o d a b i o' d' a' b' i' : Int) (w : World) (p0 : -9223372036854775808 ≤ o ∧ o ≤ 9223372036854775807) (p1 : -9223372036854775808 ≤ d ∧ d ≤ 9223372036854775807) (p2 : -9223372036854775808 ≤ a ∧ a ≤ 9223372036854775807) (p3 : -9223372036854775808 ≤ b ∧ b ≤ 9223372036854775807) (p4 : -9223372036854775808 ≤ i ∧ i ≤ 9223372036854775807) (p5 : -9223372036854775808 ≤ o' ∧ o' ≤ 9223372036854775807) (p6 : -9223372036854775808 ≤ d' ∧ d' ≤ 9223372036854775807) (p7 : -9223372036854775808 ≤ a' ∧ a' ≤ 9223372036854775807) (p8 : -9223372036854775808 ≤ b' ∧ b' ≤ 9223372036854775807) (p9 : -9223372036854775808 ≤ i' ∧ i' ≤ 9223372036854775807) (hn : NmH w) (hp : PwH w) (k1 : chkB o d a b i = true) (k2 : chkB o' d' a' b' i' = true) (q : Bool)
    (q1 : (encV o d a b i == encV o' d' a' b' i') = q) (q2 : (o == o' && (d == d' && (a == a' && (b == b' && (i == i'))))) = q) (q3 : (prL o d a b i == prL o' d' a' b' i') = q) :
    Calls Tryd.prog 8 #[.agg #[.int .i64 o, .int .i64 d, .int .i64 a, .int .i64 b, .int .i64 i], .agg #[.int .i64 o', .int .i64 d', .int .i64 a', .int .i64 b', .int .i64 i']] w fun e w' => e = .returned (.bool true) ∧ Below w.heap.size w w' := by
  have HN := Lib.hid hn
  have HP := Lib.hid hp
  have C1 := Lib.hid (c_Check o d a b i)
  have C2 := Lib.hid (c_Check o' d' a' b' i')
  have E1 := Lib.hid (c_Encode o d a b i)
  have E2 := Lib.hid (c_Encode o' d' a' b' i')
  have P1 := Lib.hid (c_Print o d a b i)
  have P2 := Lib.hid (c_Print o' d' a' b' i')
  rw [encR_yes _ _ _ _ _ k1] at E1
  rw [encR_yes _ _ _ _ _ k2] at E2
  rw [prR_yes _ _ _ _ _ k1] at P1
  rw [prR_yes _ _ _ _ _ k2] at P2
  rw [k1, errI_yes] at C1 E1 P1
  rw [k2, errI_yes] at C2 E2 P2
  have ⟨eb0, eb1⟩ := encR_bd o d a b i
  have ⟨ec0, ec1⟩ := encR_bd o' d' a' b' i'
  rw [encR_yes _ _ _ _ _ k1] at eb0 eb1
  rw [encR_yes _ _ _ _ _ k2] at ec0 ec1
  have heq := eq_instr
  have Q2 := Lib.hid q2
  clear hn hp k1 k2 q2
  go_enter Tryd.func8, Tryd.ntmps8
  go_wp2_with fail
  refine (c_works _ (HN.out.next ((below_new w _).alloc (by simp) _) rfl) (HP.out.next ((below_new w _).alloc (by simp) _) rfl)).mono ?_
  rintro e w1 ⟨rfl, hb1⟩
  have X1 := ((Box.new w o d a b i 23).next (below_new _ (.cells #[.int .i64 o', .int .i64 d', .int .i64 a', .int .i64 b', .int .i64 i'] 23)) rfl).next hb1 rfl
  have Y1 := (Box.new (w.alloc (.cells #[.int .i64 o, .int .i64 d, .int .i64 a, .int .i64 b, .int .i64 i] 23)) o' d' a' b' i' 23).next hb1 rfl
  rw [show (w.alloc (.cells #[.int .i64 o, .int .i64 d, .int .i64 a, .int .i64 b, .int .i64 i] 23)).heap.size = w.heap.size + 1 by simp] at Y1
  have hB1 := Lib.hid (below_on (below_on (below_new w _) (below_new _ _) (by simp)) hb1 (by simp; omega))
  clear hb1
  have ⟨x0, x1, x2, x3, x4, xf⟩ := X1
  go_wp2_with fail
  refine (C1.out _ p0 p1 p2 p3 p4).mono ?_
  rintro e w2 ⟨rfl, hb2⟩
  have X2 := X1.next hb2 rfl
  have Y2 := Y1.next hb2 rfl
  have hB2 := Lib.hid (below_on hB1.out hb2 hB1.out.size)
  clear hb2 x0 x1 x2 x3 x4 xf X1 Y1
  have ⟨y0, y1, y2, y3, y4, yf⟩ := Y2
  go_wp2_with fail
  refine (C2.out _ p5 p6 p7 p8 p9).mono ?_
  rintro e w3 ⟨rfl, hb3⟩
  have X3 := X2.next hb3 rfl
  have Y3 := Y2.next hb3 rfl
  have hB3 := Lib.hid (below_on hB2.out hb3 hB2.out.size)
  clear hb3 y0 y1 y2 y3 y4 yf X2 Y2
  have ⟨x0, x1, x2, x3, x4, xf⟩ := X3
  go_wp2_with fail
  refine (E1.out _ p0 p1 p2 p3 p4).mono ?_
  rintro e w4 ⟨rfl, hb4⟩
  have X4 := X3.next hb4 rfl
  have Y4 := Y3.next hb4 rfl
  have hB4 := Lib.hid (below_on hB3.out hb4 hB3.out.size)
  clear hb4 x0 x1 x2 x3 x4 xf X3 Y3
  have ⟨y0, y1, y2, y3, y4, yf⟩ := Y4
  go_wp2_with fail
  refine (E2.out _ p5 p6 p7 p8 p9).mono ?_
  rintro e w5 ⟨rfl, hb5⟩
  have X5 := X4.next hb5 rfl
  have Y5 := Y4.next hb5 rfl
  have hB5 := Lib.hid (below_on hB4.out hb5 hB4.out.size)
  clear hb5 y0 y1 y2 y3 y4 yf X4 Y4
  have ⟨x0, x1, x2, x3, x4, xf⟩ := X5
  go_wp2_with fail
  refine (P1.out _ p0 p1 p2 p3 p4 (HN.out.next hB5.out rfl) (HP.out.next hB5.out rfl)).mono ?_
  rintro e w6 ⟨rfl, hb6⟩
  have X6 := X5.next hb6 rfl
  have Y6 := Y5.next hb6 rfl
  have hB6 := Lib.hid (below_on hB5.out hb6 hB5.out.size)
  clear hb6 x0 x1 x2 x3 x4 xf X5 Y5
  have ⟨y0, y1, y2, y3, y4, yf⟩ := Y6
  go_wp2_with fail
  refine (P2.out _ p5 p6 p7 p8 p9 (HN.out.next hB6.out rfl) (HP.out.next hB6.out rfl)).mono ?_
  rintro e w7 ⟨rfl, hb7⟩
  have ⟨x0, x1, x2, x3, x4, xf⟩ := X6.next hb7 rfl
  have Y7 := Y6.next hb7 rfl
  have hB7 := Lib.hid (below_on hB6.out hb7 hB6.out.size)
  clear hb7 y0 y1 y2 y3 y4 yf X6 Y6
  have ⟨y0, y1, y2, y3, y4, yf⟩ := Y7
  clear Y7
  go_wp2_with fail
  all_goals first
    | (exfalso; exact absurd Q2.out.symm (by assumption))
    | (exfalso; exact absurd Q2.out (by assumption))
    | (go_ret; exact ⟨rfl, hB7.out⟩)
theorem law_walk (o d a b i o' d' a' b' i' : Int) (w : World) (hg : NmH w ∧ PwH w) (p0 : -9223372036854775808 ≤ o ∧ o ≤ 9223372036854775807) (p1 : -9223372036854775808 ≤ d ∧ d ≤ 9223372036854775807) (p2 : -9223372036854775808 ≤ a ∧ a ≤ 9223372036854775807) (p3 : -9223372036854775808 ≤ b ∧ b ≤ 9223372036854775807) (p4 : -9223372036854775808 ≤ i ∧ i ≤ 9223372036854775807) (p5 : -9223372036854775808 ≤ o' ∧ o' ≤ 9223372036854775807) (p6 : -9223372036854775808 ≤ d' ∧ d' ≤ 9223372036854775807) (p7 : -9223372036854775808 ≤ a' ∧ a' ≤ 9223372036854775807) (p8 : -9223372036854775808 ≤ b' ∧ b' ≤ 9223372036854775807) (p9 : -9223372036854775808 ≤ i' ∧ i' ≤ 9223372036854775807) :
    Calls Tryd.prog 8 #[.agg #[.int .i64 o, .int .i64 d, .int .i64 a, .int .i64 b, .int .i64 i], .agg #[.int .i64 o', .int .i64 d', .int .i64 a', .int .i64 b', .int .i64 i']] w fun e w' => e = .returned (.bool true) ∧ Below w.heap.size w w' := by
  obtain ⟨hn, hp⟩ := hg
  cases k1 : chkB o d a b i
  · exact walk_start o d a b i o' d' a' b' i' w p0 p1 p2 p3 p4 p5 p6 p7 p8 p9 hn hp false _ k1 rfl (by simp)
  · cases k2 : chkB o' d' a' b' i'
    · exact walk_start o d a b i o' d' a' b' i' w p0 p1 p2 p3 p4 p5 p6 p7 p8 p9 hn hp true false k1 k2 (by simp)
    · have hj := apart_inj o d a b i o' d' a' b' i' k1 k2
      by_cases h : o = o' ∧ d = d' ∧ a = a' ∧ b = b' ∧ i = i'
      · obtain ⟨h1, h2, h3, h4, h5⟩ := h
        subst h1 h2 h3 h4 h5
        exact walk_both _ _ _ _ _ _ _ _ _ _ w p0 p1 p2 p3 p4 p5 p6 p7 p8 p9 hn hp k1 k2 true (by simp) (by simp) (by simp)
      · refine walk_both o d a b i o' d' a' b' i' w p0 p1 p2 p3 p4 p5 p6 p7 p8 p9 hn hp k1 k2 false ?_ ?_ ?_
        · exact beq_no fun e => h (hj.1 e)
        · cases hq : (o == o' && (d == d' && (a == a' && (b == b' && (i == i')))))
          · rfl
          · exfalso
            apply h
            simpa using hq
        · rw [beq_eq_false_iff_ne]
          exact fun e => h (hj.2 e)

/-! ### The row's step -/
theorem door_met (os : Os) (args : Array Value) : laidMetH Tryd.prog Rows.isaApartRow.laid ((World.doorLaid Tryd.prog 67 os).forCall (fun _ _ => 0) ⟨#[], args, []⟩).memory :=
  laidMetH_of_parts3 (fuel := 8) (laidMet_of_run' 8 (by kernel_rfl) (by kernel_rfl)) (by kernel_rfl) (by kernel_rfl)
set_option maxRecDepth 100000 in
theorem lifted (os : Os) (started : os.Started) (H : Type) (enc : TypeId × Value → H) :
    ReturnsInHanded {} Tryd.checked os 8 .any (fun w args => (Rows.isaApartSpec.pre enc Tryd.prog Tryd.f8 [] false w args ∧ laidMetH Tryd.prog Rows.isaApartRow.laid w) ∧ sizedMet enc Tryd.prog Tryd.f8 (OpenSpec.ofChange Rows.isaApartSpec) false w args)
      (Rows.isaApartSpec.post enc Tryd.prog Tryd.f8 false true false false) := by
  refine returnsInHanded_of_change_and (C := Tryd.checked) (X := fun w _ => laidMetH Tryd.prog Rows.isaApartRow.laid w) (fun _ _ _ hh h => h.of_heap hh) own started (by kernel_rfl) Tryd.func8
    (ChangeSpec.witness_shaped (enc := enc) (C := Tryd.checked) (os := os) (X := fun w _ => laidMetH Tryd.prog Rows.isaApartRow.laid w) false (World.doorLaid Tryd.prog 67 os) #[.agg #[.int .i64 0, .int .i64 0, .int .i64 0, .int .i64 0, .int .i64 0], .agg #[.int .i64 0, .int .i64 0, .int .i64 0, .int .i64 0, .int .i64 0]] 8 rfl (World.shaped_of_RefB (by kernel_rfl) (by kernel_rfl)) (by kernel_rfl) (by kernel_rfl) (by kernel_rfl) (door_met os _)) ?_
  intro W base args ds gs before hval0 hW _ hreach hL _
  have hval : ∀ (j : Nat) t v, Tryd.f8.params[j]? = some t → args[j]? = some v → Value.okWide Tryd.prog W .any base t v := hval0
  have hW' := hW
  obtain ⟨p, q, hA0, hV, rfl, hfz, hnd⟩ := hW
  have hA : DataW.TrodAll enc Tryd.prog W 0 (fun _ => true) true Tryd.f8.params.toList args.toList ds p := hA0
  rw [Tryd.params8] at hA hval
  obtain ⟨v0, vs0, d0, ds0, p0, q0, hargs, rfl, rfl, h0, r0⟩ := trodAll_cons hA
  obtain ⟨v1, vs1, d1, ds1, p1, q1, rfl, rfl, rfl, h1, r1⟩ := trodAll_cons r0
  obtain ⟨rfl, rfl, rfl⟩ := trodAll_nil r1
  obtain rfl : args = #[v0, v1] := by cases args; simp_all
  obtain ⟨rfl, rfl⟩ := trodVars_none hV
  have k0 := h0
  obtain ⟨a0_0, a0_1, a0_2, a0_3, a0_4, rfl, rfl, w0_0, w0_1, w0_2, w0_3, w0_4⟩ := open_instr (hval 0 23 v0 rfl rfl) h0
  have k1 := h1
  obtain ⟨a1_0, a1_1, a1_2, a1_3, a1_4, rfl, rfl, w1_0, w1_1, w1_2, w1_3, w1_4⟩ := open_instr (hval 1 23 v1 rfl rfl) h1
  clear hA0 hval0
  have hg := of_laid hL
  refine (law_walk a0_0 a0_1 a0_2 a0_3 a0_4 a1_0 a1_1 a1_2 a1_3 a1_4 W hg (i64_bd _ w0_0) (i64_bd _ w0_1) (i64_bd _ w0_2) (i64_bd _ w0_3) (i64_bd _ w0_4) (i64_bd _ w1_0) (i64_bd _ w1_1) (i64_bd _ w1_2) (i64_bd _ w1_3) (i64_bd _ w1_4)).mono fun e W' ⟨he, bel⟩ => ?_
  subst he
  exact ⟨_, rfl, _, _, _, [], _, [], hW', trodAll_mk1 (shut_bool Tryd.underlying4 _), (trodAll_cons_mk (Below.trod laidOut (by kernel_rfl) (of_decide_eq_true (by kernel_rfl)) k0 bel (fun x hx => by cases hx)) (trodAll_cons_mk (Below.trod laidOut (by kernel_rfl) (of_decide_eq_true (by kernel_rfl)) k1 bel (fun x hx => by cases hx)) trodAll_mk0)), rfl, bel.frame _, fun h => by cases h⟩
theorem row_holds : Rows.IsaApartSaid :=
  OpenClaim.holds_of_wide 8 Tryd.f8 rfl rfl rfl rfl rfl rfl rfl ⟨rfl, rfl, rfl, rfl, rfl⟩ rfl rfl rfl rfl rfl (by kernel_rfl) Tryd.func8 (by kernel_rfl)
    (of_decide_eq_true (by kernel_rfl)) (by unfold Func.isWrapper; first | (rw [if_pos (by decide +kernel)]; kernel_rfl) | (rw [if_neg (by decide +kernel)]; exact ⟨rfl, rfl⟩))
    (fun os started H enc _ => lifted os started H enc)
/-- The statement. -/
theorem proved : Rows.IsaApartCardSaid :=
  Claim7.holds_tied_plain_at .later [] [.data, .data, .data, .data] true Rows.isaApartCard.stood.harness true
    row_holds (fun _ h => by cases h) (by kernel_rfl) (fun _ h => by cases h) isaApart_row_tie rfl ⟨rfl, rfl⟩ (by kernel_rfl) rfl
    (fun f fn hf hfn => by
      obtain rfl : f = 8 := (Option.some.inj ((show Tryd.prog.funcNamed Rows.isaApartRow.func = some 8 by kernel_rfl).symm.trans hf)).symm
      obtain rfl : fn = Tryd.f8 := (Option.some.inj (Tryd.func8.symm.trans hfn)).symm
      exact ⟨by kernel_rfl, fun j t ht => by
        rw [Tryd.params8] at ht
        have hm : t ∈ [23, 23] := by simpa using Array.mem_of_getElem? ht
        have hall : ([23, 23].all fun u => !Tryd.prog.wantsStandIn u) = true := by kernel_rfl
        exact (show Tryd.prog.wantsStandIn t = false by simpa using List.all_eq_true.1 hall t hm)⟩)
    (by kernel_rfl)
#print axioms proved
end Go.Proofs.YtmojkphddaebkaaDoor.isaApart
