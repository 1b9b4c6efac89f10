/-
  The statement IsaUsesCardSaid: for every instruction the law on what it reads, writes and where it goes returns true, and its argument reads as before; the four listed tables are tied to the program's text.
-/
import Derived.Test.YtcemghcfapblgaaDoorIsaFrame
import Derived.Test.YtcemghcfapblgaaDoorIsaText
import Derived.Test.YtcemghcfapblgaaDoorIsaUse6
import Derived.Test.YtcemghcfapblgaaDoorTie
import Derived.Test.YtcemghcfapblgaaDoorCards
import Derived.Stop.LaidErr
import Derived.SevenTiedAt
namespace Go.Proofs.YtcemghcfapblgaaDoor.isaUses
set_option linter.unusedVariables false
set_option linter.unusedSimpArgs false
open Go.ChangeShapes Go.WideShapes Go.ChangeAt Go.WideElems Go.RowKit
open Go.ChangeMaps (open_string shut_string)

theorem of_laid {W : World} (h : laidMetH Tryd.prog Rows.isaUsesRow.laid W) : NmH W ∧ PwH W := by
  rw [MakeChecks.laidMetH_plain _ _ _ (by kernel_rfl)] at h
  have h1 : laidMet Tryd.prog [(_, Rows.laid_math_bits_deBruijn32tab), (_, Rows.laid_math_bits_deBruijn64tab), (_, Rows.laid_internal_strconv_uint64pow10), (_, Rows.laid_catapult_isa_names)] W := h
  have h3 := h1.tail.tail
  have h4 := h3.tail
  obtain ⟨cs, T, fr, f, p, hb, hd⟩ := laid_head h3 (by kernel_rfl) (by kernel_rfl)
  obtain ⟨cs', T', fr', f', p', hb', hd'⟩ := laid_head h4 (by kernel_rfl) (by kernel_rfl)
  exact ⟨nm_of ⟨T', fr', hb'⟩ hd', pw_of Tryd.underlying105 Tryd.underlying94 (by kernel_rfl) (by kernel_rfl) hb hd⟩
set_option maxHeartbeats 4000000 in
theorem law_walk (o d a b i : Int) (w : World) (hg : NmH w ∧ PwH w) (p0 : -9223372036854775808 ≤ o ∧ o ≤ 9223372036854775807) (p1 : -9223372036854775808 ≤ d ∧ d ≤ 9223372036854775807) (p2 : -9223372036854775808 ≤ a ∧ a ≤ 9223372036854775807) (p3 : -9223372036854775808 ≤ b ∧ b ≤ 9223372036854775807) (p4 : -9223372036854775808 ≤ i ∧ i ≤ 9223372036854775807) :
    Calls Tryd.prog 4 #[.agg #[.int .i64 o, .int .i64 d, .int .i64 a, .int .i64 b, .int .i64 i]] w fun e w' => e = .returned (.bool true) ∧ Below w.heap.size w w' := by
  obtain ⟨hn, hp⟩ := hg
  have HN := Lib.hid hn
  have HP := Lib.hid hp
  clear hn hp
  go_enter Tryd.func4, Tryd.ntmps4
  go_wp2_with fail
  refine (c_Reads o d a b i _ p0 p1 p2 p3 p4).mono ?_
  rintro e w1 ⟨v1, rfl, I1, hb1⟩
  have X1 := (Box.new w o d a b i 23).next hb1 rfl
  have hB1 := Lib.hid (below_on (below_new w _) hb1 (by simp))
  replace I1 := Lib.hid I1
  clear hb1
  have ⟨x0, x1, x2, x3, x4, xf⟩ := X1
  go_wp2_with fail
  refine (c_rReads o d a b i _ p0 p1 p2 p3 p4).mono ?_
  rintro e w2 ⟨v2, rfl, I2, hb2⟩
  have X2 := X1.next hb2 rfl
  have hB2 := Lib.hid (below_on hB1.out hb2 hB1.out.size)
  replace I1 := Lib.hid (I1.out.next hb2)
  replace I2 := Lib.hid I2
  clear hb2 x0 x1 x2 x3 x4 xf X1
  have ⟨x0, x1, x2, x3, x4, xf⟩ := X2
  go_wp2_with fail
  refine (c_Writes o d a b i _ p0 p1 p2 p3 p4).mono ?_
  rintro e w3 ⟨v3, rfl, I3, hb3⟩
  have X3 := X2.next hb3 rfl
  have hB3 := Lib.hid (below_on hB2.out hb3 hB2.out.size)
  replace I1 := Lib.hid (I1.out.next hb3)
  replace I2 := Lib.hid (I2.out.next hb3)
  replace I3 := Lib.hid I3
  clear hb3 x0 x1 x2 x3 x4 xf X2
  have ⟨x0, x1, x2, x3, x4, xf⟩ := X3
  go_wp2_with fail
  refine (c_rWrites o d a b i _ p0 p1 p2 p3 p4).mono ?_
  rintro e w4 ⟨v4, rfl, I4, hb4⟩
  have X4 := X3.next hb4 rfl
  have hB4 := Lib.hid (below_on hB3.out hb4 hB3.out.size)
  replace I1 := Lib.hid (I1.out.next hb4)
  replace I2 := Lib.hid (I2.out.next hb4)
  replace I3 := Lib.hid (I3.out.next hb4)
  replace I4 := Lib.hid I4
  clear hb4 x0 x1 x2 x3 x4 xf X3
  have ⟨x0, x1, x2, x3, x4, xf⟩ := X4
  go_wp2_with fail
  refine (c_Goes o d a b i _ p0 p1 p2 p3 p4).mono ?_
  rintro e w5 ⟨rfl, hb5⟩
  have X5 := X4.next hb5 rfl
  have hB5 := Lib.hid (below_on hB4.out hb5 hB4.out.size)
  replace I1 := Lib.hid (I1.out.next hb5)
  replace I2 := Lib.hid (I2.out.next hb5)
  replace I3 := Lib.hid (I3.out.next hb5)
  replace I4 := Lib.hid (I4.out.next hb5)
  clear hb5 x0 x1 x2 x3 x4 xf X4
  have ⟨x0, x1, x2, x3, x4, xf⟩ := X5
  go_wp2_with fail
  refine (c_rGoes o d a b i _ p0 p1 p2 p3 p4).mono ?_
  rintro e w6 ⟨rfl, hb6⟩
  have X6 := X5.next hb6 rfl
  have hB6 := Lib.hid (below_on hB5.out hb6 hB5.out.size)
  replace I1 := Lib.hid (I1.out.next hb6)
  replace I2 := Lib.hid (I2.out.next hb6)
  replace I3 := Lib.hid (I3.out.next hb6)
  replace I4 := Lib.hid (I4.out.next hb6)
  clear hb6 x0 x1 x2 x3 x4 xf X5
  have ⟨x0, x1, x2, x3, x4, xf⟩ := X6
  go_wp2_with fail
  refine (c_Same _ _ _ _ I1.out I2.out).mono ?_
  rintro e w7 ⟨rfl, hb7⟩
  replace I3 := Lib.hid (I3.out.next hb7)
  replace I4 := Lib.hid (I4.out.next hb7)
  have hB7 := Lib.hid (below_on hB6.out hb7 hB6.out.size)
  clear hb7 x0 x1 x2 x3 x4 xf X6
  go_wp2_with fail
  refine (c_Same _ _ _ _ I3.out I4.out).mono ?_
  rintro e w8 ⟨rfl, hb8⟩
  have hB8 := Lib.hid (below_on hB7.out hb8 hB7.out.size)
  clear hb8
  go_wp2_with fail
  refine (c_works _ (HN.out.next hB8.out rfl) (HP.out.next hB8.out rfl)).mono ?_
  rintro e w9 ⟨rfl, hb9⟩
  have hB9 := Lib.hid (below_on hB8.out hb9 hB8.out.size)
  clear hb9
  go_wp2_with fail
  go_ret
  exact ⟨rfl, hB9.out⟩
/-! ### The row's step -/
theorem door_met (os : Os) (args : Array Value) : laidMetH Tryd.prog Rows.isaUsesRow.laid ((World.doorLaid Tryd.prog 67 os).forCall (fun _ _ => 0) ⟨#[], args, []⟩).memory :=
  laidMetH_of_parts3 (fuel := 8) (laidMet_of_run' 8 (by kernel_rfl) (by kernel_rfl)) (by kernel_rfl) (by kernel_rfl)
set_option maxRecDepth 100000 in
theorem lifted (os : Os) (started : os.Started) (H : Type) (enc : TypeId × Value → H) :
    ReturnsInHanded {} Tryd.checked os 4 .any (fun w args => (Rows.isaUsesSpec.pre enc Tryd.prog Tryd.f4 [] false w args ∧ laidMetH Tryd.prog Rows.isaUsesRow.laid w) ∧ sizedMet enc Tryd.prog Tryd.f4 (OpenSpec.ofChange Rows.isaUsesSpec) false w args)
      (Rows.isaUsesSpec.post enc Tryd.prog Tryd.f4 false true false false) := by
  refine returnsInHanded_of_change_and (C := Tryd.checked) (X := fun w _ => laidMetH Tryd.prog Rows.isaUsesRow.laid w) (fun _ _ _ hh h => h.of_heap hh) own started (by kernel_rfl) Tryd.func4
    (ChangeSpec.witness_shaped (enc := enc) (C := Tryd.checked) (os := os) (X := fun w _ => laidMetH Tryd.prog Rows.isaUsesRow.laid w) false (World.doorLaid Tryd.prog 67 os) #[.agg #[.int .i64 0, .int .i64 0, .int .i64 0, .int .i64 0, .int .i64 0]] 8 rfl (World.shaped_of_RefB (by kernel_rfl) (by kernel_rfl)) (by kernel_rfl) (by kernel_rfl) (by kernel_rfl) (door_met os _)) ?_
  intro W base args ds gs before hval0 hW _ hreach hL _
  have hval : ∀ (j : Nat) t v, Tryd.f4.params[j]? = some t → args[j]? = some v → Value.okWide Tryd.prog W .any base t v := hval0
  have hW' := hW
  obtain ⟨p, q, hA0, hV, rfl, hfz, hnd⟩ := hW
  have hA : DataW.TrodAll enc Tryd.prog W 0 (fun _ => true) true Tryd.f4.params.toList args.toList ds p := hA0
  rw [Tryd.params4] at hA hval
  obtain ⟨v0, vs0, d0, ds0, p0, q0, hargs, rfl, rfl, h0, r0⟩ := trodAll_cons hA
  obtain ⟨rfl, rfl, rfl⟩ := trodAll_nil r0
  obtain rfl : args = #[v0] := by cases args; simp_all
  obtain ⟨rfl, rfl⟩ := trodVars_none hV
  have k0 := h0
  obtain ⟨a0_0, a0_1, a0_2, a0_3, a0_4, rfl, rfl, w0_0, w0_1, w0_2, w0_3, w0_4⟩ := open_instr (hval 0 23 v0 rfl rfl) h0
  clear hA0 hval0
  have hg := of_laid hL
  refine (law_walk a0_0 a0_1 a0_2 a0_3 a0_4 W hg (i64_bd _ w0_0) (i64_bd _ w0_1) (i64_bd _ w0_2) (i64_bd _ w0_3) (i64_bd _ w0_4)).mono fun e W' ⟨he, bel⟩ => ?_
  subst he
  exact ⟨_, rfl, _, _, _, [], _, [], hW', trodAll_mk1 (shut_bool Tryd.underlying4 _), (trodAll_cons_mk (Below.trod laidOut (by kernel_rfl) (of_decide_eq_true (by kernel_rfl)) k0 bel (fun x hx => by cases hx)) trodAll_mk0), rfl, bel.frame _, fun h => by cases h⟩
theorem row_holds : Rows.IsaUsesSaid :=
  OpenClaim.holds_of_wide 4 Tryd.f4 rfl rfl rfl rfl rfl rfl rfl ⟨rfl, rfl, rfl, rfl, rfl⟩ rfl rfl rfl rfl rfl (by kernel_rfl) Tryd.func4 (by kernel_rfl)
    (of_decide_eq_true (by kernel_rfl)) (by unfold Func.isWrapper; first | (rw [if_pos (by decide +kernel)]; kernel_rfl) | (rw [if_neg (by decide +kernel)]; exact ⟨rfl, rfl⟩))
    (fun os started H enc _ => lifted os started H enc)
/-- The statement. -/
theorem proved : Rows.IsaUsesCardSaid :=
  Claim7.holds_tied_plain_at .later [] [.data, .data, .data, .data] true Rows.isaUsesCard.stood.harness true
    row_holds (fun _ h => by cases h) (by kernel_rfl) (fun _ h => by cases h) isaUses_row_tie rfl ⟨rfl, rfl⟩ (by kernel_rfl) rfl
    (fun f fn hf hfn => by
      obtain rfl : f = 4 := (Option.some.inj ((show Tryd.prog.funcNamed Rows.isaUsesRow.func = some 4 by kernel_rfl).symm.trans hf)).symm
      obtain rfl : fn = Tryd.f4 := (Option.some.inj (Tryd.func4.symm.trans hfn)).symm
      exact ⟨by kernel_rfl, fun j t ht => by
        rw [Tryd.params4] at ht
        have hm : t ∈ [23] := by simpa using Array.mem_of_getElem? ht
        have hall : ([23].all fun u => !Tryd.prog.wantsStandIn u) = true := by kernel_rfl
        exact (show Tryd.prog.wantsStandIn t = false by simpa using List.all_eq_true.1 hall t hm)⟩)
    (by kernel_rfl)
#print axioms proved
end Go.Proofs.YtcemghcfapblgaaDoor.isaUses
