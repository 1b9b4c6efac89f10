/-
  The statement IsaWordsCardSaid: for every instruction and every word the law on words of instructions returns true, and its arguments read as before; the four listed tables are tied to the program's text.
-/
import Derived.Test.YtmojkphddaebkaaDoorIsaFrame
import Derived.Test.YtmojkphddaebkaaDoorIsaDec5
import Derived.Test.YtmojkphddaebkaaDoorTie
import Derived.Test.YtmojkphddaebkaaDoorCards
import Derived.Stop.LaidErr
import Derived.SevenTiedAt
namespace Go.Proofs.YtmojkphddaebkaaDoor.isaWords
set_option linter.unusedVariables false
open Go.ChangeShapes Go.WideShapes Go.ChangeAt Go.WideElems Go.RowKit

theorem of_laid {W : World} (h : laidMetH Tryd.prog Rows.isaWordsRow.laid W) : NmH W ∧ PwH W := by
  rw [MakeChecks.laidMetH_plain _ _ _ (by kernel_rfl)] at h
  have h1 : laidMet Tryd.prog [(_, Rows.laid_math_bits_deBruijn32tab), (_, Rows.laid_math_bits_deBruijn64tab), (_, Rows.laid_internal_strconv_uint64pow10), (_, Rows.laid_catapult_isa_names)] W := h
  have h3 := h1.tail.tail
  have h4 := h3.tail
  obtain ⟨cs, T, fr, f, p, hb, hd⟩ := laid_head h3 (by kernel_rfl) (by kernel_rfl)
  obtain ⟨cs', T', fr', f', p', hb', hd'⟩ := laid_head h4 (by kernel_rfl) (by kernel_rfl)
  exact ⟨nm_of ⟨T', fr', hb'⟩ hd', pw_of Tryd.underlying109 Tryd.underlying100 (by kernel_rfl) (by kernel_rfl) hb hd⟩
theorem kc {N : Nat} {w1 w2 : World} {p : Addr} {x : Value} (hb0 : Below N w1 w2) (hN : N = w1.heap.size) (h : w1.cell? p = some x) : w2.cell? p = some x := by
  subst hN
  exact (hb0.cell (cell_lt h)).trans h
theorem keep15 {N : Nat} {w w1 w2 : World} {p0 p1 p2 p3 p4 p5 p6 p7 p8 p9 p10 p11 p12 p13 p14 : Addr} {x0 x1 x2 x3 x4 x5 x6 x7 x8 x9 x10 x11 x12 x13 x14 : Value} (hb : Below N w1 w2) (hN : N = w1.heap.size)
    (h : w1.cell? p0 = some x0 ∧ w1.cell? p1 = some x1 ∧ w1.cell? p2 = some x2 ∧ w1.cell? p3 = some x3 ∧ w1.cell? p4 = some x4 ∧ w1.cell? p5 = some x5 ∧ w1.cell? p6 = some x6 ∧ w1.cell? p7 = some x7 ∧ w1.cell? p8 = some x8 ∧ w1.cell? p9 = some x9 ∧ w1.cell? p10 = some x10 ∧ w1.cell? p11 = some x11 ∧ w1.cell? p12 = some x12 ∧ w1.cell? p13 = some x13 ∧ w1.cell? p14 = some x14 ∧ Below w.heap.size w w1) : w2.cell? p0 = some x0 ∧ w2.cell? p1 = some x1 ∧ w2.cell? p2 = some x2 ∧ w2.cell? p3 = some x3 ∧ w2.cell? p4 = some x4 ∧ w2.cell? p5 = some x5 ∧ w2.cell? p6 = some x6 ∧ w2.cell? p7 = some x7 ∧ w2.cell? p8 = some x8 ∧ w2.cell? p9 = some x9 ∧ w2.cell? p10 = some x10 ∧ w2.cell? p11 = some x11 ∧ w2.cell? p12 = some x12 ∧ w2.cell? p13 = some x13 ∧ w2.cell? p14 = some x14 ∧ Below w.heap.size w w2 := by
  obtain ⟨a0, a1, a2, a3, a4, a5, a6, a7, a8, a9, a10, a11, a12, a13, a14, hB⟩ := h
  exact ⟨kc hb hN a0, kc hb hN a1, kc hb hN a2, kc hb hN a3, kc hb hN a4, kc hb hN a5, kc hb hN a6, kc hb hN a7, kc hb hN a8, kc hb hN a9, kc hb hN a10, kc hb hN a11, kc hb hN a12, kc hb hN a13, kc hb hN a14, below_on hB (hN ▸ hb) hB.size⟩
set_option maxHeartbeats 2000000 in
theorem law_walk (o d a b i x : Int) (w : World) (p1 : -9223372036854775808 ≤ o ∧ o ≤ 9223372036854775807) (p2 : -9223372036854775808 ≤ d ∧ d ≤ 9223372036854775807) (p3 : -9223372036854775808 ≤ a ∧ a ≤ 9223372036854775807)
    (p4 : -9223372036854775808 ≤ b ∧ b ≤ 9223372036854775807) (p5 : -9223372036854775808 ≤ i ∧ i ≤ 9223372036854775807) (h0 : 0 ≤ x) (h1 : x ≤ 4294967295) (hn : NmH w) (hp : PwH w) :
    Calls Tryd.prog 3 #[.agg #[.int .i64 o, .int .i64 d, .int .i64 a, .int .i64 b, .int .i64 i], .int .u32 x] w fun e w' => e = .returned (.bool true) ∧ Below w.heap.size w w' := by
  have HN := Lib.hid hn
  have HP := Lib.hid hp
  clear hn hp
  have heq := eq_instr
  go_enter Tryd.func3, Tryd.ntmps3
  go_wp2_with fail
  refine (c_Encode o d a b i _ p1 p2 p3 p4 p5).mono ?_
  rintro e w1 ⟨rfl, hb1⟩
  have X1 := (Box.new w o d a b i _).next hb1 rfl
  have hB1 := Lib.hid (below_on (below_new w _) hb1 (by simp))
  clear hb1
  have ⟨x0, x1, x2, x3, x4, xf⟩ := X1
  go_wp2_with fail
  refine (c_rEncode o d a b i _ p1 p2 p3 p4 p5).mono ?_
  rintro e w2 ⟨rfl, hb2⟩
  have X2 := X1.next hb2 rfl
  have hB2 := Lib.hid (below_on hB1.out hb2 hB1.out.size)
  clear hb2 x0 x1 x2 x3 x4 xf X1
  go_wp2_with fail
  refine (c_Decode x _ h0 h1).mono ?_
  rintro e w3 ⟨rfl, hb3⟩
  have X3 := X2.next hb3 rfl
  have hB3 := Lib.hid (below_on hB2.out hb3 hB2.out.size)
  clear hb3 X2
  go_wp2_with fail
  refine (c_rDecode x _ h0 h1).mono ?_
  rintro e w4 ⟨rfl, hb4⟩
  have X4 := (X3.next (below_new w3 _) rfl).next hb4 rfl
  have Y4 := (Box.new w3 (rOp x) (rD x) (rA x) (rB x) (rI x) _).next hb4 rfl
  have hB4 := Lib.hid (below_on (below_on hB3.out (below_new w3 _) hB3.out.size) hb4 (by have := hB3.out.size; simp; omega))
  clear hb4 X3
  have ⟨c0, c1, c2, c3, c4, cf⟩ := X4.next (below_new w4 (.cells #[.int .i64 (rOp x), .int .i64 (rD x), .int .i64 (rA x), .int .i64 (rB x), .int .i64 (rI x)] 23)) rfl
  have ⟨d0, d1, d2, d3, d4, df⟩ := Y4.next (below_new w4 (.cells #[.int .i64 (rOp x), .int .i64 (rD x), .int .i64 (rA x), .int .i64 (rB x), .int .i64 (rI x)] 23)) rfl
  have ⟨e0, e1, e2, e3, e4, ef⟩ := Box.new w4 (rOp x) (rD x) (rA x) (rB x) (rI x) 23
  have hB5 := Lib.hid (below_on hB4.out (below_new w4 (.cells #[.int .i64 (rOp x), .int .i64 (rD x), .int .i64 (rA x), .int .i64 (rB x), .int .i64 (rI x)] 23)) hB4.out.size)
  clear X4 Y4
  go_wp2_with fail
  generalize w4.alloc (.cells #[.int .i64 (rOp x), .int .i64 (rD x), .int .i64 (rA x), .int .i64 (rB x), .int .i64 (rI x)] 23) = w5 at c0 c1 c2 c3 c4 d0 d1 d2 d3 d4 e0 e1 e2 e3 e4 hB5 ⊢
  clear cf df ef hB1 hB2 hB3 hB4
  go_region_held3 (fun w' => w'.cell? ⟨w.heap.size, 0, none⟩ = some (.int .i64 o) ∧ w'.cell? ⟨w.heap.size, 1, none⟩ = some (.int .i64 d) ∧ w'.cell? ⟨w.heap.size, 2, none⟩ = some (.int .i64 a) ∧ w'.cell? ⟨w.heap.size, 3, none⟩ = some (.int .i64 b) ∧ w'.cell? ⟨w.heap.size, 4, none⟩ = some (.int .i64 i) ∧ w'.cell? ⟨w3.heap.size, 0, none⟩ = some (.int .i64 (rOp x)) ∧ w'.cell? ⟨w3.heap.size, 1, none⟩ = some (.int .i64 (rD x)) ∧ w'.cell? ⟨w3.heap.size, 2, none⟩ = some (.int .i64 (rA x)) ∧ w'.cell? ⟨w3.heap.size, 3, none⟩ = some (.int .i64 (rB x)) ∧ w'.cell? ⟨w3.heap.size, 4, none⟩ = some (.int .i64 (rI x)) ∧ w'.cell? ⟨w4.heap.size, 0, none⟩ = some (.int .i64 (rOp x)) ∧ w'.cell? ⟨w4.heap.size, 1, none⟩ = some (.int .i64 (rD x)) ∧ w'.cell? ⟨w4.heap.size, 2, none⟩ = some (.int .i64 (rA x)) ∧ w'.cell? ⟨w4.heap.size, 3, none⟩ = some (.int .i64 (rB x)) ∧ w'.cell? ⟨w4.heap.size, 4, none⟩ = some (.int .i64 (rI x)) ∧ Below w.heap.size w w')
    (first | (exact ⟨c0, c1, c2, c3, c4, d0, d1, d2, d3, d4, e0, e1, e2, e3, e4, hB5.out.drew⟩) | (exact keep15 (by assumption) rfl (by assumption)) | go_keep)
    (first
      | (go_at_call 13; refine (c_Check o d a b i _ p1 p2 p3 p4 p5).mono ?_; rintro e w' ⟨rfl, hbc⟩)
      | (go_at_call 14; refine (c_rCheck o d a b i _ p1 p2 p3 p4 p5).mono ?_; rintro e w' ⟨rfl, hbc⟩)
      | (go_at_call 15; refine (c_works _ (HN.out.next (by obtain ⟨-, -, -, -, -, -, -, -, -, -, -, -, -, -, -, hB⟩ := (by assumption : _ ∧ _); exact hB) rfl) (HP.out.next (by obtain ⟨-, -, -, -, -, -, -, -, -, -, -, -, -, -, -, hB⟩ := (by assumption : _ ∧ _); exact hB) rfl)).mono ?_; rintro e w' ⟨rfl, hbc⟩))
  obtain ⟨-, -, -, -, -, -, -, -, -, -, -, -, -, -, -, hB6⟩ := ‹_ ∧ _›
  have HB6 := Lib.hid hB6
  clear hB6
  go_wp2_with fail
  go_ret
  exact ⟨rfl, HB6.out⟩

/-! ### The row's step -/
theorem door_met (os : Os) (args : Array Value) : laidMetH Tryd.prog Rows.isaWordsRow.laid ((World.doorLaid Tryd.prog 67 os).forCall (fun _ _ => 0) ⟨#[], args, []⟩).memory :=
  laidMetH_of_parts3 (fuel := 8) (laidMet_of_run' 8 (by kernel_rfl) (by kernel_rfl)) (by kernel_rfl) (by kernel_rfl)
set_option maxRecDepth 100000 in
theorem lifted (os : Os) (started : os.Started) (H : Type) (enc : TypeId × Value → H) :
    ReturnsInHanded {} Tryd.checked os 3 .any (fun w args => (Rows.isaWordsSpec.pre enc Tryd.prog Tryd.f3 [] false w args ∧ laidMetH Tryd.prog Rows.isaWordsRow.laid w) ∧ sizedMet enc Tryd.prog Tryd.f3 (OpenSpec.ofChange Rows.isaWordsSpec) false w args)
      (Rows.isaWordsSpec.post enc Tryd.prog Tryd.f3 false true false false) := by
  refine returnsInHanded_of_change_and (C := Tryd.checked) (X := fun w _ => laidMetH Tryd.prog Rows.isaWordsRow.laid w) (fun _ _ _ hh h => h.of_heap hh) own started (by kernel_rfl) Tryd.func3
    (ChangeSpec.witness_shaped (enc := enc) (C := Tryd.checked) (os := os) (X := fun w _ => laidMetH Tryd.prog Rows.isaWordsRow.laid w) false (World.doorLaid Tryd.prog 67 os) #[.agg #[.int .i64 0, .int .i64 0, .int .i64 0, .int .i64 0, .int .i64 0], .int .u32 0] 8 rfl (World.shaped_of_RefB (by kernel_rfl) (by kernel_rfl)) (by kernel_rfl) (by kernel_rfl) (by kernel_rfl) (door_met os _)) ?_
  intro W base args ds gs before hval0 hW _ _ hL _
  have hval : ∀ (j : Nat) t v, Tryd.f3.params[j]? = some t → args[j]? = some v → Value.okWide Tryd.prog W .any base t v := hval0
  have hW' := hW
  obtain ⟨p, q, hA0, hV, rfl, hfz, hnd⟩ := hW
  have hA : DataW.TrodAll enc Tryd.prog W 0 (fun _ => true) true Tryd.f3.params.toList args.toList ds p := hA0
  rw [Tryd.params3] at hA hval
  obtain ⟨v0, vs0, d0, ds0, p0, q0, hargs, rfl, rfl, h0, r0⟩ := trodAll_cons hA
  obtain ⟨v1, vs1, d1, ds1, p1, q1, rfl, rfl, rfl, h1, r1⟩ := trodAll_cons r0
  obtain ⟨rfl, rfl, rfl⟩ := trodAll_nil r1
  obtain rfl : args = #[v0, v1] := by cases args; simp_all
  obtain ⟨rfl, rfl⟩ := trodVars_none hV
  have k0 := h0
  obtain ⟨a0, a1, a2, a3, a4, rfl, rfl, w0, w1, w2, w3, w4⟩ := open_instr (hval 0 23 v0 rfl rfl) h0
  obtain ⟨b0, rfl, rfl, rfl, wb⟩ := open_int Tryd.underlying24 (hval 1 24 v1 rfl rfl) h1
  clear hA0 hval0
  have ⟨hn, hp⟩ := of_laid hL
  refine (law_walk a0 a1 a2 a3 a4 b0 W (i64_bd a0 w0) (i64_bd a1 w1) (i64_bd a2 w2) (i64_bd a3 w3) (i64_bd a4 w4) (u32_bd b0 wb).1 (u32_bd b0 wb).2 hn hp).mono fun e W' ⟨he, bel⟩ => ?_
  subst he
  exact ⟨_, rfl, _, _, _, [], _, [], hW', trodAll_mk1 (shut_bool Tryd.underlying4 _), (trodAll_cons_mk (Below.trod laidOut (by kernel_rfl) (of_decide_eq_true (by kernel_rfl)) k0 bel (fun x hx => by cases hx)) (trodAll_cons_mk (shut_int Tryd.underlying24 wb) trodAll_mk0)), rfl, bel.frame _, fun h => by cases h⟩
theorem row_holds : Rows.IsaWordsSaid :=
  OpenClaim.holds_of_wide 3 Tryd.f3 rfl rfl rfl rfl rfl rfl rfl ⟨rfl, rfl, rfl, rfl, rfl⟩ rfl rfl rfl rfl rfl (by kernel_rfl) Tryd.func3 (by kernel_rfl)
    (of_decide_eq_true (by kernel_rfl)) (by unfold Func.isWrapper; first | (rw [if_pos (by decide +kernel)]; kernel_rfl) | (rw [if_neg (by decide +kernel)]; exact ⟨rfl, rfl⟩))
    (fun os started H enc _ => lifted os started H enc)
/-- The statement. -/
theorem proved : Rows.IsaWordsCardSaid :=
  Claim7.holds_tied_plain_at .later [] [.data, .data, .data, .data] true (true, "b01b45d7ce3c0701cd6aa8ae5bf1271d1cabaa1c1169e48da11d538164974693") true
    row_holds (fun _ h => by cases h) (by kernel_rfl) (fun _ h => by cases h) isaWords_row_tie rfl ⟨rfl, rfl⟩ (by kernel_rfl) rfl
    (fun f fn hf hfn => by
      obtain rfl : f = 3 := (Option.some.inj ((show Tryd.prog.funcNamed Rows.isaWordsRow.func = some 3 by kernel_rfl).symm.trans hf)).symm
      obtain rfl : fn = Tryd.f3 := (Option.some.inj (Tryd.func3.symm.trans hfn)).symm
      exact ⟨by kernel_rfl, fun j t ht => by
        rw [Tryd.params3] at ht
        have hm : t ∈ [23, 24] := by simpa using Array.mem_of_getElem? ht
        have hall : ([23, 24].all fun u => !Tryd.prog.wantsStandIn u) = true := by kernel_rfl
        exact (show Tryd.prog.wantsStandIn t = false by simpa using List.all_eq_true.1 hall t hm)⟩)
    (by kernel_rfl)
#print axioms proved
end Go.Proofs.YtmojkphddaebkaaDoor.isaWords
