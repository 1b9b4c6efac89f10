/-
  The statement IsaTextsCardSaid: for every instruction and every text the law on texts returns true, and its arguments read as before; the six listed variables are tied to the program's text.
-/
import Derived.Test.YtcemghcfapblgaaDoorIsaFrame
import Derived.Test.YtcemghcfapblgaaDoorIsaTx7
import Derived.Test.YtcemghcfapblgaaDoorTie
import Derived.Test.YtcemghcfapblgaaDoorCards
import Derived.Stop.LaidErr
import Derived.SevenTiedAt
import Derived.HandedShaped
import Derived.Shelf.Vars
namespace Go.Proofs.YtcemghcfapblgaaDoor.isaTexts
set_option linter.unusedVariables false
set_option linter.unusedSimpArgs false
open Go.ChangeShapes Go.WideShapes Go.ChangeAt Go.WideElems Go.RowKit
open Go.ChangeMaps (open_string shut_string)

/-- A listed error is an error. -/
theorem err_of {n nm : String} {d : DataW Unit} {r : List (String × DataW Unit)} {W : World} {g : Nat} {t : TypeId} {ms : Array (String × TypeId)} (h : laidMet Tryd.prog ((n, .iface nm d) :: r) W) (hg : Tryd.prog.globalNamed n = some g) (ht : (Tryd.prog.globals[g]?).map (·.type) = some t) (hi : Tryd.prog.underlying t = some (.interface ms)) :
    ∃ te pe, W.cell? ⟨g, 0, none⟩ = some (.iface te pe) := by
  obtain ⟨cs, T, fr, f, p, hb, hd⟩ := laid_head h hg ht
  obtain ⟨f1, u, v, hcs, _, _⟩ := iface_of_trod hi hd
  refine ⟨u, v, ?_⟩
  unfold World.cell?
  simp only [hb]
  obtain ⟨l⟩ := cs
  have hl : l = [.iface u v] := hcs
  subst hl
  rfl
theorem of_laid {W : World} (h : laidMetH Tryd.prog Rows.isaTextsRow.laid W) (hs : W.ShapedOpen Tryd.prog) : GW W := by
  rw [MakeChecks.laidMetH_plain _ _ _ (by kernel_rfl)] at h
  have h1 : laidMet Tryd.prog [(_, Rows.laid_math_bits_deBruijn32tab), (_, Rows.laid_math_bits_deBruijn64tab), (_, Rows.laid_internal_strconv_uint64pow10), (_, Rows.laid_strconv_ErrRange), (_, Rows.laid_strconv_ErrSyntax), (_, Rows.laid_catapult_isa_names)] W := h
  have h3 := h1.tail.tail
  have h4 := h3.tail
  have h5 := h4.tail
  have h6 := h5.tail
  obtain ⟨cs, T, fr, f, p, hb, hd⟩ := laid_head h3 (by kernel_rfl) (by kernel_rfl)
  obtain ⟨cs', T', fr', f', p', hb', hd'⟩ := laid_head h6 (by kernel_rfl) (by kernel_rfl)
  have e1 := err_of h4 (g := 4) (t := 87) (by kernel_rfl) (by kernel_rfl) Tryd.underlying87
  have e2 := err_of h5 (g := 3) (t := 87) (by kernel_rfl) (by kernel_rfl) Tryd.underlying87
  have m := cell_of_shapedOpen_int (P := Tryd.prog) (g := 2) (t := 3) (zero := #[.int .i64 0]) hs (of_decide_eq_true (by kernel_rfl)) (by kernel_rfl) rfl (by kernel_rfl) (by kernel_rfl) Tryd.underlying3
  exact ⟨nm_of ⟨T', fr', hb'⟩ hd', pw_of Tryd.underlying105 Tryd.underlying94 (by kernel_rfl) (by kernel_rfl) hb hd, m, e2, e1⟩
/-- The listed tables' row, with the world's shape handed to the contract. -/
theorem handed_shaped {H : Type} {enc : TypeId × Value → H} {C : Checked} {os : Os} {f : FuncId} {fn : Func} {s : ChangeSpec} {X : World → Prop} (hX : ∀ w w' : World, w.heap = w'.heap → X w → X w')
    (ow : ownKnob C.prog.godebug = none) (started : os.Started) (noInit : C.prog.inits.idxOf? f = none) (hfn : C.prog.funcs[f]? = some fn)
    (wit : ∃ (w : World) (tape : Tape) (i : Input), w.os = os ∧ (w.forCall tape i).Shaped C.prog ∧ i.vars = [] ∧ Input.okWide C.prog (w.forCall tape i) .any w.heap.size f i ∧
      ((s.pre enc C.prog fn [] false (w.forCall tape i).memory i.args ∧ X (w.forCall tape i).memory) ∧ sizedMet enc C.prog fn (OpenSpec.ofChange s) false (w.forCall tape i).memory i.args) ∧ ({} : Assume).holds C.prog (lone (Frame.enter C.prog f i.args .normal) [] (w.forCall tape i)))
    (contract : ∀ (W : World) (base : Nat) (args : Array Value) (ds gs : List (DataW H)) (before : List MemPlace), (∀ (j : Nat) t v, fn.params[j]? = some t → args[j]? = some v → Value.okWide C.prog W .any base t v) →
      DataW.Whole enc C.prog fn.params.toList s.vars false W args.toList ds gs before → X W → W.ShapedOpen C.prog → Calls C.prog f args W fun e W' => ∃ v, e = .returned v ∧ s.post enc C.prog fn false true false false W args v W') :
    ReturnsInHanded {} C os f .any (fun w args => (s.pre enc C.prog fn [] false w args ∧ X w) ∧ sizedMet enc C.prog fn (OpenSpec.ofChange s) false w args) (s.post enc C.prog fn false true false false) := by
  refine returnsInHanded_of_calls ow started noInit wit ?_
  intro w tape i _ hsh _ hok hpre _
  obtain ⟨_, _, _, fn', hfn', _, _, _, _, hval⟩ := hok
  obtain rfl : fn' = fn := Option.some.inj (hfn'.symm.trans hfn)
  obtain ⟨⟨⟨ds, gs, before, hw, _⟩, hx⟩, _⟩ := hpre
  have hw' := DataW.Whole.of_heap (w' := w.forCall tape i) (by rfl) hw
  refine (contract _ w.heap.size i.args ds gs before hval hw' (hX _ _ (by rfl) hx) hsh).mono fun e W' ⟨v, he, hp⟩ => ?_
  rw [he]
  exact ChangeSpec.post_blind hp
set_option maxHeartbeats 4000000 in
theorem law_walk (o d a b i : Int) (s : ByteArray) (w : World) (hg : GW w) (p0 : -9223372036854775808 ≤ o ∧ o ≤ 9223372036854775807) (p1 : -9223372036854775808 ≤ d ∧ d ≤ 9223372036854775807) (p2 : -9223372036854775808 ≤ a ∧ a ≤ 9223372036854775807) (p3 : -9223372036854775808 ≤ b ∧ b ≤ 9223372036854775807) (p4 : -9223372036854775808 ≤ i ∧ i ≤ 9223372036854775807) (hs : s.size ≤ maxLen) :
    Calls Tryd.prog 3 #[.agg #[.int .i64 o, .int .i64 d, .int .i64 a, .int .i64 b, .int .i64 i], .string s] w fun e w' => e = .returned (.bool true) ∧ Below w.heap.size w w' := by
  obtain ⟨l, rfl⟩ : ∃ l : List UInt8, s = ⟨l.toArray⟩ := ⟨s.data.toList, by simp⟩
  have hm : l.length ≤ maxLen := by
    have e : (⟨l.toArray⟩ : ByteArray).size = l.length := by show l.toArray.size = _; simp
    rw [← e]
    exact hs
  have HM := Lib.hid hm
  have HG := Lib.hid hg
  clear hm hg hs
  have heq := eq_instr
  go_enter Tryd.func3, Tryd.ntmps3
  go_wp2_with fail
  refine (c_Print o d a b i _ p0 p1 p2 p3 p4 (HG.out.next (below_new w _) rfl).1 (HG.out.next (below_new w _) rfl).2.1).mono ?_
  rintro e w1 ⟨rfl, hb1⟩
  have ⟨x0, x1, x2, x3, x4, xf⟩ := (Box.new w o d a b i 23).next hb1 rfl
  have hB1 := Lib.hid (below_on (below_new w _) hb1 (by simp))
  clear hb1
  go_wp2_with fail
  refine (c_rPrint o d a b i _ p0 p1 p2 p3 p4).mono ?_
  rintro e w2 ⟨rfl, hb2⟩
  have hB2 := Lib.hid (below_on hB1.out hb2 hB1.out.size)
  clear hb2 x0 x1 x2 x3 x4 xf
  go_wp2_with fail
  refine (c_Parse l _ HM.out (HG.out.next hB2.out rfl)).mono ?_
  rintro e w3 ⟨rfl, hb3⟩
  have hB3 := Lib.hid (below_on hB2.out hb3 hB2.out.size)
  clear hb3
  have HX3 := Lib.hid (Box.new w3 (vOp l) (vD l) (vA l) (vB l) (vI l) 23)
  go_wp2_with fail
  refine (c_rParse l _ HM.out).mono ?_
  rintro e w4 ⟨rfl, hb4⟩
  have ⟨y0, y1, y2, y3, y4, yf⟩ := HX3.out.next hb4 rfl
  have hlt : w3.heap.size < w4.heap.size := cell_lt y0
  have hB4 := Lib.hid (below_on (below_on hB3.out (below_new w3 (.cells #[.int .i64 (vOp l), .int .i64 (vD l), .int .i64 (vA l), .int .i64 (vB l), .int .i64 (vI l)] 23)) hB3.out.size) hb4 (by have := hB3.out.size; simp; omega))
  clear hb4
  go_wp2_with fail
  refine (c_works _ (HG.out.next (hB4.out.alloc hB4.out.size _) rfl).1 (HG.out.next (hB4.out.alloc hB4.out.size _) rfl).2.1).mono ?_
  rintro e w9 ⟨rfl, hb9⟩
  have hB9 := Lib.hid (below_on (hB4.out.alloc hB4.out.size (.cells #[.int .i64 (vOp l), .int .i64 (vD l), .int .i64 (vA l), .int .i64 (vB l), .int .i64 (vI l)] 23)) hb9 (by have := hB4.out.size; simp; omega))
  clear hb9
  go_wp2_with fail
  go_ret
  exact ⟨rfl, hB9.out⟩
/-! ### The row's step -/
theorem door_met (os : Os) (args : Array Value) : laidMetH Tryd.prog Rows.isaTextsRow.laid ((World.doorLaid Tryd.prog 67 os).forCall (fun _ _ => 0) ⟨#[], args, []⟩).memory :=
  laidMetH_of_parts3 (fuel := 8) (laidMet_of_run' 8 (by kernel_rfl) (by kernel_rfl)) (by kernel_rfl) (by kernel_rfl)
set_option maxRecDepth 100000 in
theorem lifted (os : Os) (started : os.Started) (H : Type) (enc : TypeId × Value → H) :
    ReturnsInHanded {} Tryd.checked os 3 .any (fun w args => (Rows.isaTextsSpec.pre enc Tryd.prog Tryd.f3 [] false w args ∧ laidMetH Tryd.prog Rows.isaTextsRow.laid w) ∧ sizedMet enc Tryd.prog Tryd.f3 (OpenSpec.ofChange Rows.isaTextsSpec) false w args)
      (Rows.isaTextsSpec.post enc Tryd.prog Tryd.f3 false true false false) := by
  refine handed_shaped (C := Tryd.checked) (X := fun w => laidMetH Tryd.prog Rows.isaTextsRow.laid w) (fun _ _ hh h => h.of_heap hh) own started (by kernel_rfl) Tryd.func3
    (ChangeSpec.witness_shaped (enc := enc) (C := Tryd.checked) (os := os) (X := fun w _ => laidMetH Tryd.prog Rows.isaTextsRow.laid w) false (World.doorLaid Tryd.prog 67 os) #[.agg #[.int .i64 0, .int .i64 0, .int .i64 0, .int .i64 0, .int .i64 0], .string ByteArray.empty] 8 rfl (World.shaped_of_RefB (by kernel_rfl) (by kernel_rfl)) (by kernel_rfl) (by kernel_rfl) (by kernel_rfl) (door_met os _)) ?_
  intro W base args ds gs before hval0 hW hL hsh
  have hval : ∀ (j : Nat) t v, Tryd.f3.params[j]? = some t → args[j]? = some v → Value.okWide Tryd.prog W .any base t v := hval0
  have hW' := hW
  obtain ⟨p, q, hA0, hV, rfl, hfz, hnd⟩ := hW
  have hA : DataW.TrodAll enc Tryd.prog W 0 (fun _ => true) true Tryd.f3.params.toList args.toList ds p := hA0
  rw [Tryd.params3] at hA hval
  obtain ⟨v0, vs0, d0, ds0, p0, q0, hargs, rfl, rfl, h0, r0⟩ := trodAll_cons hA
  obtain ⟨v1, vs1, d1, ds1, p1, q1, rfl, rfl, rfl, h1, r1⟩ := trodAll_cons r0
  obtain ⟨rfl, rfl, rfl⟩ := trodAll_nil r1
  obtain rfl : args = #[v0, v1] := by cases args; simp_all
  obtain ⟨rfl, rfl⟩ := trodVars_none hV
  have k0 := h0
  obtain ⟨a0_0, a0_1, a0_2, a0_3, a0_4, rfl, rfl, w0_0, w0_1, w0_2, w0_3, w0_4⟩ := open_instr (hval 0 23 v0 rfl rfl) h0
  obtain ⟨b1, rfl, rfl, rfl, w1⟩ := open_string Tryd.underlying9 (hval 1 9 v1 rfl rfl) h1
  clear hA0 hval0
  have hg := of_laid hL hsh
  refine (law_walk a0_0 a0_1 a0_2 a0_3 a0_4 b1 W hg (i64_bd _ w0_0) (i64_bd _ w0_1) (i64_bd _ w0_2) (i64_bd _ w0_3) (i64_bd _ w0_4) w1).mono fun e W' ⟨he, bel⟩ => ?_
  subst he
  exact ⟨_, rfl, _, _, _, [], _, [], hW', trodAll_mk1 (shut_bool Tryd.underlying4 _), (trodAll_cons_mk (Below.trod laidOut (by kernel_rfl) (of_decide_eq_true (by kernel_rfl)) k0 bel (fun x hx => by cases hx)) (trodAll_cons_mk (shut_string Tryd.underlying9 w1) trodAll_mk0)), rfl, bel.frame _, fun h => by cases h⟩
theorem row_holds : Rows.IsaTextsSaid :=
  OpenClaim.holds_of_wide 3 Tryd.f3 rfl rfl rfl rfl rfl rfl rfl ⟨rfl, rfl, rfl, rfl, rfl⟩ rfl rfl rfl rfl rfl (by kernel_rfl) Tryd.func3 (by kernel_rfl)
    (of_decide_eq_true (by kernel_rfl)) (by unfold Func.isWrapper; first | (rw [if_pos (by decide +kernel)]; kernel_rfl) | (rw [if_neg (by decide +kernel)]; exact ⟨rfl, rfl⟩))
    (fun os started H enc _ => lifted os started H enc)
/-- The statement. -/
theorem proved : Rows.IsaTextsCardSaid :=
  Claim7.holds_tied_plain_at .later [] [.data, .data, .data, .sentinel, .sentinel, .data] true Rows.isaTextsCard.stood.harness true
    row_holds (fun _ h => by cases h) (by kernel_rfl) (fun _ h => by cases h) isaTexts_row_tie rfl ⟨rfl, rfl⟩ (by kernel_rfl) rfl
    (fun f fn hf hfn => by
      obtain rfl : f = 3 := (Option.some.inj ((show Tryd.prog.funcNamed Rows.isaTextsRow.func = some 3 by kernel_rfl).symm.trans hf)).symm
      obtain rfl : fn = Tryd.f3 := (Option.some.inj (Tryd.func3.symm.trans hfn)).symm
      exact ⟨by kernel_rfl, fun j t ht => by
        rw [Tryd.params3] at ht
        have hm : t ∈ [23, 9] := by simpa using Array.mem_of_getElem? ht
        have hall : ([23, 9].all fun u => !Tryd.prog.wantsStandIn u) = true := by kernel_rfl
        exact (show Tryd.prog.wantsStandIn t = false by simpa using List.all_eq_true.1 hall t hm)⟩)
    (by kernel_rfl)
#print axioms proved
end Go.Proofs.YtcemghcfapblgaaDoor.isaTexts
