/-
  The statement LexLaysCardSaid: for every slice of tokens the law on their layout returns true, and its argument reads as before; the four listed tables are tied to the program's text. No other condition.
-/
import Derived.Test.YtnenhehnoolhlaaDoorLexFrame
import Derived.Test.YtnenhehnoolhlaaDoorRows
import Derived.Test.YtnenhehnoolhlaaDoorTie
import Derived.Test.YtnenhehnoolhlaaDoorCards
import Derived.ProofKit
import Derived.LaidMore
import Derived.OpenShut
import Derived.ShutString
import Derived.ChangeOld
import Derived.Stop.Joined
import Derived.Lib.LaidTab
import Derived.Stop.LaidErr
import Derived.SevenTiedAt
import Derived.Deep.Slices
import Derived.SizedLaws
namespace Go.Proofs.YtnenhehnoolhlaaDoor.lexLays
set_option linter.unusedVariables false
set_option linter.unusedSimpArgs false
open Go.ChangeShapes Go.WideShapes Go.ChangeAt Go.WideElems Go.RowKit
open Go.ChangeMaps (open_string shut_string)

theorem layV_some (L : List Tk) : ∃ s e, layV L = .tuple #[.string ⟨s⟩, .int .i64 e] := by
  unfold layV
  split
  · exact ⟨_, _, rfl⟩
  · split
    · exact ⟨_, _, rfl⟩
    · exact ⟨_, _, rfl⟩
set_option maxRecDepth 100000 in
set_option maxHeartbeats 2000000 in
theorem law_walk (a : Option Addr) (n cap : Nat) (L : List Tk) (w : World) (hM : MkH w) (hP : PwH w) (hn : L.length = n) (hc : n ≤ cap) (hS : TksIn w a L) (hB : ∀ t ∈ L, TkB t) (hnil : a = none → n = 0 ∧ cap = 0) (hr : n * 40 ≤ 140737488351232) :
    Calls Tryd.prog 3 #[.slice a n cap] w fun e w' => e = .returned (.bool true) ∧ Below w.heap.size w w' := by
  obtain ⟨s, ee, hV⟩ := layV_some L
  have HLay : Hid (∀ a n cap w, L.length = n → n ≤ cap → TksIn w a L → MkH w → PwH w → Calls Tryd.prog 4 #[.slice a n cap] w fun e w' => e = .returned (.tuple #[.string ⟨s⟩, .int .i64 ee]) ∧ Below w.heap.size w w') := fun a n cap w h1 h2 h3 h4 h5 => by rw [← hV]; exact c_Lay a n cap L w h1 h2 h3 hB h4 h5
  have HLay2 : Hid (∀ a n cap w, L.length = n → n ≤ cap → TksIn w a L → Calls Tryd.prog 5 #[.slice a n cap] w fun e w' => e = .returned (.tuple #[.string ⟨s⟩, .int .i64 ee]) ∧ Below w.heap.size w w') := fun a n cap w h1 h2 h3 => by rw [← hV]; exact c_rLay a n cap L w h1 h2 h3 hB
  have HM := Lib.hid hM
  have HP := Lib.hid hP
  have HS := Lib.hid hS
  have HN := Lib.hid hn
  have HNil := Lib.hid hnil
  have HR := Lib.hid hr
  clear hM hP hS hnil hr hV hB hn
  go_enter Tryd.func3, Tryd.ntmps3
  go_wp2_with (at_builtin; refine wp_copyT rfl _ _ rfl w.heap.size (.slice (some ⟨w.heap.size, 0, none⟩) 0 0) rfl (World.ownsRow_made w #[] 0 (Nat.le_refl _) (by decide) rfl) a n cap L HN.out rfl (HS.out.next (bel_new w _)) HNil.out (by have := HR.out; omega) (by simp) ?_)
  intro a1 cap1 w1 hc1 hI1 hgrow
  have HB1 : Hid (Below w.heap.size w w1) := below_grown (bel_new w _) (bel_new w _).size hgrow (fun b e => by
    have e' : w.heap.size = b := Option.some.inj e
    omega)
  have HI1 := Lib.hid hI1
  clear hI1 hgrow
  go_wp2_with fail
  refine (HLay.out a1 n cap1 _ HN.out hc1 HI1.out (HM.out.next HB1.out rfl) (HP.out.next HB1.out rfl)).mono ?_
  rintro e w2 ⟨rfl, hb2⟩
  have HB2 := Lib.hid (below_on HB1.out hb2 HB1.out.size)
  have HI2 := Lib.hid (HI1.out.next hb2)
  clear hb2
  go_wp2_with fail
  refine (HLay2.out a n cap _ HN.out hc (HS.out.next HB2.out)).mono ?_
  rintro e w3 ⟨rfl, hb3⟩
  have HB3 := Lib.hid (below_on HB2.out hb3 HB2.out.size)
  have HI3 := Lib.hid (HI2.out.next hb3)
  clear hb3
  go_wp2_with fail
  refine (c_same a1 a n cap1 cap L _ HN.out hc1 hc (by have := HR.out; omega) HI3.out (HS.out.next HB3.out)).mono ?_
  rintro e w4 ⟨rfl, hb4⟩
  have HB4 := Lib.hid (below_on HB3.out hb4 HB3.out.size)
  clear hb4
  go_wp2_with fail
  go_ret
  exact ⟨rfl, HB4.out⟩
theorem of_laid {W : World} (h : laidMetH Tryd.prog Rows.lexLaysRow.laid W) : MkH W ∧ PwH W := by
  rw [MakeChecks.laidMetH_plain _ _ _ (by kernel_rfl)] at h
  have h1 : laidMet Tryd.prog [(_, Rows.laid_math_bits_deBruijn32tab), (_, Rows.laid_math_bits_deBruijn64tab), (_, Rows.laid_internal_strconv_uint64pow10), (_, Rows.laid_catapult_lex_marks)] W := h
  have h3 := h1.tail.tail
  have h4 := h3.tail
  obtain ⟨cs, T, fr, f, p, hb, hd⟩ := laid_head h3 (by kernel_rfl) (by kernel_rfl)
  obtain ⟨cs', T', fr', f', p', hb', hd'⟩ := laid_head h4 (by kernel_rfl) (by kernel_rfl)
  exact ⟨mk_of hb' hd', pw_of Tryd.underlying77 Tryd.underlying70 (by kernel_rfl) (by kernel_rfl) hb hd⟩
/-! ### The row's step -/
theorem door_met (os : Os) (args : Array Value) : laidMetH Tryd.prog Rows.lexLaysRow.laid ((World.doorLaid Tryd.prog 65 os).forCall (fun _ _ => 0) ⟨#[], args, []⟩).memory :=
  laidMetH_of_parts3 (fuel := 8) (laidMet_of_run' 8 (by kernel_rfl) (by kernel_rfl)) (by kernel_rfl) (by kernel_rfl)
set_option maxRecDepth 100000 in
theorem lifted (os : Os) (started : os.Started) (H : Type) (enc : TypeId × Value → H) :
    ReturnsInHanded {} Tryd.checked os 3 .any (fun w args => (Rows.lexLaysSpec.pre enc Tryd.prog Tryd.f3 [] false w args ∧ laidMetH Tryd.prog Rows.lexLaysRow.laid w) ∧ sizedMet enc Tryd.prog Tryd.f3 (OpenSpec.ofChange Rows.lexLaysSpec) false w args)
      (Rows.lexLaysSpec.post enc Tryd.prog Tryd.f3 false true false false) := by
  refine returnsInHanded_of_change_and (C := Tryd.checked) (X := fun w _ => laidMetH Tryd.prog Rows.lexLaysRow.laid w) (fun _ _ _ hh h => h.of_heap hh) own started (by kernel_rfl) Tryd.func3
    (ChangeSpec.witness_shaped (enc := enc) (C := Tryd.checked) (os := os) (X := fun w _ => laidMetH Tryd.prog Rows.lexLaysRow.laid w) false (World.doorLaid Tryd.prog 65 os) #[.slice none 0 0] 8 rfl (World.shaped_of_RefB (by kernel_rfl) (by kernel_rfl)) (by kernel_rfl) (by kernel_rfl) (by kernel_rfl) (door_met os _)) ?_
  intro W base args ds gs before hval0 hW _ hreach0 hL _
  have hreach : (DataW.weightsEach Tryd.prog (Tryd.f3.params.toList ++ Rows.lexLaysSpec.plain.varTypes Tryd.prog) (ds ++ gs)).all (· ≤ reachBytes) = true := hreach0
  clear hreach0
  have hval : ∀ (j : Nat) t v, Tryd.f3.params[j]? = some t → args[j]? = some v → Value.okWide Tryd.prog W .any base t v := hval0
  have hW' := hW
  obtain ⟨p, q, hA0, hV, rfl, hfz, hnd⟩ := hW
  have hA : DataW.TrodAll enc Tryd.prog W 0 (fun _ => true) true Tryd.f3.params.toList args.toList ds p := hA0
  rw [Tryd.params3] at hA hval hreach
  obtain ⟨v0, vs0, d0, ds0, p0, q0, hargs, rfl, rfl, h0, r0⟩ := trodAll_cons hA
  obtain ⟨rfl, rfl, rfl⟩ := trodAll_nil r0
  obtain rfl : args = #[v0] := by cases args; simp_all
  obtain ⟨rfl, rfl⟩ := trodVars_none hV
  obtain ⟨a0, len0, cap0, rfl⟩ := okWide_slice Tryd.underlying22 (hval 0 22 v0 rfl rfl)
  have k0 := h0
  have lt0 : ∀ x ∈ p0, x.block < W.heap.size := by obtain ⟨m, hm⟩ := k0; exact DataW.trod_lt m _ _ _ hm
  obtain ⟨L, hL1, hL2, hL3, hL4, hnil, hr⟩ : ∃ L : List Tk, L.length = len0 ∧ len0 ≤ cap0 ∧ TksIn W a0 L ∧ (∀ t ∈ L, TkB t) ∧ (a0 = none → len0 = 0 ∧ cap0 = 0) ∧ len0 * 40 ≤ 140737488351232 := by
    obtain ⟨fuel, hf⟩ := h0
    obtain ⟨L, h1, h2, h3, h4, h5, h6⟩ := open_toks hf
    refine ⟨L, h1, h2, h3, h4, h5, ?_⟩
    rcases h6 with h6 | ⟨es, spare, he, hl⟩
    · omega
    · simp only at he
      subst he
      have hs := sized_slice hreach (j := 0) (t := 22) (e := 35) rfl rfl Tryd.underlying22
      rw [bytesTk] at hs
      unfold reachBytes at hs
      have : es.length * 40 ≤ (es.length + spare.length) * 40 := Nat.mul_le_mul_right _ (by omega)
      omega
  clear hA0 hval0
  have hg := of_laid hL
  refine (law_walk a0 len0 cap0 L W hg.1 hg.2 hL1 hL2 hL3 hL4 hnil hr).mono fun e W' ⟨he, bel⟩ => ?_
  subst he
  exact ⟨_, rfl, _, _, _, [], _, [], hW', trodAll_mk1 (shut_bool Tryd.underlying4 _), (trodAll_cons_mk (Below.trod laidOut (by kernel_rfl) (of_decide_eq_true (by kernel_rfl)) k0 bel lt0) trodAll_mk0), rfl, bel.frame _, fun h => by cases h⟩
theorem row_holds : Rows.LexLaysSaid :=
  OpenClaim.holds_of_wide 3 Tryd.f3 rfl rfl rfl rfl rfl rfl rfl ⟨rfl, rfl, rfl, rfl, rfl⟩ rfl rfl rfl rfl rfl (by kernel_rfl) Tryd.func3 (by kernel_rfl)
    (of_decide_eq_true (by kernel_rfl)) (by unfold Func.isWrapper; first | (rw [if_pos (by decide +kernel)]; kernel_rfl) | (rw [if_neg (by decide +kernel)]; exact ⟨rfl, rfl⟩))
    (fun os started H enc _ => lifted os started H enc)
/-- The statement. -/
theorem proved : Rows.LexLaysCardSaid :=
  Claim7.holds_tied_plain_at .later [] _ _ _ _
    row_holds (fun _ h => by cases h) (by kernel_rfl) (fun _ h => by cases h) lexLays_row_tie rfl ⟨rfl, rfl⟩ (by kernel_rfl) rfl
    (fun f fn hf hfn => by
      obtain rfl : f = 3 := (Option.some.inj ((show Tryd.prog.funcNamed Rows.lexLaysRow.func = some 3 by kernel_rfl).symm.trans hf)).symm
      obtain rfl : fn = Tryd.f3 := (Option.some.inj (Tryd.func3.symm.trans hfn)).symm
      exact ⟨by kernel_rfl, fun j t ht => by
        rw [Tryd.params3] at ht
        have hm : t ∈ [22] := by simpa using Array.mem_of_getElem? ht
        have hall : ([22].all fun u => !Tryd.prog.wantsStandIn u) = true := by kernel_rfl
        exact (show Tryd.prog.wantsStandIn t = false by simpa using List.all_eq_true.1 hall t hm)⟩)
    (by kernel_rfl)
#print axioms proved
end Go.Proofs.YtnenhehnoolhlaaDoor.lexLays
