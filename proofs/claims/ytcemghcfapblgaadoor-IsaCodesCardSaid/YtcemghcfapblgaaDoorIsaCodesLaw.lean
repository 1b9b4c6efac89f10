/-
  The statement IsaCodesCardSaid: for every slice of instructions the law on their bytes returns true, and its argument reads as before; the four listed tables are tied to the program's text.
-/
import Derived.Test.YtcemghcfapblgaaDoorIsaFrame
import Derived.Test.YtcemghcfapblgaaDoorIsaCode3
import Derived.Test.YtcemghcfapblgaaDoorTie
import Derived.Test.YtcemghcfapblgaaDoorCards
import Derived.Stop.LaidErr
import Derived.SevenTiedAt
import Derived.Deep.Slices
import Derived.SizedLaws
namespace Go.Proofs.YtcemghcfapblgaaDoor.isaCodes
set_option linter.unusedVariables false
set_option linter.unusedSimpArgs false
open Go.ChangeShapes Go.WideShapes Go.ChangeAt Go.WideElems Go.RowKit
open Go.ChangeMaps (open_string shut_string)

theorem of_laid {W : World} (h : laidMetH Tryd.prog Rows.isaCodesRow.laid W) : NmH W ∧ PwH W := by
  rw [MakeChecks.laidMetH_plain _ _ _ (by kernel_rfl)] at h
  have h1 : laidMet Tryd.prog [(_, Rows.laid_math_bits_deBruijn32tab), (_, Rows.laid_math_bits_deBruijn64tab), (_, Rows.laid_internal_strconv_uint64pow10), (_, Rows.laid_catapult_isa_names)] W := h
  have h3 := h1.tail.tail
  have h4 := h3.tail
  obtain ⟨cs, T, fr, f, p, hb, hd⟩ := laid_head h3 (by kernel_rfl) (by kernel_rfl)
  obtain ⟨cs', T', fr', f', p', hb', hd'⟩ := laid_head h4 (by kernel_rfl) (by kernel_rfl)
  exact ⟨nm_of ⟨T', fr', hb'⟩ hd', pw_of Tryd.underlying105 Tryd.underlying94 (by kernel_rfl) (by kernel_rfl) hb hd⟩
theorem bytesIn : Tryd.prog.bytesOf 23 = 40 := by kernel_rfl
theorem cellsIn : Tryd.prog.cellsOf 23 = 5 := by kernel_rfl
/-- Cells that read as an instruction are five numbers. -/
theorem cells_instr {H : Type} {enc : TypeId × Value → H} {W : World} {base : Nat} {sp : Nat → Bool} {held : Bool} {fuel : Nat} {cs : List Value} {x : DataW H × List MemPlace}
    (h : DataW.trod enc Tryd.prog W base sp held fuel 23 cs = some x) (hl : cs.length = 5) : ∀ i, i < 5 → ∃ k : Int, cs[i]? = some (.int .i64 k) ∧ (Lit.int .i64 k).wf = true := by
  have hS : Tryd.prog.underlying 23 = some (.struct (Tryd.prog.fieldsOf 23)) := by kernel_rfl
  have s5 : (Tryd.prog.fieldsOf 23).size = 5 := by kernel_rfl
  obtain ⟨xs, n, _, hx, hcl, hlen, hg⟩ := DataW.trod_struct hS h
  rw [s5] at hlen
  have hxl : xs.length = 5 := hlen
  have c1 : Tryd.prog.cellsOf 3 = 1 := by kernel_rfl
  intro i hi
  obtain ⟨f, hf0, ho, ht⟩ := instr_field i hi
  have h1 := hg i f hf0
  have hy : xs[i]? = some (xs[i]'(by omega)) := List.getElem?_eq_getElem (by omega)
  rw [ho, ht, c1, hy] at h1
  obtain ⟨k, hk, hk2, hk3⟩ := DataW.trod_int Tryd.underlying3 h1
  refine ⟨k, ?_, hk3⟩
  have e := congrArg (fun l => l[0]?) hk
  simp only [List.getElem?_take, List.getElem?_drop] at e
  simpa using e
@[irreducible] def XofW (W : World) (b off : Nat) (i j : Nat) : Int := match W.cell? ⟨b, off + i * 5 + j, none⟩ with
  | some (.int _ z) => z
  | _ => 0
theorem xof {W : World} {b off i j : Nat} {z : Int} (h : W.cell? ⟨b, off + i * 5 + j, none⟩ = some (.int .i64 z)) : XofW W b off i j = z := by
  unfold XofW
  rw [h]
/-- A slice of instructions that came in. -/
theorem open_instrs {H : Type} {enc : TypeId × Value → H} {W : World} {sp : Nat → Bool} {held : Bool} {fuel : Nat} {a : Option Addr} {len cap : Nat} {x : DataW H × List MemPlace}
    (h : DataW.trod enc Tryd.prog W 0 sp held fuel 38 (Value.slice a len cap).cells.toList = some x) :
    ∃ X, InsO W a len X ∧ (∀ i j, i < len → j < 5 → -9223372036854775808 ≤ X i j ∧ X i j ≤ 9223372036854775807) ∧ (a = none → len = 0 ∧ cap = 0) ∧ (len = 0 ∨ ∃ es spare, x.1 = .slice es spare ∧ es.length = len) := by
  rcases Go.Deep.open_slice Tryd.underlying38 h with ⟨hcs, _⟩ | ⟨a', len', cap', m, n, D, Pl, hcs, hb, hl, hm, hmm, hx, hi⟩
  · simp [Value.cells] at hcs
    obtain ⟨rfl, rfl, rfl⟩ := hcs
    exact ⟨fun _ _ => 0, .inl rfl, fun i j hi => by omega, fun _ => ⟨rfl, rfl⟩, .inl rfl⟩
  · simp [Value.cells] at hcs
    obtain ⟨rfl, rfl, rfl⟩ := hcs
    have hlm : len ≤ m := by rw [hmm]; split <;> omega
    by_cases h0 : len = 0
    · exact ⟨fun _ _ => 0, .inl h0, fun i j hi => by omega, (fun h => by cases h), .inl h0⟩
    · have hcell : ∀ i, i < len → ∀ j, j < 5 → ∃ k : Int, W.cell? ((a'.add (i * 5)).add j) = some (.int .i64 k) ∧ (Lit.int .i64 k).wf = true := by
        intro i hil j hj
        obtain ⟨cs', hc, ht⟩ := hi i (by omega)
        rw [cellsIn] at hc
        obtain ⟨_, hcl, hat⟩ := World.cells?_some hc
        obtain ⟨k, hk, hw⟩ := cells_instr ht hcl j hj
        exact ⟨k, by rw [hat j hj, hk], hw⟩
      obtain ⟨b, off, spot⟩ := a'
      obtain ⟨k0, hk0, _⟩ := hcell 0 (by omega) 0 (by decide)
      have hspot : spot = none := by
        have := World.cell?_spot hk0
        simpa [Addr.add] using this
      subst hspot
      have hadd : ∀ i j, ((⟨b, off, none⟩ : Addr).add (i * 5)).add j = ⟨b, off + i * 5 + j, none⟩ := by
        intro i j
        unfold Addr.add
        split <;> split <;> simp_all
      have hx5 : ∀ i, i < len → ∀ j, j < 5 → W.cell? ⟨b, off + i * 5 + j, none⟩ = some (.int .i64 (XofW W b off i j)) ∧ (Lit.int .i64 (XofW W b off i j)).wf = true := by
        intro i hil j hj
        obtain ⟨k, hk, hw⟩ := hcell i hil j hj
        rw [hadd] at hk
        rw [xof hk]
        exact ⟨hk, hw⟩
      refine ⟨XofW W b off, .inr ⟨b, off, rfl, fun i hil => ⟨(hx5 i hil 0 (by decide)).1, (hx5 i hil 1 (by decide)).1, (hx5 i hil 2 (by decide)).1, (hx5 i hil 3 (by decide)).1, (hx5 i hil 4 (by decide)).1⟩, cell_lt (hx5 0 (by omega) 0 (by decide)).1⟩, fun i j hil hj => i64_bd _ (hx5 i hil j hj).2, (fun h => by cases h), .inr ⟨_, _, by rw [hx], by simp⟩⟩
/-! ### The row's step -/
theorem door_met (os : Os) (args : Array Value) : laidMetH Tryd.prog Rows.isaCodesRow.laid ((World.doorLaid Tryd.prog 67 os).forCall (fun _ _ => 0) ⟨#[], args, []⟩).memory :=
  laidMetH_of_parts3 (fuel := 8) (laidMet_of_run' 8 (by kernel_rfl) (by kernel_rfl)) (by kernel_rfl) (by kernel_rfl)
set_option maxRecDepth 100000 in
theorem lifted (os : Os) (started : os.Started) (H : Type) (enc : TypeId × Value → H) :
    ReturnsInHanded {} Tryd.checked os 5 .any (fun w args => (Rows.isaCodesSpec.pre enc Tryd.prog Tryd.f5 [] false w args ∧ laidMetH Tryd.prog Rows.isaCodesRow.laid w) ∧ sizedMet enc Tryd.prog Tryd.f5 (OpenSpec.ofChange Rows.isaCodesSpec) false w args)
      (Rows.isaCodesSpec.post enc Tryd.prog Tryd.f5 false true false false) := by
  refine returnsInHanded_of_change_and (C := Tryd.checked) (X := fun w _ => laidMetH Tryd.prog Rows.isaCodesRow.laid w) (fun _ _ _ hh h => h.of_heap hh) own started (by kernel_rfl) Tryd.func5
    (ChangeSpec.witness_shaped (enc := enc) (C := Tryd.checked) (os := os) (X := fun w _ => laidMetH Tryd.prog Rows.isaCodesRow.laid w) false (World.doorLaid Tryd.prog 67 os) #[.slice none 0 0] 8 rfl (World.shaped_of_RefB (by kernel_rfl) (by kernel_rfl)) (by kernel_rfl) (by kernel_rfl) (by kernel_rfl) (door_met os _)) ?_
  intro W base args ds gs before hval0 hW _ hreach0 hL _
  have hreach : (DataW.weightsEach Tryd.prog (Tryd.f5.params.toList ++ Rows.isaCodesSpec.plain.varTypes Tryd.prog) (ds ++ gs)).all (· ≤ reachBytes) = true := hreach0
  clear hreach0
  have hval : ∀ (j : Nat) t v, Tryd.f5.params[j]? = some t → args[j]? = some v → Value.okWide Tryd.prog W .any base t v := hval0
  have hW' := hW
  obtain ⟨p, q, hA0, hV, rfl, hfz, hnd⟩ := hW
  have hA : DataW.TrodAll enc Tryd.prog W 0 (fun _ => true) true Tryd.f5.params.toList args.toList ds p := hA0
  rw [Tryd.params5] at hA hval hreach
  obtain ⟨v0, vs0, d0, ds0, p0, q0, hargs, rfl, rfl, h0, r0⟩ := trodAll_cons hA
  obtain ⟨rfl, rfl, rfl⟩ := trodAll_nil r0
  obtain rfl : args = #[v0] := by cases args; simp_all
  obtain ⟨rfl, rfl⟩ := trodVars_none hV
  obtain ⟨a0, len0, cap0, rfl⟩ := okWide_slice Tryd.underlying38 (hval 0 38 v0 rfl rfl)
  have k0 := h0
  have lt0 : ∀ x ∈ p0, x.block < W.heap.size := by obtain ⟨m, hm⟩ := k0; exact DataW.trod_lt m _ _ _ hm
  obtain ⟨X, hI, hbd, hnil, hr⟩ : ∃ X, InsO W a0 len0 X ∧ (∀ i j, i < len0 → j < 5 → -9223372036854775808 ≤ X i j ∧ X i j ≤ 9223372036854775807) ∧ (a0 = none → len0 = 0 ∧ cap0 = 0) ∧ len0 * 40 ≤ 140737488351232 := by
    obtain ⟨fuel, hf⟩ := h0
    obtain ⟨X, h1, h2, h3, h4⟩ := open_instrs hf
    refine ⟨X, h1, h2, h3, ?_⟩
    rcases h4 with h4 | ⟨es, spare, he, hl⟩
    · omega
    · simp only at he
      subst he
      have hs := sized_slice hreach (j := 0) (t := 38) (e := 23) rfl rfl Tryd.underlying38
      rw [bytesIn] at hs
      unfold reachBytes at hs
      have : es.length * 40 ≤ (es.length + spare.length) * 40 := Nat.mul_le_mul_right _ (by omega)
      omega
  clear hA0 hval0
  have hg := of_laid hL
  refine (codes_walk a0 len0 cap0 X W hg hI hbd hnil hr).mono fun e W' ⟨he, bel⟩ => ?_
  subst he
  exact ⟨_, rfl, _, _, _, [], _, [], hW', trodAll_mk1 (shut_bool Tryd.underlying4 _), (trodAll_cons_mk (Below.trod laidOut (by kernel_rfl) (of_decide_eq_true (by kernel_rfl)) k0 bel lt0) trodAll_mk0), rfl, bel.frame _, fun h => by cases h⟩
theorem row_holds : Rows.IsaCodesSaid :=
  OpenClaim.holds_of_wide 5 Tryd.f5 rfl rfl rfl rfl rfl rfl rfl ⟨rfl, rfl, rfl, rfl, rfl⟩ rfl rfl rfl rfl rfl (by kernel_rfl) Tryd.func5 (by kernel_rfl)
    (of_decide_eq_true (by kernel_rfl)) (by unfold Func.isWrapper; first | (rw [if_pos (by decide +kernel)]; kernel_rfl) | (rw [if_neg (by decide +kernel)]; exact ⟨rfl, rfl⟩))
    (fun os started H enc _ => lifted os started H enc)
/-- The statement. -/
theorem proved : Rows.IsaCodesCardSaid :=
  Claim7.holds_tied_plain_at .later [] [.data, .data, .data, .data] true Rows.isaCodesCard.stood.harness true
    row_holds (fun _ h => by cases h) (by kernel_rfl) (fun _ h => by cases h) isaCodes_row_tie rfl ⟨rfl, rfl⟩ (by kernel_rfl) rfl
    (fun f fn hf hfn => by
      obtain rfl : f = 5 := (Option.some.inj ((show Tryd.prog.funcNamed Rows.isaCodesRow.func = some 5 by kernel_rfl).symm.trans hf)).symm
      obtain rfl : fn = Tryd.f5 := (Option.some.inj (Tryd.func5.symm.trans hfn)).symm
      exact ⟨by kernel_rfl, fun j t ht => by
        rw [Tryd.params5] at ht
        have hm : t ∈ [38] := by simpa using Array.mem_of_getElem? ht
        have hall : ([38].all fun u => !Tryd.prog.wantsStandIn u) = true := by kernel_rfl
        exact (show Tryd.prog.wantsStandIn t = false by simpa using List.all_eq_true.1 hall t hm)⟩)
    (by kernel_rfl)
#print axioms proved
end Go.Proofs.YtcemghcfapblgaaDoor.isaCodes
