/-
  The statement TypesPartsCardSaid: for any text and any texts the law on what a type is taken apart into, and put together of, returns true, and its arguments read as before; the listed variables are tied to the program's text. No other condition.
-/
import Derived.Test.YtaejddjmkgblfaaGreatDoorTyPaW
import Derived.Test.YtaejddjmkgblfaaGreatDoorTyFrame
import Derived.Test.YtaejddjmkgblfaaGreatDoorTie
import Derived.Test.YtaejddjmkgblfaaGreatDoorCards
import Derived.Stop.LaidErr
import Derived.SevenTiedAt
import Derived.Shelf.Vars
import Derived.Deep.DeepHandedRow
import Derived.Lay
namespace Go.Proofs.YtaejddjmkgblfaaGreatDoor.typesParts
set_option linter.unusedVariables false
set_option linter.unusedSimpArgs false
open Go.ChangeShapes Go.WideShapes Go.ChangeAt Go.WideElems Go.RowKit
open Go.ChangeMaps (open_string shut_string)

theorem cellsTy : Tryz.prog.cellsOf 22 = 1 := by kernel_rfl
theorem bytesTy : Tryz.prog.bytesOf 22 = 16 := by kernel_rfl
/-- A slice of types that came in. -/
theorem open_tys {H : Type} {enc : TypeId × Value → H} {W : World} {sp : Nat → Bool} {held : Bool} {fuel : Nat} {a : Option Addr} {len cap : Nat} {x : DataW H × List MemPlace}
    (h : DataW.trod enc Tryz.prog W 0 sp held fuel 44 (Value.slice a len cap).cells.toList = some x) :
    ∃ L : List (List UInt8), L.length = len ∧ (a = none → len = 0 ∧ cap = 0) ∧ StrIn W a L ∧ (∀ s ∈ L, s.length ≤ 9223372036854775807) ∧ (len = 0 ∨ ∃ es spare, x.1 = .slice es spare ∧ es.length = len) := by
  rcases Go.Deep.open_slice1 Tryz.underlying44 cellsTy h with ⟨hcs, _⟩ | ⟨a', len', cap', m, n, V, D, Pl, hcs, hb, hl, hm, hmm, hx, hi⟩
  · simp [Value.cells] at hcs
    obtain ⟨rfl, rfl, rfl⟩ := hcs
    exact ⟨[], rfl, fun _ => ⟨rfl, rfl⟩, fun h => by simp at h, fun t ht => by simp at ht, .inl rfl⟩
  · simp [Value.cells] at hcs
    obtain ⟨rfl, rfl, rfl⟩ := hcs
    have hlm : len ≤ m := by rw [hmm]; split <;> omega
    have hstr : ∀ i, i < len → ∃ l : List UInt8, W.cell? (a'.add i) = some (.string ⟨l.toArray⟩) ∧ l.length ≤ 9223372036854775807 := by
      intro i hil
      obtain ⟨hc, ht⟩ := hi i (by omega)
      obtain ⟨s, hs, hd, hw⟩ := DataW.trod_string Tryz.underlying22 ht
      have hv : V i = .string s := by simpa using hs
      refine ⟨s.data.toList, ?_, ?_⟩
      · rw [hc, hv]
      · unfold maxLen at hw
        have : s.data.toList.length = s.size := by rw [Array.length_toList]; rfl
        omega
    have hex : ∀ n, n ≤ len → ∃ L : List (List UInt8), L.length = n ∧ ∀ i l, L[i]? = some l → W.cell? (a'.add i) = some (.string ⟨l.toArray⟩) ∧ l.length ≤ 9223372036854775807 := by
      intro n
      induction n with
      | zero => exact fun _ => ⟨[], rfl, fun i l h => by simp at h⟩
      | succ n ih =>
        intro hn
        obtain ⟨L, h1, h2⟩ := ih (by omega)
        obtain ⟨l, h3⟩ := hstr n (by omega)
        refine ⟨L ++ [l], by simp [h1], fun i l' hl' => ?_⟩
        by_cases e : i < n
        · rw [List.getElem?_append_left (by omega)] at hl'
          exact h2 i l' hl'
        · have hi' : i < (L ++ [l]).length := (List.getElem?_eq_some_iff.1 hl').1
          simp [h1] at hi'
          obtain rfl : i = n := by omega
          rw [List.getElem?_append_right (by omega), h1] at hl'
          simp at hl'
          subst hl'
          exact h3
    obtain ⟨L, hL1, hL2⟩ := hex len (Nat.le_refl _)
    refine ⟨L, hL1, fun h => (by cases h), fun h0 => ?_, fun t ht => ?_, .inr ⟨_, _, by rw [hx], by simp⟩⟩
    · obtain ⟨b, off, spot⟩ := a'
      obtain ⟨s0, hs0⟩ : ∃ s, L[0]? = some s := ⟨_, List.getElem?_eq_getElem h0⟩
      have hspot : spot = none := by
        have := World.cell?_spot (hL2 0 s0 hs0).1
        simpa [Addr.add] using this
      subst hspot
      refine ⟨b, off, rfl, fun k s hs => ?_⟩
      have e : (⟨b, off, none⟩ : Addr).add k = ⟨b, off + k, none⟩ := by unfold Addr.add; split <;> simp_all
      have := (hL2 k s hs).1
      rw [e] at this
      exact this
    · obtain ⟨i, hi⟩ := List.getElem?_of_mem ht
      exact (hL2 i t hi).2
/-! ### The row's step -/
theorem door_met (os : Os) (args : Array Value) : laidMetH Tryz.prog Rows.typesPartsRow.laid ((World.laidAll Tryz.prog os Rows.typesPartsRow.laid).forCall (fun _ _ => 0) ⟨#[], args, []⟩).memory := by
  rw [MakeChecks.laidMetH_plain _ _ _ (by kernel_rfl)]
  exact laidMet_laidAll _ (by kernel_rfl) (by kernel_rfl)
abbrev wArgs : Array Value := #[.string ByteArray.empty, .slice none 0 0]
theorem reads (os : Os) {H : Type} (enc : TypeId × Value → H) : ∃ places, DataW.whole enc Tryz.prog ((World.laidAll Tryz.prog os Rows.typesPartsRow.laid).forCall (fun _ _ => 0) ⟨#[], wArgs, []⟩).memory Tryz.f5.params.toList Rows.typesPartsSpec.vars false wArgs.toList 8 = some ([.lit (.string []), .nil], [], places) :=
  ⟨[], by kernel_rfl⟩
set_option maxRecDepth 100000 in
theorem lifted (os : Os) (started : os.Started) (H : Type) (enc : TypeId × Value → H) (F : Stop.Interp) :
    ReturnsInHanded {} Tryz.checked os 5 .any ((OpenSpec.ofChange Rows.typesPartsSpec).preRow enc Tryz.prog Tryz.f5 Rows.typesPartsRow.domain false Rows.typesPartsRow.laid) (((OpenSpec.ofChange Rows.typesPartsSpec).at F).post enc Tryz.prog Tryz.f5 false true false false) := by
  obtain ⟨places, hx⟩ := reads os enc
  have hok : Input.okWideB Tryz.prog ((World.laidAll Tryz.prog os Rows.typesPartsRow.laid).forCall (fun _ _ => 0) ⟨#[], wArgs, []⟩) 5 ⟨#[], wArgs, []⟩ = true := by kernel_rfl
  refine returnsInHanded_of_row (C := Tryz.checked) (s := OpenSpec.ofChange Rows.typesPartsSpec) own started (by kernel_rfl) Tryz.func5
    ⟨World.laidAll Tryz.prog os Rows.typesPartsRow.laid, fun _ _ => 0, ⟨#[], wArgs, []⟩, World.laidAll_os _ _ _, World.shaped_of_ZipB (by kernel_rfl) (by kernel_rfl), (Input.okWide_of_okWideB (base := 0) hok).1, (Input.okWide_of_okWideB hok).2,
      OpenSpec.preRow_of_cond 8 hx (by kernel_rfl) (fun k hk => by cases hk) (by kernel_rfl) (door_met os _), by
        simp only [Assume.holds]
        exact ⟨by simp, by simp, fun _ => Modest.zero, by simp, by simp⟩⟩ ?_
  intro W base args ds gs before hval0 hW _ hcond hreach0 hL hsh _
  have hreach : (DataW.weightsEach Tryz.prog (Tryz.f5.params.toList ++ Rows.typesPartsSpec.plain.varTypes Tryz.prog) (ds ++ gs)).all (· ≤ reachBytes) = true := hreach0
  clear hreach0
  have hval : ∀ (j : Nat) t v, Tryz.f5.params[j]? = some t → args[j]? = some v → Value.okWide Tryz.prog W .any base t v := hval0
  have hW' := hW
  obtain ⟨p, q, hA0, hV, rfl, hfz, hnd⟩ := hW
  have hA : DataW.TrodAll enc Tryz.prog W 0 (fun _ => true) true Tryz.f5.params.toList args.toList ds p := hA0
  rw [Tryz.params5] at hA hval hreach
  obtain ⟨v0, vs0, d0, ds0, p0, q0, hargs, rfl, rfl, h0, r0⟩ := trodAll_cons hA
  obtain ⟨v1, vs1, d1, ds1, p1, q1, rfl, rfl, rfl, h1, r1⟩ := trodAll_cons r0
  obtain ⟨rfl, rfl, rfl⟩ := trodAll_nil r1
  obtain rfl : args = #[v0, v1] := by cases args; simp_all
  obtain ⟨rfl, rfl⟩ := trodVars_none hV
  obtain ⟨s0, rfl, rfl, rfl, w0⟩ := open_string Tryz.underlying22 (hval 0 22 v0 rfl rfl) h0
  obtain ⟨a1, len1, cap1, rfl⟩ := okWide_slice Tryz.underlying44 (hval 1 44 v1 rfl rfl)
  have k1 := h1
  have lt1 : ∀ x ∈ p1, x.block < W.heap.size := by obtain ⟨m, hm⟩ := k1; exact DataW.trod_lt m _ _ _ hm
  obtain ⟨L, hL1, hL0, hL2, hL3, hL4⟩ : ∃ L : List (List UInt8), L.length = len1 ∧ (a1 = none → len1 = 0 ∧ cap1 = 0) ∧ StrIn W a1 L ∧ (∀ s ∈ L, s.length ≤ 9223372036854775807) ∧ len1 * 16 ≤ 140737488351232 := by
    obtain ⟨fuel, hf⟩ := h1
    obtain ⟨L, h1, h0, h2, h3, h6⟩ := open_tys hf
    refine ⟨L, h1, h0, h2, h3, ?_⟩
    rcases h6 with h6 | ⟨es, spare, he, hl⟩
    · omega
    · simp only at he
      subst he
      have hs := sized_slice hreach (j := 1) (t := 44) (e := 22) rfl rfl Tryz.underlying44
      rw [bytesTy] at hs
      unfold reachBytes at hs
      have : es.length * 16 ≤ (es.length + spare.length) * 16 := Nat.mul_le_mul_right _ (by omega)
      omega
  clear hA0 hval0
  rw [MakeChecks.laidMetH_plain _ _ _ (by kernel_rfl)] at hL
  have hg := env_of hL hsh
  obtain ⟨l, rfl⟩ : ∃ l : List UInt8, s0 = ⟨l.toArray⟩ := ⟨s0.data.toList, by simp⟩
  have hm : l.length ≤ 9223372036854775807 := by
    have e : (⟨l.toArray⟩ : ByteArray).size = l.length := by show l.toArray.size = _; simp
    rw [← e]
    unfold maxLen at w0
    exact w0
  subst hL1
  refine (c_Parts W.heap.size l a1 cap1 L W hg (Nat.le_refl _) hm hL3 hL0 (by omega) hL2).mono fun e W' ⟨he, bel⟩ => ?_
  subst he
  exact ⟨_, rfl, _, _, _, [], _, [], hW', trodAll_mk1 (shut_bool Tryz.underlying4 _), (trodAll_cons_mk (shut_string Tryz.underlying22 w0) (trodAll_cons_mk (Below.trod laidOut (by kernel_rfl) (of_decide_eq_true (by kernel_rfl)) k1 bel lt1) trodAll_mk0)), rfl, bel.frame _, fun h => by cases h⟩
theorem row_holds : Rows.TypesPartsSaid :=
  OpenClaim.holds_of_cond 5 Tryz.f5 rfl rfl rfl rfl rfl rfl rfl ⟨rfl, rfl, rfl, rfl, rfl⟩ rfl rfl rfl rfl rfl (by kernel_rfl) Tryz.func5 (by kernel_rfl)
    (of_decide_eq_true (by kernel_rfl)) (by unfold Func.isWrapper; first | (rw [if_pos (by decide +kernel)]; kernel_rfl) | (rw [if_neg (by decide +kernel)]; exact ⟨rfl, rfl⟩))
    (fun os started H enc _ F => by rw [OpenClaim.pre_eq_preRow]; exact lifted os started H enc F)
/-- The statement. -/
theorem proved : Rows.TypesPartsCardSaid :=
  Claim7.holds_tied_plain_at .later [] _ _ _ _
    row_holds (fun _ h => by cases h) (by kernel_rfl) (fun _ h => by cases h) typesParts_row_tie rfl ⟨rfl, rfl⟩ (by kernel_rfl) rfl
    (fun f fn hf hfn => by
      obtain rfl : f = 5 := (Option.some.inj ((show Tryz.prog.funcNamed Rows.typesPartsRow.func = some 5 by kernel_rfl).symm.trans hf)).symm
      obtain rfl : fn = Tryz.f5 := (Option.some.inj (Tryz.func5.symm.trans hfn)).symm
      exact ⟨by kernel_rfl, fun j t ht => by
        rw [Tryz.params5] at ht
        have hm : t ∈ [22, 44] := by simpa using Array.mem_of_getElem? ht
        have hall : ([22, 44].all fun u => !Tryz.prog.wantsStandIn u) = true := by kernel_rfl
        exact (show Tryz.prog.wantsStandIn t = false by simpa using List.all_eq_true.1 hall t hm)⟩)
    (by kernel_rfl)
#print axioms proved
end Go.Proofs.YtaejddjmkgblfaaGreatDoor.typesParts
