/-
  The statement AsmWordsUptoCardSaid: for every text, two numbers and slice of texts that hold together at most 1048576 values and letters the law on symbols, constants and lines returns true, and its arguments read as before; the listed variables are tied to the program's text.
-/
import Derived.Test.YthekokjmdjokgaaDoorAsmFrame
import Derived.Test.YthekokjmdjokgaaDoorTie
import Derived.Test.YthekokjmdjokgaaDoorCards
import Derived.Stop.LaidErr
import Derived.SevenTiedAt
import Derived.Shelf.Vars
import Derived.Deep.DeepHandedRow
import Derived.Deep.Slices
import Derived.Lay
namespace Go.Proofs.YthekokjmdjokgaaDoor.asmWords
set_option linter.unusedVariables false
set_option linter.unusedSimpArgs false
open Go.ChangeShapes Go.WideShapes Go.ChangeAt Go.WideElems Go.RowKit
open Go.ChangeMaps (open_string shut_string)

/-- A listed error is an error. -/
theorem err_of {n nm : String} {d : DataW Unit} {r : List (String × DataW Unit)} {W : World} {g : Nat} {t : TypeId} {ms : Array (String × TypeId)} (h : laidMet Tryd.prog ((n, .iface nm d) :: r) W) (hg : Tryd.prog.globalNamed n = some g) (ht : (Tryd.prog.globals[g]?).map (·.type) = some t) (hi : Tryd.prog.underlying t = some (.interface ms)) :
    ∃ te pe, W.cell? ⟨g, 0, none⟩ = some (.iface te pe) := by
  obtain ⟨cs, T, fr, f, p, hb, hd⟩ := laid_head h hg ht
  obtain ⟨f1, u, v, hcs, _, _⟩ := iface_of_trod hi hd
  refine ⟨u, v, ?_⟩
  unfold World.cell?
  simp only [hb]
  obtain ⟨l⟩ := cs
  have hl : l = [.iface u v] := hcs
  subst hl
  rfl
theorem of_laid {W : World} (h : laidMetH Tryd.prog Rows.asmWordsUptoRow.laid W) (hs : W.ShapedOpen Tryd.prog) : GW W := by
  rw [MakeChecks.laidMetH_plain _ _ _ (by kernel_rfl)] at h
  have h1 : laidMet Tryd.prog [(_, Rows.laid_math_bits_deBruijn32tab), (_, Rows.laid_math_bits_deBruijn64tab), (_, Rows.laid_internal_strconv_uint64pow10), (_, Rows.laid_unicode_utf8_acceptRanges), (_, Rows.laid_strconv_ErrRange), (_, Rows.laid_strconv_ErrSyntax), (_, Rows.laid_catapult_isa_names), (_, Rows.laid_unicode_utf8_first)] W := h
  have h3 := h1.tail.tail
  have h4 := h3.tail.tail
  have h5 := h4.tail
  have h6 := h5.tail
  obtain ⟨cs, T, fr, f, p, hb, hd⟩ := laid_head h3 (by kernel_rfl) (by kernel_rfl)
  obtain ⟨cs', T', fr', f', p', hb', hd'⟩ := laid_head h6 (by kernel_rfl) (by kernel_rfl)
  have e1 := err_of h4 (g := 5) (t := 60) (by kernel_rfl) (by kernel_rfl) Tryd.underlying60
  have e2 := err_of h5 (g := 4) (t := 60) (by kernel_rfl) (by kernel_rfl) Tryd.underlying60
  have m := cell_of_shapedOpen_int (P := Tryd.prog) (g := 1) (t := 3) (zero := #[.int .i64 0]) hs (of_decide_eq_true (by kernel_rfl)) (by kernel_rfl) rfl (by kernel_rfl) (by kernel_rfl) Tryd.underlying3
  exact ⟨nm_of ⟨T', fr', hb'⟩ hd', pw_of Tryd.underlying121 Tryd.underlying107 (by kernel_rfl) (by kernel_rfl) hb hd, m, e2, e1⟩
/-- What a slice of texts weighs. -/
theorem bulk_lin {H : Type} (ls : List (List UInt8)) : Rows.uptoBulkAll (ls.map fun l => (DataW.lit (.string l) : DataW H)) = (linL ls).length := by
  induction ls with
  | nil => simp [Rows.uptoBulkAll, linL]
  | cons l r ih =>
    have e : linL (l :: r) = l ++ [10] ++ linL r := by simp [linL]
    rw [List.map_cons, Rows.uptoBulkAll, ih, e]
    simp [Rows.uptoBulk]
    omega
theorem cellsStr : Tryd.prog.cellsOf 9 = 1 := by kernel_rfl
/-- A slice of texts that came in. -/
theorem open_texts {H : Type} {enc : TypeId × Value → H} {W : World} {sp : Nat → Bool} {held : Bool} {fuel : Nat} {a : Option Addr} {len cap : Nat} {x : DataW H × List MemPlace}
    (h : DataW.trod enc Tryd.prog W 0 sp held fuel 22 (Value.slice a len cap).cells.toList = some x) :
    ∃ L, L.length = len ∧ len ≤ cap ∧ (a = none → cap = 0) ∧ StrIn W a L ∧ (linL L).length ≤ Rows.uptoBulk x.1 := by
  rcases Go.Deep.open_slice1 Tryd.underlying22 cellsStr h with ⟨hcs, _⟩ | ⟨a', len', cap', m, n, V, D, Pl, hcs, hb, hl, hm, hmm, hx, hi⟩
  · simp [Value.cells] at hcs
    obtain ⟨rfl, rfl, rfl⟩ := hcs
    exact ⟨[], rfl, Nat.le_refl _, fun _ => rfl, fun h => by simp at h, by simp [linL]⟩
  · simp [Value.cells] at hcs
    obtain ⟨rfl, rfl, rfl⟩ := hcs
    have hlm : len ≤ m := by rw [hmm]; split <;> omega
    have hstr : ∀ i, i < len → ∃ l : List UInt8, W.cell? (a'.add i) = some (.string ⟨l.toArray⟩) ∧ D i = .lit (.string l) := by
      intro i hil
      obtain ⟨hc, ht⟩ := hi i (by omega)
      obtain ⟨s, hs, hd, _⟩ := DataW.trod_string Tryd.underlying9 ht
      have hv : V i = .string s := by simpa using hs
      refine ⟨s.data.toList, ?_, ?_⟩
      · rw [hc, hv]
      · simp only [Prod.mk.injEq] at hd
        rw [hd.1]
    have hex : ∃ L : List (List UInt8), L.length = len ∧ ∀ i l, L[i]? = some l → W.cell? (a'.add i) = some (.string ⟨l.toArray⟩) ∧ D i = .lit (.string l) := by
      have : ∀ n, n ≤ len → ∃ L : List (List UInt8), L.length = n ∧ ∀ i l, L[i]? = some l → W.cell? (a'.add i) = some (.string ⟨l.toArray⟩) ∧ D i = .lit (.string l) := by
        intro n
        induction n with
        | zero => exact fun _ => ⟨[], rfl, fun i l h => by simp at h⟩
        | succ n ih =>
          intro hn
          obtain ⟨L, h1, h2⟩ := ih (by omega)
          obtain ⟨l, h3, h4⟩ := hstr n (by omega)
          refine ⟨L ++ [l], by simp [h1], fun i l' hl' => ?_⟩
          by_cases e : i < n
          · rw [List.getElem?_append_left (by omega)] at hl'
            exact h2 i l' hl'
          · have hi' : i < (L ++ [l]).length := (List.getElem?_eq_some_iff.1 hl').1
            simp [h1] at hi'
            obtain rfl : i = n := by omega
            rw [List.getElem?_append_right (by omega), h1] at hl'
            simp at hl'
            subst hl'
            exact ⟨h3, h4⟩
      exact this len (Nat.le_refl _)
    obtain ⟨L, hL1, hL2⟩ := hex
    refine ⟨L, hL1, hl, (fun h => by cases h), fun h0 => ?_, ?_⟩
    · obtain ⟨b, off, spot⟩ := a'
      obtain ⟨s0, hs0⟩ : ∃ s, L[0]? = some s := ⟨_, List.getElem?_eq_getElem h0⟩
      have hspot : spot = none := by
        have := World.cell?_spot (hL2 0 s0 hs0).1
        simpa [Addr.add] using this
      subst hspot
      refine ⟨b, off, rfl, fun k s hs => ?_⟩
      have e : (⟨b, off, none⟩ : Addr).add k = ⟨b, off + k, none⟩ := by unfold Addr.add; split <;> simp_all
      have := (hL2 k s hs).1
      rw [e] at this
      exact this
    · have e : (List.range len).map D = L.map fun l => (DataW.lit (.string l) : DataW H) := by
        apply List.ext_getElem?
        intro i
        by_cases hil : i < len
        · have hL : L[i]? = some (L[i]'(by omega)) := List.getElem?_eq_getElem (by omega)
          rw [List.getElem?_map, List.getElem?_map, List.getElem?_range hil, hL]
          exact congrArg some (hL2 i _ hL).2
        · rw [List.getElem?_eq_none (by simp; omega), List.getElem?_eq_none (by simp; omega)]
      rw [hx, e]
      show _ ≤ Rows.uptoBulk (DataW.slice _ _)
      rw [Rows.uptoBulk, bulk_lin]
      omega
/-! ### The row's step -/
theorem door_met (os : Os) (args : Array Value) : laidMetH Tryd.prog Rows.asmWordsUptoRow.laid ((World.laidAll Tryd.prog os Rows.asmWordsUptoRow.laid).forCall (fun _ _ => 0) ⟨#[], args, []⟩).memory := by
  rw [MakeChecks.laidMetH_plain _ _ _ (by kernel_rfl)]
  exact laidMet_laidAll _ (by kernel_rfl) (by kernel_rfl)
abbrev wArgs : Array Value := #[.string ByteArray.empty, .int .i64 0, .int .i64 0, .slice none 0 0]
theorem reads (os : Os) {H : Type} (enc : TypeId × Value → H) : ∃ places, DataW.whole enc Tryd.prog ((World.laidAll Tryd.prog os Rows.asmWordsUptoRow.laid).forCall (fun _ _ => 0) ⟨#[], wArgs, []⟩).memory Tryd.f3.params.toList Rows.asmWordsSpec.vars false wArgs.toList 8 = some ([.lit (.string []), .lit (.int .i64 0), .lit (.int .i64 0), .nil], [], places) :=
  ⟨[], by kernel_rfl⟩
set_option maxRecDepth 100000 in
theorem lifted (os : Os) (started : os.Started) (H : Type) (enc : TypeId × Value → H) (F : Stop.Interp) :
    ReturnsInHanded {} Tryd.checked os 3 .any ((Rows.OpenSpec.upto Rows.asmWordsSpec).preRow enc Tryd.prog Tryd.f3 Rows.asmWordsUptoRow.domain false Rows.asmWordsUptoRow.laid) (((Rows.OpenSpec.upto Rows.asmWordsSpec).at F).post enc Tryd.prog Tryd.f3 false true false false) := by
  obtain ⟨places, hx⟩ := reads os enc
  have hok : Input.okWideB Tryd.prog ((World.laidAll Tryd.prog os Rows.asmWordsUptoRow.laid).forCall (fun _ _ => 0) ⟨#[], wArgs, []⟩) 3 ⟨#[], wArgs, []⟩ = true := by kernel_rfl
  refine returnsInHanded_of_row (C := Tryd.checked) (s := Rows.OpenSpec.upto Rows.asmWordsSpec) own started (by kernel_rfl) Tryd.func3
    ⟨World.laidAll Tryd.prog os Rows.asmWordsUptoRow.laid, fun _ _ => 0, ⟨#[], wArgs, []⟩, World.laidAll_os _ _ _, World.shaped_of_ZipB (by kernel_rfl) (by kernel_rfl), (Input.okWide_of_okWideB (base := 0) hok).1, (Input.okWide_of_okWideB hok).2,
      OpenSpec.preRow_of_cond 8 hx (by kernel_rfl) (fun k hk => by cases hk; kernel_rfl) (by kernel_rfl) (door_met os _), by
        simp only [Assume.holds]
        exact ⟨by simp, by simp, fun _ => Modest.zero, by simp, by simp⟩⟩ ?_
  intro W base args ds gs before hval0 hW _ hcond _ hL hsh _
  have hval : ∀ (j : Nat) t v, Tryd.f3.params[j]? = some t → args[j]? = some v → Value.okWide Tryd.prog W .any base t v := hval0
  have hbulk : Rows.uptoBulkAll (ds ++ gs) ≤ 1048576 := of_decide_eq_true (hcond _ rfl)
  have hW' := hW
  obtain ⟨p, q, hA0, hV, rfl, hfz, hnd⟩ := hW
  have hA : DataW.TrodAll enc Tryd.prog W 0 (fun _ => true) true Tryd.f3.params.toList args.toList ds p := hA0
  rw [Tryd.params3] at hA hval
  obtain ⟨v0, vs0, d0, ds0, p0, q0, hargs, rfl, rfl, h0, r0⟩ := trodAll_cons hA
  obtain ⟨v1, vs1, d1, ds1, p1, q1, rfl, rfl, rfl, h1, r1⟩ := trodAll_cons r0
  obtain ⟨v2, vs2, d2, ds2, p2, q2, rfl, rfl, rfl, h2, r2⟩ := trodAll_cons r1
  obtain ⟨v3, vs3, d3, ds3, p3, q3, rfl, rfl, rfl, h3, r3⟩ := trodAll_cons r2
  obtain ⟨rfl, rfl, rfl⟩ := trodAll_nil r3
  obtain rfl : args = #[v0, v1, v2, v3] := by cases args; simp_all
  obtain ⟨rfl, rfl⟩ := trodVars_none hV
  obtain ⟨s0, rfl, rfl, rfl, w0⟩ := open_string Tryd.underlying9 (hval 0 9 v0 rfl rfl) h0
  obtain ⟨b1, rfl, rfl, rfl, w1⟩ := open_int Tryd.underlying3 (hval 1 3 v1 rfl rfl) h1
  obtain ⟨b2, rfl, rfl, rfl, w2⟩ := open_int Tryd.underlying3 (hval 2 3 v2 rfl rfl) h2
  obtain ⟨a3, len3, cap3, rfl⟩ := okWide_slice Tryd.underlying22 (hval 3 22 v3 rfl rfl)
  have k3 := h3
  have lt3 : ∀ x ∈ p3, x.block < W.heap.size := by obtain ⟨m, hm⟩ := k3; exact DataW.trod_lt m _ _ _ hm
  obtain ⟨L, hL1, hL2, hL3, hL4, hL5⟩ : ∃ L, L.length = len3 ∧ len3 ≤ cap3 ∧ (a3 = none → cap3 = 0) ∧ StrIn W a3 L ∧ (linL L).length ≤ Rows.uptoBulk d3 := by
    obtain ⟨fuel, hf⟩ := h3
    exact open_texts hf
  have hlin : (linL L).length ≤ 4194304 := by
    simp only [List.append_nil, Rows.uptoBulkAll] at hbulk
    omega
  clear hA0 hval0
  have hg := of_laid hL hsh
  obtain ⟨l, rfl⟩ : ∃ l : List UInt8, s0 = ⟨l.toArray⟩ := ⟨s0.data.toList, by simp⟩
  have hm : l.length ≤ maxLen := by
    have e : (⟨l.toArray⟩ : ByteArray).size = l.length := by show l.toArray.size = _; simp
    rw [← e]
    exact w0
  refine (words_walk l b1 b2 a3 len3 cap3 L W hm hg (i64_bd _ w1).1 (i64_bd _ w1).2 (i64_bd _ w2).1 (i64_bd _ w2).2 hL1 hL2 hL4 hL3 hlin).mono fun e W' ⟨he, bel⟩ => ?_
  subst he
  exact ⟨_, rfl, _, _, _, [], _, [], hW', trodAll_mk1 (shut_bool Tryd.underlying4 _), (trodAll_cons_mk (shut_string Tryd.underlying9 w0) (trodAll_cons_mk (shut_int Tryd.underlying3 w1) (trodAll_cons_mk (shut_int Tryd.underlying3 w2) (trodAll_cons_mk (Below.trod laidOut (by kernel_rfl) (of_decide_eq_true (by kernel_rfl)) k3 bel lt3) trodAll_mk0)))), rfl, bel.frame _, fun h => by cases h⟩
theorem row_holds : Rows.AsmWordsUptoSaid :=
  OpenClaim.holds_of_cond 3 Tryd.f3 rfl rfl rfl rfl rfl rfl rfl ⟨rfl, rfl, rfl, rfl, rfl⟩ rfl rfl rfl rfl rfl (by kernel_rfl) Tryd.func3 (by kernel_rfl)
    (of_decide_eq_true (by kernel_rfl)) (by unfold Func.isWrapper; first | (rw [if_pos (by decide +kernel)]; kernel_rfl) | (rw [if_neg (by decide +kernel)]; exact ⟨rfl, rfl⟩))
    (fun os started H enc _ F => by rw [OpenClaim.pre_eq_preRow]; exact lifted os started H enc F)
/-- The statement. -/
theorem proved : Rows.AsmWordsUptoCardSaid :=
  Claim7.holds_tied_plain_at .later [] _ _ _ _
    row_holds (fun _ h => by cases h) (by kernel_rfl) (fun _ h => by cases h) asmWordsUpto_row_tie rfl ⟨rfl, rfl⟩ (by kernel_rfl) rfl
    (fun f fn hf hfn => by
      obtain rfl : f = 3 := (Option.some.inj ((show Tryd.prog.funcNamed Rows.asmWordsUptoRow.func = some 3 by kernel_rfl).symm.trans hf)).symm
      obtain rfl : fn = Tryd.f3 := (Option.some.inj (Tryd.func3.symm.trans hfn)).symm
      exact ⟨by kernel_rfl, fun j t ht => by
        rw [Tryd.params3] at ht
        have hm : t ∈ [9, 3, 3, 22] := by simpa using Array.mem_of_getElem? ht
        have hall : ([9, 3, 3, 22].all fun u => !Tryd.prog.wantsStandIn u) = true := by kernel_rfl
        exact (show Tryd.prog.wantsStandIn t = false by simpa using List.all_eq_true.1 hall t hm)⟩)
    (by kernel_rfl)
#print axioms proved
end Go.Proofs.YthekokjmdjokgaaDoor.asmWords
