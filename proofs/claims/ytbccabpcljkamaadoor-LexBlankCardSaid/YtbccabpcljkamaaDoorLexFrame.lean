/-
  What the row's frame gives the walk of the law on tokens: the listed tables, as cells; a slice of tokens, opened.
-/
import Derived.Test.YtbccabpcljkamaaDoorLexSam
import Derived.Test.YtbccabpcljkamaaDoorRows
import Derived.ProofKit
import Derived.LaidMore
import Derived.OpenShut
import Derived.ShutString
import Derived.ChangeOld
import Derived.Stop.Joined
import Derived.Lib.LaidTab
import Derived.Deep.Slices
import Derived.SizedLaws
namespace Go.Proofs.YtbccabpcljkamaaDoor
set_option linter.unusedVariables false
set_option linter.unusedSimpArgs false
open Go.ChangeShapes Go.WideShapes Go.ChangeAt Go.WideElems Go.RowKit

theorem own : ownKnob Tryd.prog.godebug = none := by kernel_rfl
theorem laidOut : laidOutB Tryd.prog = true := by kernel_rfl
theorem i64_bd (a : Int) (h : (Lit.int .i64 a).wf = true) : -9223372036854775808 ≤ a ∧ a ≤ 9223372036854775807 := by
  simp only [Lit.wf, IntKind.min, IntKind.max, IntKind.signed, IntKind.bits, Bool.and_eq_true, decide_eq_true_eq] at h
  simp at h
  omega
/-- An array of texts that reads as a list of texts holds them, cell by cell. -/
theorem strs_of {H : Type} {enc : TypeId × Value → H} {P : Program} {w : World} {base : Nat} {sp : Nat → Bool} {held : Bool} {fuel : Nat} {t e : TypeId} {n : Nat} {cs : List Value} {ls : List (List UInt8)} {p : List MemPlace}
    (ht : P.underlying t = some (.array n e)) (he : P.underlying e = some .string) (hce : P.cellsOf e = 1) (hls : ls.length = n)
    (h : DataW.trod enc P w base sp held fuel t cs = some (DataW.agg (ls.map fun l => DataW.lit (Lit.string l)), p)) : ∀ (k : Nat) (l : List UInt8), ls[k]? = some l → cs[k]? = some (Value.string ⟨l.toArray⟩) := by
  obtain ⟨xs, m, _, hx, _, hxl, hel⟩ := DataW.trod_array ht h
  intro k l hk
  have hkn : k < n := by rw [← hls]; exact (List.getElem?_eq_some_iff.1 hk).1
  have h1 := hel k hkn
  rw [hce, Nat.mul_one] at h1
  have hxk : xs[k]? = some xs[k] := List.getElem?_eq_getElem (by omega)
  rw [hxk] at h1
  obtain ⟨s, hs, hs2, _⟩ := DataW.trod_string he h1
  simp only [Prod.mk.injEq, DataW.agg.injEq] at hx
  have h2 := congrArg (fun l => l[k]?) hx.1
  simp only [List.getElem?_map, hk, hxk, Option.map_some, hs2, Option.some.injEq, DataW.lit.injEq, Lit.string.injEq] at h2
  have h3 := congrArg (fun l => l[0]?) hs
  simp only [List.getElem?_take, List.getElem?_drop] at h3
  have h4 : cs[k]? = some (Value.string s) := by simpa using h3
  rw [h4, h2]
theorem laid_head {P : Program} {n : String} {d : DataW Unit} {rest : List (String × DataW Unit)} {W : World} {g : Nat} {t : TypeId} (h : laidMet P ((n, d) :: rest) W) (hg : P.globalNamed n = some g) (ht : (P.globals[g]?).map (·.type) = some t) :
    ∃ cs T fr f p, W.heap[g]? = some (.cells cs T fr) ∧ DataW.trod (fun _ => ()) P W 0 (fun _ => true) false f t cs.toList = some (d, p) := by
  obtain ⟨ps, ⟨g', t', cs, f, p, q, hg', ht', hv, hd, _, _⟩, _, _⟩ := h
  obtain rfl := Option.some.inj (hg.symm.trans hg')
  obtain rfl := Option.some.inj (ht.symm.trans ht')
  unfold World.var? at hv
  rw [hg] at hv
  simp only [Option.bind_some] at hv
  split at hv
  · rename_i cs' T fr hb
    cases hv
    exact ⟨cs, T, fr, f, p, hb, hd⟩
  · cases hv
theorem pw_of {W : World} {cs : Array Value} {T : TypeId} {fr : Nat × Nat} {fuel : Nat} {p : List MemPlace} {sp : Nat → Bool} {held : Bool} {base : Nat} {n : Nat} {e t : TypeId} (ht : Tryd.prog.underlying t = some (.array n e)) (he : Tryd.prog.underlying e = some (.int .u64)) (hce : Tryd.prog.cellsOf e = 1) (hct : Tryd.prog.cellsOf t = n)
    (hb : W.heap[2]? = some (.cells cs T fr)) (hd : DataW.trod (fun _ => ()) Tryd.prog W base sp held fuel t cs.toList = some (Lib.tabData .u64 Lib.pow10Tab, p)) : PwH W := by
  have h := Lib.cells_of_tab ht he hce hct hd
  refine ⟨T, fr, ?_⟩
  rw [hb]
  obtain ⟨l⟩ := cs
  rw [show l = Lib.pow10Tab.map (fun z => Value.int .u64 z) from h]
theorem mk_of {W : World} {cs : Array Value} {T : TypeId} {fr : Nat × Nat} {fuel : Nat} {p : List MemPlace} {sp : Nat → Bool} {held : Bool} {base : Nat}
    (hb : W.heap[0]? = some (.cells cs T fr)) (hd : DataW.trod (fun _ => ()) Tryd.prog W base sp held fuel 68 cs.toList = some (DataW.agg (markTab.map fun l => DataW.lit (Lit.string l)), p)) : MkH W := by
  have h1 := strs_of Tryd.underlying68 Tryd.underlying9 (by kernel_rfl) (by decide) hd
  obtain ⟨_, _, _, _, hlen, _, _⟩ := DataW.trod_array Tryd.underlying68 hd
  have hc : Tryd.prog.cellsOf 68 = 45 := by kernel_rfl
  rw [hc] at hlen
  have hml : markTab.length = 45 := by decide
  refine ⟨T, fr, ?_⟩
  rw [hb]
  obtain ⟨l⟩ := cs
  have e : l = markTab.map fun l => Value.string ⟨l.toArray⟩ := by
    apply List.ext_getElem?
    intro k
    by_cases hk : k < 45
    · have hs : markTab[k]? = some (markTab[k]'(by omega)) := List.getElem?_eq_getElem (by omega)
      rw [List.getElem?_map, hs]
      exact h1 k _ hs
    · have hlen' : l.length = 45 := hlen
      rw [List.getElem?_eq_none (by omega), List.getElem?_eq_none (by simp; omega)]
  unfold markA
  rw [e]
theorem tok_fields : ((Tryd.prog.fieldsOf 33).toList.map fun f => (f.offset, f.type)) = [(0, 3), (1, 3), (2, 3), (3, 9)] := by kernel_rfl
theorem tok_field (i : Nat) (o t : Nat) (h : [(0, 3), (1, 3), (2, 3), (3, 9)][i]? = some (o, t)) : ∃ f, (Tryd.prog.fieldsOf 33)[i]? = some f ∧ f.offset = o ∧ f.type = t := by
  have e := congrArg (fun l => l[i]?) tok_fields
  simp only [List.getElem?_map, Array.getElem?_toList] at e
  rw [h] at e
  cases hf : (Tryd.prog.fieldsOf 33)[i]? with
  | none => rw [hf] at e; cases e
  | some f =>
    rw [hf] at e
    simp at e
    exact ⟨f, rfl, e.1, e.2⟩
theorem four {α : Type} {l : List α} (h : l.length = 4) : ∃ a b c d, l = [a, b, c, d] := by
  match l, h with
  | [a, b, c, d], _ => exact ⟨a, b, c, d, rfl⟩
theorem cellsTk : Tryd.prog.cellsOf 33 = 4 := by kernel_rfl
theorem bytesTk : Tryd.prog.bytesOf 33 = 40 := by kernel_rfl
/-- Cells that read as a token are three numbers and a text. -/
theorem cells_tok {H : Type} {enc : TypeId × Value → H} {W : World} {base : Nat} {sp : Nat → Bool} {held : Bool} {fuel : Nat} {cs : List Value} {x : DataW H × List MemPlace}
    (h : DataW.trod enc Tryd.prog W base sp held fuel 33 cs = some x) (hl : cs.length = 4) :
    ∃ (k a n : Int) (s : ByteArray), cs = [.int .i64 k, .int .i64 a, .int .i64 n, .string s] ∧ (Lit.int .i64 k).wf = true ∧ (Lit.int .i64 a).wf = true ∧ (Lit.int .i64 n).wf = true ∧ s.size ≤ maxLen := by
  have hS : Tryd.prog.underlying 33 = some (.struct (Tryd.prog.fieldsOf 33)) := by kernel_rfl
  have s4 : (Tryd.prog.fieldsOf 33).size = 4 := by kernel_rfl
  obtain ⟨xs, n, _, hx, hcl, hlen, hg⟩ := DataW.trod_struct hS h
  rw [s4] at hlen
  have hxl : xs.length = 4 := hlen
  have cS : Tryd.prog.cellsOf 9 = 1 := by kernel_rfl
  have cI : Tryd.prog.cellsOf 3 = 1 := by kernel_rfl
  have hy : ∀ i (hi : i < 4), xs[i]? = some (xs[i]'(by omega)) := fun i hi => List.getElem?_eq_getElem (by omega)
  have one : ∀ i (v : Value), (cs.drop i).take 1 = [v] → cs[i]? = some v := by
    intro i v e
    have e := congrArg (fun l => l[0]?) e
    simp only [List.getElem?_take, List.getElem?_drop] at e
    simpa using e
  obtain ⟨f0, g0, o0, t0⟩ := tok_field 0 _ _ rfl
  obtain ⟨f1, g1, o1, t1⟩ := tok_field 1 _ _ rfl
  obtain ⟨f2, g2, o2, t2⟩ := tok_field 2 _ _ rfl
  obtain ⟨f3, g3, o3, t3⟩ := tok_field 3 _ _ rfl
  have k0 := hg 0 f0 g0
  have k1 := hg 1 f1 g1
  have k2 := hg 2 f2 g2
  have k3 := hg 3 f3 g3
  rw [o0, t0, cI, hy 0 (by decide)] at k0
  rw [o1, t1, cI, hy 1 (by decide)] at k1
  rw [o2, t2, cI, hy 2 (by decide)] at k2
  rw [o3, t3, cS, hy 3 (by decide)] at k3
  obtain ⟨k, e0, _, w0⟩ := DataW.trod_int Tryd.underlying3 k0
  obtain ⟨a, e1, _, w1⟩ := DataW.trod_int Tryd.underlying3 k1
  obtain ⟨n', e2, _, w2⟩ := DataW.trod_int Tryd.underlying3 k2
  obtain ⟨s, e3, _, w3⟩ := DataW.trod_string Tryd.underlying9 k3
  have q0 := one _ _ e0
  have q1 := one _ _ e1
  have q2 := one _ _ e2
  have q3 := one _ _ e3
  refine ⟨k, a, n', s, ?_, w0, w1, w2, w3⟩
  obtain ⟨c0, c1, c2, c3, hcs⟩ := four hl
  rw [hcs] at q0 q1 q2 q3 ⊢
  rw [Option.some.inj q0, Option.some.inj q1, Option.some.inj q2, Option.some.inj q3]
/-- A slice of tokens that came in. -/
theorem open_toks {H : Type} {enc : TypeId × Value → H} {W : World} {sp : Nat → Bool} {held : Bool} {fuel : Nat} {a : Option Addr} {len cap : Nat} {x : DataW H × List MemPlace}
    (h : DataW.trod enc Tryd.prog W 0 sp held fuel 22 (Value.slice a len cap).cells.toList = some x) :
    ∃ L : List Tk, L.length = len ∧ len ≤ cap ∧ TksIn W a L ∧ (∀ t ∈ L, TkB t) ∧ (a = none → len = 0 ∧ cap = 0) ∧ (len = 0 ∨ ∃ es spare, x.1 = .slice es spare ∧ es.length = len) := by
  rcases Go.Deep.open_slice Tryd.underlying22 h with ⟨hcs, _⟩ | ⟨a', len', cap', m, n, D, Pl, hcs, hb, hl, hm, hmm, hx, hi⟩
  · simp [Value.cells] at hcs
    obtain ⟨rfl, rfl, rfl⟩ := hcs
    exact ⟨[], rfl, Nat.le_refl _, fun h => by simp at h, fun t ht => by simp at ht, fun _ => ⟨rfl, rfl⟩, .inl rfl⟩
  · simp [Value.cells] at hcs
    obtain ⟨rfl, rfl, rfl⟩ := hcs
    have hlm : len ≤ m := by rw [hmm]; split <;> omega
    have hcell : ∀ i, i < len → ∃ t : Tk, TkB t ∧ W.cell? ((a'.add (i * 4)).add 0) = some (.int .i64 t.kind) ∧ W.cell? ((a'.add (i * 4)).add 1) = some (.int .i64 t.at') ∧ W.cell? ((a'.add (i * 4)).add 2) = some (.int .i64 t.int) ∧ W.cell? ((a'.add (i * 4)).add 3) = some (.string ⟨t.text.toArray⟩) := by
      intro i hil
      obtain ⟨cs', hc, ht⟩ := hi i (by omega)
      rw [cellsTk] at hc
      obtain ⟨_, hcl, hat⟩ := World.cells?_some hc
      obtain ⟨k, a, n, s, rfl, w0, w1, w2, w3⟩ := cells_tok ht hcl
      have es : (⟨s.data.toList.toArray⟩ : ByteArray) = s := by cases s; simp
      have w3' : s.data.toList.length ≤ 9223372036854775807 := by
        unfold maxLen at w3
        have : s.data.toList.length = s.size := by rw [Array.length_toList]; rfl
        omega
      refine ⟨⟨k, a, n, s.data.toList⟩, ⟨i64_bd _ w0, i64_bd _ w1, i64_bd _ w2, w3'⟩, ?_, ?_, ?_, ?_⟩
      · rw [hat 0 (by decide)]; rfl
      · rw [hat 1 (by decide)]; rfl
      · rw [hat 2 (by decide)]; rfl
      · rw [hat 3 (by decide)]
        show _ = some (Value.string ⟨s.data.toList.toArray⟩)
        rw [es]
        rfl
    have hex : ∀ n, n ≤ len → ∃ L : List Tk, L.length = n ∧ ∀ i t, L[i]? = some t → TkB t ∧ W.cell? ((a'.add (i * 4)).add 0) = some (.int .i64 t.kind) ∧ W.cell? ((a'.add (i * 4)).add 1) = some (.int .i64 t.at') ∧ W.cell? ((a'.add (i * 4)).add 2) = some (.int .i64 t.int) ∧ W.cell? ((a'.add (i * 4)).add 3) = some (.string ⟨t.text.toArray⟩) := by
      intro n
      induction n with
      | zero => exact fun _ => ⟨[], rfl, fun i t h => by simp at h⟩
      | succ n ih =>
        intro hn
        obtain ⟨L, h1, h2⟩ := ih (by omega)
        obtain ⟨t, h3⟩ := hcell n (by omega)
        refine ⟨L ++ [t], by simp [h1], fun i t' ht' => ?_⟩
        by_cases e : i < n
        · rw [List.getElem?_append_left (by omega)] at ht'
          exact h2 i t' ht'
        · have hi' : i < (L ++ [t]).length := (List.getElem?_eq_some_iff.1 ht').1
          simp [h1] at hi'
          obtain rfl : i = n := by omega
          rw [List.getElem?_append_right (by omega), h1] at ht'
          simp at ht'
          subst ht'
          exact h3
    obtain ⟨L, hL1, hL2⟩ := hex len (Nat.le_refl _)
    refine ⟨L, hL1, hl, fun h0 => ?_, fun t ht => ?_, (fun h => by cases h), .inr ⟨_, _, by rw [hx], by simp⟩⟩
    · obtain ⟨b, off, spot⟩ := a'
      obtain ⟨t0, ht0⟩ : ∃ t, L[0]? = some t := ⟨_, List.getElem?_eq_getElem h0⟩
      have hspot : spot = none := by
        have := World.cell?_spot (hL2 0 t0 ht0).2.1
        simpa [Addr.add] using this
      subst hspot
      have hadd : ∀ i j, ((⟨b, off, none⟩ : Addr).add (i * 4)).add j = ⟨b, off + i * 4 + j, none⟩ := by
        intro i j
        unfold Addr.add
        split <;> split <;> simp_all
      refine ⟨b, off, rfl, fun k t ht => ?_⟩
      obtain ⟨_, c0, c1, c2, c3⟩ := hL2 k t ht
      rw [hadd] at c0 c1 c2 c3
      exact ⟨c0, c1, c2, c3⟩
    · obtain ⟨i, hi⟩ := List.getElem?_of_mem ht
      exact (hL2 i t hi).1
end Go.Proofs.YtbccabpcljkamaaDoor
