/-
  What the rows' frame gives the walks of the laws on instructions: an argument that is an instruction, opened; the listed tables, as cells.
-/
import Derived.Test.YtcemghcfapblgaaDoorIsaWorks
import Derived.Test.YtcemghcfapblgaaDoorRows
import Derived.ProofKit
import Derived.LaidMore
import Derived.OpenShut
import Derived.ShutString
import Derived.ChangeOld
import Derived.Stop.Joined
import Derived.Lib.LaidTab
namespace Go.Proofs.YtcemghcfapblgaaDoor
set_option linter.unusedVariables false
open Go.ChangeShapes Go.WideShapes Go.ChangeAt Go.WideElems Go.RowKit

theorem own : ownKnob Tryd.prog.godebug = none := by kernel_rfl
theorem laidOut : laidOutB Tryd.prog = true := by kernel_rfl
theorem u32_bd (a : Int) (h : (Lit.int .u32 a).wf = true) : 0 ≤ a ∧ a ≤ 4294967295 := by
  simp only [Lit.wf, IntKind.min, IntKind.max, IntKind.signed, IntKind.bits, Bool.and_eq_true] at h
  simp at h
  omega
theorem i64_bd (a : Int) (h : (Lit.int .i64 a).wf = true) : -9223372036854775808 ≤ a ∧ a ≤ 9223372036854775807 := by
  simp only [Lit.wf, IntKind.min, IntKind.max, IntKind.signed, IntKind.bits, Bool.and_eq_true, decide_eq_true_eq] at h
  simp at h
  omega
theorem instr_fields : ((Tryd.prog.fieldsOf 23).toList.map fun f => (f.offset, f.type)) = [(0, 3), (1, 3), (2, 3), (3, 3), (4, 3)] := by kernel_rfl
theorem instr_field (i : Nat) (h : i < 5) : ∃ f, (Tryd.prog.fieldsOf 23)[i]? = some f ∧ f.offset = i ∧ f.type = 3 := by
  have e := congrArg (fun l => l[i]?) instr_fields
  simp only [List.getElem?_map, Array.getElem?_toList] at e
  have h5 : i = 0 ∨ i = 1 ∨ i = 2 ∨ i = 3 ∨ i = 4 := by omega
  cases hf : (Tryd.prog.fieldsOf 23)[i]? with
  | none => rw [hf] at e; rcases h5 with rfl | rfl | rfl | rfl | rfl <;> cases e
  | some f =>
    rw [hf] at e
    refine ⟨f, rfl, ?_⟩
    rcases h5 with rfl | rfl | rfl | rfl | rfl <;> simpa using e
set_option maxRecDepth 100000 in
/-- An instruction that came in: five numbers. -/
theorem open_instr {H : Type} {enc : TypeId × Value → H} {W : World} {base : Nat} {sp : Nat → Bool} {held : Bool} {v : Value} {d : DataW H} {p : List MemPlace}
    (hv : Value.okWide Tryd.prog W .any base 23 v) (h : DataW.Trod enc Tryd.prog W 0 sp held 23 v d p) :
    ∃ x0 x1 x2 x3 x4 : Int, v = .agg #[.int .i64 x0, .int .i64 x1, .int .i64 x2, .int .i64 x3, .int .i64 x4] ∧ p = [] ∧ (Lit.int .i64 x0).wf = true ∧ (Lit.int .i64 x1).wf = true ∧ (Lit.int .i64 x2).wf = true ∧ (Lit.int .i64 x3).wf = true ∧ (Lit.int .i64 x4).wf = true := by
  have hS : Tryd.prog.underlying 23 = some (.struct (Tryd.prog.fieldsOf 23)) := by kernel_rfl
  obtain ⟨cs, rfl, hsz⟩ := okWide_struct hS hv
  have q5 : Tryd.prog.cellsOf 23 = 5 := by kernel_rfl
  have s5 : (Tryd.prog.fieldsOf 23).size = 5 := by kernel_rfl
  rw [q5] at hsz
  have hsz5 : cs.size = 5 := hsz
  obtain ⟨fuel, hf⟩ := h
  obtain ⟨xs, n, _, hx, hcl, hlen, hg⟩ := DataW.trod_struct hS hf
  rw [s5] at hlen
  have hxl : xs.length = 5 := hlen
  have c1 : Tryd.prog.cellsOf 3 = 1 := by kernel_rfl
  obtain ⟨l⟩ := cs
  match l, hsz5 with
  | [c0, c1', c2, c3, c4], _ =>
    match xs, hxl with
    | [y0, y1, y2, y3, y4], _ =>
      have at_ : ∀ i (hi : i < 5) c y, [c0, c1', c2, c3, c4][i]? = some c → [y0, y1, y2, y3, y4][i]? = some y → ∃ k : Int, c = .int .i64 k ∧ y = (.lit (.int .i64 k), []) ∧ (Lit.int .i64 k).wf = true := by
        intro i hi c y hc hy
        obtain ⟨f, hf0, ho, ht⟩ := instr_field i hi
        have h1 := hg i f hf0
        rw [ho, ht, c1, hy] at h1
        obtain ⟨k, hk, hk2, hk3⟩ := DataW.trod_int Tryd.underlying3 h1
        refine ⟨k, ?_, hk2, hk3⟩
        have e := congrArg (fun l => l[0]?) hk
        simp only [Value.cells, List.getElem?_take, List.getElem?_drop] at e
        simpa [hc] using e
      obtain ⟨k0, e0, f0, w0⟩ := at_ 0 (by decide) _ _ rfl rfl
      obtain ⟨k1, e1, f1, w1⟩ := at_ 1 (by decide) _ _ rfl rfl
      obtain ⟨k2, e2, f2, w2⟩ := at_ 2 (by decide) _ _ rfl rfl
      obtain ⟨k3, e3, f3, w3⟩ := at_ 3 (by decide) _ _ rfl rfl
      obtain ⟨k4, e4, f4, w4⟩ := at_ 4 (by decide) _ _ rfl rfl
      refine ⟨k0, k1, k2, k3, k4, by rw [e0, e1, e2, e3, e4], ?_, w0, w1, w2, w3, w4⟩
      simp only [Prod.mk.injEq] at hx
      rw [hx.2, f0, f1, f2, f3, f4]
      rfl
/-- An array of texts that reads as a list of texts holds them, cell by cell. -/
theorem strs_of {H : Type} {enc : TypeId × Value → H} {P : Program} {w : World} {base : Nat} {sp : Nat → Bool} {held : Bool} {fuel : Nat} {t e : TypeId} {n : Nat} {cs : List Value} {ls : List (List UInt8)} {p : List MemPlace}
    (ht : P.underlying t = some (.array n e)) (he : P.underlying e = some .string) (hce : P.cellsOf e = 1) (hls : ls.length = n)
    (h : DataW.trod enc P w base sp held fuel t cs = some (DataW.agg (ls.map fun l => DataW.lit (Lit.string l)), p)) : ∀ (k : Nat) (l : List UInt8), ls[k]? = some l → cs[k]? = some (Value.string ⟨l.toArray⟩) := by
  obtain ⟨xs, m, _, hx, _, hxl, hel⟩ := DataW.trod_array ht h
  intro k l hk
  have hkn : k < n := by rw [← hls]; exact (List.getElem?_eq_some_iff.1 hk).1
  have h1 := hel k hkn
  rw [hce, Nat.mul_one] at h1
  have hxk : xs[k]? = some xs[k] := List.getElem?_eq_getElem (by omega)
  rw [hxk] at h1
  obtain ⟨s, hs, hs2, _⟩ := DataW.trod_string he h1
  simp only [Prod.mk.injEq, DataW.agg.injEq] at hx
  have h2 := congrArg (fun l => l[k]?) hx.1
  simp only [List.getElem?_map, hk, hxk, Option.map_some, hs2, Option.some.injEq, DataW.lit.injEq, Lit.string.injEq] at h2
  have h3 := congrArg (fun l => l[0]?) hs
  simp only [List.getElem?_take, List.getElem?_drop] at h3
  have h4 : cs[k]? = some (Value.string s) := by simpa using h3
  rw [h4, h2]
/-- What the row's condition gives the walks: the table of words, and the table of powers of ten. -/
theorem nm_of {W : World} {cs : Array Value} {fuel : Nat} {p : List MemPlace} {sp : Nat → Bool} {held : Bool} {base : Nat} (hv : ∃ T fr, W.heap[0]? = some (.cells cs T fr))
    (hd : DataW.trod (fun _ => ()) Tryd.prog W base sp held fuel 52 cs.toList = some (DataW.agg (nmTab.map fun l => DataW.lit (Lit.string l)), p)) : NmH W := by
  intro k l hk
  have h1 := strs_of Tryd.underlying52 Tryd.underlying9 (by kernel_rfl) (by decide) hd k l hk
  obtain ⟨T, fr, hb⟩ := hv
  have hkl := (List.getElem?_eq_some_iff.1 h1).1
  unfold World.cell?
  simp only [hb]
  simpa using h1
theorem laid_head {P : Program} {n : String} {d : DataW Unit} {rest : List (String × DataW Unit)} {W : World} {g : Nat} {t : TypeId} (h : laidMet P ((n, d) :: rest) W) (hg : P.globalNamed n = some g) (ht : (P.globals[g]?).map (·.type) = some t) :
    ∃ cs T fr f p, W.heap[g]? = some (.cells cs T fr) ∧ DataW.trod (fun _ => ()) P W 0 (fun _ => true) false f t cs.toList = some (d, p) := by
  obtain ⟨ps, ⟨g', t', cs, f, p, q, hg', ht', hv, hd, _, _⟩, _, _⟩ := h
  obtain rfl := Option.some.inj (hg.symm.trans hg')
  obtain rfl := Option.some.inj (ht.symm.trans ht')
  unfold World.var? at hv
  rw [hg] at hv
  simp only [Option.bind_some] at hv
  split at hv
  · rename_i cs' T fr hb
    cases hv
    exact ⟨cs, T, fr, f, p, hb, hd⟩
  · cases hv
theorem pw_of {W : World} {cs : Array Value} {T : TypeId} {fr : Nat × Nat} {fuel : Nat} {p : List MemPlace} {sp : Nat → Bool} {held : Bool} {base : Nat} {n : Nat} {e t : TypeId} (ht : Tryd.prog.underlying t = some (.array n e)) (he : Tryd.prog.underlying e = some (.int .u64)) (hce : Tryd.prog.cellsOf e = 1) (hct : Tryd.prog.cellsOf t = n)
    (hb : W.heap[1]? = some (.cells cs T fr)) (hd : DataW.trod (fun _ => ()) Tryd.prog W base sp held fuel t cs.toList = some (Lib.tabData .u64 Lib.pow10Tab, p)) : PwH W := by
  have h := Lib.cells_of_tab ht he hce hct hd
  refine ⟨T, fr, ?_⟩
  rw [hb]
  obtain ⟨l⟩ := cs
  rw [show l = Lib.pow10Tab.map (fun z => Value.int .u64 z) from h]
end Go.Proofs.YtcemghcfapblgaaDoor
