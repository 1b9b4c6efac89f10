/-
  What the rows' frame gives the walks of the laws on instructions: an argument that is an instruction, opened; the listed tables, as cells.
-/
import Derived.Test.YthekokjmdjokgaaDoorAsmWordsWalk
import Derived.Test.YthekokjmdjokgaaDoorRows
import Derived.ProofKit
import Derived.LaidMore
import Derived.OpenShut
import Derived.ShutString
import Derived.ChangeOld
import Derived.Stop.Joined
import Derived.Lib.LaidTab
namespace Go.Proofs.YthekokjmdjokgaaDoor
set_option linter.unusedVariables false
open Go.ChangeShapes Go.WideShapes Go.ChangeAt Go.WideElems Go.RowKit

theorem own : ownKnob Tryd.prog.godebug = none := by kernel_rfl
theorem laidOut : laidOutB Tryd.prog = true := by kernel_rfl
theorem u32_bd (a : Int) (h : (Lit.int .u32 a).wf = true) : 0 ≤ a ∧ a ≤ 4294967295 := by
  simp only [Lit.wf, IntKind.min, IntKind.max, IntKind.signed, IntKind.bits, Bool.and_eq_true] at h
  simp at h
  omega
theorem i64_bd (a : Int) (h : (Lit.int .i64 a).wf = true) : -9223372036854775808 ≤ a ∧ a ≤ 9223372036854775807 := by
  simp only [Lit.wf, IntKind.min, IntKind.max, IntKind.signed, IntKind.bits, Bool.and_eq_true, decide_eq_true_eq] at h
  simp at h
  omega

/-- An array of texts that reads as a list of texts holds them, cell by cell. -/
theorem strs_of {H : Type} {enc : TypeId × Value → H} {P : Program} {w : World} {base : Nat} {sp : Nat → Bool} {held : Bool} {fuel : Nat} {t e : TypeId} {n : Nat} {cs : List Value} {ls : List (List UInt8)} {p : List MemPlace}
    (ht : P.underlying t = some (.array n e)) (he : P.underlying e = some .string) (hce : P.cellsOf e = 1) (hls : ls.length = n)
    (h : DataW.trod enc P w base sp held fuel t cs = some (DataW.agg (ls.map fun l => DataW.lit (Lit.string l)), p)) : ∀ (k : Nat) (l : List UInt8), ls[k]? = some l → cs[k]? = some (Value.string ⟨l.toArray⟩) := by
  obtain ⟨xs, m, _, hx, _, hxl, hel⟩ := DataW.trod_array ht h
  intro k l hk
  have hkn : k < n := by rw [← hls]; exact (List.getElem?_eq_some_iff.1 hk).1
  have h1 := hel k hkn
  rw [hce, Nat.mul_one] at h1
  have hxk : xs[k]? = some xs[k] := List.getElem?_eq_getElem (by omega)
  rw [hxk] at h1
  obtain ⟨s, hs, hs2, _⟩ := DataW.trod_string he h1
  simp only [Prod.mk.injEq, DataW.agg.injEq] at hx
  have h2 := congrArg (fun l => l[k]?) hx.1
  simp only [List.getElem?_map, hk, hxk, Option.map_some, hs2, Option.some.injEq, DataW.lit.injEq, Lit.string.injEq] at h2
  have h3 := congrArg (fun l => l[0]?) hs
  simp only [List.getElem?_take, List.getElem?_drop] at h3
  have h4 : cs[k]? = some (Value.string s) := by simpa using h3
  rw [h4, h2]
/-- What the row's condition gives the walks: the table of words, and the table of powers of ten. -/
theorem nm_of {W : World} {cs : Array Value} {fuel : Nat} {p : List MemPlace} {sp : Nat → Bool} {held : Bool} {base : Nat} (hv : ∃ T fr, W.heap[0]? = some (.cells cs T fr))
    (hd : DataW.trod (fun _ => ()) Tryd.prog W base sp held fuel 84 cs.toList = some (DataW.agg (nmTab.map fun l => DataW.lit (Lit.string l)), p)) : NmH W := by
  intro k l hk
  have h1 := strs_of Tryd.underlying84 Tryd.underlying9 (by kernel_rfl) (by decide) hd k l hk
  obtain ⟨T, fr, hb⟩ := hv
  have hkl := (List.getElem?_eq_some_iff.1 h1).1
  unfold World.cell?
  simp only [hb]
  simpa using h1
theorem laid_head {P : Program} {n : String} {d : DataW Unit} {rest : List (String × DataW Unit)} {W : World} {g : Nat} {t : TypeId} (h : laidMet P ((n, d) :: rest) W) (hg : P.globalNamed n = some g) (ht : (P.globals[g]?).map (·.type) = some t) :
    ∃ cs T fr f p, W.heap[g]? = some (.cells cs T fr) ∧ DataW.trod (fun _ => ()) P W 0 (fun _ => true) false f t cs.toList = some (d, p) := by
  obtain ⟨ps, ⟨g', t', cs, f, p, q, hg', ht', hv, hd, _, _⟩, _, _⟩ := h
  obtain rfl := Option.some.inj (hg.symm.trans hg')
  obtain rfl := Option.some.inj (ht.symm.trans ht')
  unfold World.var? at hv
  rw [hg] at hv
  simp only [Option.bind_some] at hv
  split at hv
  · rename_i cs' T fr hb
    cases hv
    exact ⟨cs, T, fr, f, p, hb, hd⟩
  · cases hv
theorem pw_of {W : World} {cs : Array Value} {T : TypeId} {fr : Nat × Nat} {fuel : Nat} {p : List MemPlace} {sp : Nat → Bool} {held : Bool} {base : Nat} {n : Nat} {e t : TypeId} (ht : Tryd.prog.underlying t = some (.array n e)) (he : Tryd.prog.underlying e = some (.int .u64)) (hce : Tryd.prog.cellsOf e = 1) (hct : Tryd.prog.cellsOf t = n)
    (hb : W.heap[6]? = some (.cells cs T fr)) (hd : DataW.trod (fun _ => ()) Tryd.prog W base sp held fuel t cs.toList = some (Lib.tabData .u64 Lib.pow10Tab, p)) : PwH W := by
  have h := Lib.cells_of_tab ht he hce hct hd
  refine ⟨T, fr, ?_⟩
  rw [hb]
  obtain ⟨l⟩ := cs
  rw [show l = Lib.pow10Tab.map (fun z => Value.int .u64 z) from h]
end Go.Proofs.YthekokjmdjokgaaDoor
