/-
  What the rows' frame gives the walks of the laws on types: the listed variables, as cells.
-/
import Derived.Test.YtacbjhbiaaieoaaGreatDoorTyR2
import Derived.Test.YtacbjhbiaaieoaaGreatDoorRows
import Derived.ProofKit
import Derived.LaidMore
import Derived.OpenShut
import Derived.ShutString
import Derived.ChangeOld
import Derived.Stop.Joined
import Derived.Lib.LaidTab
import Derived.Deep.Slices
import Derived.SizedLaws
import Derived.Stop.LaidErr
import Derived.SevenTiedAt
import Derived.Shelf.Vars
import Derived.Deep.DeepHandedRow
import Derived.Lay
namespace Go.Proofs.YtacbjhbiaaieoaaGreatDoor
set_option linter.unusedVariables false
set_option linter.unusedSimpArgs false
open Go.ChangeShapes Go.WideShapes Go.ChangeAt Go.WideElems Go.RowKit

theorem own : ownKnob Tryz.prog.godebug = none := by kernel_rfl
theorem laidOut : laidOutB Tryz.prog = true := by kernel_rfl
theorem i64_bd (a : Int) (h : (Lit.int .i64 a).wf = true) : -9223372036854775808 ≤ a ∧ a ≤ 9223372036854775807 := by
  simp only [Lit.wf, IntKind.min, IntKind.max, IntKind.signed, IntKind.bits, Bool.and_eq_true, decide_eq_true_eq] at h
  simp at h
  omega
theorem laid_head {P : Program} {n : String} {d : DataW Unit} {rest : List (String × DataW Unit)} {W : World} {g : Nat} {t : TypeId} (h : laidMet P ((n, d) :: rest) W) (hg : P.globalNamed n = some g) (ht : (P.globals[g]?).map (·.type) = some t) :
    ∃ cs T fr f p, W.heap[g]? = some (.cells cs T fr) ∧ DataW.trod (fun _ => ()) P W 0 (fun _ => true) false f t cs.toList = some (d, p) := by
  obtain ⟨ps, ⟨g', t', cs, f, p, q, hg', ht', hv, hd, _, _⟩, _, _⟩ := h
  obtain rfl := Option.some.inj (hg.symm.trans hg')
  obtain rfl := Option.some.inj (ht.symm.trans ht')
  unfold World.var? at hv
  rw [hg] at hv
  simp only [Option.bind_some] at hv
  split at hv
  · rename_i cs' T fr hb
    cases hv
    exact ⟨cs, T, fr, f, p, hb, hd⟩
  · cases hv
theorem pw_of {W : World} {cs : Array Value} {T : TypeId} {fr : Nat × Nat} {fuel : Nat} {p : List MemPlace} {sp : Nat → Bool} {held : Bool} {base : Nat} {n : Nat} {e t : TypeId} (ht : Tryz.prog.underlying t = some (.array n e)) (he : Tryz.prog.underlying e = some (.int .u64)) (hce : Tryz.prog.cellsOf e = 1) (hct : Tryz.prog.cellsOf t = n)
    (hb : W.heap[2]? = some (.cells cs T fr)) (hd : DataW.trod (fun _ => ()) Tryz.prog W base sp held fuel t cs.toList = some (Lib.tabData .u64 Lib.pow10Tab, p)) : PwH W := by
  have h := Lib.cells_of_tab ht he hce hct hd
  refine ⟨T, fr, ?_⟩
  rw [hb]
  obtain ⟨l⟩ := cs
  rw [show l = Lib.pow10Tab.map (fun z => Value.int .u64 z) from h]
theorem cell_blt {w : World} {p : Addr} {v : Value} (h : w.cell? p = some v) : p.block < w.heap.size := by
  unfold World.cell? at h
  cases hb : w.heap[p.block]? with
  | none => rw [hb] at h; cases h
  | some o => exact (Array.getElem?_eq_some_iff.1 hb).1
/-- A listed error is an error. -/
theorem err_of {n nm : String} {d : DataW Unit} {r : List (String × DataW Unit)} {W : World} {g : Nat} {t : TypeId} {ms : Array (String × TypeId)} (h : laidMet Tryz.prog ((n, .iface nm d) :: r) W) (hg : Tryz.prog.globalNamed n = some g) (ht : (Tryz.prog.globals[g]?).map (·.type) = some t) (hi : Tryz.prog.underlying t = some (.interface ms)) :
    ∃ te pe, W.cell? ⟨g, 0, none⟩ = some (.iface te pe) := by
  obtain ⟨cs, T, fr, f, p, hb, hd⟩ := laid_head h hg ht
  obtain ⟨f1, u, v, hcs, _, _⟩ := iface_of_trod hi hd
  refine ⟨u, v, ?_⟩
  unfold World.cell?
  simp only [hb]
  obtain ⟨l⟩ := cs
  have hl : l = [.iface u v] := hcs
  subst hl
  rfl
theorem env_of {W : World} (h1 : laidMet Tryz.prog [("math/bits.deBruijn32tab", Rows.laid_math_bits_deBruijn32tab), ("math/bits.deBruijn64tab", Rows.laid_math_bits_deBruijn64tab), ("internal/strconv.uint64pow10", Rows.laid_internal_strconv_uint64pow10), ("strconv.ErrRange", Rows.laid_strconv_ErrRange), ("strconv.ErrSyntax", Rows.laid_strconv_ErrSyntax)] W) (hs : W.ShapedOpen Tryz.prog) : Env W.heap.size W := by
  have h3 := h1.tail.tail
  have h4 := h3.tail
  have h5 := h4.tail
  have e1 := err_of h4 (g := 1) (t := 107) (by kernel_rfl) (by kernel_rfl) Tryz.underlying107
  have e2 := err_of h5 (g := 0) (t := 107) (by kernel_rfl) (by kernel_rfl) Tryz.underlying107
  have m := cell_of_shapedOpen_int (P := Tryz.prog) (g := 3) (t := 3) (zero := #[.int .i64 0]) hs (of_decide_eq_true (by kernel_rfl)) (by kernel_rfl) rfl (by kernel_rfl) (by kernel_rfl) Tryz.underlying3
  obtain ⟨cs, T, fr, f, p, hb, hd⟩ := laid_head h3 (by kernel_rfl) (by kernel_rfl)
  refine ⟨⟨?_, ?_, ?_, (Array.getElem?_eq_some_iff.1 hb).1⟩, m, e2, e1, pw_of Tryz.underlying187 Tryz.underlying160 (by kernel_rfl) (by kernel_rfl) hb hd⟩
  · obtain ⟨x, hx⟩ := m; exact cell_blt hx
  · obtain ⟨x, y, hx⟩ := e2; exact cell_blt hx
  · obtain ⟨x, y, hx⟩ := e1; exact cell_blt hx
end Go.Proofs.YtacbjhbiaaieoaaGreatDoor
