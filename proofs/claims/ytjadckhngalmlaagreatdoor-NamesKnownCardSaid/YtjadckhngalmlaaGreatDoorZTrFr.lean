/-
  What the rows' frame gives the walks of the laws on trees: slices of nodes, opened.
-/
import Derived.Test.YtjadckhngalmlaaGreatDoorZTyNd
import Derived.Test.YtjadckhngalmlaaGreatDoorRows
import Derived.ProofKit
import Derived.LaidMore
import Derived.OpenShut
import Derived.ShutString
import Derived.ChangeOld
import Derived.Stop.Joined
import Derived.Lib.LaidTab
import Derived.Deep.Slices
import Derived.SizedLaws
import Derived.Stop.LaidErr
import Derived.SevenTiedAt
import Derived.Shelf.Vars
import Derived.Deep.DeepHandedRow
import Derived.Lay
import Derived.Test.YtjadckhngalmlaaGreatDoorZTrLg
namespace Go.Proofs.YtjadckhngalmlaaGreatDoor
set_option linter.unusedVariables false
set_option linter.unusedSimpArgs false
open Go.ChangeShapes Go.WideShapes Go.ChangeAt Go.WideElems Go.RowKit

theorem own : ownKnob Tryz.prog.godebug = none := by kernel_rfl
theorem laidOut : laidOutB Tryz.prog = true := by kernel_rfl
theorem laid_head {P : Program} {n : String} {d : DataW Unit} {rest : List (String × DataW Unit)} {W : World} {g : Nat} {t : TypeId} (h : laidMet P ((n, d) :: rest) W) (hg : P.globalNamed n = some g) (ht : (P.globals[g]?).map (·.type) = some t) :
    ∃ cs T fr f p, W.heap[g]? = some (.cells cs T fr) ∧ DataW.trod (fun _ => ()) P W 0 (fun _ => true) false f t cs.toList = some (d, p) := by
  obtain ⟨ps, ⟨g', t', cs, f, p, q, hg', ht', hv, hd, _, _⟩, _, _⟩ := h
  obtain rfl := Option.some.inj (hg.symm.trans hg')
  obtain rfl := Option.some.inj (ht.symm.trans ht')
  unfold World.var? at hv
  rw [hg] at hv
  simp only [Option.bind_some] at hv
  split at hv
  · rename_i cs' T fr hb
    cases hv
    exact ⟨cs, T, fr, f, p, hb, hd⟩
  · cases hv
theorem pw_of {W : World} {cs : Array Value} {T : TypeId} {fr : Nat × Nat} {fuel : Nat} {p : List MemPlace} {sp : Nat → Bool} {held : Bool} {base : Nat} {n : Nat} {e t : TypeId} (ht : Tryz.prog.underlying t = some (.array n e)) (he : Tryz.prog.underlying e = some (.int .u64)) (hce : Tryz.prog.cellsOf e = 1) (hct : Tryz.prog.cellsOf t = n)
    (hb : W.heap[2]? = some (.cells cs T fr)) (hd : DataW.trod (fun _ => ()) Tryz.prog W base sp held fuel t cs.toList = some (Lib.tabData .u64 Lib.pow10Tab, p)) : PwH W := by
  have h := Lib.cells_of_tab ht he hce hct hd
  refine ⟨T, fr, ?_⟩
  rw [hb]
  obtain ⟨l⟩ := cs
  rw [show l = Lib.pow10Tab.map (fun z => Value.int .u64 z) from h]
theorem cell_blt {w : World} {p : Addr} {v : Value} (h : w.cell? p = some v) : p.block < w.heap.size := by
  unfold World.cell? at h
  cases hb : w.heap[p.block]? with
  | none => rw [hb] at h; cases h
  | some o => exact (Array.getElem?_eq_some_iff.1 hb).1
/-- A listed error is an error. -/
theorem err_of {n nm : String} {d : DataW Unit} {r : List (String × DataW Unit)} {W : World} {g : Nat} {t : TypeId} {ms : Array (String × TypeId)} (h : laidMet Tryz.prog ((n, .iface nm d) :: r) W) (hg : Tryz.prog.globalNamed n = some g) (ht : (Tryz.prog.globals[g]?).map (·.type) = some t) (hi : Tryz.prog.underlying t = some (.interface ms)) :
    ∃ te pe, W.cell? ⟨g, 0, none⟩ = some (.iface te pe) := by
  obtain ⟨cs, T, fr, f, p, hb, hd⟩ := laid_head h hg ht
  obtain ⟨f1, u, v, hcs, _, _⟩ := iface_of_trod hi hd
  refine ⟨u, v, ?_⟩
  unfold World.cell?
  simp only [hb]
  obtain ⟨l⟩ := cs
  have hl : l = [.iface u v] := hcs
  subst hl
  rfl
theorem env_of {W : World} (h1 : laidMet Tryz.prog [("math/bits.deBruijn32tab", Rows.laid_math_bits_deBruijn32tab), ("math/bits.deBruijn64tab", Rows.laid_math_bits_deBruijn64tab), ("internal/strconv.uint64pow10", Rows.laid_internal_strconv_uint64pow10), ("strconv.ErrRange", Rows.laid_strconv_ErrRange), ("strconv.ErrSyntax", Rows.laid_strconv_ErrSyntax)] W) (hs : W.ShapedOpen Tryz.prog) : Env W.heap.size W := by
  have h3 := h1.tail.tail
  have h4 := h3.tail
  have h5 := h4.tail
  have e1 := err_of h4 (g := 1) (t := 209) (by kernel_rfl) (by kernel_rfl) Tryz.underlying209
  have e2 := err_of h5 (g := 0) (t := 209) (by kernel_rfl) (by kernel_rfl) Tryz.underlying209
  have m := cell_of_shapedOpen_int (P := Tryz.prog) (g := 3) (t := 3) (zero := #[.int .i64 0]) hs (of_decide_eq_true (by kernel_rfl)) (by kernel_rfl) rfl (by kernel_rfl) (by kernel_rfl) Tryz.underlying3
  obtain ⟨cs, T, fr, f, p, hb, hd⟩ := laid_head h3 (by kernel_rfl) (by kernel_rfl)
  refine ⟨⟨?_, ?_, ?_, (Array.getElem?_eq_some_iff.1 hb).1⟩, m, e2, e1, pw_of Tryz.underlying237 Tryz.underlying53 (by kernel_rfl) (by kernel_rfl) hb hd⟩
  · obtain ⟨x, hx⟩ := m; exact cell_blt hx
  · obtain ⟨x, y, hx⟩ := e2; exact cell_blt hx
  · obtain ⟨x, y, hx⟩ := e1; exact cell_blt hx
end Go.Proofs.YtjadckhngalmlaaGreatDoor
namespace Go.Proofs.YtjadckhngalmlaaGreatDoor
set_option linter.unusedVariables false
set_option linter.unusedSimpArgs false
open Go.ChangeShapes Go.WideShapes Go.ChangeAt Go.WideElems Go.RowKit

theorem node_fields : ((Tryz.prog.fieldsOf 47).toList.map fun f => (f.offset, f.type)) = [(0, 3), (1, 3), (2, 3), (3, 3), (4, 9), (5, 40)] := by kernel_rfl
theorem cellsNode : Tryz.prog.cellsOf 47 = 6 := by kernel_rfl
theorem bytesNode : Tryz.prog.bytesOf 47 = 64 := by kernel_rfl
theorem field_at {T : TypeId} {l : List (Nat × Nat)} (he : ((Tryz.prog.fieldsOf T).toList.map fun f => (f.offset, f.type)) = l) (i : Nat) (o t : Nat) (h : l[i]? = some (o, t)) : ∃ f, (Tryz.prog.fieldsOf T)[i]? = some f ∧ f.offset = o ∧ f.type = t := by
  have e := congrArg (fun l => l[i]?) he
  simp only [List.getElem?_map, Array.getElem?_toList] at e
  rw [h] at e
  cases hf : (Tryz.prog.fieldsOf T)[i]? with
  | none => rw [hf] at e; cases e
  | some f =>
    rw [hf] at e
    simp at e
    exact ⟨f, rfl, e.1, e.2⟩
theorem cs_one {cs : List Value} (i : Nat) (v : Value) (e : (cs.drop i).take 1 = [v]) : cs[i]? = some v := by
  have e := congrArg (fun l => l[0]?) e
  simp only [List.getElem?_take, List.getElem?_drop] at e
  simpa using e
theorem choose_list {α : Type} {p : Nat → α → Prop} : ∀ (n : Nat), (∀ i, i < n → ∃ x, p i x) → ∃ L : List α, L.length = n ∧ ∀ i x, L[i]? = some x → p i x
  | 0, _ => ⟨[], rfl, fun i x h => by cases h⟩
  | n + 1, h => by
    obtain ⟨L, h1, h2⟩ := choose_list n (fun i hi => h i (by omega))
    obtain ⟨x, hx⟩ := h n (by omega)
    refine ⟨L ++ [x], by simp [h1], fun i y hy => ?_⟩
    by_cases e : i < n
    · rw [List.getElem?_append_left (by omega)] at hy
      exact h2 i y hy
    · have hi' : i < (L ++ [x]).length := (List.getElem?_eq_some_iff.1 hy).1
      simp [h1] at hi'
      obtain rfl : i = n := by omega
      rw [List.getElem?_append_right (by omega), h1] at hy
      simp at hy
      subst hy
      exact hx
theorem bytes_len {s : ByteArray} (h : s.size ≤ maxLen) : ∃ l : List UInt8, s = ⟨l.toArray⟩ ∧ l.length ≤ 9223372036854775807 := by
  refine ⟨s.data.toList, by simp, ?_⟩
  unfold maxLen at h
  have : s.data.toList.length = s.size := by rw [Array.length_toList]; rfl
  omega
theorem cs_six {cs : List Value} (h : cs.length = 6) : ∃ a b c d e f, cs = [a, b, c, d, e, f] := by
  match cs, h with
  | [a, b, c, d, e, f], _ => exact ⟨a, b, c, d, e, f, rfl⟩
/-- Cells that read as a node. -/
theorem cells_node {H : Type} {enc : TypeId × Value → H} {W : World} {base : Nat} {sp : Nat → Bool} {held : Bool} {fuel : Nat} {cs : List Value} {x : DataW H × List MemPlace}
    (h : DataW.trod enc Tryz.prog W base sp held fuel 47 cs = some x) (hl : cs.length = 6) :
    ∃ (k n a i : Int) (s t : ByteArray), cs = [.int .i64 k, .int .i64 n, .int .i64 a, .int .i64 i, .string s, .string t] ∧ s.size ≤ maxLen ∧ t.size ≤ maxLen := by
  have hS : Tryz.prog.underlying 47 = some (.struct (Tryz.prog.fieldsOf 47)) := by kernel_rfl
  have s2 : (Tryz.prog.fieldsOf 47).size = 6 := by kernel_rfl
  obtain ⟨xs, n, _, hx, hcl, hlen, hg⟩ := DataW.trod_struct hS h
  rw [s2] at hlen
  have hxl : xs.length = 6 := hlen
  have cI : Tryz.prog.cellsOf 3 = 1 := by kernel_rfl
  have cS : Tryz.prog.cellsOf 9 = 1 := by kernel_rfl
  have cT : Tryz.prog.cellsOf 40 = 1 := by kernel_rfl
  have hy : ∀ i (hi : i < 6), xs[i]? = some (xs[i]'(by omega)) := fun i hi => List.getElem?_eq_getElem (by omega)
  obtain ⟨f0, g0, o0, t0⟩ := field_at node_fields 0 _ _ rfl
  have k0 := hg 0 f0 g0
  rw [o0, t0, cI, hy 0 (by decide)] at k0
  obtain ⟨f1, g1, o1, t1⟩ := field_at node_fields 1 _ _ rfl
  have k1 := hg 1 f1 g1
  rw [o1, t1, cI, hy 1 (by decide)] at k1
  obtain ⟨f2, g2, o2, t2⟩ := field_at node_fields 2 _ _ rfl
  have k2 := hg 2 f2 g2
  rw [o2, t2, cI, hy 2 (by decide)] at k2
  obtain ⟨f3, g3, o3, t3⟩ := field_at node_fields 3 _ _ rfl
  have k3 := hg 3 f3 g3
  rw [o3, t3, cI, hy 3 (by decide)] at k3
  obtain ⟨f4, g4, o4, t4⟩ := field_at node_fields 4 _ _ rfl
  have k4 := hg 4 f4 g4
  rw [o4, t4, cS, hy 4 (by decide)] at k4
  obtain ⟨f5, g5, o5, t5⟩ := field_at node_fields 5 _ _ rfl
  have k5 := hg 5 f5 g5
  rw [o5, t5, cT, hy 5 (by decide)] at k5
  obtain ⟨v0, e0, _, w0⟩ := DataW.trod_int Tryz.underlying3 k0
  obtain ⟨v1, e1, _, w1⟩ := DataW.trod_int Tryz.underlying3 k1
  obtain ⟨v2, e2, _, w2⟩ := DataW.trod_int Tryz.underlying3 k2
  obtain ⟨v3, e3, _, w3⟩ := DataW.trod_int Tryz.underlying3 k3
  obtain ⟨v4, e4, _, w4⟩ := DataW.trod_string Tryz.underlying9 k4
  obtain ⟨v5, e5, _, w5⟩ := DataW.trod_string Tryz.underlying40 k5
  obtain ⟨c0, c1, c2, c3, c4, c5, hcs⟩ := cs_six hl
  have q0 := cs_one _ _ e0
  have q1 := cs_one _ _ e1
  have q2 := cs_one _ _ e2
  have q3 := cs_one _ _ e3
  have q4 := cs_one _ _ e4
  have q5 := cs_one _ _ e5
  rw [hcs] at q0 q1 q2 q3 q4 q5
  refine ⟨v0, v1, v2, v3, v4, v5, ?_, w4, w5⟩
  rw [hcs, Option.some.inj q0, Option.some.inj q1, Option.some.inj q2, Option.some.inj q3, Option.some.inj q4, Option.some.inj q5]
end Go.Proofs.YtjadckhngalmlaaGreatDoor
