/-
  What the rows' frame gives the walks of the laws on memory: a slice of ranges that came in, opened.
-/
import Derived.Test.YtbfimedgichiiaaMemHoldsWalk
import Derived.Test.YtbfimedgichiiaaRows
import Derived.ProofKit
import Derived.OpenShut
import Derived.ShutString
import Derived.ChangeOld
import Derived.Below
import Derived.Deep.Slices
import Derived.SizedLaws
namespace Go.Proofs.Ytbfimedgichiiaa
set_option linter.unusedVariables false
set_option linter.unusedSimpArgs false
open Go.ChangeShapes Go.WideShapes Go.ChangeAt Go.WideElems Go.RowKit

theorem own : ownKnob Try.prog.godebug = none := by kernel_rfl
theorem laidOut : laidOutB Try.prog = true := by kernel_rfl
theorem u32_bd (a : Int) (h : (Lit.int .u32 a).wf = true) : 0 ≤ a ∧ a ≤ 4294967295 := by
  simp only [Lit.wf, IntKind.min, IntKind.max, IntKind.signed, IntKind.bits, Bool.and_eq_true] at h
  simp at h
  omega
theorem i64_bd (a : Int) (h : (Lit.int .i64 a).wf = true) : -9223372036854775808 ≤ a ∧ a ≤ 9223372036854775807 := by
  simp only [Lit.wf, IntKind.min, IntKind.max, IntKind.signed, IntKind.bits, Bool.and_eq_true, decide_eq_true_eq] at h
  simp at h
  omega
theorem range_fields : ((Try.prog.fieldsOf 34).toList.map fun f => (f.offset, f.type)) = [(0, 9), (1, 3), (2, 3), (3, 4), (4, 4)] := by kernel_rfl
theorem range_field (i : Nat) (o t : Nat) (h : [(0, 9), (1, 3), (2, 3), (3, 4), (4, 4)][i]? = some (o, t)) : ∃ f, (Try.prog.fieldsOf 34)[i]? = some f ∧ f.offset = o ∧ f.type = t := by
  have e := congrArg (fun l => l[i]?) range_fields
  simp only [List.getElem?_map, Array.getElem?_toList] at e
  rw [h] at e
  cases hf : (Try.prog.fieldsOf 34)[i]? with
  | none => rw [hf] at e; cases e
  | some f =>
    rw [hf] at e
    simp at e
    exact ⟨f, rfl, e.1, e.2⟩
theorem cellsRg : Try.prog.cellsOf 34 = 5 := by kernel_rfl
theorem bytesRg : Try.prog.bytesOf 34 = 40 := by kernel_rfl
theorem five : ∀ {l : List Value}, l.length = 5 → ∃ c0 c1 c2 c3 c4, l = [c0, c1, c2, c3, c4]
  | [c0, c1, c2, c3, c4], _ => ⟨c0, c1, c2, c3, c4, rfl⟩
/-- Cells that read as a range. -/
theorem cells_range {H : Type} {enc : TypeId × Value → H} {W : World} {base : Nat} {sp : Nat → Bool} {held : Bool} {fuel : Nat} {cs : List Value} {x : DataW H × List MemPlace}
    (h : DataW.trod enc Try.prog W base sp held fuel 34 cs = some x) (hl : cs.length = 5) :
    ∃ (s : ByteArray) (fr sz : Int) (wr ex : Bool), cs = [.string s, .int .i64 fr, .int .i64 sz, .bool wr, .bool ex] ∧ s.size ≤ maxLen ∧ (Lit.int .i64 fr).wf = true ∧ (Lit.int .i64 sz).wf = true := by
  have hS : Try.prog.underlying 34 = some (.struct (Try.prog.fieldsOf 34)) := by kernel_rfl
  have s5 : (Try.prog.fieldsOf 34).size = 5 := by kernel_rfl
  obtain ⟨xs, n, _, hx, hcl, hlen, hg⟩ := DataW.trod_struct hS h
  rw [s5] at hlen
  have hxl : xs.length = 5 := hlen
  have cS : Try.prog.cellsOf 9 = 1 := by kernel_rfl
  have cI : Try.prog.cellsOf 3 = 1 := by kernel_rfl
  have cB : Try.prog.cellsOf 4 = 1 := by kernel_rfl
  have hy : ∀ i (hi : i < 5), xs[i]? = some (xs[i]'(by omega)) := fun i hi => List.getElem?_eq_getElem (by omega)
  have one : ∀ i (v : Value), (cs.drop i).take 1 = [v] → cs[i]? = some v := by
    intro i v e
    have e := congrArg (fun l => l[0]?) e
    simp only [List.getElem?_take, List.getElem?_drop] at e
    simpa using e
  obtain ⟨f0, g0, o0, t0⟩ := range_field 0 _ _ rfl
  obtain ⟨f1, g1, o1, t1⟩ := range_field 1 _ _ rfl
  obtain ⟨f2, g2, o2, t2⟩ := range_field 2 _ _ rfl
  obtain ⟨f3, g3, o3, t3⟩ := range_field 3 _ _ rfl
  obtain ⟨f4, g4, o4, t4⟩ := range_field 4 _ _ rfl
  have k0 := hg 0 f0 g0
  have k1 := hg 1 f1 g1
  have k2 := hg 2 f2 g2
  have k3 := hg 3 f3 g3
  have k4 := hg 4 f4 g4
  rw [o0, t0, cS, hy 0 (by decide)] at k0
  rw [o1, t1, cI, hy 1 (by decide)] at k1
  rw [o2, t2, cI, hy 2 (by decide)] at k2
  rw [o3, t3, cB, hy 3 (by decide)] at k3
  rw [o4, t4, cB, hy 4 (by decide)] at k4
  obtain ⟨s, e0, _, w0⟩ := DataW.trod_string Try.underlying9 k0
  obtain ⟨fr, e1, _, w1⟩ := DataW.trod_int Try.underlying3 k1
  obtain ⟨sz, e2, _, w2⟩ := DataW.trod_int Try.underlying3 k2
  obtain ⟨wr, e3, _⟩ := DataW.trod_bool Try.underlying4 k3
  obtain ⟨ex, e4, _⟩ := DataW.trod_bool Try.underlying4 k4
  have q0 := one _ _ e0
  have q1 := one _ _ e1
  have q2 := one _ _ e2
  have q3 := one _ _ e3
  have q4 := one _ _ e4
  refine ⟨s, fr, sz, wr, ex, ?_, w0, w1, w2⟩
  obtain ⟨c0, c1, c2, c3, c4, hcs⟩ := five hl
  rw [hcs] at q0 q1 q2 q3 q4 ⊢
  rw [Option.some.inj q0, Option.some.inj q1, Option.some.inj q2, Option.some.inj q3, Option.some.inj q4]
/-- The range at a place. -/
@[irreducible] def RgW (W : World) (b o : Nat) : Rg :=
  ⟨match W.cell? ⟨b, o, none⟩ with | some (.string s) => s.data.toList | _ => [], match W.cell? ⟨b, o + 1, none⟩ with | some (.int _ z) => z | _ => 0, match W.cell? ⟨b, o + 2, none⟩ with | some (.int _ z) => z | _ => 0,
    match W.cell? ⟨b, o + 3, none⟩ with | some (.bool z) => z | _ => false, match W.cell? ⟨b, o + 4, none⟩ with | some (.bool z) => z | _ => false⟩
theorem rgW {W : World} {b o : Nat} {s : ByteArray} {fr sz : Int} {wr ex : Bool} (h0 : W.cell? ⟨b, o, none⟩ = some (.string s)) (h1 : W.cell? ⟨b, o + 1, none⟩ = some (.int .i64 fr)) (h2 : W.cell? ⟨b, o + 2, none⟩ = some (.int .i64 sz)) (h3 : W.cell? ⟨b, o + 3, none⟩ = some (.bool wr)) (h4 : W.cell? ⟨b, o + 4, none⟩ = some (.bool ex)) : RgW W b o = ⟨s.data.toList, fr, sz, wr, ex⟩ := by
  unfold RgW
  rw [h0, h1, h2, h3, h4]
/-- A slice of ranges that came in. -/
theorem open_ranges {H : Type} {enc : TypeId × Value → H} {W : World} {sp : Nat → Bool} {held : Bool} {fuel : Nat} {a : Option Addr} {len cap : Nat} {x : DataW H × List MemPlace}
    (h : DataW.trod enc Try.prog W 0 sp held fuel 22 (Value.slice a len cap).cells.toList = some x) :
    ∃ R, RSO W a len cap R ∧ RgBd R len ∧ (len = 0 ∨ ∃ es spare, x.1 = .slice es spare ∧ es.length = len) := by
  rcases Go.Deep.open_slice Try.underlying22 h with ⟨hcs, _⟩ | ⟨a', len', cap', m, n, D, Pl, hcs, hb, hl, hm, hmm, hx, hi⟩
  · simp [Value.cells] at hcs
    obtain ⟨rfl, rfl, rfl⟩ := hcs
    exact ⟨R0, .inl rfl, fun i hi => by omega, .inl rfl⟩
  · simp [Value.cells] at hcs
    obtain ⟨rfl, rfl, rfl⟩ := hcs
    have hlm : len ≤ m := by rw [hmm]; split <;> omega
    by_cases h0 : len = 0
    · exact ⟨R0, .inl h0, fun i hi => by omega, .inl h0⟩
    · have hcell : ∀ i, i < len → ∃ (s : ByteArray) (fr sz : Int) (wr ex : Bool), (∀ j v, [Value.string s, .int .i64 fr, .int .i64 sz, .bool wr, .bool ex][j]? = some v → W.cell? ((a'.add (i * 5)).add j) = some v) ∧ s.size ≤ maxLen ∧ (Lit.int .i64 fr).wf = true ∧ (Lit.int .i64 sz).wf = true := by
        intro i hil
        obtain ⟨cs', hc, ht⟩ := hi i (by omega)
        rw [cellsRg] at hc
        obtain ⟨_, hcl, hat⟩ := World.cells?_some hc
        obtain ⟨s, fr, sz, wr, ex, rfl, w0, w1, w2⟩ := cells_range ht hcl
        refine ⟨s, fr, sz, wr, ex, fun j v hv => ?_, w0, w1, w2⟩
        have hj : j < 5 := by
          have := (List.getElem?_eq_some_iff.1 hv).1
          simpa using this
        rw [hat j hj, hv]
      obtain ⟨b, off, spot⟩ := a'
      obtain ⟨s0, _, _, _, _, hk0, _⟩ := hcell 0 (by omega)
      have hspot : spot = none := by
        have := World.cell?_spot (hk0 0 _ rfl)
        simpa [Addr.add] using this
      subst hspot
      have hadd : ∀ i j, ((⟨b, off, none⟩ : Addr).add (i * 5)).add j = ⟨b, off + i * 5 + j, none⟩ := by
        intro i j
        unfold Addr.add
        split <;> split <;> simp_all
      have hR : ∀ i, i < len → ∃ (s : ByteArray) (fr sz : Int) (wr ex : Bool), RgW W b (off + i * 5) = ⟨s.data.toList, fr, sz, wr, ex⟩ ∧ s.size ≤ maxLen ∧ (Lit.int .i64 fr).wf = true ∧ (Lit.int .i64 sz).wf = true ∧ W.cell? ⟨b, off + i * 5, none⟩ = some (.string s) ∧ W.cell? ⟨b, off + i * 5 + 1, none⟩ = some (.int .i64 fr) ∧ W.cell? ⟨b, off + i * 5 + 2, none⟩ = some (.int .i64 sz) ∧ W.cell? ⟨b, off + i * 5 + 3, none⟩ = some (.bool wr) ∧ W.cell? ⟨b, off + i * 5 + 4, none⟩ = some (.bool ex) := by
        intro i hil
        obtain ⟨s, fr, sz, wr, ex, hc, w0, w1, w2⟩ := hcell i hil
        have c0 := hc 0 _ rfl
        have c1 := hc 1 _ rfl
        have c2 := hc 2 _ rfl
        have c3 := hc 3 _ rfl
        have c4 := hc 4 _ rfl
        rw [hadd] at c0 c1 c2 c3 c4
        rw [Nat.add_zero] at c0
        exact ⟨s, fr, sz, wr, ex, rgW c0 c1 c2 c3 c4, w0, w1, w2, c0, c1, c2, c3, c4⟩
      refine ⟨fun i => RgW W b (off + i * 5), .inr ⟨b, off, rfl, hl, fun i hil => ?_⟩, fun i hil => ?_, .inr ⟨_, _, by rw [hx], by simp⟩⟩
      · obtain ⟨s, fr, sz, wr, ex, e, w0, w1, w2, c0, c1, c2, c3, c4⟩ := hR i hil
        simp only [e]
        have es : (⟨s.data.toList.toArray⟩ : ByteArray) = s := by cases s; simp
        rw [es]
        exact ⟨c0, c1, c2, c3, c4⟩
      · obtain ⟨s, fr, sz, wr, ex, e, w0, w1, w2, _⟩ := hR i hil
        simp only [e]
        have a1 := i64_bd _ w1
        have a2 := i64_bd _ w2
        exact ⟨by simpa using w0, a1.1, a1.2, a2.1, a2.2⟩
end Go.Proofs.Ytbfimedgichiiaa
