/-
  What the rows' frame gives the walk of the law on Changed: slices of acts that came in, opened.
-/
import Derived.Test.YtbfimedgichiiaaMemFrame
import Derived.Test.YtbfimedgichiiaaMemChWalk
namespace Go.Proofs.Ytbfimedgichiiaa
set_option linter.unusedVariables false
set_option linter.unusedSimpArgs false
open Go.ChangeShapes Go.WideShapes Go.ChangeAt Go.WideElems Go.RowKit

theorem act_fields : ((Try.prog.fieldsOf 39).toList.map fun f => (f.offset, f.type)) = [(0, 3), (1, 36), (2, 3), (3, 36), (4, 37)] := by kernel_rfl
theorem act_field (i : Nat) (o t : Nat) (h : [(0, 3), (1, 36), (2, 3), (3, 36), (4, 37)][i]? = some (o, t)) : ∃ f, (Try.prog.fieldsOf 39)[i]? = some f ∧ f.offset = o ∧ f.type = t := by
  have e := congrArg (fun l => l[i]?) act_fields
  simp only [List.getElem?_map, Array.getElem?_toList] at e
  rw [h] at e
  cases hf : (Try.prog.fieldsOf 39)[i]? with
  | none => rw [hf] at e; cases e
  | some f =>
    rw [hf] at e
    simp at e
    exact ⟨f, rfl, e.1, e.2⟩
theorem cellsAct : Try.prog.cellsOf 39 = 5 := by kernel_rfl
theorem bytesAct : Try.prog.bytesOf 39 = 56 := by kernel_rfl
/-- Cells that read as an act. -/
theorem cells_act {H : Type} {enc : TypeId × Value → H} {W : World} {base : Nat} {sp : Nat → Bool} {held : Bool} {fuel : Nat} {cs : List Value} {x : DataW H × List MemPlace}
    (h : DataW.trod enc Try.prog W base sp held fuel 39 cs = some x) (hl : cs.length = 5) :
    ∃ (k a n z : Int) (v : Value), cs = [.int .i64 k, .int .u32 a, .int .i64 n, .int .u32 z, v] ∧ (Lit.int .i64 k).wf = true ∧ (Lit.int .u32 a).wf = true ∧ (Lit.int .i64 n).wf = true ∧ (Lit.int .u32 z).wf = true ∧ ∃ f2 y, DataW.trod enc Try.prog W base sp held f2 37 [v] = some y := by
  have hS : Try.prog.underlying 39 = some (.struct (Try.prog.fieldsOf 39)) := by kernel_rfl
  have s5 : (Try.prog.fieldsOf 39).size = 5 := by kernel_rfl
  obtain ⟨xs, n, _, hx, hcl, hlen, hg⟩ := DataW.trod_struct hS h
  rw [s5] at hlen
  have hxl : xs.length = 5 := hlen
  have cI : Try.prog.cellsOf 3 = 1 := by kernel_rfl
  have cU : Try.prog.cellsOf 36 = 1 := by kernel_rfl
  have cB : Try.prog.cellsOf 37 = 1 := by kernel_rfl
  have hy : ∀ i (hi : i < 5), xs[i]? = some (xs[i]'(by omega)) := fun i hi => List.getElem?_eq_getElem (by omega)
  have one : ∀ i (v : Value), (cs.drop i).take 1 = [v] → cs[i]? = some v := by
    intro i v e
    have e := congrArg (fun l => l[0]?) e
    simp only [List.getElem?_take, List.getElem?_drop] at e
    simpa using e
  obtain ⟨f0, g0, o0, t0⟩ := act_field 0 _ _ rfl
  obtain ⟨f1, g1, o1, t1⟩ := act_field 1 _ _ rfl
  obtain ⟨f2, g2, o2, t2⟩ := act_field 2 _ _ rfl
  obtain ⟨f3, g3, o3, t3⟩ := act_field 3 _ _ rfl
  obtain ⟨f4, g4, o4, t4⟩ := act_field 4 _ _ rfl
  have k0 := hg 0 f0 g0
  have k1 := hg 1 f1 g1
  have k2 := hg 2 f2 g2
  have k3 := hg 3 f3 g3
  have k4 := hg 4 f4 g4
  rw [o0, t0, cI, hy 0 (by decide)] at k0
  rw [o1, t1, cU, hy 1 (by decide)] at k1
  rw [o2, t2, cI, hy 2 (by decide)] at k2
  rw [o3, t3, cU, hy 3 (by decide)] at k3
  rw [o4, t4, cB, hy 4 (by decide)] at k4
  obtain ⟨k, e0, _, w0⟩ := DataW.trod_int Try.underlying3 k0
  obtain ⟨a, e1, _, w1⟩ := DataW.trod_int Try.underlying36 k1
  obtain ⟨m, e2, _, w2⟩ := DataW.trod_int Try.underlying3 k2
  obtain ⟨z, e3, _, w3⟩ := DataW.trod_int Try.underlying36 k3
  obtain ⟨c0, c1, c2, c3, c4, hcs⟩ := five hl
  have q0 := one _ _ e0
  have q1 := one _ _ e1
  have q2 := one _ _ e2
  have q3 := one _ _ e3
  have e4 : (cs.drop 4).take 1 = [c4] := by rw [hcs]; rfl
  rw [e4] at k4
  rw [hcs] at q0 q1 q2 q3
  refine ⟨k, a, m, z, c4, ?_, w0, w1, w2, w3, _, _, k4⟩
  rw [hcs, Option.some.inj q0, Option.some.inj q1, Option.some.inj q2, Option.some.inj q3]
/-- The number in a cell. -/
@[irreducible] def IntW (W : World) (b o : Nat) : Int := match W.cell? ⟨b, o, none⟩ with | some (.int _ z) => z | _ => 0
theorem intW {W : World} {b o : Nat} {k : IntKind} {z : Int} (h : W.cell? ⟨b, o, none⟩ = some (.int k z)) : IntW W b o = z := by
  unfold IntW
  rw [h]
/-- A slice of acts that came in. -/
theorem open_acts {H : Type} {enc : TypeId × Value → H} {W : World} {sp : Nat → Bool} {held : Bool} {fuel : Nat} {a : Option Addr} {len cap : Nat} {x : DataW H × List MemPlace}
    (h : DataW.trod enc Try.prog W 0 sp held fuel 23 (Value.slice a len cap).cells.toList = some x) :
    ∃ K A N Z, ASO W a len cap K A N Z ∧ ABd len A N Z ∧ (len = 0 ∨ ∃ es spare, x.1 = .slice es spare ∧ es.length = len) := by
  rcases Go.Deep.open_slice Try.underlying23 h with ⟨hcs, _⟩ | ⟨a', len', cap', m, n, D, Pl, hcs, hb, hl, hm, hmm, hx, hi⟩
  · simp [Value.cells] at hcs
    obtain ⟨rfl, rfl, rfl⟩ := hcs
    exact ⟨fun _ => 0, fun _ => 0, fun _ => 0, fun _ => 0, .inl rfl, fun i hi => by omega, .inl rfl⟩
  · simp [Value.cells] at hcs
    obtain ⟨rfl, rfl, rfl⟩ := hcs
    have hlm : len ≤ m := by rw [hmm]; split <;> omega
    by_cases h0 : len = 0
    · exact ⟨fun _ => 0, fun _ => 0, fun _ => 0, fun _ => 0, .inl h0, fun i hi => by omega, .inl h0⟩
    · have hcell : ∀ i, i < len → ∃ (k a n z : Int) (v : Value), (∀ j u, [Value.int .i64 k, .int .u32 a, .int .i64 n, .int .u32 z, v][j]? = some u → W.cell? ((a'.add (i * 5)).add j) = some u) ∧ (Lit.int .u32 a).wf = true ∧ (Lit.int .i64 n).wf = true ∧ (Lit.int .u32 z).wf = true := by
        intro i hil
        obtain ⟨cs', hc, ht⟩ := hi i (by omega)
        rw [cellsAct] at hc
        obtain ⟨_, hcl, hat⟩ := World.cells?_some hc
        obtain ⟨k, a, n, z, v, rfl, w0, w1, w2, w3, _⟩ := cells_act ht hcl
        refine ⟨k, a, n, z, v, fun j u hv => ?_, w1, w2, w3⟩
        have hj : j < 5 := by
          have := (List.getElem?_eq_some_iff.1 hv).1
          simpa using this
        rw [hat j hj, hv]
      obtain ⟨b, off, spot⟩ := a'
      obtain ⟨_, _, _, _, _, hk0, _⟩ := hcell 0 (by omega)
      have hspot : spot = none := by
        have := World.cell?_spot (hk0 0 _ rfl)
        simpa [Addr.add] using this
      subst hspot
      have hadd : ∀ i j, ((⟨b, off, none⟩ : Addr).add (i * 5)).add j = ⟨b, off + i * 5 + j, none⟩ := by
        intro i j
        unfold Addr.add
        split <;> split <;> simp_all
      have hR : ∀ i, i < len → ∃ k a n z : Int, W.cell? ⟨b, off + i * 5, none⟩ = some (.int .i64 k) ∧ W.cell? ⟨b, off + i * 5 + 1, none⟩ = some (.int .u32 a) ∧ W.cell? ⟨b, off + i * 5 + 2, none⟩ = some (.int .i64 n) ∧ W.cell? ⟨b, off + i * 5 + 3, none⟩ = some (.int .u32 z) ∧ (Lit.int .u32 a).wf = true ∧ (Lit.int .i64 n).wf = true ∧ (Lit.int .u32 z).wf = true := by
        intro i hil
        obtain ⟨k, a, n, z, v, hc, w1, w2, w3⟩ := hcell i hil
        have c0 := hc 0 _ rfl
        have c1 := hc 1 _ rfl
        have c2 := hc 2 _ rfl
        have c3 := hc 3 _ rfl
        rw [hadd] at c0 c1 c2 c3
        rw [Nat.add_zero] at c0
        exact ⟨k, a, n, z, c0, c1, c2, c3, w1, w2, w3⟩
      refine ⟨fun i => IntW W b (off + i * 5), fun i => IntW W b (off + i * 5 + 1), fun i => IntW W b (off + i * 5 + 2), fun i => IntW W b (off + i * 5 + 3), .inr ⟨b, off, rfl, hl, fun i hil => ?_⟩, fun i hil => ?_, .inr ⟨_, _, by rw [hx], by simp⟩⟩
      · obtain ⟨k, a, n, z, c0, c1, c2, c3, _⟩ := hR i hil
        simp only [intW c0, intW c1, intW c2, intW c3]
        exact ⟨c0, c1, c2, c3⟩
      · obtain ⟨k, a, n, z, c0, c1, c2, c3, w1, w2, w3⟩ := hR i hil
        simp only [intW c1, intW c2, intW c3]
        exact ⟨u32_bd _ w1, i64_bd _ w2, u32_bd _ w3⟩
end Go.Proofs.Ytbfimedgichiiaa
