/-
  What came of a function, in cells; what is plain about it.
-/
import Derived.Test.YtjadckhngalmlaaGreatDoorZNmWk
import Derived.Test.YtjadckhngalmlaaGreatDoorZNmFu
import Derived.Test.YtjadckhngalmlaaGreatDoorZNmFi
import Derived.Test.YtjadckhngalmlaaGreatDoorZNmOp
namespace Go.Proofs.YtjadckhngalmlaaGreatDoor
set_option linter.unusedVariables false
set_option linter.unusedSimpArgs false
set_option maxRecDepth 100000
open Go.RowKit

/-- The first function of a name, and what its resolver tells. -/
structure CoP (u : UnP) (nm : List UInt8) (x : FnP) (k0 : Nat) : Prop where
  rd : (rdA u).1.2 = 0
  at' : (rdA u).2.funcs[k0]? = some x
  nx : x.name = nm
  ne : ∀ (i : Nat) (y : FnP), (rdA u).2.funcs[i]? = some y → i ≠ k0 → y.name ≠ nm
  p8 : x.params.length ≤ 8
  b0 : 0 < x.body.length
  b4 : x.body.length ≤ 4096
  bl : (rvA u nm).2.bds.length = x.body.length
  sl : (rvA u nm).2.slots.length = x.params.length + cnR (fun k => (x.body.getD k nd0).kind == 22) 0 x.body.length
  s2 : (rvA u nm).2.slots.length ≤ 256
  fl : (rdA u).2.funcs.length ≤ 128
  ol : (rdA u).2.order.length ≤ 512
  nb : ∀ (k : Nat) (y : NdT) (b : BdP), x.body[k]? = some y → (rvA u nm).2.bds[k]? = some b → ((y.kind = 3 ∨ y.kind = 22) ↔ b ≠ bd0)
  bs : ∀ (k : Nat) (y : NdT) (b : BdP), x.body[k]? = some y → (rvA u nm).2.bds[k]? = some b → b.kind = 3 → ∃ s, (rvA u nm).2.slots[b.idx]? = some s ∧ s.name = y.text ∧ s.type = b.type
theorem CoP.of {u : UnP} {nm : List UInt8} (h : (rvA u nm).1.2 = 0) : ∃ x k0, CoP u nm x k0 := by
  obtain ⟨h0, x, ps, hb, hg, hck, h4, hp, h8, hn, hm, hr, hz⟩ := rv_ok h
  obtain ⟨k0, hk⟩ := List.getElem?_of_mem hm
  obtain ⟨hwf, _⟩ := rdA_wf h0
  obtain ⟨a1, a2, a3, a4, a5⟩ := rsA_all hwf hg h4 h8 hz
  obtain ⟨_, o2, o3⟩ := rdA_of h0
  rw [← hr] at a1 a2 a3 a4 a5
  refine ⟨x, k0, h0, hk, hn, fun i y hy hne e => hne (name_one hwf hy hk (e.trans hn.symm)), h8, hp, h4, a4, a2, a3, o3, o2, fun k y b hy hb2 => ?_, fun k y b hy hb2 hk3 => ?_⟩
  · have hlt := (List.getElem?_eq_some_iff.1 hy).1
    have hyd : x.body.getD k nd0 = y := by rw [List.getD_eq_getElem?_getD, hy]; rfl
    obtain ⟨c1, c2⟩ := a5 k hlt
    rw [hyd] at c1 c2
    constructor
    · intro hk
      obtain ⟨b', e1, e2⟩ := c1 (hk.symm)
      rw [hb2] at e1
      cases e1
      exact fun e => e2 (by rw [e]; rfl)
    · intro hne
      by_cases hk : nmB y.kind
      · exact hk.symm
      · have e1 := c2 hk
        rw [hb2] at e1
        cases e1
        exact absurd rfl hne
  · have hyd : x.body.getD k nd0 = y := by rw [List.getD_eq_getElem?_getD, hy]; rfl
    obtain ⟨s, e1, e2, e3⟩ := a1.bd k b hb2 hk3
    exact ⟨s, e1, by rw [e2, hyd], e3⟩
/-- .. in cells. -/
structure CoC (x : FnP) (fs : List FnP) (bds : List BdP) (sls : List SlP) (gf gb gd : Nat) (sa : Option Addr) (k0 : Nat) (v3 : Value) (c4 : Nat) (W : World) : Prop where
  nm : ∀ (i : Nat) (y : FnP), fs[i]? = some y → W.cell? ⟨gf, i * 5 + 1, none⟩ = some (nmS y.name)
  pa : W.cell? ⟨gf, k0 * 5 + 3, none⟩ = some v3
  bo : W.cell? ⟨gf, k0 * 5 + 4, none⟩ = some (.slice (some ⟨gb, 0, none⟩) x.body.length c4)
  nd : ∀ (k : Nat) (y : NdT), x.body[k]? = some y → ∀ (i : Nat) (v : Value), (noC y)[i]? = some v → W.cell? ⟨gb, k * 6 + i, none⟩ = some v
  bd : ∀ (k : Nat) (b : BdP), bds[k]? = some b → ∀ (i : Nat) (v : Value), (bdC b)[i]? = some v → W.cell? ⟨gd, k * 3 + i, none⟩ = some v
  sl : ∀ (j : Nat) (s : SlP), sls[j]? = some s → ∃ gs, sa = some ⟨gs, 0, none⟩ ∧ gs < W.heap.size ∧ ∀ (i : Nat) (v : Value), (slC s)[i]? = some v → W.cell? ⟨gs, j * 4 + i, none⟩ = some v
  l1 : gf < W.heap.size
  l2 : gb < W.heap.size
  l3 : gd < W.heap.size
theorem CoC.next {x : FnP} {fs : List FnP} {bds : List BdP} {sls : List SlP} {gf gb gd : Nat} {sa : Option Addr} {k0 : Nat} {v3 : Value} {c4 : Nat} {W W' : World} (h : CoC x fs bds sls gf gb gd sa k0 v3 c4 W) (hb : Below W.heap.size W W') : CoC x fs bds sls gf gb gd sa k0 v3 c4 W' := by
  have e1 := hb.block gf h.l1
  have e2 := hb.block gb h.l2
  have e3 := hb.block gd h.l3
  refine ⟨fun i y hy => (blk_cell e1 _).trans (h.nm i y hy), (blk_cell e1 _).trans h.pa, (blk_cell e1 _).trans h.bo, fun k y hy i v hi => (blk_cell e2 _).trans (h.nd k y hy i v hi), fun k b hk i v hi => (blk_cell e3 _).trans (h.bd k b hk i v hi), fun j s hs => ?_, Nat.lt_of_lt_of_le h.l1 hb.size, Nat.lt_of_lt_of_le h.l2 hb.size, Nat.lt_of_lt_of_le h.l3 hb.size⟩
  obtain ⟨gs, q1, q2, q3⟩ := h.sl j s hs
  exact ⟨gs, q1, Nat.lt_of_lt_of_le q2 hb.size, fun i v hi => (blk_cell (hb.block gs q2) _).trans (q3 i v hi)⟩
theorem slC_at {l : List SlP} {j : Nat} {s : SlP} (h : l[j]? = some s) {i : Nat} {v : Value} (hi : (slC s)[i]? = some v) : (slCs l)[j * 4 + i]? = some v := by
  have h4 : i < 4 := (List.getElem?_eq_some_iff.1 hi).1
  have : (slCs l) = (l.map slC).flatten := rfl
  rw [this, flat_at (n := 4) (fun cs hcs => by obtain ⟨s, _, rfl⟩ := List.mem_map.1 hcs; rfl) (cs := slC s) (by rw [List.getElem?_map, h]; rfl) h4]
  exact hi
theorem bdC_at {l : List BdP} {j : Nat} {s : BdP} (h : l[j]? = some s) {i : Nat} {v : Value} (hi : (bdC s)[i]? = some v) : (bdCs l)[j * 3 + i]? = some v := by
  have h4 : i < 3 := (List.getElem?_eq_some_iff.1 hi).1
  rw [bdCs_flat, flat_at (n := 3) (fun cs hcs => by obtain ⟨s, _, rfl⟩ := List.mem_map.1 hcs; rfl) (cs := bdC s) (by rw [List.getElem?_map, h]; rfl) h4]
  exact hi
theorem CoC.of {u : UnP} {nm : List UInt8} {x : FnP} {k0 : Nat} (hp : CoP u nm x k0) {B1 B2 : Nat} {W : World} {sv fv : Value} {D : Nat} {css : List (List Value)}
    (h1 : W.ownsRow B1 51 4 sv (rvA u nm).2.slots.length (slCs (rvA u nm).2.slots)) (h2 : W.heap[D]? = some (.cells (bdCs (rvA u nm).2.bds).toArray 49))
    (h3 : W.ownsRow B2 45 5 fv (rdA u).2.funcs.length css.flatten) (h4 : css.length = (rdA u).2.funcs.length) (h5 : ∀ (k : Nat) (x : FnP) (cs : List Value), (rdA u).2.funcs[k]? = some x → css[k]? = some cs → FoC B2 W x cs) :
    ∃ sa sc gf cf gb a3 c3 c4, sv = .slice sa (rvA u nm).2.slots.length sc ∧ fv = .slice (some ⟨gf, 0, none⟩) (rdA u).2.funcs.length cf ∧ CoC x (rdA u).2.funcs (rvA u nm).2.bds (rvA u nm).2.slots gf gb D sa k0 (.slice a3 x.params.length c3) c4 W := by
  have hk0 := (List.getElem?_eq_some_iff.1 hp.at').1
  obtain ⟨sa, sc, rfl⟩ := own_slice h1
  obtain ⟨fa, cf, rfl⟩ := own_slice h3
  obtain ⟨gf, rfl, hgl, _, hfc⟩ := own_cell h3 (by omega)
  have hall : ∀ cs ∈ css, cs.length = 5 := fun cs hcs => by
    obtain ⟨k, hk⟩ := List.getElem?_of_mem hcs
    have hl := (List.getElem?_eq_some_iff.1 hk).1
    exact (h5 k _ cs (List.getElem?_eq_getElem (by omega)) hk).len
  have hcell : ∀ (k : Nat) (y : FnP), (rdA u).2.funcs[k]? = some y → ∃ cs, FoC B2 W y cs ∧ ∀ (i : Nat) (v : Value), cs[i]? = some v → W.cell? ⟨gf, k * 5 + i, none⟩ = some v := fun k y hy => by
    have hl := (List.getElem?_eq_some_iff.1 hy).1
    obtain ⟨cs, hcs⟩ : ∃ cs, css[k]? = some cs := ⟨_, List.getElem?_eq_getElem (by omega)⟩
    have hC := h5 k y cs hy hcs
    refine ⟨cs, hC, fun i v hi => hfc _ v ?_⟩
    rw [flat_at hall hcs (by have := (List.getElem?_eq_some_iff.1 hi).1; rw [hC.len] at this; exact this)]
    exact hi
  obtain ⟨cs0, ⟨v3, v4, rfl, k3, k4⟩, hc0⟩ := hcell k0 x hp.at'
  obtain ⟨a3, c3, rfl⟩ := own_slice k3
  obtain ⟨a4, c4, rfl⟩ := own_slice k4
  obtain ⟨gb, rfl, hgb, _, hbc⟩ := own_cell k4 hp.b0
  refine ⟨sa, sc, gf, cf, gb, a3, c3, c4, rfl, rfl, fun i y hy => ?_, hc0 3 _ rfl, hc0 4 _ rfl, fun k y hy i v hi => hbc _ v (noCs_at x.body k y hy i v hi), fun k b hb i v hi => ?_, fun j s hs => ?_, hgl, hgb, (Array.getElem?_eq_some_iff.1 h2).1⟩
  · obtain ⟨cs, ⟨v3, v4, rfl, _, _⟩, hc⟩ := hcell i y hy
    exact hc 1 _ rfl
  · rw [Lib.cell_of_heap h2]
    simpa using bdC_at hb hi
  · obtain ⟨gs, e, q1, _, q2⟩ := own_cell h1 (by have := (List.getElem?_eq_some_iff.1 hs).1; omega)
    exact ⟨gs, e, q1, fun i v hi => q2 _ v (slC_at hs hi)⟩
end Go.Proofs.YtjadckhngalmlaaGreatDoor
