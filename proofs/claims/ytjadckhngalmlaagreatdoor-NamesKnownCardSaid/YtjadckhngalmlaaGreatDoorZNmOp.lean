/-
  A unit that came in, opened: rows of structs, some of whose cells lead to further rows.
-/
import Derived.Test.YtjadckhngalmlaaGreatDoorZTrFr
import Derived.Test.YtjadckhngalmlaaGreatDoorZTyKf
import Derived.Test.YtjadckhngalmlaaGreatDoorZNmPn
import Derived.Test.YtjadckhngalmlaaGreatDoorZNmBt
namespace Go.Proofs.YtjadckhngalmlaaGreatDoor
set_option linter.unusedVariables false
set_option linter.unusedSimpArgs false
open Go.ChangeShapes Go.WideShapes Go.ChangeAt Go.WideElems Go.RowKit

theorem member_fields : ((Tryz.prog.fieldsOf 170).toList.map fun f => (f.offset, f.type)) = [(0, 9), (1, 40)] := by kernel_rfl
theorem struct_fields : ((Tryz.prog.fieldsOf 83).toList.map fun f => (f.offset, f.type)) = [(0, 9), (1, 81)] := by kernel_rfl
theorem cellsMember : Tryz.prog.cellsOf 170 = 2 := by kernel_rfl
theorem bytesMember : Tryz.prog.bytesOf 170 = 32 := by kernel_rfl
theorem cellsStruct : Tryz.prog.cellsOf 83 = 2 := by kernel_rfl
theorem bytesStruct : Tryz.prog.bytesOf 83 = 40 := by kernel_rfl
theorem cs_two {cs : List Value} (h : cs.length = 2) : ∃ a b, cs = [a, b] := by
  match cs, h with
  | [a, b], _ => exact ⟨a, b, rfl⟩
/-- Cells that read as a member. -/
theorem cells_member {H : Type} {enc : TypeId × Value → H} {W : World} {base : Nat} {sp : Nat → Bool} {held : Bool} {fuel : Nat} {cs : List Value} {x : DataW H × List MemPlace}
    (h : DataW.trod enc Tryz.prog W base sp held fuel 170 cs = some x) (hl : cs.length = 2) :
    ∃ (s t : ByteArray), cs = [.string s, .string t] ∧ s.size ≤ maxLen ∧ t.size ≤ maxLen := by
  have hS : Tryz.prog.underlying 170 = some (.struct (Tryz.prog.fieldsOf 170)) := by kernel_rfl
  have s2 : (Tryz.prog.fieldsOf 170).size = 2 := by kernel_rfl
  obtain ⟨xs, n, _, hx, hcl, hlen, hg⟩ := DataW.trod_struct hS h
  rw [s2] at hlen
  have hxl : xs.length = 2 := hlen
  have cS : Tryz.prog.cellsOf 9 = 1 := by kernel_rfl
  have cT : Tryz.prog.cellsOf 40 = 1 := by kernel_rfl
  have hy : ∀ i (hi : i < 2), xs[i]? = some (xs[i]'(by omega)) := fun i hi => List.getElem?_eq_getElem (by omega)
  obtain ⟨f0, g0, o0, t0⟩ := field_at member_fields 0 _ _ rfl
  obtain ⟨f1, g1, o1, t1⟩ := field_at member_fields 1 _ _ rfl
  have k0 := hg 0 f0 g0
  have k1 := hg 1 f1 g1
  rw [o0, t0, cS, hy 0 (by decide)] at k0
  rw [o1, t1, cT, hy 1 (by decide)] at k1
  obtain ⟨s, e0, _, w0⟩ := DataW.trod_string Tryz.underlying9 k0
  obtain ⟨t, e1, _, w1⟩ := DataW.trod_string Tryz.underlying40 k1
  obtain ⟨c0, c1, hcs⟩ := cs_two hl
  have q0 := cs_one _ _ e0
  have q1 := cs_one _ _ e1
  rw [hcs] at q0 q1
  refine ⟨s, t, ?_, w0, w1⟩
  rw [hcs, Option.some.inj q0, Option.some.inj q1]
/-- Cells that read as a struct. -/
theorem cells_struct {H : Type} {enc : TypeId × Value → H} {W : World} {base : Nat} {sp : Nat → Bool} {held : Bool} {fuel : Nat} {cs : List Value} {x : DataW H × List MemPlace}
    (h : DataW.trod enc Tryz.prog W base sp held fuel 83 cs = some x) (hl : cs.length = 2) :
    ∃ (s : ByteArray) (v : Value) (f2 : Nat) (y : DataW H × List MemPlace) (parts : List (DataW H)), cs = [.string s, v] ∧ s.size ≤ maxLen ∧ DataW.trod enc Tryz.prog W base sp held f2 81 [v] = some y ∧ x.1 = .agg parts ∧ parts[1]? = some y.1 := by
  have hS : Tryz.prog.underlying 83 = some (.struct (Tryz.prog.fieldsOf 83)) := by kernel_rfl
  have s2 : (Tryz.prog.fieldsOf 83).size = 2 := by kernel_rfl
  obtain ⟨xs, n, _, hx, hcl, hlen, hg⟩ := DataW.trod_struct hS h
  rw [s2] at hlen
  have hxl : xs.length = 2 := hlen
  have cS : Tryz.prog.cellsOf 9 = 1 := by kernel_rfl
  have cM : Tryz.prog.cellsOf 81 = 1 := by kernel_rfl
  have hy : ∀ i (hi : i < 2), xs[i]? = some (xs[i]'(by omega)) := fun i hi => List.getElem?_eq_getElem (by omega)
  obtain ⟨f0, g0, o0, t0⟩ := field_at struct_fields 0 _ _ rfl
  obtain ⟨f1, g1, o1, t1⟩ := field_at struct_fields 1 _ _ rfl
  have k0 := hg 0 f0 g0
  have k1 := hg 1 f1 g1
  rw [o0, t0, cS, hy 0 (by decide)] at k0
  rw [o1, t1, cM, hy 1 (by decide)] at k1
  obtain ⟨s, e0, _, w0⟩ := DataW.trod_string Tryz.underlying9 k0
  obtain ⟨c0, c1, hcs⟩ := cs_two hl
  have q0 := cs_one _ _ e0
  have e1 : (cs.drop 1).take 1 = [c1] := by rw [hcs]; rfl
  rw [e1] at k1
  rw [hcs] at q0
  refine ⟨s, c1, _, xs[1]'(by omega), xs.map (·.1), by rw [hcs, Option.some.inj q0], w0, k1, by rw [hx], ?_⟩
  rw [List.getElem?_map, hy 1 (by decide)]
  rfl
/-- Members that came in. -/
theorem open_members {H : Type} {enc : TypeId × Value → H} {W : World} {sp : Nat → Bool} {held : Bool} {fuel : Nat} {v : Value} {y : DataW H × List MemPlace}
    (h : DataW.trod enc Tryz.prog W 0 sp held fuel 81 [v] = some y) : ∃ (a : Option Addr) (c : Nat) (M : List (List UInt8 × List UInt8)), v = .slice a M.length c ∧ (a = none → M.length = 0 ∧ c = 0) ∧ MmIn M a W ∧ (∀ m ∈ M, m.1.length ≤ 9223372036854775807 ∧ m.2.length ≤ 9223372036854775807) ∧ (M.length = 0 ∨ ∃ es spare, y.1 = .slice es spare ∧ es.length = M.length) := by
  rcases Go.Deep.open_slice Tryz.underlying81 h with ⟨hcs, _⟩ | ⟨a', len', cap', m, n, D, Pl, hcs, hb, hl, hm, hmm, hx, hi⟩
  · simp at hcs
    subst hcs
    exact ⟨none, 0, [], rfl, fun _ => ⟨rfl, rfl⟩, (fun h => by simp at h), (fun m hm => by cases hm), .inl rfl⟩
  · simp at hcs
    subst hcs
    have hlm : len' ≤ m := by rw [hmm]; split <;> omega
    obtain ⟨M, hM1, hM2⟩ := choose_list (p := fun i (q : List UInt8 × List UInt8) => W.cell? ((a'.add (i * 2)).add 0) = some (.string ⟨q.1.toArray⟩) ∧ W.cell? ((a'.add (i * 2)).add 1) = some (.string ⟨q.2.toArray⟩) ∧ q.1.length ≤ 9223372036854775807 ∧ q.2.length ≤ 9223372036854775807) len' (fun i hil => by
      obtain ⟨cs', hc, ht'⟩ := hi i (by omega)
      rw [cellsMember] at hc
      obtain ⟨_, hcl, hat⟩ := World.cells?_some hc
      obtain ⟨s, t, rfl, w0, w1⟩ := cells_member ht' hcl
      obtain ⟨s, rfl, w0⟩ := bytes_len w0
      obtain ⟨t, rfl, w1⟩ := bytes_len w1
      exact ⟨(s, t), by rw [hat 0 (by decide)]; rfl, by rw [hat 1 (by decide)]; rfl, w0, w1⟩)
    subst hM1
    refine ⟨some a', cap', M, rfl, (fun h => by cases h), fun h0 => ?_, fun q hq => ?_, .inr ⟨_, _, by rw [hx], by simp⟩⟩
    · obtain ⟨b, off, spot⟩ := a'
      obtain ⟨q0, hq0⟩ : ∃ q, M[0]? = some q := ⟨_, List.getElem?_eq_getElem h0⟩
      have hspot : spot = none := by
        have := World.cell?_spot (hM2 0 q0 hq0).1
        simpa [Addr.add] using this
      subst hspot
      have hadd : ∀ i j, ((⟨b, off, none⟩ : Addr).add (i * 2)).add j = ⟨b, off + i * 2 + j, none⟩ := by
        intro i j
        unfold Addr.add
        split <;> split <;> simp_all
      have hx0 := (hM2 0 q0 hq0).1
      rw [hadd] at hx0
      refine ⟨b, off, rfl, cell_blt hx0, fun k q hk => ?_⟩
      have h2 := hM2 k q hk
      rw [hadd, hadd] at h2
      exact ⟨h2.1, h2.2.1⟩
    · obtain ⟨i, hi⟩ := List.getElem?_of_mem hq
      exact (hM2 i q hi).2.2
theorem weightsAll_mem {H : Type} {P : Program} {e : TypeId} : ∀ {ds : List (DataW H)} {j : Nat} {d : DataW H}, ds[j]? = some d → ∀ n ∈ d.weights P e, n ∈ DataW.weightsAll P e ds
  | d0 :: ds, 0, d, hd, n, hn => by
    simp only [List.getElem?_cons_zero, Option.some.injEq] at hd
    subst hd
    simp only [DataW.weightsAll, List.mem_append]
    exact .inl hn
  | d0 :: ds, j + 1, d, hd, n, hn => by
    simp only [List.getElem?_cons_succ] at hd
    simp only [DataW.weightsAll, List.mem_append]
    exact .inr (weightsAll_mem hd n hn)
  | [], _, _, hd, _, _ => by simp at hd
/-- Structs that came in, with the members' capacities where there are none. -/
def StL (S : List StP) (a : Option Addr) (w : World) : Prop := 0 < S.length → ∃ b off, a = some ⟨b, off, none⟩ ∧ b < w.heap.size ∧ ∀ (k : Nat) s, S[k]? = some s → ∃ ma mc, w.cell? ⟨b, off + k * 2, none⟩ = some (.string ⟨s.name.toArray⟩) ∧ w.cell? ⟨b, off + k * 2 + 1, none⟩ = some (.slice ma s.mems.length mc) ∧ MmIn s.mems ma w ∧ (ma = none → s.mems.length = 0 ∧ mc = 0)
theorem StL.in {S : List StP} {a : Option Addr} {w : World} (h : StL S a w) : StIn S a w := fun h0 => by
  obtain ⟨b, off, h1, h2, h3⟩ := h h0
  refine ⟨b, off, h1, h2, fun k s hk => ?_⟩
  obtain ⟨ma, mc, c0, c1, hm, _⟩ := h3 k s hk
  exact ⟨ma, mc, c0, c1, hm⟩
theorem StL.next {S : List StP} {a : Option Addr} {w w' : World} (h : StL S a w) (hb : Below w.heap.size w w') : StL S a w' := fun h0 => by
  obtain ⟨b, off, h1, h2, h3⟩ := h h0
  refine ⟨b, off, h1, Nat.lt_of_lt_of_le h2 hb.size, fun k s hk => ?_⟩
  obtain ⟨ma, mc, c0, c1, hm, hn⟩ := h3 k s hk
  have e := hb.block b h2
  exact ⟨ma, mc, (cell_of_blk e _).trans c0, (cell_of_blk e _).trans c1, hm.next hb, hn⟩
end Go.Proofs.YtjadckhngalmlaaGreatDoor
namespace Go.Proofs.YtjadckhngalmlaaGreatDoor
set_option linter.unusedVariables false
set_option linter.unusedSimpArgs false
open Go.RowKit

/-- Things lie in a row, each in cells of its own. -/
def RwIn {α : Type} (sz : Nat) (P : World → α → List Value → Prop) (L : List α) (a : Option Addr) (w : World) : Prop :=
  0 < L.length → ∃ b off, a = some ⟨b, off, none⟩ ∧ b < w.heap.size ∧ ∀ (k : Nat) (x : α), L[k]? = some x → ∃ cs, P w x cs ∧ ∀ (i : Nat) (v : Value), cs[i]? = some v → w.cell? ⟨b, off + k * sz + i, none⟩ = some v
theorem RwIn.next {α : Type} {sz : Nat} {P : World → α → List Value → Prop} {L : List α} {a : Option Addr} {w w' : World} (h : RwIn sz P L a w) (hP : ∀ x cs, P w x cs → P w' x cs) (hb : Below w.heap.size w w') : RwIn sz P L a w' := fun h0 => by
  obtain ⟨b, off, h1, h2, h3⟩ := h h0
  refine ⟨b, off, h1, Nat.lt_of_lt_of_le h2 hb.size, fun k x hk => ?_⟩
  obtain ⟨cs, h4, h5⟩ := h3 k x hk
  exact ⟨cs, hP x cs h4, fun i v hi => (blk_cell (hb.block b h2) _).trans (h5 i v hi)⟩
theorem RwIn.nil {α : Type} (sz : Nat) (P : World → α → List Value → Prop) (a : Option Addr) (w : World) : RwIn sz P [] a w := fun h => by cases h
def vrC (v : VarP) : List Value := [nmS v.name, nmS v.type, .bool v.vol]
/-- Variables. -/
def VrIn (L : List VarP) (a : Option Addr) (w : World) : Prop := RwIn 3 (fun _ v cs => cs = vrC v) L a w
theorem VrIn.next {L : List VarP} {a : Option Addr} {w w' : World} (h : VrIn L a w) (hb : Below w.heap.size w w') : VrIn L a w' := RwIn.next h (fun _ _ h => h) hb
/-- Trees. -/
def TsC (w : World) (t : List NdT) (cs : List Value) : Prop := ∃ ta tc, cs = [.slice ta t.length tc] ∧ TrIn t ta w ∧ t.length ≤ tc ∧ (ta = none → tc = 0)
def TsIn (L : List (List NdT)) (a : Option Addr) (w : World) : Prop := RwIn 1 TsC L a w
theorem TsIn.next {L : List (List NdT)} {a : Option Addr} {w w' : World} (h : TsIn L a w) (hb : Below w.heap.size w w') : TsIn L a w' :=
  RwIn.next h (fun t cs ⟨ta, tc, h1, h2, h3⟩ => ⟨ta, tc, h1, h2.next hb, h3⟩) hb
/-- Globals. -/
def GlC (w : World) (g : GlP) (cs : List Value) : Prop := ∃ ia ic, cs = [.int .i64 g.at', nmS g.var.name, nmS g.var.type, .bool g.var.vol, .slice ia g.init.length ic] ∧ TsIn g.init ia w ∧ g.init.length ≤ ic ∧ (ia = none → ic = 0)
def GlIn (L : List GlP) (a : Option Addr) (w : World) : Prop := RwIn 5 GlC L a w
theorem GlC.next {g : GlP} {cs : List Value} {w w' : World} (h : GlC w g cs) (hb : Below w.heap.size w w') : GlC w' g cs := by
  obtain ⟨ia, ic, h1, h2, h3⟩ := h
  exact ⟨ia, ic, h1, h2.next hb, h3⟩
theorem GlIn.next {L : List GlP} {a : Option Addr} {w w' : World} (h : GlIn L a w) (hb : Below w.heap.size w w') : GlIn L a w' := RwIn.next h (fun _ _ h => h.next hb) hb
/-- Functions. -/
def FnC (w : World) (f : FnP) (cs : List Value) : Prop := ∃ pa pc ba bc, cs = [.int .i64 f.at', nmS f.name, nmS f.type, .slice pa f.params.length pc, .slice ba f.body.length bc] ∧ VrIn f.params pa w ∧ TrIn f.body ba w ∧ (f.params.length ≤ pc ∧ (pa = none → pc = 0)) ∧ f.body.length ≤ bc ∧ (ba = none → bc = 0)
def FnIn (L : List FnP) (a : Option Addr) (w : World) : Prop := RwIn 5 FnC L a w
theorem FnC.next {f : FnP} {cs : List Value} {w w' : World} (h : FnC w f cs) (hb : Below w.heap.size w w') : FnC w' f cs := by
  obtain ⟨pa, pc, ba, bc, h1, h2, h3, h4⟩ := h
  exact ⟨pa, pc, ba, bc, h1, h2.next hb, h3.next hb, h4⟩
theorem FnIn.next {L : List FnP} {a : Option Addr} {w w' : World} (h : FnIn L a w) (hb : Below w.heap.size w w') : FnIn L a w' := RwIn.next h (fun _ _ h => h.next hb) hb
/-- How great the texts and lists may be. -/
def VrOk (v : VarP) : Prop := v.name.length ≤ 9223372036854775807 ∧ v.type.length ≤ 9223372036854775807
def TrOk (t : List NdT) : Prop := (∀ x ∈ t, NdOk x) ∧ t.length ≤ 4503599627370496
def GlOk (g : GlP) : Prop := VrOk g.var ∧ (∀ t ∈ g.init, TrOk t) ∧ g.init.length ≤ 4503599627370496
def FnOk (f : FnP) : Prop := f.name.length ≤ 9223372036854775807 ∧ f.type.length ≤ 9223372036854775807 ∧ (∀ v ∈ f.params, VrOk v) ∧ f.params.length ≤ 4503599627370496 ∧ TrOk f.body
structure UnOk (u : UnP) : Prop where
  st : SzS u.structs
  sl : u.structs.length ≤ 4503599627370496
  gl : ∀ g ∈ u.globals, GlOk g
  gn : u.globals.length ≤ 4503599627370496
  fn : ∀ f ∈ u.funcs, FnOk f
  fl : u.funcs.length ≤ 4503599627370496
/-- Where a unit lies: its three slices. -/
structure UnS where
  sa : Option Addr
  sc : Nat
  ga : Option Addr
  gc : Nat
  fa : Option Addr
  fc : Nat
abbrev unV (u : UnP) (p : UnS) : Value := .agg #[.slice p.sa u.structs.length p.sc, .slice p.ga u.globals.length p.gc, .slice p.fa u.funcs.length p.fc]
structure UnIn (u : UnP) (p : UnS) (w : World) : Prop where
  st : StL u.structs p.sa w
  gl : GlIn u.globals p.ga w
  fn : FnIn u.funcs p.fa w
theorem UnIn.next {u : UnP} {p : UnS} {w w' : World} (h : UnIn u p w) (hb : Below w.heap.size w w') : UnIn u p w' := ⟨h.st.next hb, h.gl.next hb, h.fn.next hb⟩
end Go.Proofs.YtjadckhngalmlaaGreatDoor
namespace Go.Proofs.YtjadckhngalmlaaGreatDoor
set_option linter.unusedVariables false
set_option linter.unusedSimpArgs false
open Go.ChangeShapes Go.WideShapes Go.ChangeAt Go.WideElems Go.RowKit

/-- All that hangs on a value is within the reach. -/
def Rch {H : Type} (t : TypeId) (d : DataW H) : Prop := ∀ n ∈ d.weights Tryz.prog t, n ≤ reachBytes
theorem Rch.top {H : Type} {ts : List TypeId} {ds : List (DataW H)} (h : (DataW.weightsEach Tryz.prog ts ds).all (· ≤ reachBytes) = true) {j : Nat} {t : TypeId} {d : DataW H} (ht : ts[j]? = some t) (hd : ds[j]? = some d) : Rch t d := fun n hn => by
  have := List.all_eq_true.1 h _ (DataW.weights_mem_each ht hd _ hn)
  simpa using this
theorem Rch.part {H : Type} {t : TypeId} {fs : Array Field} (hS : Tryz.prog.underlying t = some (.struct fs)) {parts : List (DataW H)} (h : Rch t (.agg parts)) {i : Nat} {t' : TypeId} {d' : DataW H} (hty : (fs.toList.map (·.type))[i]? = some t') (hp : parts[i]? = some d') : Rch t' d' := fun n hn => h n (by
  simp only [DataW.weights, hS]
  exact DataW.weights_mem_each hty hp _ hn)
theorem Rch.elem {H : Type} {t e : TypeId} (hA : Tryz.prog.underlying t = some (.slice e)) {es spare : List (DataW H)} (h : Rch t (.slice es spare)) {i : Nat} {d : DataW H} (he : es[i]? = some d) : Rch e d := fun n hn => h n (by
  simp only [DataW.weights, hA, List.mem_cons, List.mem_append]
  exact .inr (.inl (weightsAll_mem he n hn)))
theorem Rch.len {H : Type} {t e : TypeId} (hA : Tryz.prog.underlying t = some (.slice e)) {es spare : List (DataW H)} (h : Rch t (.slice es spare)) : (es.length + spare.length) * Tryz.prog.bytesOf e ≤ reachBytes := h _ (by simp [DataW.weights, hA])
/-- A row that came in, opened: each of its things by what opens one. -/
theorem open_row {H : Type} {enc : TypeId × Value → H} {W : World} {sp : Nat → Bool} {held : Bool} {fuel : Nat} {t e : TypeId} {sz : Nat} {α : Type} (P : World → α → List Value → Prop) (Ok : α → Prop)
    (hu : Tryz.prog.underlying t = some (.slice e)) (hsz : Tryz.prog.cellsOf e = sz) (h0 : 0 < sz) (hP : ∀ x cs, P W x cs → cs.length = sz)
    (hel : ∀ (f : Nat) (cs : List Value) (y : DataW H × List MemPlace), DataW.trod enc Tryz.prog W 0 sp held f e cs = some y → cs.length = sz → Rch e y.1 → ∃ x, P W x cs ∧ Ok x)
    {v : Value} {y : DataW H × List MemPlace} (h : DataW.trod enc Tryz.prog W 0 sp held fuel t [v] = some y) (hr : Rch t y.1) :
    ∃ (L : List α) (a : Option Addr) (c : Nat), v = .slice a L.length c ∧ RwIn sz P L a W ∧ (∀ x ∈ L, Ok x) ∧ L.length * Tryz.prog.bytesOf e ≤ reachBytes ∧ L.length ≤ c ∧ (a = none → c = 0) := by
  rcases Go.Deep.open_slice hu h with ⟨hcs, _⟩ | ⟨a', len, cap, m, n, D, Pl, hcs, hb, hl, hm, hmm, hx, hi⟩
  · simp at hcs
    subst hcs
    exact ⟨[], none, 0, rfl, RwIn.nil _ _ _ _, (fun x hx => by cases hx), by simp, Nat.le_refl _, fun _ => rfl⟩
  · simp at hcs
    subst hcs
    have hlm : len ≤ m := by rw [hmm]; split <;> omega
    rw [hx] at hr
    obtain ⟨S, hS1, hS2⟩ := choose_list (p := fun i (x : α) => (∃ cs, P W x cs ∧ ∀ (j : Nat) (u : Value), cs[j]? = some u → W.cell? ((a'.add (i * sz)).add j) = some u) ∧ Ok x) len (fun i hil => by
      obtain ⟨cs', hc, ht'⟩ := hi i (by omega)
      rw [hsz] at hc
      obtain ⟨_, hcl, hat⟩ := World.cells?_some hc
      obtain ⟨x, h1, h2⟩ := hel _ _ _ ht' hcl (hr.elem hu (i := i) (by rw [List.getElem?_map, List.getElem?_range hil]; rfl))
      refine ⟨x, ⟨cs', h1, fun j u hj => ?_⟩, h2⟩
      rw [hat j (by have := (List.getElem?_eq_some_iff.1 hj).1; omega)]
      exact hj)
    subst hS1
    refine ⟨S, some a', cap, rfl, fun hpos => ?_, fun x hx => ?_, ?_, hl, fun e => by cases e⟩
    · obtain ⟨b, off, spot⟩ := a'
      obtain ⟨q0, hq0⟩ : ∃ q, S[0]? = some q := ⟨_, List.getElem?_eq_getElem hpos⟩
      obtain ⟨⟨cs0, hp0, hc0⟩, _⟩ := hS2 0 q0 hq0
      obtain ⟨u0, hu0⟩ : ∃ u, cs0[0]? = some u := ⟨_, List.getElem?_eq_getElem (by rw [hP _ _ hp0]; exact h0)⟩
      have hx0 := hc0 0 u0 hu0
      have hspot : spot = none := by
        have := World.cell?_spot hx0
        simpa [Addr.add] using this
      subst hspot
      have hadd : ∀ i j, ((⟨b, off, none⟩ : Addr).add (i * sz)).add j = ⟨b, off + i * sz + j, none⟩ := by
        intro i j
        unfold Addr.add
        split <;> split <;> simp_all
      rw [hadd] at hx0
      refine ⟨b, off, rfl, cell_blt hx0, fun k x hk => ?_⟩
      obtain ⟨⟨cs, hp, hc⟩, _⟩ := hS2 k x hk
      refine ⟨cs, hp, fun i u hi => ?_⟩
      have := hc i u hi
      rw [hadd] at this
      exact this
    · obtain ⟨i, hi⟩ := List.getElem?_of_mem hx
      exact (hS2 i x hi).2
    · have := hr.len hu
      rw [List.length_map, List.length_range, List.length_map, List.length_range] at this
      exact Nat.le_trans (Nat.mul_le_mul_right _ (by omega)) this
/-- A field of a struct that came in. -/
theorem fld {T : TypeId} {l : List (Nat × Nat)} (he : ((Tryz.prog.fieldsOf T).toList.map fun f => (f.offset, f.type)) = l) (i : Nat) (o t : Nat) (h : l[i]? = some (o, t)) : (((Tryz.prog.fieldsOf T).toList.map (·.type))[i]? : Option TypeId) = some t := by
  obtain ⟨f, h1, h2, h3⟩ := field_at he i o t h
  rw [List.getElem?_map, Array.getElem?_toList, h1, ← h3]
  rfl
theorem cs_n3 {cs : List Value} (h : cs.length = 3) : ∃ a b c, cs = [a, b, c] := by
  match cs, h with
  | [a, b, c], _ => exact ⟨a, b, c, rfl⟩
theorem cs_n5 {cs : List Value} (h : cs.length = 5) : ∃ a b c d e, cs = [a, b, c, d, e] := by
  match cs, h with
  | [a, b, c, d, e], _ => exact ⟨a, b, c, d, e, rfl⟩
theorem cs_n1 {cs : List Value} (h : cs.length = 1) : ∃ a, cs = [a] := by
  match cs, h with
  | [a], _ => exact ⟨a, rfl⟩
theorem var_fields : ((Tryz.prog.fieldsOf 58).toList.map fun f => (f.offset, f.type)) = [(0, 9), (1, 40), (2, 4)] := by kernel_rfl
theorem global_fields : ((Tryz.prog.fieldsOf 66).toList.map fun f => (f.offset, f.type)) = [(0, 3), (1, 58), (4, 64)] := by kernel_rfl
theorem func_fields : ((Tryz.prog.fieldsOf 45).toList.map fun f => (f.offset, f.type)) = [(0, 3), (1, 9), (2, 40), (3, 41), (4, 43)] := by kernel_rfl
theorem unit_fields : ((Tryz.prog.fieldsOf 26).toList.map fun f => (f.offset, f.type)) = [(0, 22), (1, 23), (2, 24)] := by kernel_rfl
theorem c1Int : Tryz.prog.cellsOf 3 = 1 := by kernel_rfl
theorem c1Str : Tryz.prog.cellsOf 9 = 1 := by kernel_rfl
theorem c1Typ : Tryz.prog.cellsOf 40 = 1 := by kernel_rfl
theorem c1Boo : Tryz.prog.cellsOf 4 = 1 := by kernel_rfl
theorem c3Var : Tryz.prog.cellsOf 58 = 3 := by kernel_rfl
theorem c5Glo : Tryz.prog.cellsOf 66 = 5 := by kernel_rfl
theorem c5Fun : Tryz.prog.cellsOf 45 = 5 := by kernel_rfl
theorem c1Tre : Tryz.prog.cellsOf 43 = 1 := by kernel_rfl
theorem c1Trs : Tryz.prog.cellsOf 64 = 1 := by kernel_rfl
theorem c1Vrs : Tryz.prog.cellsOf 41 = 1 := by kernel_rfl
theorem c1Sts : Tryz.prog.cellsOf 22 = 1 := by kernel_rfl
theorem c1Gls : Tryz.prog.cellsOf 23 = 1 := by kernel_rfl
theorem c1Fns : Tryz.prog.cellsOf 24 = 1 := by kernel_rfl
theorem uTre : Tryz.prog.underlying 43 = some (.slice 47) := Tryz.underlying43
/-- Cells that read as a variable. -/
theorem cells_var {H : Type} {enc : TypeId × Value → H} {W : World} {base : Nat} {sp : Nat → Bool} {held : Bool} {fuel : Nat} {cs : List Value} {x : DataW H × List MemPlace}
    (h : DataW.trod enc Tryz.prog W base sp held fuel 58 cs = some x) (hl : cs.length = 3) : ∃ v : VarP, cs = vrC v ∧ VrOk v := by
  have hS : Tryz.prog.underlying 58 = some (.struct (Tryz.prog.fieldsOf 58)) := by kernel_rfl
  have s2 : (Tryz.prog.fieldsOf 58).size = 3 := by kernel_rfl
  obtain ⟨xs, n, _, hx, hcl, hlen, hg⟩ := DataW.trod_struct hS h
  rw [s2] at hlen
  have hxl : xs.length = 3 := hlen
  have hy : ∀ i (hi : i < 3), xs[i]? = some (xs[i]'(by omega)) := fun i hi => List.getElem?_eq_getElem (by omega)
  obtain ⟨f0, g0, o0, t0⟩ := field_at var_fields 0 _ _ rfl
  obtain ⟨f1, g1, o1, t1⟩ := field_at var_fields 1 _ _ rfl
  obtain ⟨f2, g2, o2, t2⟩ := field_at var_fields 2 _ _ rfl
  have k0 := hg 0 f0 g0
  have k1 := hg 1 f1 g1
  have k2 := hg 2 f2 g2
  rw [o0, t0, c1Str, hy 0 (by decide)] at k0
  rw [o1, t1, c1Typ, hy 1 (by decide)] at k1
  rw [o2, t2, c1Boo, hy 2 (by decide)] at k2
  obtain ⟨s, e0, _, w0⟩ := DataW.trod_string Tryz.underlying9 k0
  obtain ⟨t, e1, _, w1⟩ := DataW.trod_string Tryz.underlying40 k1
  obtain ⟨b, e2, _⟩ := DataW.trod_bool Tryz.underlying4 k2
  obtain ⟨c0, c1, c2, hcs⟩ := cs_n3 hl
  have q0 := cs_one _ _ e0
  have q1 := cs_one _ _ e1
  have q2 := cs_one _ _ e2
  rw [hcs] at q0 q1 q2
  obtain ⟨s, rfl, w0⟩ := bytes_len w0
  obtain ⟨t, rfl, w1⟩ := bytes_len w1
  refine ⟨⟨s, t, b⟩, ?_, w0, w1⟩
  rw [hcs, Option.some.inj q0, Option.some.inj q1, Option.some.inj q2]
  rfl
theorem open_tree {H : Type} {enc : TypeId × Value → H} {W : World} {sp : Nat → Bool} {held : Bool} {fuel : Nat} {v : Value} {y : DataW H × List MemPlace}
    (h : DataW.trod enc Tryz.prog W 0 sp held fuel 43 [v] = some y) (hr : Rch 43 y.1) :
    ∃ (t : List NdT) (a : Option Addr) (c : Nat), v = .slice a t.length c ∧ TrIn t a W ∧ TrOk t ∧ t.length ≤ c ∧ (a = none → c = 0) := by
  obtain ⟨L, a, c, h1, h2, h3, h4, h5, h6⟩ := open_row (α := NdT) (fun _ x cs => cs = noC x) NdOk uTre cellsNode (by decide) (fun x cs e => by rw [e]; rfl) (fun f cs y hy hl _ => by
    obtain ⟨k, n, aa, ii, s, ty, rfl, w0, w1⟩ := cells_node hy hl
    obtain ⟨s, rfl, w0⟩ := bytes_len w0
    obtain ⟨ty, rfl, w1⟩ := bytes_len w1
    exact ⟨⟨k, n, aa, ii, s, ty⟩, rfl, w0, w1⟩) h hr
  refine ⟨L, a, c, h1, fun h0 => ?_, ⟨h3, ?_⟩, h5, h6⟩
  · obtain ⟨b, off, q1, q2, q3⟩ := h2 h0
    refine ⟨b, off, q1, q2, fun k x hk i v hi => ?_⟩
    obtain ⟨cs, rfl, q4⟩ := q3 k x hk
    exact q4 i v hi
  · rw [bytesNode] at h4
    unfold reachBytes at h4
    omega
/-- Cells that read as a global. -/
theorem cells_global {H : Type} {enc : TypeId × Value → H} {W : World} {sp : Nat → Bool} {held : Bool} {fuel : Nat} {cs : List Value} {x : DataW H × List MemPlace}
    (h : DataW.trod enc Tryz.prog W 0 sp held fuel 66 cs = some x) (hl : cs.length = 5) (hr : Rch 66 x.1) : ∃ g : GlP, GlC W g cs ∧ GlOk g := by
  have hS : Tryz.prog.underlying 66 = some (.struct (Tryz.prog.fieldsOf 66)) := by kernel_rfl
  have s2 : (Tryz.prog.fieldsOf 66).size = 3 := by kernel_rfl
  obtain ⟨xs, n, _, hx, hcl, hlen, hg⟩ := DataW.trod_struct hS h
  rw [s2] at hlen
  have hxl : xs.length = 3 := hlen
  have hy : ∀ i (hi : i < 3), xs[i]? = some (xs[i]'(by omega)) := fun i hi => List.getElem?_eq_getElem (by omega)
  obtain ⟨f0, g0, o0, t0⟩ := field_at global_fields 0 _ _ rfl
  obtain ⟨f1, g1, o1, t1⟩ := field_at global_fields 1 _ _ rfl
  obtain ⟨f2, g2, o2, t2⟩ := field_at global_fields 2 _ _ rfl
  have k0 := hg 0 f0 g0
  have k1 := hg 1 f1 g1
  have k2 := hg 2 f2 g2
  rw [o0, t0, c1Int, hy 0 (by decide)] at k0
  rw [o1, t1, c3Var, hy 1 (by decide)] at k1
  rw [o2, t2, c1Trs, hy 2 (by decide)] at k2
  obtain ⟨at', e0, _, w0⟩ := DataW.trod_int Tryz.underlying3 k0
  obtain ⟨c0, c1, c2, c3, c4, rfl⟩ := cs_n5 hl
  have q0 := cs_one _ _ e0
  obtain ⟨v, e1, w1⟩ := cells_var k1 rfl
  have e2 : ([c0, c1, c2, c3, c4].drop 4).take 1 = [c4] := rfl
  rw [e2] at k2
  have hr2 : Rch 64 (xs[2]'(by omega)).1 := by
    rw [hx] at hr
    exact hr.part hS (fld global_fields 2 _ _ rfl) (by rw [List.getElem?_map, hy 2 (by decide)]; rfl)
  obtain ⟨L, a, c, h1, h2, h3, h4, h5, h6⟩ := open_row (α := List NdT) TsC TrOk Tryz.underlying64 c1Tre (by decide) (fun x cs ⟨ta, tc, e, _⟩ => by rw [e]; rfl) (fun f cs y hy hl hr => by
    obtain ⟨v, rfl⟩ := cs_n1 hl
    obtain ⟨t, a, c, rfl, p1, p2, p3, p4⟩ := open_tree hy hr
    exact ⟨t, ⟨a, c, rfl, p1, p3, p4⟩, p2⟩) k2 hr2
  have bT : Tryz.prog.bytesOf 43 = 24 := by kernel_rfl
  rw [bT] at h4
  unfold reachBytes at h4
  refine ⟨⟨at', v, L⟩, ⟨a, c, ?_, h2, h5, h6⟩, w1, h3, ?_⟩
  · have q0 : c0 = .int .i64 at' := Option.some.inj q0
    have e1 : [c1, c2, c3] = vrC v := e1
    unfold vrC at e1
    have q1 : c1 = nmS v.name := Option.some.inj (congrArg (fun l => l[0]?) e1)
    have q2 : c2 = nmS v.type := Option.some.inj (congrArg (fun l => l[1]?) e1)
    have q3 : c3 = .bool v.vol := Option.some.inj (congrArg (fun l => l[2]?) e1)
    rw [q0, q1, q2, q3, h1]
  · show L.length ≤ _
    omega
/-- Cells that read as a function. -/
theorem cells_func {H : Type} {enc : TypeId × Value → H} {W : World} {sp : Nat → Bool} {held : Bool} {fuel : Nat} {cs : List Value} {x : DataW H × List MemPlace}
    (h : DataW.trod enc Tryz.prog W 0 sp held fuel 45 cs = some x) (hl : cs.length = 5) (hr : Rch 45 x.1) : ∃ f : FnP, FnC W f cs ∧ FnOk f := by
  have hS : Tryz.prog.underlying 45 = some (.struct (Tryz.prog.fieldsOf 45)) := by kernel_rfl
  have s2 : (Tryz.prog.fieldsOf 45).size = 5 := by kernel_rfl
  obtain ⟨xs, n, _, hx, hcl, hlen, hg⟩ := DataW.trod_struct hS h
  rw [s2] at hlen
  have hxl : xs.length = 5 := hlen
  have hy : ∀ i (hi : i < 5), xs[i]? = some (xs[i]'(by omega)) := fun i hi => List.getElem?_eq_getElem (by omega)
  obtain ⟨f0, g0, o0, t0⟩ := field_at func_fields 0 _ _ rfl
  obtain ⟨f1, g1, o1, t1⟩ := field_at func_fields 1 _ _ rfl
  obtain ⟨f2, g2, o2, t2⟩ := field_at func_fields 2 _ _ rfl
  obtain ⟨f3, g3, o3, t3⟩ := field_at func_fields 3 _ _ rfl
  obtain ⟨f4, g4, o4, t4⟩ := field_at func_fields 4 _ _ rfl
  have k0 := hg 0 f0 g0
  have k1 := hg 1 f1 g1
  have k2 := hg 2 f2 g2
  have k3 := hg 3 f3 g3
  have k4 := hg 4 f4 g4
  rw [o0, t0, c1Int, hy 0 (by decide)] at k0
  rw [o1, t1, c1Str, hy 1 (by decide)] at k1
  rw [o2, t2, c1Typ, hy 2 (by decide)] at k2
  rw [o3, t3, c1Vrs, hy 3 (by decide)] at k3
  rw [o4, t4, c1Tre, hy 4 (by decide)] at k4
  obtain ⟨at', e0, _, w0⟩ := DataW.trod_int Tryz.underlying3 k0
  obtain ⟨s, e1, _, w1⟩ := DataW.trod_string Tryz.underlying9 k1
  obtain ⟨ty, e2, _, w2⟩ := DataW.trod_string Tryz.underlying40 k2
  obtain ⟨s, rfl, w1⟩ := bytes_len w1
  obtain ⟨ty, rfl, w2⟩ := bytes_len w2
  obtain ⟨c0, c1, c2, c3, c4, rfl⟩ := cs_n5 hl
  have q0 : c0 = .int .i64 at' := Option.some.inj (cs_one _ _ e0)
  have q1 : c1 = .string ⟨s.toArray⟩ := Option.some.inj (cs_one _ _ e1)
  have q2 : c2 = .string ⟨ty.toArray⟩ := Option.some.inj (cs_one _ _ e2)
  have e3 : ([c0, c1, c2, c3, c4].drop 3).take 1 = [c3] := rfl
  have e4 : ([c0, c1, c2, c3, c4].drop 4).take 1 = [c4] := rfl
  rw [e3] at k3
  rw [e4] at k4
  rw [hx] at hr
  have hr3 : Rch 41 (xs[3]'(by omega)).1 := hr.part hS (fld func_fields 3 _ _ rfl) (by rw [List.getElem?_map, hy 3 (by decide)]; rfl)
  have hr4 : Rch 43 (xs[4]'(by omega)).1 := hr.part hS (fld func_fields 4 _ _ rfl) (by rw [List.getElem?_map, hy 4 (by decide)]; rfl)
  obtain ⟨L, a, c, h1, h2, h3, h4, h5, h6⟩ := open_row (α := VarP) (fun _ v cs => cs = vrC v) VrOk Tryz.underlying41 c3Var (by decide) (fun x cs e => by rw [e]; rfl) (fun f cs y hy hl _ => cells_var hy hl) k3 hr3
  obtain ⟨t, ta, tc, p0, p1, p2, p3, p4⟩ := open_tree k4 hr4
  have bT : Tryz.prog.bytesOf 58 = 40 := by kernel_rfl
  rw [bT] at h4
  unfold reachBytes at h4
  refine ⟨⟨at', s, ty, L, t⟩, ⟨a, c, ta, tc, by rw [q0, q1, q2, h1, p0], h2, p1, ⟨h5, h6⟩, p3, p4⟩, w1, w2, h3, ?_, p2⟩
  show L.length ≤ _
  omega
/-- Structs, within a unit. -/
theorem open_sts {H : Type} {enc : TypeId × Value → H} {W : World} {sp : Nat → Bool} {held : Bool} {fuel : Nat} {v : Value} {y : DataW H × List MemPlace}
    (h : DataW.trod enc Tryz.prog W 0 sp held fuel 22 [v] = some y) (hr : Rch 22 y.1) :
    ∃ (S : List StP) (a : Option Addr) (c : Nat), v = .slice a S.length c ∧ StL S a W ∧ SzS S ∧ S.length ≤ 4503599627370496 ∧ S.length ≤ c ∧ (a = none → c = 0) := by
  obtain ⟨L, a, c, h1, h2, h3, h4, h5, h6⟩ := open_row (α := StP) (fun w s cs => ∃ ma mc, cs = [.string ⟨s.name.toArray⟩, .slice ma s.mems.length mc] ∧ MmIn s.mems ma w ∧ (ma = none → s.mems.length = 0 ∧ mc = 0))
    (fun s => s.name.length ≤ 9223372036854775807 ∧ (∀ m ∈ s.mems, m.1.length ≤ 9223372036854775807 ∧ m.2.length ≤ 9223372036854775807) ∧ s.mems.length ≤ 4503599627370496) Tryz.underlying22 cellsStruct (by decide) (fun x cs ⟨_, _, e, _⟩ => by rw [e]; rfl) (fun f cs y hy hl hr => by
      obtain ⟨s, v, f2, y2, parts, rfl, w0, hy2, hag, hp⟩ := cells_struct hy hl
      obtain ⟨s, rfl, w0⟩ := bytes_len w0
      obtain ⟨ma, mc, M, rfl, hn, hM, hMs, hq⟩ := open_members hy2
      have hS : Tryz.prog.underlying 83 = some (.struct (Tryz.prog.fieldsOf 83)) := by kernel_rfl
      rw [hag] at hr
      have hr1 : Rch 81 y2.1 := hr.part hS (fld struct_fields 1 _ _ rfl) hp
      refine ⟨⟨s, M⟩, ⟨ma, mc, rfl, hM, hn⟩, w0, hMs, ?_⟩
      show M.length ≤ _
      rcases hq with hq | ⟨es, spare, hq, hql⟩
      · omega
      · rw [hq] at hr1
        have := hr1.len Tryz.underlying81
        rw [bytesMember] at this
        unfold reachBytes at this
        omega) h hr
  rw [bytesStruct] at h4
  unfold reachBytes at h4
  refine ⟨L, a, c, h1, fun h0 => ?_, h3, by omega, h5, h6⟩
  obtain ⟨b, off, q1, q2, q3⟩ := h2 h0
  refine ⟨b, off, q1, q2, fun k s hk => ?_⟩
  obtain ⟨cs, ⟨ma, mc, rfl, p1, p2⟩, q4⟩ := q3 k s hk
  exact ⟨ma, mc, q4 0 _ rfl, q4 1 _ rfl, p1, p2⟩
/-- A unit that came in, whole. -/
theorem open_unit {H : Type} {enc : TypeId × Value → H} {W : World} {sp : Nat → Bool} {held : Bool} {fuel : Nat} {cs : List Value} {x : DataW H × List MemPlace} {ts : List TypeId} {ds : List (DataW H)} {j : Nat}
    (h : DataW.trod enc Tryz.prog W 0 sp held fuel 26 cs = some x) (hl : cs.length = 3) (hsz : (DataW.weightsEach Tryz.prog ts ds).all (· ≤ reachBytes) = true) (ht : ts[j]? = some 26) (hd : ds[j]? = some x.1) :
    ∃ (u : UnP) (p : UnS), Value.agg cs.toArray = unV u p ∧ UnIn u p W ∧ UnOk u := by
  have hr : Rch 26 x.1 := Rch.top hsz ht hd
  have hS : Tryz.prog.underlying 26 = some (.struct (Tryz.prog.fieldsOf 26)) := by kernel_rfl
  have s2 : (Tryz.prog.fieldsOf 26).size = 3 := by kernel_rfl
  obtain ⟨xs, n, _, hx, hcl, hlen, hg⟩ := DataW.trod_struct hS h
  rw [s2] at hlen
  have hxl : xs.length = 3 := hlen
  have hy : ∀ i (hi : i < 3), xs[i]? = some (xs[i]'(by omega)) := fun i hi => List.getElem?_eq_getElem (by omega)
  obtain ⟨f0, g0, o0, t0⟩ := field_at unit_fields 0 _ _ rfl
  obtain ⟨f1, g1, o1, t1⟩ := field_at unit_fields 1 _ _ rfl
  obtain ⟨f2, g2, o2, t2⟩ := field_at unit_fields 2 _ _ rfl
  have k0 := hg 0 f0 g0
  have k1 := hg 1 f1 g1
  have k2 := hg 2 f2 g2
  rw [o0, t0, c1Sts, hy 0 (by decide)] at k0
  rw [o1, t1, c1Gls, hy 1 (by decide)] at k1
  rw [o2, t2, c1Fns, hy 2 (by decide)] at k2
  obtain ⟨v0, v1, v2, rfl⟩ := cs_n3 hl
  have e0 : ([v0, v1, v2].drop 0).take 1 = [v0] := rfl
  have e1 : ([v0, v1, v2].drop 1).take 1 = [v1] := rfl
  have e2 : ([v0, v1, v2].drop 2).take 1 = [v2] := rfl
  rw [e0] at k0
  rw [e1] at k1
  rw [e2] at k2
  rw [hx] at hr
  have hr0 : Rch 22 (xs[0]'(by omega)).1 := hr.part hS (fld unit_fields 0 _ _ rfl) (by rw [List.getElem?_map, hy 0 (by decide)]; rfl)
  have hr1 : Rch 23 (xs[1]'(by omega)).1 := hr.part hS (fld unit_fields 1 _ _ rfl) (by rw [List.getElem?_map, hy 1 (by decide)]; rfl)
  have hr2 : Rch 24 (xs[2]'(by omega)).1 := hr.part hS (fld unit_fields 2 _ _ rfl) (by rw [List.getElem?_map, hy 2 (by decide)]; rfl)
  obtain ⟨S, sa, sc, rfl, p1, p2, p3, p4, p5⟩ := open_sts k0 hr0
  obtain ⟨G, ga, gc, rfl, g1, g2, g3, g4, g5⟩ := open_row (α := GlP) GlC GlOk Tryz.underlying23 c5Glo (by decide) (fun x cs ⟨_, _, e, _⟩ => by rw [e]; rfl) (fun f cs y hy hl hr => cells_global hy hl hr) k1 hr1
  obtain ⟨F, fa, fc, rfl, q1, q2, q3, q4, q5⟩ := open_row (α := FnP) FnC FnOk Tryz.underlying24 c5Fun (by decide) (fun x cs ⟨_, _, _, _, e, _⟩ => by rw [e]; rfl) (fun f cs y hy hl hr => cells_func hy hl hr) k2 hr2
  have bG : Tryz.prog.bytesOf 66 = 72 := by kernel_rfl
  have bF : Tryz.prog.bytesOf 45 = 88 := by kernel_rfl
  rw [bG] at g3
  rw [bF] at q3
  unfold reachBytes at g3 q3
  exact ⟨⟨S, G, F⟩, ⟨sa, sc, ga, gc, fa, fc⟩, rfl, ⟨p1, g1, q1⟩, ⟨p2, p3, g2, by show G.length ≤ _; omega, q2, by show F.length ≤ _; omega⟩⟩
end Go.Proofs.YtjadckhngalmlaaGreatDoor
