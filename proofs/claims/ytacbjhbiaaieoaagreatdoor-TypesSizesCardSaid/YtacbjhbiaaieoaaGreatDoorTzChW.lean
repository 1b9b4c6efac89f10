/-
  The walk of the law: which codes are types, and which structs are right, is as the document says.
-/
import Derived.Test.YtacbjhbiaaieoaaGreatDoorTyFrame
import Derived.Test.YtacbjhbiaaieoaaGreatDoorTzKf
import Derived.Test.YtacbjhbiaaieoaaGreatDoorTzQ9
import Derived.Laws.AppendOwnNone
import Derived.Test.YtacbjhbiaaieoaaGreatDoorTzPaW
import Derived.Test.YtacbjhbiaaieoaaGreatDoorTzQb
import Derived.Deep.RegionHeld3
namespace Go.Proofs.YtacbjhbiaaieoaaGreatDoor
set_option linter.unusedVariables false
set_option linter.unusedSimpArgs false
open Go.ChangeShapes Go.WideShapes Go.ChangeAt Go.WideElems Go.RowKit

theorem member_fields : ((Tryz.prog.fieldsOf 77).toList.map fun f => (f.offset, f.type)) = [(0, 9), (1, 22)] := by kernel_rfl
theorem struct_fields : ((Tryz.prog.fieldsOf 61).toList.map fun f => (f.offset, f.type)) = [(0, 9), (1, 59)] := by kernel_rfl
theorem field_at {T : TypeId} {l : List (Nat × Nat)} (he : ((Tryz.prog.fieldsOf T).toList.map fun f => (f.offset, f.type)) = l) (i : Nat) (o t : Nat) (h : l[i]? = some (o, t)) : ∃ f, (Tryz.prog.fieldsOf T)[i]? = some f ∧ f.offset = o ∧ f.type = t := by
  have e := congrArg (fun l => l[i]?) he
  simp only [List.getElem?_map, Array.getElem?_toList] at e
  rw [h] at e
  cases hf : (Tryz.prog.fieldsOf T)[i]? with
  | none => rw [hf] at e; cases e
  | some f =>
    rw [hf] at e
    simp at e
    exact ⟨f, rfl, e.1, e.2⟩
theorem cellsMember : Tryz.prog.cellsOf 77 = 2 := by kernel_rfl
theorem bytesMember : Tryz.prog.bytesOf 77 = 32 := by kernel_rfl
theorem cellsStruct : Tryz.prog.cellsOf 61 = 2 := by kernel_rfl
theorem bytesStruct : Tryz.prog.bytesOf 61 = 40 := by kernel_rfl
theorem cs_two {cs : List Value} (h : cs.length = 2) : ∃ a b, cs = [a, b] := by
  match cs, h with
  | [a, b], _ => exact ⟨a, b, rfl⟩
theorem cs_one {cs : List Value} (i : Nat) (v : Value) (e : (cs.drop i).take 1 = [v]) : cs[i]? = some v := by
  have e := congrArg (fun l => l[0]?) e
  simp only [List.getElem?_take, List.getElem?_drop] at e
  simpa using e
/-- Cells that read as a member. -/
theorem cells_member {H : Type} {enc : TypeId × Value → H} {W : World} {base : Nat} {sp : Nat → Bool} {held : Bool} {fuel : Nat} {cs : List Value} {x : DataW H × List MemPlace}
    (h : DataW.trod enc Tryz.prog W base sp held fuel 77 cs = some x) (hl : cs.length = 2) :
    ∃ (s t : ByteArray), cs = [.string s, .string t] ∧ s.size ≤ maxLen ∧ t.size ≤ maxLen := by
  have hS : Tryz.prog.underlying 77 = some (.struct (Tryz.prog.fieldsOf 77)) := by kernel_rfl
  have s2 : (Tryz.prog.fieldsOf 77).size = 2 := by kernel_rfl
  obtain ⟨xs, n, _, hx, hcl, hlen, hg⟩ := DataW.trod_struct hS h
  rw [s2] at hlen
  have hxl : xs.length = 2 := hlen
  have cS : Tryz.prog.cellsOf 9 = 1 := by kernel_rfl
  have cT : Tryz.prog.cellsOf 22 = 1 := by kernel_rfl
  have hy : ∀ i (hi : i < 2), xs[i]? = some (xs[i]'(by omega)) := fun i hi => List.getElem?_eq_getElem (by omega)
  obtain ⟨f0, g0, o0, t0⟩ := field_at member_fields 0 _ _ rfl
  obtain ⟨f1, g1, o1, t1⟩ := field_at member_fields 1 _ _ rfl
  have k0 := hg 0 f0 g0
  have k1 := hg 1 f1 g1
  rw [o0, t0, cS, hy 0 (by decide)] at k0
  rw [o1, t1, cT, hy 1 (by decide)] at k1
  obtain ⟨s, e0, _, w0⟩ := DataW.trod_string Tryz.underlying9 k0
  obtain ⟨t, e1, _, w1⟩ := DataW.trod_string Tryz.underlying22 k1
  obtain ⟨c0, c1, hcs⟩ := cs_two hl
  have q0 := cs_one _ _ e0
  have q1 := cs_one _ _ e1
  rw [hcs] at q0 q1
  refine ⟨s, t, ?_, w0, w1⟩
  rw [hcs, Option.some.inj q0, Option.some.inj q1]
/-- Cells that read as a struct. -/
theorem cells_struct {H : Type} {enc : TypeId × Value → H} {W : World} {base : Nat} {sp : Nat → Bool} {held : Bool} {fuel : Nat} {cs : List Value} {x : DataW H × List MemPlace}
    (h : DataW.trod enc Tryz.prog W base sp held fuel 61 cs = some x) (hl : cs.length = 2) :
    ∃ (s : ByteArray) (v : Value) (f2 : Nat) (y : DataW H × List MemPlace) (parts : List (DataW H)), cs = [.string s, v] ∧ s.size ≤ maxLen ∧ DataW.trod enc Tryz.prog W base sp held f2 59 [v] = some y ∧ x.1 = .agg parts ∧ parts[1]? = some y.1 := by
  have hS : Tryz.prog.underlying 61 = some (.struct (Tryz.prog.fieldsOf 61)) := by kernel_rfl
  have s2 : (Tryz.prog.fieldsOf 61).size = 2 := by kernel_rfl
  obtain ⟨xs, n, _, hx, hcl, hlen, hg⟩ := DataW.trod_struct hS h
  rw [s2] at hlen
  have hxl : xs.length = 2 := hlen
  have cS : Tryz.prog.cellsOf 9 = 1 := by kernel_rfl
  have cM : Tryz.prog.cellsOf 59 = 1 := by kernel_rfl
  have hy : ∀ i (hi : i < 2), xs[i]? = some (xs[i]'(by omega)) := fun i hi => List.getElem?_eq_getElem (by omega)
  obtain ⟨f0, g0, o0, t0⟩ := field_at struct_fields 0 _ _ rfl
  obtain ⟨f1, g1, o1, t1⟩ := field_at struct_fields 1 _ _ rfl
  have k0 := hg 0 f0 g0
  have k1 := hg 1 f1 g1
  rw [o0, t0, cS, hy 0 (by decide)] at k0
  rw [o1, t1, cM, hy 1 (by decide)] at k1
  obtain ⟨s, e0, _, w0⟩ := DataW.trod_string Tryz.underlying9 k0
  obtain ⟨c0, c1, hcs⟩ := cs_two hl
  have q0 := cs_one _ _ e0
  have e1 : (cs.drop 1).take 1 = [c1] := by rw [hcs]; rfl
  rw [e1] at k1
  rw [hcs] at q0
  refine ⟨s, c1, _, xs[1]'(by omega), xs.map (·.1), by rw [hcs, Option.some.inj q0], w0, k1, by rw [hx], ?_⟩
  rw [List.getElem?_map, hy 1 (by decide)]
  rfl
theorem choose_list {α : Type} {p : Nat → α → Prop} : ∀ (n : Nat), (∀ i, i < n → ∃ x, p i x) → ∃ L : List α, L.length = n ∧ ∀ i x, L[i]? = some x → p i x
  | 0, _ => ⟨[], rfl, fun i x h => by cases h⟩
  | n + 1, h => by
    obtain ⟨L, h1, h2⟩ := choose_list n (fun i hi => h i (by omega))
    obtain ⟨x, hx⟩ := h n (by omega)
    refine ⟨L ++ [x], by simp [h1], fun i y hy => ?_⟩
    by_cases e : i < n
    · rw [List.getElem?_append_left (by omega)] at hy
      exact h2 i y hy
    · have hi' : i < (L ++ [x]).length := (List.getElem?_eq_some_iff.1 hy).1
      simp [h1] at hi'
      obtain rfl : i = n := by omega
      rw [List.getElem?_append_right (by omega), h1] at hy
      simp at hy
      subst hy
      exact hx
theorem bytes_len {s : ByteArray} (h : s.size ≤ maxLen) : ∃ l : List UInt8, s = ⟨l.toArray⟩ ∧ l.length ≤ 9223372036854775807 := by
  refine ⟨s.data.toList, by simp, ?_⟩
  unfold maxLen at h
  have : s.data.toList.length = s.size := by rw [Array.length_toList]; rfl
  omega
/-- Members that came in. -/
theorem open_members {H : Type} {enc : TypeId × Value → H} {W : World} {sp : Nat → Bool} {held : Bool} {fuel : Nat} {v : Value} {y : DataW H × List MemPlace}
    (h : DataW.trod enc Tryz.prog W 0 sp held fuel 59 [v] = some y) : ∃ (a : Option Addr) (c : Nat) (M : List (List UInt8 × List UInt8)), v = .slice a M.length c ∧ (a = none → M.length = 0 ∧ c = 0) ∧ MmIn M a W ∧ (∀ m ∈ M, m.1.length ≤ 9223372036854775807 ∧ m.2.length ≤ 9223372036854775807) ∧ (M.length = 0 ∨ ∃ es spare, y.1 = .slice es spare ∧ es.length = M.length) := by
  rcases Go.Deep.open_slice Tryz.underlying59 h with ⟨hcs, _⟩ | ⟨a', len', cap', m, n, D, Pl, hcs, hb, hl, hm, hmm, hx, hi⟩
  · simp at hcs
    subst hcs
    exact ⟨none, 0, [], rfl, fun _ => ⟨rfl, rfl⟩, (fun h => by simp at h), (fun m hm => by cases hm), .inl rfl⟩
  · simp at hcs
    subst hcs
    have hlm : len' ≤ m := by rw [hmm]; split <;> omega
    obtain ⟨M, hM1, hM2⟩ := choose_list (p := fun i (q : List UInt8 × List UInt8) => W.cell? ((a'.add (i * 2)).add 0) = some (.string ⟨q.1.toArray⟩) ∧ W.cell? ((a'.add (i * 2)).add 1) = some (.string ⟨q.2.toArray⟩) ∧ q.1.length ≤ 9223372036854775807 ∧ q.2.length ≤ 9223372036854775807) len' (fun i hil => by
      obtain ⟨cs', hc, ht'⟩ := hi i (by omega)
      rw [cellsMember] at hc
      obtain ⟨_, hcl, hat⟩ := World.cells?_some hc
      obtain ⟨s, t, rfl, w0, w1⟩ := cells_member ht' hcl
      obtain ⟨s, rfl, w0⟩ := bytes_len w0
      obtain ⟨t, rfl, w1⟩ := bytes_len w1
      exact ⟨(s, t), by rw [hat 0 (by decide)]; rfl, by rw [hat 1 (by decide)]; rfl, w0, w1⟩)
    subst hM1
    refine ⟨some a', cap', M, rfl, (fun h => by cases h), fun h0 => ?_, fun q hq => ?_, .inr ⟨_, _, by rw [hx], by simp⟩⟩
    · obtain ⟨b, off, spot⟩ := a'
      obtain ⟨q0, hq0⟩ : ∃ q, M[0]? = some q := ⟨_, List.getElem?_eq_getElem h0⟩
      have hspot : spot = none := by
        have := World.cell?_spot (hM2 0 q0 hq0).1
        simpa [Addr.add] using this
      subst hspot
      have hadd : ∀ i j, ((⟨b, off, none⟩ : Addr).add (i * 2)).add j = ⟨b, off + i * 2 + j, none⟩ := by
        intro i j
        unfold Addr.add
        split <;> split <;> simp_all
      have hx0 := (hM2 0 q0 hq0).1
      rw [hadd] at hx0
      refine ⟨b, off, rfl, cell_blt hx0, fun k q hk => ?_⟩
      have h2 := hM2 k q hk
      rw [hadd, hadd] at h2
      exact ⟨h2.1, h2.2.1⟩
    · obtain ⟨i, hi⟩ := List.getElem?_of_mem hq
      exact (hM2 i q hi).2.2
theorem weightsAll_mem {H : Type} {P : Program} {e : TypeId} : ∀ {ds : List (DataW H)} {j : Nat} {d : DataW H}, ds[j]? = some d → ∀ n ∈ d.weights P e, n ∈ DataW.weightsAll P e ds
  | d0 :: ds, 0, d, hd, n, hn => by
    simp only [List.getElem?_cons_zero, Option.some.injEq] at hd
    subst hd
    simp only [DataW.weightsAll, List.mem_append]
    exact .inl hn
  | d0 :: ds, j + 1, d, hd, n, hn => by
    simp only [List.getElem?_cons_succ] at hd
    simp only [DataW.weightsAll, List.mem_append]
    exact .inr (weightsAll_mem hd n hn)
  | [], _, _, hd, _, _ => by simp at hd
/-- The members of a struct are within the reach. -/
theorem sized_members {H : Type} {ts : List TypeId} {ds : List (DataW H)} (h : (DataW.weightsEach Tryz.prog ts ds).all (· ≤ reachBytes) = true) {j i : Nat} {es spare : List (DataW H)} (ht : ts[j]? = some 23) (hd : ds[j]? = some (.slice es spare)) {parts bs bspare : List (DataW H)} (he : es[i]? = some (.agg parts)) (hp : parts[1]? = some (.slice bs bspare)) : bs.length * 32 ≤ 140737488351232 := by
  have hu : Tryz.prog.underlying 59 = some (.slice 77) := Tryz.underlying59
  have hS : Tryz.prog.underlying 61 = some (.struct (Tryz.prog.fieldsOf 61)) := by kernel_rfl
  have hA : Tryz.prog.underlying 23 = some (.slice 61) := Tryz.underlying23
  have hty : ((Tryz.prog.fieldsOf 61).toList.map (·.type))[1]? = some 59 := by
    obtain ⟨f4, g4, o4, t4⟩ := field_at struct_fields 1 _ _ rfl
    rw [List.getElem?_map, Array.getElem?_toList, g4]
    simp [t4]
  have m1 : (bs.length + bspare.length) * Tryz.prog.bytesOf 77 ∈ (DataW.slice bs bspare).weights Tryz.prog 59 := by simp [DataW.weights, hu]
  have m2 := DataW.weights_mem_each hty hp _ m1
  have m3 : (bs.length + bspare.length) * Tryz.prog.bytesOf 77 ∈ (DataW.agg parts).weights Tryz.prog 61 := by
    simp only [DataW.weights, hS]
    exact m2
  have m4 := weightsAll_mem he _ m3
  have m5 : (bs.length + bspare.length) * Tryz.prog.bytesOf 77 ∈ (DataW.slice es spare).weights Tryz.prog 23 := by
    simp only [DataW.weights, hA, List.mem_cons, List.mem_append]
    exact .inr (.inl m4)
  have h1 := List.all_eq_true.1 h _ (DataW.weights_mem_each ht hd _ m5)
  rw [bytesMember] at h1
  simp at h1
  unfold reachBytes at h1
  have : bs.length * 32 ≤ (bs.length + bspare.length) * 32 := Nat.mul_le_mul_right _ (by omega)
  omega
/-- Structs that came in, with the members' capacities where there are none. -/
def StL (S : List StP) (a : Option Addr) (w : World) : Prop := 0 < S.length → ∃ b off, a = some ⟨b, off, none⟩ ∧ b < w.heap.size ∧ ∀ (k : Nat) s, S[k]? = some s → ∃ ma mc, w.cell? ⟨b, off + k * 2, none⟩ = some (.string ⟨s.name.toArray⟩) ∧ w.cell? ⟨b, off + k * 2 + 1, none⟩ = some (.slice ma s.mems.length mc) ∧ MmIn s.mems ma w ∧ (ma = none → s.mems.length = 0 ∧ mc = 0)
theorem StL.in {S : List StP} {a : Option Addr} {w : World} (h : StL S a w) : StIn S a w := fun h0 => by
  obtain ⟨b, off, h1, h2, h3⟩ := h h0
  refine ⟨b, off, h1, h2, fun k s hk => ?_⟩
  obtain ⟨ma, mc, c0, c1, hm, _⟩ := h3 k s hk
  exact ⟨ma, mc, c0, c1, hm⟩
theorem StL.next {S : List StP} {a : Option Addr} {w w' : World} (h : StL S a w) (hb : Below w.heap.size w w') : StL S a w' := fun h0 => by
  obtain ⟨b, off, h1, h2, h3⟩ := h h0
  refine ⟨b, off, h1, Nat.lt_of_lt_of_le h2 hb.size, fun k s hk => ?_⟩
  obtain ⟨ma, mc, c0, c1, hm, hn⟩ := h3 k s hk
  have e := hb.block b h2
  exact ⟨ma, mc, (cell_of_blk e _).trans c0, (cell_of_blk e _).trans c1, hm.next hb, hn⟩
/-- Structs that came in, whole. -/
theorem open_structs {H : Type} {enc : TypeId × Value → H} {W : World} {sp : Nat → Bool} {held : Bool} {fuel : Nat} {a : Option Addr} {len cap : Nat} {x : DataW H × List MemPlace} {ts : List TypeId} {ds : List (DataW H)} {j : Nat}
    (h : DataW.trod enc Tryz.prog W 0 sp held fuel 23 (Value.slice a len cap).cells.toList = some x) (hsz : (DataW.weightsEach Tryz.prog ts ds).all (· ≤ reachBytes) = true) (ht : ts[j]? = some 23) (hd : ds[j]? = some x.1) :
    ∃ S : List StP, S.length = len ∧ StL S a W ∧ (∀ s ∈ S, s.name.length ≤ 9223372036854775807 ∧ (∀ m ∈ s.mems, m.1.length ≤ 9223372036854775807 ∧ m.2.length ≤ 9223372036854775807) ∧ s.mems.length * 32 ≤ 140737488351232) ∧ len * 40 ≤ 140737488351232 ∧ len ≤ cap := by
  rcases Go.Deep.open_slice Tryz.underlying23 h with ⟨hcs, _⟩ | ⟨a', len', cap', m, n, D, Pl, hcs, hb, hl, hm, hmm, hx, hi⟩
  · simp [Value.cells] at hcs
    obtain ⟨rfl, rfl, rfl⟩ := hcs
    exact ⟨[], rfl, (fun h => by simp at h), (fun s hs => by cases hs), by omega, by omega⟩
  · simp [Value.cells] at hcs
    obtain ⟨rfl, rfl, rfl⟩ := hcs
    have hlm : len ≤ m := by rw [hmm]; split <;> omega
    obtain ⟨S, hS1, hS2⟩ := choose_list (p := fun i (s : StP) => ∃ ma mc, W.cell? ((a'.add (i * 2)).add 0) = some (.string ⟨s.name.toArray⟩) ∧ W.cell? ((a'.add (i * 2)).add 1) = some (.slice ma s.mems.length mc) ∧ MmIn s.mems ma W ∧ (ma = none → s.mems.length = 0 ∧ mc = 0) ∧ s.name.length ≤ 9223372036854775807 ∧ (∀ m ∈ s.mems, m.1.length ≤ 9223372036854775807 ∧ m.2.length ≤ 9223372036854775807) ∧ s.mems.length * 32 ≤ 140737488351232) len (fun i hil => by
      obtain ⟨cs', hc, ht'⟩ := hi i (by omega)
      rw [cellsStruct] at hc
      obtain ⟨_, hcl, hat⟩ := World.cells?_some hc
      obtain ⟨s, v, f2, y, parts, rfl, w0, hy, hag, hp⟩ := cells_struct ht' hcl
      obtain ⟨s, rfl, w0⟩ := bytes_len w0
      obtain ⟨ma, mc, M, rfl, hn, hM, hMs, hq⟩ := open_members hy
      have hMl : M.length * 32 ≤ 140737488351232 := by
        rcases hq with hq | ⟨bs, bspare, e1, e2⟩
        · omega
        · rw [← e2]
          refine sized_members hsz (j := j) (i := i) (es := (List.range len).map D) ht (by rw [hd, hx]) (parts := parts) ?_ (by rw [hp, e1])
          rw [List.getElem?_map, List.getElem?_range hil]
          simp only at hag
          simp [hag]
      exact ⟨⟨s, M⟩, ma, mc, by rw [hat 0 (by decide)]; rfl, by rw [hat 1 (by decide)]; rfl, hM, hn, w0, hMs, hMl⟩)
    refine ⟨S, hS1, fun h0 => ?_, fun s hs => ?_, ?_, hl⟩
    · obtain ⟨b, off, spot⟩ := a'
      obtain ⟨q0, hq0⟩ : ∃ q, S[0]? = some q := ⟨_, List.getElem?_eq_getElem h0⟩
      obtain ⟨ma0, mc0, hx0, _⟩ := hS2 0 q0 hq0
      have hspot : spot = none := by
        have := World.cell?_spot hx0
        simpa [Addr.add] using this
      subst hspot
      have hadd : ∀ i j, ((⟨b, off, none⟩ : Addr).add (i * 2)).add j = ⟨b, off + i * 2 + j, none⟩ := by
        intro i j
        unfold Addr.add
        split <;> split <;> simp_all
      rw [hadd] at hx0
      refine ⟨b, off, rfl, cell_blt hx0, fun k s hk => ?_⟩
      obtain ⟨ma, mc, c0, c1, hm, hn, _⟩ := hS2 k s hk
      rw [hadd] at c0 c1
      exact ⟨ma, mc, c0, c1, hm, hn⟩
    · obtain ⟨i, hi⟩ := List.getElem?_of_mem hs
      obtain ⟨ma, mc, _, _, _, _, h1, h2, h3⟩ := hS2 i s hi
      exact ⟨h1, h2, h3⟩
    · have hs := sized_slice hsz (j := j) (t := 23) (e := 61) ht (by rw [hd, hx]) Tryz.underlying23
      rw [bytesStruct] at hs
      unfold reachBytes at hs
      simp at hs
      have : len * 40 ≤ (len + (m - len)) * 40 := Nat.mul_le_mul_right _ (by omega)
      omega
end Go.Proofs.YtacbjhbiaaieoaaGreatDoor
namespace Go.Proofs.YtacbjhbiaaieoaaGreatDoor
set_option linter.unusedVariables false
set_option linter.unusedSimpArgs false
set_option maxRecDepth 100000
open Go.RowKit

def mmC (m : List UInt8 × List UInt8) : List Value := [.string ⟨m.1.toArray⟩, .string ⟨m.2.toArray⟩]
def rowM (M : List (List UInt8 × List UInt8)) : List Value := M.flatMap mmC
theorem rowM_len (M : List (List UInt8 × List UInt8)) : (rowM M).length = M.length * 2 := by
  induction M with
  | nil => rfl
  | cons p M ih =>
    show (mmC p ++ rowM M).length = _
    rw [List.length_append, ih, List.length_cons, show (mmC p).length = 2 from rfl]
    omega
theorem rowM_at : ∀ (M : List (List UInt8 × List UInt8)) (k : Nat) (m : List UInt8 × List UInt8), M[k]? = some m → ∀ i, i < 2 → (rowM M)[k * 2 + i]? = (mmC m)[i]?
  | [], k, p, h, i, hi => by cases h
  | q :: M, 0, p, h, i, hi => by
    cases h
    show (mmC q ++ rowM M)[0 * 2 + i]? = _
    rw [List.getElem?_append_left (by show 0 * 2 + i < 2; omega)]
    congr 1
    omega
  | q :: M, k + 1, p, h, i, hi => by
    show (mmC q ++ rowM M)[(k + 1) * 2 + i]? = _
    rw [List.getElem?_append_right (by show 2 ≤ _; omega)]
    have ih := rowM_at M k p h i hi
    rw [← ih]
    congr 1
    show (k + 1) * 2 + i - 2 = _
    omega
theorem rowM_one (M : List (List UInt8 × List UInt8)) : ∀ u ∈ rowM M, u.oneCell' = true := by
  intro u hu
  obtain ⟨m, hm, hu⟩ := List.mem_flatMap.1 hu
  unfold mmC at hu
  simp only [List.mem_cons, List.not_mem_nil, or_false] at hu
  rcases hu with rfl | rfl <;> rfl
/-- Members in a block that is such a one. -/
def MmS (K : Nat → Prop) (M : List (List UInt8 × List UInt8)) (a : Option Addr) (w : World) : Prop := 0 < M.length → ∃ b off, a = some ⟨b, off, none⟩ ∧ K b ∧ ∀ (k : Nat) m, M[k]? = some m → w.cell? ⟨b, off + k * 2, none⟩ = some (.string ⟨m.1.toArray⟩) ∧ w.cell? ⟨b, off + k * 2 + 1, none⟩ = some (.string ⟨m.2.toArray⟩)
theorem MmS.mono {K K' : Nat → Prop} {M : List (List UInt8 × List UInt8)} {a : Option Addr} {w w' : World} (h : MmS K M a w) (hk : ∀ j, K j → K' j) (hb : ∀ j, K j → w'.heap[j]? = w.heap[j]?) : MmS K' M a w' := fun h0 => by
  obtain ⟨b, off, h1, h2, h3⟩ := h h0
  refine ⟨b, off, h1, hk b h2, fun k m hm => ?_⟩
  have e := hb b h2
  exact ⟨(cell_of_blk e _).trans (h3 k m hm).1, (cell_of_blk e _).trans (h3 k m hm).2⟩
theorem MmS.in {K : Nat → Prop} {M : List (List UInt8 × List UInt8)} {a : Option Addr} {w : World} (h : MmS K M a w) (hk : ∀ j, K j → j < w.heap.size) : MmIn M a w := fun h0 => by
  obtain ⟨b, off, h1, h2, h3⟩ := h h0
  exact ⟨b, off, h1, hk b h2, h3⟩
theorem mm_of_row {w : World} {X : Nat} {v : Value} {M : List (List UInt8 × List UInt8)} (h : w.ownsRow X 77 2 v M.length (rowM M)) : ∃ a c, v = .slice a M.length c ∧ MmS (fun j => X ≤ j ∧ j < w.heap.size) M a w := by
  rcases h.2 with ⟨hv, hz⟩ | ⟨g, cap, cur, hv, hb, hg, h1, _⟩
  · exact ⟨none, 0, by rw [hv, hz], fun h0 => by omega⟩
  · subst hv
    refine ⟨some ⟨g, 0, none⟩, cap, rfl, fun _ => ⟨g, 0, rfl, ⟨hb, (Array.getElem?_eq_some_iff.1 hg).1⟩, fun k m hm => ?_⟩⟩
    have key : ∀ i u, (mmC m)[i]? = some u → w.cell? ⟨g, k * 2 + i, none⟩ = some u := fun i u hu => by
      have hi : i < 2 := (List.getElem?_eq_some_iff.1 hu).1
      have h2 := rowM_at M k m hm i hi
      rw [hu] at h2
      have e := h.cells (g := g) rfl (k * 2 + i) u h2
      have ea : (⟨g, 0, none⟩ : Addr).add (k * 2 + i) = ⟨g, k * 2 + i, none⟩ := by unfold Addr.add; split <;> simp_all
      rwa [ea] at e
    refine ⟨?_, ?_⟩
    · rw [show 0 + k * 2 = k * 2 + 0 by omega]; exact key 0 _ rfl
    · rw [show 0 + k * 2 + 1 = k * 2 + 1 by omega]; exact key 1 _ rfl
theorem infoMm : (Tryz.prog.info? 77).map (fun i => (i.zero, i.size, i.bytes)) = some (some (.agg #[.string ByteArray.empty, .string ByteArray.empty]), 2, 32) := by kernel_rfl
theorem mm_news {M : List (List UInt8 × List UInt8)} {ad : Addr} {w : World} (hX : MmIn M (some ad) w) : ∀ j u, (rowM M)[j]? = some u → w.cell? (ad.add j) = some u := fun j u hu => by
  have hj : j < (rowM M).length := (List.getElem?_eq_some_iff.1 hu).1
  rw [rowM_len] at hj
  obtain ⟨b, off, he, _, hx⟩ := hX (by omega)
  cases he
  obtain ⟨m, hm⟩ : ∃ m, M[j / 2]? = some m := ⟨_, List.getElem?_eq_getElem (by omega)⟩
  obtain ⟨c0, c1⟩ := hx (j / 2) m hm
  have h2 := rowM_at M (j / 2) m hm (j % 2) (by omega)
  rw [show j / 2 * 2 + j % 2 = j by omega, hu] at h2
  have ea : (⟨b, off, none⟩ : Addr).add j = ⟨b, off + j, none⟩ := by unfold Addr.add; split <;> simp_all
  rw [ea]
  have hc : j % 2 = 0 ∨ j % 2 = 1 := by omega
  rcases hc with hc | hc
  · rw [hc] at h2
    have e : u = .string ⟨m.1.toArray⟩ := by injection h2
    rw [e, ← c0]
    congr 2
    omega
  · rw [hc] at h2
    have e : u = .string ⟨m.2.toArray⟩ := by injection h2
    rw [e, show off + j = off + j / 2 * 2 + 1 by omega, c1]
/-- A copy of members into a row of the call's own. -/
theorem wp_copyM {w : World} {ops : Array Oper} {rest : List Oper} {o : Oper} {ac : Act} {Q : Exit → Act → World → Prop} (hgd : o.guard = none) (s x : Operand)
    (ho : o.op = .call { callee := .builtin .append, args := #[s, x], argTypes := #[59, 59] })
    (base : Nat) (v : Value) (hs : ac.eval s = v) (hown : w.ownsRow base 77 2 v 0 [])
    (a : Option Addr) (n c : Nat) (M : List (List UInt8 × List UInt8)) (hn : M.length = n) (hx : ac.eval x = .slice a n c) (hX : MmIn M a w) (hnil : a = none → n = 0 ∧ c = 0) (hr : n * 32 ≤ 140737488355328) (hbase : base ≤ w.heap.size)
    (h : ∀ a' cap' w', MmS (fun j => base ≤ j ∧ j < w'.heap.size) M a' w' → w.grownBy w' v.ownBlock → wpList Tryz.prog ops Q rest (ac.put o.dst (.slice a' n cap')) w') : wpList Tryz.prog ops Q (o :: rest) ac w := by
  obtain ⟨i0, hi, hz0, hz1, hz2⟩ := info_parts infoMm
  subst hn
  cases a with
  | none =>
    obtain ⟨h0, rfl⟩ := hnil rfl
    obtain rfl : M = [] := List.eq_nil_of_length_eq_zero h0
    obtain ⟨a', cap', hv, hI⟩ := mm_of_row (M := []) (v := v) (by rw [show rowM [] = [] from rfl]; exact hown)
    subst hv
    exact wpList_append_own_none hgd s x 59 ho base 77 i0 2 Tryz.underlying59 hi _ 0 [] hs hown hx (h _ _ _ hI (World.grownBy.refl _ _))
  | some ad =>
    refine wpList_append_own w hgd s x 59 ho base 77 i0 _ 2 32 Tryz.underlying59 hi hz0 hz1 hz2 rfl (by decide) v 0 [] hs hown ad M.length c (rowM M) hx (rowM_len M) (mm_news hX) (rowM_one M) (by unfold maxLen; omega) (by omega) hbase ?_
    intro v' w' hown' hg _
    rw [Nat.zero_add, List.nil_append] at hown'
    obtain ⟨a', cap', hv, hI⟩ := mm_of_row hown'
    subst hv
    exact h _ _ _ hI hg
/-- The same at a step of a region that draws. -/
theorem step_copyM {w : World} {ops : Array Oper} {o : Oper} {ac : Act} {K : Act → World → Prop} {Q : Exit → Act → World → Prop} {E : Prop} (hgd : o.guard = none) (s x : Operand)
    (ho : o.op = .call { callee := .builtin .append, args := #[s, x], argTypes := #[59, 59] })
    (base : Nat) (v : Value) (hs : ac.eval s = v) (hown : w.ownsRow base 77 2 v 0 [])
    (a : Option Addr) (n c : Nat) (M : List (List UInt8 × List UInt8)) (hn : M.length = n) (hx : ac.eval x = .slice a n c) (hX : MmIn M a w) (hnil : a = none → n = 0 ∧ c = 0) (hr : n * 32 ≤ 140737488355328) (hbase : base ≤ w.heap.size)
    (h : ∀ a' cap' w', MmS (fun j => base ≤ j ∧ j < w'.heap.size) M a' w' → w.grownBy w' v.ownBlock → K (ac.put o.dst (.slice a' n cap')) w') :
    if Region.wanted o (yielded ops ac.tmps) = true then Oper.wp Tryz.prog o ac w K Q else E := by
  obtain ⟨i0, hi, hz0, hz1, hz2⟩ := info_parts infoMm
  subst hn
  cases a with
  | none =>
    obtain ⟨h0, rfl⟩ := hnil rfl
    obtain rfl : M = [] := List.eq_nil_of_length_eq_zero h0
    obtain ⟨a', cap', hv, hI⟩ := mm_of_row (M := []) (v := v) (by rw [show rowM [] = [] from rfl]; exact hown)
    subst hv
    have hw : Region.wanted o (yielded ops ac.tmps) = true := by simp [Region.wanted, hgd]
    rw [if_pos hw]
    have hrun := run_append_owned_none (P := Tryz.prog) (w := w) base 59 o.type 77 i0 2 Tryz.underlying59 hi _ 0 [] hown
    have hx0 : ac.eval x = .slice none 0 0 := hx
    have hs0 : ac.eval s = .slice a' 0 cap' := hs
    have hrun0 : (Builtin.append_ #[59, 59] o.type #[.slice a' 0 cap', .slice none 0 0]).run Tryz.prog w = .ok (.slice a' 0 cap') w := hrun
    unfold Oper.wp execOp
    simp only [ho, resolve, invoke, builtin, Sem.run_bind, Sem.run_pure, Result.andThen_ok, List.map_toArray, List.map_cons, List.map_nil, hs0, hx0, hrun0]
    exact h _ _ _ hI (World.grownBy.refl _ _)
  | some ad =>
    refine step_own w hgd s x 59 ho base 77 i0 _ 2 32 Tryz.underlying59 hi hz0 hz1 hz2 rfl (by decide) v 0 [] hs hown ad M.length c (rowM M) hx (rowM_len M) (mm_news hX) (rowM_one M) (by unfold maxLen; omega) (by omega) hbase ?_
    intro v' w' hown' hg
    rw [Nat.zero_add, List.nil_append] at hown'
    obtain ⟨a', cap', hv, hI⟩ := mm_of_row hown'
    subst hv
    exact h _ _ _ hI hg
/-- Structs of one's own while they are copied. -/
structure LnX (X : Nat) (P : List (StP × Value)) (v : Value) (w : World) : Prop where
  own : w.ownsRow X 61 2 v P.length (rowS P)
  nd : ∀ p ∈ P, ∃ ma mc, p.2 = .slice ma p.1.mems.length mc ∧ MmS (fun j => X ≤ j ∧ j < w.heap.size ∧ v.ownBlock ≠ some j) p.1.mems ma w
theorem LnX.next {X : Nat} {P : List (StP × Value)} {v : Value} {w w' : World} (h : LnX X P v w) (hb : Below w.heap.size w w') : LnX X P v w' :=
  ⟨own_far h.own (fun g hg _ => hb.block g (h.own.lt g hg).2), fun p hp => by
    obtain ⟨ma, mc, h1, h3⟩ := h.nd p hp
    exact ⟨ma, mc, h1, h3.mono (fun j hj => ⟨hj.1, Nat.lt_of_lt_of_le hj.2.1 hb.size, hj.2.2⟩) (fun j hj => hb.block j hj.2.1)⟩⟩
theorem LnX.add {X : Nat} {P : List (StP × Value)} {v : Value} {w wd : World} (h : LnX X P v w) {x : StP} {ma : Option Addr} {mc g cap : Nat} (hn : MmS (fun j => X ≤ j ∧ j < w.heap.size ∧ v.ownBlock ≠ some j) x.mems ma w)
    (hown : wd.ownsRow X 61 2 (.slice (some ⟨g, 0, none⟩) (P.length + 1) cap) (P.length + 1) (rowS P ++ [.string ⟨x.name.toArray⟩, .slice ma x.mems.length mc])) (hg : w.grownBy wd v.ownBlock) (hl : v.ownBlock = some g ∨ g = w.heap.size) :
    LnX X (P ++ [(x, .slice ma x.mems.length mc)]) (.slice (some ⟨g, 0, none⟩) (P.length + 1) cap) wd := by
  have hk : ∀ j, (X ≤ j ∧ j < w.heap.size ∧ v.ownBlock ≠ some j) → (X ≤ j ∧ j < wd.heap.size ∧ (Value.slice (some ⟨g, 0, none⟩) (P.length + 1) cap).ownBlock ≠ some j) := fun j hj => ⟨hj.1, Nat.lt_of_lt_of_le hj.2.1 hg.size, fun e => by
    have e2 : g = j := by simpa [Value.ownBlock] using e
    subst e2
    rcases hl with h1 | h1
    · exact hj.2.2 h1
    · omega⟩
  have hb : ∀ j, (X ≤ j ∧ j < w.heap.size ∧ v.ownBlock ≠ some j) → wd.heap[j]? = w.heap[j]? := fun j hj => hg.block j hj.2.1 (fun e => hj.2.2 e.symm)
  refine ⟨by rw [rowS_snoc, List.length_append, List.length_singleton]; exact hown, fun p hp => ?_⟩
  rcases List.mem_append.1 hp with hp | hp
  · obtain ⟨ma', mc', h1, h3⟩ := h.nd p hp
    exact ⟨ma', mc', h1, h3.mono hk hb⟩
  · rw [List.mem_singleton] at hp
    subst hp
    exact ⟨ma, mc, rfl, hn.mono hk hb⟩
theorem LnX.in {X : Nat} {P : List (StP × Value)} {v : Value} {w : World} (h : LnX X P v w) : ∃ a c, v = .slice a P.length c ∧ StIn (P.map Prod.fst) a w :=
  in_of_row h.own (fun p hp => by
    obtain ⟨ma, mc, h1, h3⟩ := h.nd p hp
    exact ⟨ma, mc, h1, h3.in (fun j hj => hj.2.1)⟩)
end Go.Proofs.YtacbjhbiaaieoaaGreatDoor
namespace Go.Proofs.YtacbjhbiaaieoaaGreatDoor
set_option linter.unusedVariables false
set_option linter.unusedSimpArgs false
set_option maxRecDepth 100000
open Go.RowKit

/-- While structs are copied. -/
structure LtI (S : List StP) (w : World) (X q : Nat) (P : List (StP × Value)) (v : Value) (wr : World) : Prop where
  pl : P.length = q
  pf : P.map Prod.fst = S.take q
  bel : Below w.heap.size w wr
  ln : LnX X P v wr
theorem LtI.next {S : List StP} {w : World} {X q : Nat} {P : List (StP × Value)} {v : Value} {wr w' : World} (h : LtI S w X q P v wr) (hb : Below wr.heap.size wr w') : LtI S w X q P v w' := ⟨h.pl, h.pf, below_on h.bel hb h.bel.size, h.ln.next hb⟩
/-- The reach of structs that come in, for a law. -/
def SzL (S : List StP) : Prop := ∀ s ∈ S, s.name.length ≤ 9223372036854775807 ∧ (∀ m ∈ s.mems, m.1.length ≤ 9223372036854775807 ∧ m.2.length ≤ 9223372036854775807) ∧ s.mems.length * 32 ≤ 140737488351232
theorem SzL.in {S : List StP} (h : SzL S) : SzS S := fun s hs => ⟨(h s hs).1, (h s hs).2.1, by have := (h s hs).2.2; omega⟩
set_option maxHeartbeats 8000000 in
theorem c_lent (S : List StP) (a : Option Addr) (c : Nat) (hS : SzL S) (hSl : S.length * 40 ≤ 140737488351232) (w : World) (hI : StL S a w) :
    Calls Tryz.prog 7 #[.slice a S.length c] w fun e w' => (∃ a' c', e = .returned (.slice a' S.length c') ∧ StIn S a' w') ∧ Below w.heap.size w w' := by
  have HSt := Lib.hid (fun w' (hb : Below w.heap.size w w') => hI.next hb)
  obtain ⟨i0, hi, hz0, hz1, hz2⟩ := info_parts infoSt
  obtain ⟨N, hN⟩ : ∃ N, S.length = N := ⟨_, rfl⟩
  have HN := Lib.hid (And.intro hN (And.intro hS hSl))
  rw [hN]
  clear hS hSl hI hN
  go_enter Tryz.func7, Tryz.ntmps7
  go_wp2_with fail
  have hI0 : LtI S w w.heap.size 0 [] (.slice (some ⟨w.heap.size, 0, none⟩) 0 0) (w.alloc (.cells #[] 61)) := ⟨rfl, rfl, below_a _ _, World.ownsRow_made w #[] 0 (Nat.le_refl _) (by decide) rfl, fun p hp => by cases hp⟩
  have HI0 := Lib.hid hI0
  clear hI0
  go_loopg [3, 9] N (fun g v3 v9 wr => ∃ (q : Nat) (ao : Option Addr) (co : Nat), q + g = N ∧ v9 = .int .i64 (q : Int) ∧ v3 = .slice ao q co ∧ Hid (∃ P, LtI S w w.heap.size q P (.slice ao q co) wr))
  case atStart => exact ⟨0, _, 0, by omega, rfl, rfl, [], HI0.out⟩
  case round =>
    obtain ⟨q, va, vc, hq, rfl, rfl, HIx⟩ := hrel
    obtain ⟨P, hI⟩ := HIx.out
    have HI := Lib.hid hI
    have hlw : w.heap.size ≤ wr.heap.size := hI.bel.size
    clear hI HIx
    by_cases hlt : q < N
    · have hdq : decide ((q : Int) < (N : Int)) = true := by simp; omega
      have hdn : decide (q < N) = true := by simp; omega
      obtain ⟨s, hs⟩ : ∃ s, S[q]? = some s := ⟨_, List.getElem?_eq_getElem (by have := HN.out.1; omega)⟩
      obtain ⟨gb, gof, hgab, hgb, hrow⟩ := HSt.out wr HI.out.bel (by have := HN.out.1; omega)
      obtain ⟨ma, mc, g0, g1, hmm, hnil⟩ := hrow q s hs
      have hsz := HN.out.2.1 s (List.mem_of_getElem? hs)
      have HSs := Lib.hid (And.intro hs (And.intro hmm (And.intro hnil hsz.2.2)))
      obtain ⟨sn, sm⟩ := s
      simp only at g0 g1
      obtain ⟨ML, hML⟩ : ∃ ML, sm.length = ML := ⟨_, rfl⟩
      have HML := Lib.hid hML
      rw [hML] at g1
      have hq0 : (0 : Int) ≤ (q : Int) := by omega
      have hql : (q : Int) < (N : Int) := by omega
      have hwm : IntKind.i64.wrap ((q : Int) + 1) = ((q + 1 : Nat) : Int) := by rw [IntKind.wrap_i64]; have := HN.out.2.2; have := HN.out.1; omega
      have HM : Hid (N - (q + 1) < gk ∧ q + 1 + (N - (q + 1)) = N) := ⟨by omega, by omega⟩
      subst hgab
      clear hrow hs hmm hnil hsz hML
      go_wp2_with fail
      have HGw : Hid (∀ g, (Value.slice va q vc).ownBlock = some g → w.heap.size ≤ g ∧ g < wr.heap.size) := fun g hg => HI.out.ln.own.lt g hg
      obtain ⟨oS, hoS⟩ : ∃ o, o = Obj.cells #[.string ⟨sn.toArray⟩, .slice ma ML mc] 61 := ⟨_, rfl⟩
      have hbA : Below wr.heap.size wr ((wr.alloc (.cells #[.string ⟨sn.toArray⟩, .slice ma ML mc] 61)).alloc (.cells #[] 77)).drew := ((below_a wr _).trans ((below_a _ _).mono (by simp))).drew
      have HBA := Lib.hid hbA
      have HZ : Hid (((wr.alloc (.cells #[.string ⟨sn.toArray⟩, .slice ma ML mc] 61)).alloc (.cells #[] 77)).drew.heap[wr.heap.size]? = some (.cells #[.string ⟨sn.toArray⟩, .slice ma ML mc] 61)) := blk_next (heap_alloc_new wr (.cells #[.string ⟨sn.toArray⟩, .slice ma ML mc] 61)) (below_a _ _).drew
      have HOwM : Hid (((wr.alloc (.cells #[.string ⟨sn.toArray⟩, .slice ma ML mc] 61)).alloc (.cells #[] 77)).drew.ownsRow (wr.heap.size + 1) 77 2 (.slice (some ⟨wr.heap.size + 1, 0, none⟩) 0 0) 0 []) := by
        have h := World.ownsRow_made (base := wr.heap.size + 1) (size := 2) (e := 77) (wr.alloc (.cells #[.string ⟨sn.toArray⟩, .slice ma ML mc] 61)) #[] 0 (by simp) (by decide) rfl
        rw [show (wr.alloc (.cells #[.string ⟨sn.toArray⟩, .slice ma ML mc] 61)).heap.size = wr.heap.size + 1 by simp] at h
        exact h
      have HMi := Lib.hid (HSs.out.2.1.next hbA)
      have HNl : Hid (ma = none → ML = 0 ∧ mc = 0) := fun h => by have := HSs.out.2.2.1 h; rw [← HML.out]; exact this
      have HMr : Hid (ML * 32 ≤ 140737488355328) := by have h1 : sm.length * 32 ≤ 140737488351232 := HSs.out.2.2.2; rw [HML.out] at h1; show ML * 32 ≤ 140737488355328; omega
      have hqs : q * 40 ≤ 140737488351232 := by have := HN.out.2.2; have := HN.out.1; omega
      have hqs2 : (q + 1) * 40 ≤ 140737488355328 := by omega
      have HQs := Lib.hid hqs2
      clear hbA hqs hqs2 hoS
      go_region_law (first
        | (refine step_copyM (by rfl) _ _ (by rfl) (wr.heap.size + 1) (.slice (some ⟨wr.heap.size + 1, 0, none⟩) 0 0) (by simp [Act.eval, Act.put]) (by exact HOwM.out) ma ML mc sm HML.out (by simp [Act.eval, Act.put]) (by exact HMi.out) HNl.out HMr.out (by simp) ?_
           intro a91 c91 w91 hmm91 hgrow1
           have HB91 := Lib.hid (HBA.out.grown hgrow1 HBA.out.size (fun k hk => by simp [Value.ownBlock] at hk; omega))
           have HZ91 : Hid (w91.heap[wr.heap.size]? = some (.cells #[.string ⟨sn.toArray⟩, .slice ma ML mc] 61)) := (hgrow1.block wr.heap.size (by simp; omega) (by simp [Value.ownBlock])).trans HZ.out
           have hs91 : wr.heap.size + 2 ≤ w91.heap.size := by have := hgrow1.size; simp at this; omega
           have hd0 : w91.cell? ⟨wr.heap.size, 0, none⟩ = some (.string ⟨sn.toArray⟩) := by rw [Lib.cell_of_heap HZ91.out]; rfl
           have hd1 : w91.cell? ⟨wr.heap.size, 1, none⟩ = some (.slice ma ML mc) := by rw [Lib.cell_of_heap HZ91.out]; rfl
           have HM91 := Lib.hid hmm91
           have HL91 := Lib.hid ((HI.out.next HB91.out).next (below_a w91 (.cells #[.string ⟨sn.toArray⟩, .slice a91 ML c91] 61)))
           have HNw : Hid (∀ (j : Nat) (u : Value), [Value.string ⟨sn.toArray⟩, .slice a91 ML c91][j]? = some u → (w91.alloc (.cells #[.string ⟨sn.toArray⟩, .slice a91 ML c91] 61)).cell? ((⟨w91.heap.size, 0, none⟩ : Addr).add j) = some u) := fun j u hu => World.news_of_block (heap_alloc_new w91 (.cells #[.string ⟨sn.toArray⟩, .slice a91 ML c91] 61)) j u (by simpa using hu)
           clear hmm91 hgrow1)
        | (refine step_append_lies _ (by rfl) _ _ _ (by rfl) w.heap.size 61 i0 _ 2 40 Tryz.underlying23 hi hz0 hz1 hz2 rfl (by decide) (.slice va q vc) q (rowS P) (by simp [Act.eval, Act.put]) (by have h := HL91.out.ln.own; rw [HL91.out.pl] at h; exact h) ⟨w91.heap.size, 0, none⟩ 1 1 [.string ⟨sn.toArray⟩, .slice a91 ML c91] (by simp [Act.eval, Act.put]) rfl (by exact HNw.out) (fun u hu => by simp at hu; rcases hu with rfl | rfl <;> rfl) (by decide) (by have := HQs.out; unfold maxLen; omega) HQs.out (by simp; omega) (w91.heap.size + 1) (by simp) ?_
           intro gr cap1 wd hown hgrow hlies hglt
           have HNI : Hid (LtI S w w.heap.size (q + 1) (P ++ [((⟨sn, sm⟩ : StP), Value.slice a91 sm.length c91)]) (.slice (some ⟨gr, 0, none⟩) (q + 1) cap1) wd) := by
             refine ⟨by rw [List.length_append, HI.out.pl]; rfl, ?_, HL91.out.bel.grown hgrow HL91.out.bel.size (fun k hk => by have := (HGw.out k hk).1; omega), ?_⟩
             · rw [List.map_append, HI.out.pf, List.take_add_one, HSs.out.1]
               rfl
             · have hadd := HL91.out.ln.add (x := ⟨sn, sm⟩) (ma := a91) (mc := c91) (g := gr) (cap := cap1) (wd := wd) (HM91.out.mono (fun j hj => ⟨by omega, by simp; omega, fun e => by have := (HGw.out j e).2; omega⟩) (fun j hj => Below.heap_alloc _ _ _ hj.2)) (by rw [HI.out.pl]; show wd.ownsRow _ _ _ _ _ (rowS P ++ [.string ⟨sn.toArray⟩, .slice a91 sm.length c91]); rw [HML.out]; exact hown) hgrow (by simpa using hlies)
               rw [HI.out.pl] at hadd
               exact hadd
           clear hown hgrow hlies hglt))
      all_goals
        clear hd0 hd1 hs91 g0 g1
        go_wp2_with fail
        go_roundg (N - (q + 1))
        case measure => exact HM.out.1
        case rel => exact ⟨q + 1, _, _, HM.out.2, rfl, rfl, _, HNI.out⟩
    · have hdq : decide ((q : Int) < (N : Int)) = false := by simp; omega
      have hdn : decide (q < N) = false := by simp; omega
      have hqN : q = N := by omega
      subst hqN
      go_wp2_with fail
      go_ret
      obtain ⟨a', c', hv, hst⟩ := HI.out.ln.in
      rw [HI.out.pl] at hv
      rw [HI.out.pf, ← HN.out.1, List.take_length] at hst
      injection hv with e1 e2 e3
      subst e1 e3
      exact ⟨⟨va, vc, rfl, hst⟩, HI.out.bel⟩
set_option maxHeartbeats 8000000 in
theorem c_kept (S : List StP) (a1 : Option Addr) (c1 : Nat) (a2 : Option Addr) (c2 : Nat) (hS : SzL S) (hSl : S.length * 40 ≤ 140737488351232) (w : World) (h1 : StIn S a1 w) (h2 : StIn S a2 w) :
    Calls Tryz.prog 14 #[.slice a1 S.length c1, .slice a2 S.length c2] w fun e w' => e = .returned (.bool true) ∧ Below w.heap.size w w' := by
  have H1 := Lib.hid (fun w' (hb : Below w.heap.size w w') => h1.next hb)
  have H2 := Lib.hid (fun w' (hb : Below w.heap.size w w') => h2.next hb)
  obtain ⟨N, hN⟩ : ∃ N, S.length = N := ⟨_, rfl⟩
  have HN := Lib.hid (And.intro hN (And.intro hS hSl))
  rw [hN]
  clear hS hSl h1 h2 hN
  go_enter Tryz.func14, Tryz.ntmps14
  go_wp2_with fail
  go_loopg [14] N (fun g v14 wr => ∃ q : Nat, q + g = N ∧ v14 = .int .i64 (q : Int) ∧ Hid (Below w.heap.size w wr))
  case atStart => exact ⟨0, by omega, rfl, Below.refl _ _⟩
  case round =>
    obtain ⟨q, hq, rfl, HR⟩ := hrel
    by_cases hlt : q < N
    · have hd : decide ((q : Int) < (N : Int)) = true := by simp; omega
      have hdn : decide (q < N) = true := by simp; omega
      obtain ⟨s, hs⟩ : ∃ s, S[q]? = some s := ⟨_, List.getElem?_eq_getElem (by have := HN.out.1; omega)⟩
      obtain ⟨gb, gof, hgab, hgb, hrow⟩ := H1.out wr HR.out (by have := HN.out.1; omega)
      obtain ⟨ma, mc, g0, g1, hmm⟩ := hrow q s hs
      obtain ⟨hb', hof, hgab2, hgb2, hrow2⟩ := H2.out wr HR.out (by have := HN.out.1; omega)
      obtain ⟨na, nc, k0, k1, hnn⟩ := hrow2 q s hs
      have hsz := HN.out.2.1 s (List.mem_of_getElem? hs)
      have HM1 := Lib.hid (fun w' (hb : Below wr.heap.size wr w') => hmm.next hb)
      have HM2 := Lib.hid (fun w' (hb : Below wr.heap.size wr w') => hnn.next hb)
      obtain ⟨sn, sm⟩ := s
      simp only at g0 g1 k0 k1 HM1 HM2
      have hML2 : sm.length * 32 ≤ 140737488351232 := hsz.2.2
      obtain ⟨ML, hML⟩ : ∃ ML, sm.length = ML := ⟨_, rfl⟩
      have HML := Lib.hid hML
      rw [hML] at g1 k1 hML2
      have hq0 : (0 : Int) ≤ (q : Int) := by omega
      have hql : (q : Int) < (N : Int) := by omega
      have hwm : IntKind.i64.wrap ((q : Int) + 1) = ((q + 1 : Nat) : Int) := by rw [IntKind.wrap_i64]; have := HN.out.2.2; have := HN.out.1; omega
      have HM : Hid (N - (q + 1) < gk ∧ q + 1 + (N - (q + 1)) = N) := ⟨by omega, by omega⟩
      have HML2 := Lib.hid hML2
      subst hgab hgab2
      clear hrow hs hmm hrow2 hnn hsz hML hML2
      go_wp2_with fail
      go_quiet (fail)
      go_wp2_with fail
      have HP := Lib.hid (And.intro hq0 (And.intro hql hwm))
      have HG := Lib.hid (And.intro g0 (And.intro g1 (And.intro k0 k1)))
      have HGb := Lib.hid (And.intro hgb hgb2)
      clear hq0 hql hwm hd hdn g0 g1 k0 k1 hgb hgb2
      go_loopg [49] ML (fun g v49 wi => ∃ p : Nat, p + g = ML ∧ v49 = .int .i64 (p : Int) ∧ Hid (Below wr.heap.size wr wi))
      case atStart => exact ⟨0, by omega, rfl, below_drewN (Below.refl _ _) _⟩
      case round =>
        obtain ⟨p, hp, rfl, HRi⟩ := hrel
        have e1 := HRi.out.block gb HGb.out.1
        have e2 := HRi.out.block hb' HGb.out.2
        have g1 := (cell_of_blk e1 (gof + q * 2 + 1)).trans HG.out.2.1
        have k1 := (cell_of_blk e2 (hof + q * 2 + 1)).trans HG.out.2.2.2
        clear e1 e2
        by_cases hlt : p < ML
        · have hd : decide ((p : Int) < (ML : Int)) = true := by simp; omega
          have hdn : decide (p < ML) = true := by simp; omega
          obtain ⟨m, hm⟩ : ∃ m, sm[p]? = some m := ⟨_, List.getElem?_eq_getElem (by have := HML.out; omega)⟩
          obtain ⟨mb, mo, hma, hmb, hr1⟩ := HM1.out _ HRi.out (by have := HML.out; omega)
          obtain ⟨nb, no, hna, hnb, hr2⟩ := HM2.out _ HRi.out (by have := HML.out; omega)
          obtain ⟨x0, x1⟩ := hr1 p m hm
          obtain ⟨y0, y1⟩ := hr2 p m hm
          obtain ⟨m1, m2⟩ := m
          simp only at x0 x1 y0 y1
          subst hma hna
          have hp0 : (0 : Int) ≤ (p : Int) := by omega
          have hpl : (p : Int) < (ML : Int) := by omega
          have hq0 := HP.out.1
          have hql := HP.out.2.1
          have hwm : IntKind.i64.wrap ((p : Int) + 1) = ((p + 1 : Nat) : Int) := by rw [IntKind.wrap_i64]; have := HML2.out; omega
          have HMi : Hid (ML - (p + 1) < gk ∧ p + 1 + (ML - (p + 1)) = ML) := ⟨by omega, by omega⟩
          clear hr1 hr2 hm hmb hnb
          go_wp2_with fail
          go_quiet (fail)
          go_wp2_with fail
          go_roundg (ML - (p + 1))
          case measure => exact HMi.out.1
          case rel => exact ⟨p + 1, HMi.out.2, rfl, below_drewN HRi.out _⟩
        · have hd : decide ((p : Int) < (ML : Int)) = false := by simp; omega
          have hdn : decide (p < ML) = false := by simp; omega
          have hwm := HP.out.2.2
          have HBo := Lib.hid (below_on HR.out HRi.out HR.out.size)
          go_wp2_with fail
          go_roundg (N - (q + 1))
          case measure => exact HM.out.1
          case rel => exact ⟨q + 1, HM.out.2, rfl, HBo.out⟩
    · have hd : decide ((q : Int) < (N : Int)) = false := by simp; omega
      have hdn : decide (q < N) = false := by simp; omega
      go_wp2_with fail
      go_ret
      exact ⟨rfl, HR.out⟩
end Go.Proofs.YtacbjhbiaaieoaaGreatDoor
namespace Go.Proofs.YtacbjhbiaaieoaaGreatDoor
set_option linter.unusedVariables false
set_option linter.unusedSimpArgs false
set_option maxRecDepth 100000
open Go.RowKit

set_option maxHeartbeats 8000000 in
theorem c_Checks (B : Nat) (l : List UInt8) (a : Option Addr) (c : Nat) (S : List StP) (w : World) (hE : Env B w) (hB : B ≤ w.heap.size) (hl : l.length ≤ 9223372036854775807) (hS : SzL S) (hr : S.length * 40 ≤ 140737488351232) (hc : S.length ≤ c) (hI : StL S a w) :
    Calls Tryz.prog 3 #[.string ⟨l.toArray⟩, .slice a S.length c] w fun e w' => e = .returned (.bool true) ∧ Below w.heap.size w w' := by
  have up : ∀ w', Below w.heap.size w w' → Env B w' ∧ B ≤ w'.heap.size := fun w' h => ⟨hE.next (h.mono hB), Nat.le_trans hB h.size⟩
  have hl52 : S.length ≤ 4503599627370496 := by omega
  obtain ⟨fm, hfm⟩ : ∃ b, (tk l).isSome = b := ⟨_, rfl⟩
  obtain ⟨f0, f1, hf0, hf1⟩ : ∃ f0 f1 : Int, ((loA S).1 : Int) = f0 ∧ ((loA S).2.1 : Int) = f1 := ⟨_, _, rfl, rfl⟩
  obtain ⟨R, hR⟩ : ∃ R : Int, (chA S l : Int) = R := ⟨_, rfl⟩
  have H0 := Lib.hid (fun w' (h : Below w.heap.size w w') => c_lent S a c hS hr w' (hI.next h))
  have H1 := Lib.hid (fun w' (h : Below w.heap.size w w') a' c' hI' => c_StructsX B S a' c' hS.in hl52 w' (up w' h).1 (up w' h).2 hI')
  have H2 := Lib.hid (fun w' (h : Below w.heap.size w w') a' c' hI' => c_CheckX B S a' c' hS.in hl52 l w' (up w' h).1 (up w' h).2 hl hI')
  have H3 := Lib.hid (fun w' (h : Below w.heap.size w w') => c_Form B l w' (up w' h).1 (up w' h).2 hl)
  have H4 := Lib.hid (fun w' (h : Below w.heap.size w w') => c_rForm l w' hl)
  have H5 := Lib.hid (fun w' (h : Below w.heap.size w w') => c_rStructs S a c hc hS.in hl52 w' (hI.next h).in)
  have H6 := Lib.hid (fun w' (h : Below w.heap.size w w') => c_rCheck S a c hc hS.in hl52 l hl w' (hI.next h).in)
  have H7 := Lib.hid (fun w' (h : Below w.heap.size w w') a' c' hI' => c_kept S a' c' a c hS hr w' hI' (hI.next h).in)
  have HW : Hid (∀ w', Below w.heap.size w w' → Calls Tryz.prog 15 #[] w' fun e w'' => e = .returned (.bool true) ∧ Below w'.heap.size w' w'') := fun w' h => c_works B w' (up w' h).1 (up w' h).2
  rw [hf0, hf1] at H1 H5
  rw [hR] at H2 H6
  rw [hfm] at H3 H4
  obtain ⟨N, hN⟩ : ∃ N, S.length = N := ⟨_, rfl⟩
  rw [hN] at H0 H1 H2 H5 H6 H7 ⊢
  clear up hE hB hl hS hr hc hI hl52 hfm hf0 hf1 hR hN
  go_enter Tryz.func3, Tryz.ntmps3
  go_wp2_with fail
  refine (H0.out _ (Below.refl _ _)).mono ?_
  rintro e w1 ⟨⟨a', c', rfl, hI'⟩, hb⟩
  have HB1 := Lib.hid hb
  have HK := Lib.hid (fun w' (h : Below w1.heap.size w1 w') => hI'.next h)
  clear hb hI'
  go_wp2_with fail
  refine (H1.out _ HB1.out a' c' (HK.out _ (Below.refl _ _))).mono ?_
  rintro e w2 ⟨rfl, hb⟩
  have HK2 := Lib.hid hb
  have HB2 := Lib.hid (below_on HB1.out hb HB1.out.size)
  clear hb
  go_wp2_with fail
  refine (H2.out _ HB2.out a' c' (HK.out _ HK2.out)).mono ?_
  rintro e w3 ⟨rfl, hb⟩
  have HK3 := Lib.hid (below_on HK2.out hb HK2.out.size)
  have HB3 := Lib.hid (below_on HB2.out hb HB2.out.size)
  clear hb
  go_wp2_with fail
  obtain ⟨Y, hY⟩ : ∃ Y, w3.heap.size = Y := ⟨_, rfl⟩
  obtain ⟨Wa, hWa⟩ : ∃ Wa, (w3.alloc (.cells #[.int .i64 f0, .int .i64 f1] 27)).drew = Wa := ⟨_, rfl⟩
  have hz : Wa.heap[Y]? = some (.cells #[.int .i64 f0, .int .i64 f1] 27) := by rw [← hWa, ← hY]; exact heap_alloc_new w3 _
  have HBa : Hid (Below w.heap.size w Wa) := by rw [← hWa]; exact (HB3.out.alloc HB3.out.size _).drew
  have HKa : Hid (Below w1.heap.size w1 Wa) := by rw [← hWa]; exact (HK3.out.alloc HK3.out.size _).drew
  have HK0 : Hid ((fun w' : World => w'.cell? ⟨Y, 0, none⟩ = some (.int .i64 f0) ∧ w'.cell? ⟨Y, 1, none⟩ = some (.int .i64 f1) ∧ Below Wa.heap.size Wa w') Wa) := ⟨by rw [Lib.cell_of_heap hz]; rfl, by rw [Lib.cell_of_heap hz]; rfl, Below.refl _ _⟩
  have HKp : Hid (∀ w' w'', Below w'.heap.size w' w'' → (fun w' : World => w'.cell? ⟨Y, 0, none⟩ = some (.int .i64 f0) ∧ w'.cell? ⟨Y, 1, none⟩ = some (.int .i64 f1) ∧ Below Wa.heap.size Wa w') w' → (fun w' : World => w'.cell? ⟨Y, 0, none⟩ = some (.int .i64 f0) ∧ w'.cell? ⟨Y, 1, none⟩ = some (.int .i64 f1) ∧ Below Wa.heap.size Wa w') w'') := fun w' w'' hb ⟨h0, h1, h5⟩ => by
    have e := hb.block _ (World.block_lt_of_cell? _ ⟨Y, 0, none⟩ h0)
    exact ⟨(cell_of_blk e 0).trans h0, (cell_of_blk e 1).trans h1, below_on h5 hb h5.size⟩
  have HSb : Hid (∀ w', (fun w' : World => w'.cell? ⟨Y, 0, none⟩ = some (.int .i64 f0) ∧ w'.cell? ⟨Y, 1, none⟩ = some (.int .i64 f1) ∧ Below Wa.heap.size Wa w') w' → Below w.heap.size w w') := fun w' h => below_on HBa.out h.2.2 HBa.out.size
  have HSk : Hid (∀ w', (fun w' : World => w'.cell? ⟨Y, 0, none⟩ = some (.int .i64 f0) ∧ w'.cell? ⟨Y, 1, none⟩ = some (.int .i64 f1) ∧ Below Wa.heap.size Wa w') w' → StIn S a' w') := fun w' h => HK.out w' (below_on HKa.out h.2.2 HKa.out.size)
  rw [hY]
  clear hz HB1 HB2 HB3 HK2 HK3
  go_region_held3 (fun w' : World => w'.cell? ⟨Y, 0, none⟩ = some (.int .i64 f0) ∧ w'.cell? ⟨Y, 1, none⟩ = some (.int .i64 f1) ∧ Below Wa.heap.size Wa w')
    (first | (rw [hWa]; exact HK0.out) | exact HKp.out _ _ (by assumption) (by assumption) | assumption)
    (first
      | (go_at_call 10; refine Calls.mono (H3.out _ ?hx) ?_; (case hx => exact HSb.out _ (by assumption)); rintro e w4 ⟨rfl, hb4⟩)
      | (go_at_call 11; refine Calls.mono (H4.out _ ?hx) ?_; (case hx => exact HSb.out _ (by assumption)); rintro e w5 ⟨rfl, hb5⟩)
      | (go_at_call 12; refine Calls.mono (H5.out _ ?hx) ?_; (case hx => exact HSb.out _ (by assumption)); rintro e w6 ⟨rfl, hb6⟩)
      | (go_at_call 13; refine Calls.mono (H6.out _ ?hx) ?_; (case hx => exact HSb.out _ (by assumption)); rintro e w7 ⟨rfl, hb7⟩)
      | (go_at_call 14; refine Calls.mono (H7.out _ ?hx _ _ ?hy) ?_; (case hx => exact HSb.out _ (by assumption)); (case hy => exact HSk.out _ (by assumption)); rintro e w8 ⟨rfl, hb8⟩)
      | (go_at_call 15; refine Calls.mono (HW.out _ ?hx) ?_; (case hx => exact HSb.out _ (by assumption)); rintro e w9 ⟨rfl, hb9⟩))
  all_goals
    go_wp2_with fail
    go_ret
    exact ⟨rfl, HSb.out _ (by assumption)⟩
end Go.Proofs.YtacbjhbiaaieoaaGreatDoor
