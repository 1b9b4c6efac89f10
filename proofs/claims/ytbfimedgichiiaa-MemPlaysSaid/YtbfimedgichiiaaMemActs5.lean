/-
  What the rows' frame gives the walk of the law on any calls: slices of acts with their bytes, opened.
-/
import Derived.Test.YtbfimedgichiiaaMemActs
import Derived.Test.YtbfimedgichiiaaMemPlWalk
namespace Go.Proofs.Ytbfimedgichiiaa
set_option linter.unusedVariables false
set_option linter.unusedSimpArgs false
open Go.ChangeShapes Go.WideShapes Go.ChangeAt Go.WideElems Go.RowKit

theorem weightsAll_mem {H : Type} {P : Program} {e : TypeId} : ∀ {ds : List (DataW H)} {j : Nat} {d : DataW H}, ds[j]? = some d → ∀ n ∈ d.weights P e, n ∈ DataW.weightsAll P e ds
  | d0 :: ds, 0, d, hd, n, hn => by
    simp only [List.getElem?_cons_zero, Option.some.injEq] at hd
    subst hd
    simp only [DataW.weightsAll, List.mem_append]
    exact .inl hn
  | d0 :: ds, j + 1, d, hd, n, hn => by
    simp only [List.getElem?_cons_succ] at hd
    simp only [DataW.weightsAll, List.mem_append]
    exact .inr (weightsAll_mem hd n hn)
  | [], _, _, hd, _, _ => by simp at hd
/-- The bytes of an act are within the reach. -/
theorem sized_bytes {H : Type} {ts : List TypeId} {ds : List (DataW H)} (h : (DataW.weightsEach Try.prog ts ds).all (· ≤ reachBytes) = true) {j i : Nat} {es spare : List (DataW H)} (ht : ts[j]? = some 23) (hd : ds[j]? = some (.slice es spare)) {parts bs bspare : List (DataW H)} (he : es[i]? = some (.agg parts)) (hp : parts[4]? = some (.slice bs bspare)) : bs.length ≤ 140737488355328 := by
  have hu : Try.prog.underlying 37 = some (.slice 5) := Try.underlying37
  have hS : Try.prog.underlying 39 = some (.struct (Try.prog.fieldsOf 39)) := by kernel_rfl
  have hA : Try.prog.underlying 23 = some (.slice 39) := Try.underlying23
  have hty : ((Try.prog.fieldsOf 39).toList.map (·.type))[4]? = some 37 := by
    obtain ⟨f4, g4, o4, t4⟩ := act_field 4 _ _ rfl
    rw [List.getElem?_map, Array.getElem?_toList, g4]
    simp [t4]
  have b1 : Try.prog.bytesOf 5 = 1 := by kernel_rfl
  have m1 : (bs.length + bspare.length) * Try.prog.bytesOf 5 ∈ (DataW.slice bs bspare).weights Try.prog 37 := by simp [DataW.weights, hu]
  have m2 := DataW.weights_mem_each hty hp _ m1
  have m3 : (bs.length + bspare.length) * Try.prog.bytesOf 5 ∈ (DataW.agg parts).weights Try.prog 39 := by
    simp only [DataW.weights, hS]
    exact m2
  have m4 := weightsAll_mem he _ m3
  have m5 : (bs.length + bspare.length) * Try.prog.bytesOf 5 ∈ (DataW.slice es spare).weights Try.prog 23 := by
    simp only [DataW.weights, hA, List.mem_cons, List.mem_append]
    exact .inr (.inl m4)
  have h1 := List.all_eq_true.1 h _ (DataW.weights_mem_each ht hd _ m5)
  rw [b1] at h1
  simp at h1
  unfold reachBytes at h1
  omega
/-- Cells that read as an act, with the reading of its bytes. -/
theorem cells_act5 {H : Type} {enc : TypeId × Value → H} {W : World} {base : Nat} {sp : Nat → Bool} {held : Bool} {fuel : Nat} {cs : List Value} {x : DataW H × List MemPlace}
    (h : DataW.trod enc Try.prog W base sp held fuel 39 cs = some x) (hl : cs.length = 5) :
    ∃ (k a n z : Int) (v : Value) (f2 : Nat) (y : DataW H × List MemPlace) (parts : List (DataW H)), cs = [.int .i64 k, .int .u32 a, .int .i64 n, .int .u32 z, v] ∧ ((Lit.int .i64 k).wf = true ∧ (Lit.int .u32 a).wf = true ∧ (Lit.int .i64 n).wf = true ∧ (Lit.int .u32 z).wf = true) ∧ DataW.trod enc Try.prog W base sp held f2 37 [v] = some y ∧ x.1 = .agg parts ∧ parts[4]? = some y.1 := by
  have hS : Try.prog.underlying 39 = some (.struct (Try.prog.fieldsOf 39)) := by kernel_rfl
  have s5 : (Try.prog.fieldsOf 39).size = 5 := by kernel_rfl
  obtain ⟨k, a, n, z, v, rfl, w0, w1, w2, w3, _⟩ := cells_act h hl
  obtain ⟨xs, m, _, hx, hcl, hlen, hg⟩ := DataW.trod_struct hS h
  rw [s5] at hlen
  have cB : Try.prog.cellsOf 37 = 1 := by kernel_rfl
  obtain ⟨f4, g4, o4, t4⟩ := act_field 4 _ _ rfl
  have k4 := hg 4 f4 g4
  rw [o4, t4, cB, List.getElem?_eq_getElem (by omega)] at k4
  refine ⟨k, a, n, z, v, m, xs[4]'(by omega), xs.map (·.1), rfl, ⟨w0, w1, w2, w3⟩, k4, by rw [hx], ?_⟩
  rw [List.getElem?_map, List.getElem?_eq_getElem (by omega)]
  rfl
/-- Bytes that came in. -/
theorem open_bytes {H : Type} {enc : TypeId × Value → H} {W : World} {sp : Nat → Bool} {held : Bool} {fuel : Nat} {v : Value} {y : DataW H × List MemPlace}
    (h : DataW.trod enc Try.prog W 0 sp held fuel 37 [v] = some y) : ∃ (p : Option Addr) (m cap : Nat) (f : Nat → Int), v = .slice p m cap ∧ (p = none → m = 0 ∧ cap = 0) ∧ m ≤ cap ∧ (0 < m → ∃ b off, p = some ⟨b, off, none⟩ ∧ b < W.heap.size ∧ ∀ q, q < m → W.cell? ⟨b, off + q, none⟩ = some (.int .u8 (f q))) ∧ (∀ q, q < m → 0 ≤ f q ∧ f q ≤ 255) ∧ (m = 0 ∨ ∃ bs bspare, y.1 = .slice bs bspare ∧ bs.length = m) := by
  have c1 : Try.prog.cellsOf 5 = 1 := by kernel_rfl
  rcases Go.Deep.open_slice1 Try.underlying37 c1 h with ⟨hcs, _⟩ | ⟨a', len', cap', m, n, V, D, Pl, hcs, hb, hl, hm, hmm, hx, hi⟩
  · simp at hcs
    subst hcs
    exact ⟨none, 0, 0, fun _ => 0, rfl, fun _ => ⟨rfl, rfl⟩, Nat.le_refl _, fun h => by omega, fun q hq => by omega, .inl rfl⟩
  · simp at hcs
    subst hcs
    have hlm : len' ≤ m := by rw [hmm]; split <;> omega
    obtain ⟨b, off, spot⟩ := a'
    have hcell : ∀ q, q < len' → ∃ z, W.cell? ((⟨b, off, spot⟩ : Addr).add q) = some (.int .u8 z) ∧ 0 ≤ z ∧ z ≤ 255 := fun q hq => by
      obtain ⟨e1, e2⟩ := hi q (by omega)
      obtain ⟨z, e3, _, w⟩ := DataW.trod_int Try.underlying5 e2
      simp at e3
      rw [e3] at e1
      refine ⟨z, e1, ?_⟩
      simp only [Lit.wf, IntKind.min, IntKind.max, IntKind.signed, IntKind.bits, Bool.and_eq_true, decide_eq_true_eq] at w
      simp at w
      omega
    by_cases h0 : len' = 0
    · subst h0
      exact ⟨_, 0, cap', fun _ => 0, rfl, fun h => (by cases h), Nat.zero_le _, fun h => by omega, fun q hq => by omega, .inl rfl⟩
    · have hspot : spot = none := by
        obtain ⟨z, hz, _⟩ := hcell 0 (by omega)
        have := World.cell?_spot hz
        simpa [Addr.add] using this
      subst hspot
      have hadd : ∀ q, (⟨b, off, none⟩ : Addr).add q = ⟨b, off + q, none⟩ := by
        intro q
        unfold Addr.add
        split <;> simp_all
      have hk : ∀ q, q < len' → W.cell? ⟨b, off + q, none⟩ = some (.int .u8 (IntW W b (off + q))) ∧ 0 ≤ IntW W b (off + q) ∧ IntW W b (off + q) ≤ 255 := fun q hq => by
        obtain ⟨z, hz, h1, h2⟩ := hcell q hq
        rw [hadd] at hz
        rw [intW hz]
        exact ⟨hz, h1, h2⟩
      exact ⟨_, len', cap', fun q => IntW W b (off + q), rfl, fun h => (by cases h), hl, fun _ => ⟨b, off, rfl, cell_lt (hk 0 (by omega)).1, fun q hq => (hk q hq).1⟩, fun q hq => (hk q hq).2, .inr ⟨_, _, by rw [hx], by simp⟩⟩
theorem choose_fun {α : Type} [Inhabited α] {n : Nat} {p : Nat → α → Prop} (h : ∀ i, i < n → ∃ x, p i x) : ∃ f : Nat → α, ∀ i, i < n → p i (f i) :=
  ⟨fun i => if hi : i < n then (h i hi).choose else default, fun i hi => by simp only [dif_pos hi]; exact (h i hi).choose_spec⟩
structure AcD where
  k : Int
  a : Int
  m : Int
  v : Int
  p : Option Addr
  l : Nat
  cp : Nat
  f : Nat → Int
instance : Inhabited AcD := ⟨⟨0, 0, 0, 0, none, 0, 0, fun _ => 0⟩⟩
/-- A slice of acts that came in, whole. -/
theorem open_acts5 {H : Type} {enc : TypeId × Value → H} {W : World} {sp : Nat → Bool} {held : Bool} {fuel : Nat} {a : Option Addr} {len cap : Nat} {x : DataW H × List MemPlace} {ts : List TypeId} {ds : List (DataW H)} {j : Nat}
    (h : DataW.trod enc Try.prog W 0 sp held fuel 23 (Value.slice a len cap).cells.toList = some x) (hsz : (DataW.weightsEach Try.prog ts ds).all (· ≤ reachBytes) = true) (ht : ts[j]? = some 23) (hd : ds[j]? = some x.1) :
    ∃ K A M V P L Cp F, AcIn W a len cap K A M V P L Cp F ∧ len ≤ maxLen := by
  rcases Go.Deep.open_slice Try.underlying23 h with ⟨hcs, _⟩ | ⟨a', len', cap', m, n, D, Pl, hcs, hb, hl, hm, hmm, hx, hi⟩
  · simp [Value.cells] at hcs
    obtain ⟨rfl, rfl, rfl⟩ := hcs
    exact ⟨fun _ => 0, fun _ => 0, fun _ => 0, fun _ => 0, fun _ => none, fun _ => 0, fun _ => 0, fun _ _ => 0, .inl rfl, Nat.zero_le _⟩
  · simp [Value.cells] at hcs
    obtain ⟨rfl, rfl, rfl⟩ := hcs
    have hlm : len ≤ m := by rw [hmm]; split <;> omega
    by_cases h0 : len = 0
    · exact ⟨fun _ => 0, fun _ => 0, fun _ => 0, fun _ => 0, fun _ => none, fun _ => 0, fun _ => 0, fun _ _ => 0, .inl h0, by omega⟩
    · obtain ⟨b, off, spot⟩ := a'
      have hone : ∀ i, i < len → ∃ d : AcD, (∀ j v, [Value.int .i64 d.k, .int .u32 d.a, .int .i64 d.m, .int .u32 d.v, .slice d.p d.l d.cp][j]? = some v → W.cell? (((⟨b, off, spot⟩ : Addr).add (i * 5)).add j) = some v) ∧
          ((-9223372036854775808 ≤ d.k ∧ d.k ≤ 9223372036854775807) ∧ (0 ≤ d.a ∧ d.a ≤ 4294967295) ∧ (-9223372036854775808 ≤ d.m ∧ d.m ≤ 9223372036854775807) ∧ (0 ≤ d.v ∧ d.v ≤ 4294967295)) ∧ ByIn W W.heap.size d.p d.l d.cp d.f := by
        intro i hil
        obtain ⟨cs', hc, ht'⟩ := hi i (by omega)
        rw [cellsAct] at hc
        obtain ⟨_, hcl, hat⟩ := World.cells?_some hc
        obtain ⟨k, a, n, z, v, f2, y, parts, rfl, ⟨w0, w1, w2, w3⟩, hy, hag, hp4⟩ := cells_act5 ht' hcl
        obtain ⟨p, l, cp, f, rfl, q1, q2, q3, q4, q5⟩ := open_bytes hy
        have hll : l ≤ 140737488355328 := by
          rcases q5 with q5 | ⟨bs, bspare, e1, e2⟩
          · omega
          · rw [← e2]
            refine sized_bytes hsz (j := j) (i := i) (es := (List.range len).map D) ht (by rw [hd, hx]) (parts := parts) ?_ (by rw [hp4, e1])
            rw [List.getElem?_map, List.getElem?_range hil]
            simp only at hag
            simp [hag]
        refine ⟨⟨k, a, n, z, p, l, cp, f⟩, fun j v hv => ?_, ⟨i64_bd _ w0, u32_bd _ w1, i64_bd _ w2, u32_bd _ w3⟩, q1, q2, hll, fun h => q3 h, q4⟩
        have hj : j < 5 := by
          have := (List.getElem?_eq_some_iff.1 hv).1
          simpa using this
        rw [hat j hj, hv]
      obtain ⟨d, hd'⟩ := choose_fun hone
      have hspot : spot = none := by
        have := World.cell?_spot ((hd' 0 (by omega)).1 0 _ rfl)
        simpa [Addr.add] using this
      subst hspot
      have hadd : ∀ i j, ((⟨b, off, none⟩ : Addr).add (i * 5)).add j = ⟨b, off + i * 5 + j, none⟩ := by
        intro i j
        unfold Addr.add
        split <;> split <;> simp_all
      have hcell : ∀ i, i < len → (W.cell? ⟨b, off + i * 5, none⟩ = some (.int .i64 (d i).k) ∧ W.cell? ⟨b, off + i * 5 + 1, none⟩ = some (.int .u32 (d i).a) ∧ W.cell? ⟨b, off + i * 5 + 2, none⟩ = some (.int .i64 (d i).m) ∧ W.cell? ⟨b, off + i * 5 + 3, none⟩ = some (.int .u32 (d i).v) ∧ W.cell? ⟨b, off + i * 5 + 4, none⟩ = some (.slice (d i).p (d i).l (d i).cp)) := fun i hil => by
        have hc := (hd' i hil).1
        have c0 := hc 0 _ rfl
        have c1 := hc 1 _ rfl
        have c2 := hc 2 _ rfl
        have c3 := hc 3 _ rfl
        have c4 := hc 4 _ rfl
        rw [hadd] at c0 c1 c2 c3 c4
        rw [Nat.add_zero] at c0
        exact ⟨c0, c1, c2, c3, c4⟩
      refine ⟨fun i => (d i).k, fun i => (d i).a, fun i => (d i).m, fun i => (d i).v, fun i => (d i).p, fun i => (d i).l, fun i => (d i).cp, fun i => (d i).f, .inr ⟨b, off, rfl, cell_lt (hcell 0 (by omega)).1, hl, fun i hil => ⟨hcell i hil, (hd' i hil).2⟩⟩, ?_⟩
      have hs := sized_slice hsz (j := j) (t := 23) (e := 39) ht (by rw [hd, hx]) Try.underlying23
      rw [bytesAct] at hs
      unfold reachBytes at hs
      unfold maxLen
      simp at hs
      have : len * 56 ≤ (len + (m - len)) * 56 := Nat.mul_le_mul_right _ (by omega)
      omega
end Go.Proofs.Ytbfimedgichiiaa
