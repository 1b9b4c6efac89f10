/-
  The document's put, in the code: the walk.
-/
import Derived.Test.YtbfimedgichiiaaMemPut
import Derived.Test.YtbfimedgichiiaaMemWith
import Derived.Deep.AppendLies
import Derived.Deep.RegionLaw
import Derived.Laws.OwnMore
import Derived.Deep.RegionHeld3
namespace Go.Proofs.Ytbfimedgichiiaa
set_option linter.unusedVariables false
set_option linter.unusedSimpArgs false
set_option maxRecDepth 100000
open Go.ChangeShapes Go.WideShapes Go.ChangeAt Go.RowKit

theorem gC_at2 : ∀ (L : List (Int × Int)) (i : Nat) (x : Int × Int), L[i]? = some x → (gC L)[i * 2]? = some (.int .i64 x.1) ∧ (gC L)[i * 2 + 1]? = some (.int .i64 x.2)
  | g :: L, 0, x, h => by
    simp at h
    subst h
    exact ⟨rfl, rfl⟩
  | g :: L, i + 1, x, h => by
    have ih := gC_at2 L i x (by simpa using h)
    rw [show gC (g :: L) = .int .i64 g.1 :: .int .i64 g.2 :: gC L from by unfold gC; rw [List.flatMap_cons]; rfl, show (i + 1) * 2 = i * 2 + 1 + 1 by omega, show i * 2 + 1 + 1 + 1 = (i * 2 + 1) + 1 + 1 by omega]
    simp only [List.getElem?_cons_succ]
    exact ih

theorem putP_skip {a : Int} : ∀ (k : Nat) (L : List (Int × Int)), (∀ j g, j < k → L[j]? = some g → g.1 + g.2 < a) → k ≤ L.length → putP L a = L.take k ++ putP (L.drop k) a
  | 0, L, _, _ => by simp
  | k + 1, [], _, hk => by simp at hk
  | k + 1, g :: l, h, hk => by
    have hg := h 0 g (by omega) rfl
    have ih := putP_skip k l (fun j x hj hx => h (j + 1) x (by omega) (by simpa using hx)) (by simpa using hk)
    rw [List.take_succ_cons, List.drop_succ_cons, List.cons_append, ← ih]
    conv => lhs; unfold putP
    rw [if_pos hg]
theorem drop_at {α : Type} {L : List α} {k : Nat} {g : α} (h : L[k]? = some g) : L.drop k = g :: L.drop (k + 1) := by
  obtain ⟨hk, rfl⟩ := List.getElem?_eq_some_iff.1 h
  exact List.drop_eq_getElem_cons hk
theorem put_join {L : List (Int × Int)} {a f s : Int} {k : Nat} (hs : putP L a = L.take k ++ putP (L.drop k) a) (hk : L[k]? = some (f, s)) (he : f + s = a) (hn : ∀ q, L[k + 1]? = some q → q.1 ≠ a + 1) : putP L a = L.take k ++ (f, s + 1) :: L.drop (k + 1) := by
  rw [hs, drop_at hk]
  unfold putP
  rw [if_neg (by simp only; omega), if_pos he]
  congr 1
  cases hd : L.drop (k + 1) with
  | nil => rfl
  | cons q m =>
    have hq : L[k + 1]? = some q := by
      have := congrArg (fun l => l[0]?) hd
      simp only [List.getElem?_drop] at this
      simpa using this
    simp only
    rw [if_neg (hn q hq)]
theorem put_join2 {L : List (Int × Int)} {a f s q r : Int} {k : Nat} (hs : putP L a = L.take k ++ putP (L.drop k) a) (hk : L[k]? = some (f, s)) (he : f + s = a) (hq : L[k + 1]? = some (q, r)) (hn : q = a + 1) : putP L a = L.take k ++ (f, s + 1 + r) :: L.drop (k + 2) := by
  rw [hs, drop_at hk, drop_at hq]
  unfold putP
  rw [if_neg (by simp only; omega), if_pos he]
  simp only
  rw [if_pos hn]
theorem put_ahead {L : List (Int × Int)} {a f s : Int} {k : Nat} (hs : putP L a = L.take k ++ putP (L.drop k) a) (hk : L[k]? = some (f, s)) (h1 : ¬ f + s < a) (h2 : f + s ≠ a) (hn : f = a + 1) : putP L a = L.take k ++ (a, s + 1) :: L.drop (k + 1) := by
  rw [hs, drop_at hk]
  unfold putP
  rw [if_neg h1, if_neg h2, if_pos hn]
theorem put_in {L : List (Int × Int)} {a f s : Int} {k : Nat} (hs : putP L a = L.take k ++ putP (L.drop k) a) (hk : L[k]? = some (f, s)) (h1 : ¬ f + s < a) (h2 : f + s ≠ a) (hn : f ≠ a + 1) : putP L a = L.take k ++ (a, 1) :: L.drop k := by
  rw [hs, drop_at hk]
  conv => lhs; unfold putP
  rw [if_neg h1, if_neg h2, if_neg hn]
theorem put_end {L : List (Int × Int)} {a : Int} {k : Nat} (hs : putP L a = L.take k ++ putP (L.drop k) a) (hk : L.length ≤ k) : putP L a = L.take k ++ (a, 1) :: L.drop k := by
  rw [hs, List.drop_eq_nil_of_le hk]
  rfl
theorem gC_take (L : List (Int × Int)) (k : Nat) (hk : k ≤ L.length) : (gC L).take (k * 2) = gC (L.take k) := by
  conv => lhs; rw [← List.take_append_drop k L]
  rw [gC_app, List.take_append_of_le_length (by rw [gC_len, List.length_take]; omega), List.take_of_length_le (by rw [gC_len, List.length_take]; omega)]
theorem gC_drop (L : List (Int × Int)) (k : Nat) (hk : k ≤ L.length) : (gC L).drop (k * 2) = gC (L.drop k) := by
  conv => lhs; rw [← List.take_append_drop k L]
  have hl : (gC (L.take k)).length = k * 2 := by rw [gC_len, List.length_take]; omega
  rw [gC_app, List.drop_append, hl, Nat.sub_self, List.drop_of_length_le (by omega)]
  rfl
theorem gC_cons (g : Int × Int) (L : List (Int × Int)) : gC (g :: L) = .int .i64 g.1 :: .int .i64 g.2 :: gC L := by
  unfold gC
  rw [List.flatMap_cons]
  rfl
/-- One gap is written. -/
theorem gC_set0 {L : List (Int × Int)} {k : Nat} {f s : Int} (h : L[k]? = some (f, s)) (t : Int) : (gC L).set (k * 2) (.int .i64 t) = gC (L.take k ++ (t, s) :: L.drop (k + 1)) := by
  have hk := (List.getElem?_eq_some_iff.1 h).1
  have hl : (gC (L.take k)).length = k * 2 := by rw [gC_len, List.length_take]; omega
  conv => lhs; rw [← List.take_append_drop k L, drop_at h]
  rw [gC_app, gC_app, List.set_append_right _ _ (by omega), hl, Nat.sub_self, gC_cons, gC_cons]
  rfl
theorem gC_set1 {L : List (Int × Int)} {k : Nat} {f s : Int} (h : L[k]? = some (f, s)) (t : Int) : (gC L).set (k * 2 + 1) (.int .i64 t) = gC (L.take k ++ (f, t) :: L.drop (k + 1)) := by
  have hk := (List.getElem?_eq_some_iff.1 h).1
  have hl : (gC (L.take k)).length = k * 2 := by rw [gC_len, List.length_take]; omega
  conv => lhs; rw [← List.take_append_drop k L, drop_at h]
  rw [gC_app, gC_app, List.set_append_right _ _ (by omega), hl, show k * 2 + 1 - k * 2 = 1 by omega, gC_cons, gC_cons]
  rfl
theorem len_set {L : List (Int × Int)} {k : Nat} {g : Int × Int} (h : L[k]? = some g) (x : Int × Int) : (L.take k ++ x :: L.drop (k + 1)).length = L.length := by
  have hk := (List.getElem?_eq_some_iff.1 h).1
  simp
  omega
theorem at_set {L : List (Int × Int)} {k : Nat} {g : Int × Int} (h : L[k]? = some g) (x : Int × Int) : (L.take k ++ x :: L.drop (k + 1))[k]? = some x := by
  have hk := (List.getElem?_eq_some_iff.1 h).1
  rw [List.getElem?_append_right (by simp; omega)]
  simp [show min k L.length = k by omega]
theorem set_set {L : List (Int × Int)} {k : Nat} {g : Int × Int} (h : L[k]? = some g) (x y : Int × Int) : (L.take k ++ x :: L.drop (k + 1)).take k ++ y :: (L.take k ++ x :: L.drop (k + 1)).drop (k + 1) = L.take k ++ y :: L.drop (k + 1) := by
  have hk := (List.getElem?_eq_some_iff.1 h).1
  have hl : (L.take k).length = k := by simp; omega
  rw [List.take_append_of_le_length (by omega), List.take_of_length_le (by omega), List.drop_append, hl, List.drop_of_length_le (by omega), show k + 1 - k = 1 by omega]
  rfl
theorem set_cut {L : List (Int × Int)} {k : Nat} {g : Int × Int} (h : L[k]? = some g) (x : Int × Int) : (L.take k ++ x :: L.drop (k + 1)).take (k + 1) ++ (L.take k ++ x :: L.drop (k + 1)).drop (k + 2) = L.take k ++ x :: L.drop (k + 2) := by
  have hk := (List.getElem?_eq_some_iff.1 h).1
  have hl : (L.take k).length = k := by simp; omega
  rw [List.take_append, List.drop_append, hl, List.take_of_length_le (l := L.take k) (by omega), List.drop_of_length_le (l := L.take k) (by omega), show k + 1 - k = 1 by omega, show k + 2 - k = 2 by omega]
  simp
/-- A list of gaps in a row. -/
def GLs (w : World) (base g cap : Nat) (L : List (Int × Int)) : Prop := GL w base (.slice (some ⟨g, 0, none⟩) L.length cap) L
theorem GLs.cap {w : World} {base g cap : Nat} {L : List (Int × Int)} (h : GLs w base g cap L) : L.length ≤ cap ∧ base ≤ g ∧ g < w.heap.size ∧ cap ≤ maxLen := by
  rcases h.2 with ⟨h', _⟩ | ⟨g', cap', cur, h', hb, hh, hle, hm, _⟩
  · cases h'
  · injection h' with h1 h2 h3
    injection h1 with h1
    injection h1 with h1
    subst h1 h3
    exact ⟨hle, hb, (Array.getElem?_eq_some_iff.1 hh).1, hm⟩
theorem GLs.at {w : World} {base g cap : Nat} {L : List (Int × Int)} (h : GLs w base g cap L) {k : Nat} {x : Int × Int} (hk : L[k]? = some x) : w.cell? ⟨g, k * 2, none⟩ = some (.int .i64 x.1) ∧ w.cell? ⟨g, k * 2 + 1, none⟩ = some (.int .i64 x.2) := by
  have hl := (List.getElem?_eq_some_iff.1 hk).1
  obtain ⟨e1, e2⟩ := gC_at2 L k x hk
  exact ⟨(World.ownsRow.cellAt h _ (by omega)).trans e1, (World.ownsRow.cellAt h _ (by omega)).trans e2⟩
theorem GLs.fz {w : World} {base g cap : Nat} {L : List (Int × Int)} (h : GLs w base g cap L) (k : Nat) : w.frozen? ⟨g, k, none⟩ = false := World.ownsRow.frozenAt h k
theorem GLs.bl {w w' : World} {base g cap : Nat} {L : List (Int × Int)} (h : GLs w base g cap L) (hb : Below w.heap.size w w') : GLs w' base g cap L := GL.bl h hb
theorem GLs.set0 {w : World} {base g cap : Nat} {L : List (Int × Int)} (h : GLs w base g cap L) {k : Nat} {f s : Int} (hk : L[k]? = some (f, s)) (t : Int) : GLs (w.setCell ⟨g, k * 2, none⟩ (.int .i64 t)) base g cap (L.take k ++ (t, s) :: L.drop (k + 1)) ∧ w.grownBy (w.setCell ⟨g, k * 2, none⟩ (.int .i64 t)) (some g) := by
  have := World.ownsRow.stored h (k * 2) (.int .i64 t)
  rw [gC_set0 hk] at this
  unfold GLs GL
  rw [len_set hk]
  exact this
theorem GLs.set1 {w : World} {base g cap : Nat} {L : List (Int × Int)} (h : GLs w base g cap L) {k : Nat} {f s : Int} (hk : L[k]? = some (f, s)) (t : Int) : GLs (w.setCell ⟨g, k * 2 + 1, none⟩ (.int .i64 t)) base g cap (L.take k ++ (f, t) :: L.drop (k + 1)) ∧ w.grownBy (w.setCell ⟨g, k * 2 + 1, none⟩ (.int .i64 t)) (some g) := by
  have := World.ownsRow.stored h (k * 2 + 1) (.int .i64 t)
  rw [gC_set1 hk] at this
  unfold GLs GL
  rw [len_set hk]
  exact this
/-- The front of a row. -/
theorem GLs.front {w : World} {base g cap : Nat} {L : List (Int × Int)} (h : GLs w base g cap L) {k : Nat} (hk : k ≤ L.length) : w.ownsRow base 57 2 (.slice (some ⟨g, 0, none⟩) k cap) k (gC (L.take k)) := by
  refine ⟨by rw [gC_len, List.length_take]; omega, ?_⟩
  rcases h.2 with ⟨h', _⟩ | ⟨g', cap', cur, h', hb, hh, hle, hm, hs, ht⟩
  · cases h'
  · injection h' with h1 h2 h3
    injection h1 with h1
    injection h1 with h1
    subst h1 h3
    refine .inr ⟨g, cap, cur, rfl, hb, hh, by omega, hm, hs, ?_⟩
    rw [← gC_take L k hk, ← ht, List.take_take]
    congr 1
    omega
/-- The rest of a row, as what is appended. -/
theorem GLs.news {w : World} {base g cap : Nat} {L : List (Int × Int)} (h : GLs w base g cap L) (k : Nat) : ∀ (j : Nat) (u : Value), (gC (L.drop k))[j]? = some u → w.cell? ((⟨g, k * 2, none⟩ : Addr).add j) = some u := by
  intro j u hu
  rcases Nat.lt_or_ge L.length k with hk | hk
  · rw [List.drop_eq_nil_of_le (by omega)] at hu
    simp [gC] at hu
  · rw [← gC_drop L k hk, List.getElem?_drop] at hu
    have hj := (List.getElem?_eq_some_iff.1 hu).1
    rw [gC_len] at hj
    have hadd : (⟨g, k * 2, none⟩ : Addr).add j = ⟨g, k * 2 + j, none⟩ := by unfold Addr.add; split <;> simp_all
    rw [hadd]
    exact (World.ownsRow.cellAt h _ (by omega)).trans hu
/-- From a row to a row: but for the first one, what stood stands. -/
def CRg (w w' : World) (g g' : Nat) : Prop := Fr (fun b => b = g) w w' ∧ (g' = g ∨ w.heap.size ≤ g')
theorem CRg.of_below {w w' : World} (g : Nat) (h : Below w.heap.size w w') : CRg w w' g g := ⟨Fr.of_below h, .inl rfl⟩
theorem CRg.grown {w w1 w2 : World} {g g' : Nat} (h : Below w.heap.size w w1) (k : w1.grownBy w2 (some g)) (e : g' = g ∨ g' = w1.heap.size) : CRg w w2 g g' := by
  have hs := h.size
  refine ⟨(Fr.of_below h).trans (Fr.of_grown k rfl), ?_⟩
  rcases e with e | e
  · exact .inl e
  · exact .inr (by omega)
theorem CRg.more {w w1 w2 : World} {g g' : Nat} (h : CRg w w1 g g) (k : w1.grownBy w2 (some g)) (e : g' = g ∨ g' = w1.heap.size) : CRg w w2 g g' := by
  have hs := h.1.size
  refine ⟨h.1.trans (Fr.of_grown k rfl), ?_⟩
  rcases e with e | e
  · exact .inl e
  · exact .inr (by omega)
theorem putP_pos (a : Int) (L : List (Int × Int)) : 0 < (putP L a).length := by
  cases L with
  | nil => simp [putP]
  | cons g l =>
    unfold putP
    split
    · simp
    · split
      · split
        · simp
        · split <;> simp
      · split <;> simp
/-- What put answers. -/
def PutY (w w' : World) (base g : Nat) (L : List (Int × Int)) (a : Int) (e : Ending) : Prop := ∃ g' cap', e = .returned (.slice (some ⟨g', 0, none⟩) (putP L a).length cap') ∧ GLs w' base g' cap' (putP L a) ∧ CRg w w' g g'
theorem PutY.mk {w w' : World} {base g : Nat} {L M : List (Int × Int)} {a : Int} {g' n cap' : Nat} (hM : putP L a = M) (hn : M.length = n) (h1 : GLs w' base g' cap' M) (h2 : CRg w w' g g') : PutY w w' base g L a (.returned (.slice (some ⟨g', 0, none⟩) n cap')) :=
  ⟨g', cap', by rw [hM, hn], by rw [hM]; exact h1, h2⟩
theorem GLs.of_own {w : World} {base g cap m : Nat} {A B : List (Int × Int)} (h : w.ownsRow base 57 2 (.slice (some ⟨g, 0, none⟩) m cap) m (gC A ++ gC B)) : (A ++ B).length = m ∧ GLs w base g cap (A ++ B) := by
  have hl := h.1
  rw [List.length_append, gC_len, gC_len] at hl
  have e : (A ++ B).length = m := by rw [List.length_append]; omega
  refine ⟨e, ?_⟩
  unfold GLs GL
  rw [e, gC_app]
  exact h
theorem PutY.app {w w3 w4 : World} {base g : Nat} {L A B : List (Int × Int)} {a : Int} {g4 m cap4 : Nat} (hM : putP L a = A ++ B) (hown : w4.ownsRow base 57 2 (.slice (some ⟨g4, 0, none⟩) m cap4) m (gC A ++ gC B)) (hC : CRg w w3 g g) (hg : w3.grownBy w4 (some g)) (hat : g4 = g ∨ g4 = w3.heap.size) :
    PutY w w4 base g L a (.returned (.slice (some ⟨g4, 0, none⟩) m cap4)) :=
  PutY.mk hM (GLs.of_own hown).1 (GLs.of_own hown).2 (hC.more hg hat)
/-- append at a step of a region that draws its order: what comes out holds at least one. -/
theorem step_app {P : Program} (w : World) {ops : Array Oper} {o : Oper} {a : Act} {K : Act → World → Prop} {Q : Exit → Act → World → Prop} {E : Prop} (hgd : o.guard = none) (s x : Operand) (t : TypeId)
    (ho : o.op = .call { callee := .builtin .append, args := #[s, x], argTypes := #[t, t] })
    (base : Nat) (e : TypeId) (i : TypeInfo) (z : Value) (size bytes : Nat) (ht : P.underlying t = some (.slice e)) (hi : P.info? e = some i) (hz : i.zero = some z)
    (hsize : i.size = size) (hby : i.bytes = bytes) (hzs : z.cells.size = size) (hsz : 0 < size)
    (v : Value) (n : Nat) (xs : List Value) (hs : a.eval s = v) (hown : w.ownsRow base e size v n xs)
    (ad : Addr) (m c : Nat) (news : List Value) (hx : a.eval x = .slice (some ad) m c) (hl : news.length = m * size) (hnews : ∀ j u, news[j]? = some u → w.cell? (ad.add j) = some u) (h1 : ∀ u ∈ news, u.oneCell' = true)
    (hm : 0 < n + m) (h63 : n + m ≤ maxLen) (hbytes : (n + m) * bytes ≤ 140737488355328) (hbase : base ≤ w.heap.size)
    (h : ∀ g cap w', w'.ownsRow base e size (.slice (some ⟨g, 0, none⟩) (n + m) cap) (n + m) (xs ++ news) → w.grownBy w' v.ownBlock → (v.ownBlock = some g ∨ g = w.heap.size) → K (a.put o.dst (.slice (some ⟨g, 0, none⟩) (n + m) cap)) w') :
    if Region.wanted o (yielded ops a.tmps) = true then Oper.wp P o a w K Q else E := by
  have hw : Region.wanted o (yielded ops a.tmps) = true := by simp [Region.wanted, hgd]
  rw [if_pos hw]
  obtain ⟨v', w', hr, h2, h3, _, h5⟩ := run_append_own_at (P := P) w base t o.type e i z size bytes ht hi hz hsize hby hzs hsz v n xs hown ad m c news hl hnews h1 h63 hbytes hbase
  obtain ⟨g, cap, rfl, _, hlt⟩ := h2.form hm
  unfold Oper.wp execOp
  simp only [ho, resolve, invoke, builtin, Sem.run_bind, Sem.run_pure, Result.andThen_ok, List.map_toArray, List.map_cons, List.map_nil, hs, hx, hr]
  refine h g cap w' h2 h3 ?_
  rcases h5 with h5 | h5
  · exact .inl (by rw [← h5]; rfl)
  · exact .inr (by simpa [Value.ownBlock] using h5)
end Go.Proofs.Ytbfimedgichiiaa
namespace Go.Proofs.Ytbfimedgichiiaa
set_option linter.unusedVariables false
set_option linter.unusedSimpArgs false
set_option maxRecDepth 100000
open Go.ChangeShapes Go.WideShapes Go.ChangeAt Go.RowKit
set_option maxHeartbeats 4000000 in
theorem c_put (g cap : Nat) (L : List (Int × Int)) (a top : Int) (base : Nat) (w : World) (hG : GLs w base g cap L) (hW : Wf 0 L top) (hh : top ≤ 4294967296) (h0 : 0 ≤ a) (h1 : a ≤ 4294967296) (hb : base ≤ w.heap.size) :
    Calls Try.prog 49 #[.slice (some ⟨g, 0, none⟩) L.length cap, .int .i64 a] w fun e w' => PutY w w' base g L a e := by
  have HG := Lib.hid hG
  have HW := Lib.hid hW
  obtain ⟨hc0, hgb, hgl, hc1⟩ := hG.cap
  have HBs := Lib.hid (And.intro hgb (And.intro hgl hb))
  have HCm := Lib.hid hc1
  have hlen := hW.len0
  have hn2 : L.length ≤ 4294967296 := by omega
  clear hG hW hgb hgl hb hc1 hlen
  obtain ⟨i0, hi, hz0, hz1, hz2⟩ := info_parts infoGp
  obtain ⟨n, hn⟩ : ∃ n, L.length = n := ⟨_, rfl⟩
  have HN := Lib.hid hn
  rw [hn] at hc0 hn2
  rw [hn]
  clear hn
  go_enter Try.func49, Try.ntmps49
  go_wp2_with fail
  go_loopw [5] (fun i wr => ∃ k : Nat, k ≤ n ∧ i = .int .i64 k ∧ Hid (∀ j x, j < k → L[j]? = some x → x.1 + x.2 < a) ∧ Hid (Below w.heap.size w wr)) (fun i _ => n - (intOf i).toNat)
  case atStart => exact ⟨0, Nat.zero_le _, rfl, fun j x hj => by omega, Below.refl _ _⟩
  case round =>
    obtain ⟨k, hk, rfl, HS, HB⟩ := hrel
    have HX : Hid (∀ m, Below w.heap.size w (wr.drewN m)) := fun m => below_drewN HB.out m
    have HPs : Hid (putP L a = L.take k ++ putP (L.drop k) a) := putP_skip k L (fun j x hj hx => HS.out j x hj hx) (by have := HN.out; omega)
    by_cases hlt : k < n
    · obtain ⟨⟨f, s⟩, hx⟩ : ∃ x, L[k]? = some x := ⟨_, List.getElem?_eq_getElem (by have := HN.out; omega)⟩
      obtain ⟨c0, c1⟩ := (HG.out.bl HB.out).at hx
      have hm := HW.out.mem _ (List.mem_of_getElem? hx)
      obtain ⟨m1, m2, m3⟩ := hm
      simp only at c0 c1 m1 m2 m3
      have HXk := Lib.hid hx
      have hk0 : (0 : Int) ≤ (k : Int) := by omega
      have hk1 : (k : Int) < (n : Int) := by omega
      have hfs0 : 0 ≤ f + s := by omega
      have hfs1 : f + s ≤ 4294967296 := by omega
      clear hx m3
      by_cases h2 : f + s < a
      · have d1 : decide (f + s < a) = true := by simp [h2]
        have HS' : Hid (∀ j x, j < k + 1 → L[j]? = some x → x.1 + x.2 < a) := fun j x hj hx => by
          by_cases e : j = k
          · subst e
            rw [HXk.out] at hx
            injection hx with hx
            subst hx
            exact h2
          · exact HS.out j x (by omega) hx
        clear h2
        go_wp2_with fail
        go_quiet (fail)
        go_wp2_with fail
        go_roundw
        case rel => exact ⟨k + 1, by omega, by go_num, HS', HX.out _⟩
        case measure => simp [intOf]; omega
      · have d1 : decide (f + s < a) = false := by simp; omega
        go_wp2_with fail
        go_quiet (fail)
        by_cases h3 : f + s = a
        · have d2 : (f + s == a) = true := by simp [h3]
          have HE := Lib.hid (And.intro h2 h3)
          have hfz : wr.frozen? ⟨g, k * 2 + 1, none⟩ = false := (HG.out.bl HB.out).fz _
          have HP1 : Hid (∀ q, GLs ((wr.drewN q).setCell ⟨g, k * 2 + 1, none⟩ (.int .i64 (s + 1))) base g cap (L.take k ++ (f, s + 1) :: L.drop (k + 1)) ∧ CRg w ((wr.drewN q).setCell ⟨g, k * 2 + 1, none⟩ (.int .i64 (s + 1))) g g) := fun q => by
            have h := (HG.out.bl (HX.out q)).set1 HXk.out (s + 1)
            exact ⟨h.1, CRg.grown (HX.out q) h.2 (.inl rfl)⟩
          have HLn : Hid ((L.take k ++ (f, s + 1) :: L.drop (k + 1)).length = n) := (len_set HXk.out _).trans HN.out
          clear h2 d1
          by_cases h4 : k + 1 < n
          · obtain ⟨⟨q, r⟩, hx2⟩ : ∃ x, L[k + 1]? = some x := ⟨_, List.getElem?_eq_getElem (by have := HN.out; omega)⟩
            obtain ⟨e0, e1⟩ := (HG.out.bl HB.out).at hx2
            obtain ⟨n1, n2, n3⟩ := HW.out.mem _ (List.mem_of_getElem? hx2)
            simp only at e0 e1 n1 n2 n3
            have HXq := Lib.hid hx2
            have h4i : (k : Int) + 1 < (n : Int) := by omega
            by_cases h5 : q = a + 1
            · have d5 : (q == a + 1) = true := by simp [h5]
              clear hx2
              go_wp2_with fail
              go_quiet (fail)
              go_wp2_with fail
              generalize hw2 : World.setCell _ _ _ = w2
              have HP2 : Hid (GLs w2 base g cap (L.take k ++ (f, s + 1) :: L.drop (k + 1)) ∧ CRg w w2 g g) := by rw [← hw2]; exact HP1.out _
              have hat1 : (L.take k ++ (f, s + 1) :: L.drop (k + 1))[k]? = some (f, s + 1) := at_set HXk.out _
              have hat2 : (L.take k ++ (f, s + 1) :: L.drop (k + 1))[k + 1]? = some (q, r) := by
                have hkl := (List.getElem?_eq_some_iff.1 HXk.out).1
                rw [List.getElem?_append_right (by simp; omega), show k + 1 - (L.take k).length = 1 by simp; omega]
                simp only [List.getElem?_cons_succ, List.getElem?_drop]
                exact HXq.out
              have g1 := (HP2.out.1.at hat1).2
              have g2 := (HP2.out.1.at hat2).2
              have gf := HP2.out.1.fz (k * 2 + 1)
              have HA1 := Lib.hid hat1
              have hsr : s + 1 + r ≤ 4294967296 := by omega
              simp only at g1 g2
              have hwr : IntKind.i64.wrap ((k : Int) + 1) = (k : Int) + 1 := Go.IntWalk.i64_in _ (by omega)
              have hp0 : (0 : Int) ≤ (k : Int) + 1 := by omega
              have hp2 : ((k : Int) + 1).toNat = k + 1 := by omega
              clear hw2 c0 c1 e0 e1 hfz hat1 hat2 d2
              go_region_law (fail)
              all_goals
                go_wp2_with fail
                have hsrw : IntKind.i64.wrap (s + 1 + r) = s + 1 + r := Go.IntWalk.i64_in _ (by omega)
                rw [hsrw]
                generalize hw3 : World.drew _ = w3
                have HP3 : Hid (GLs w3 base g cap (L.take k ++ (f, s + 1 + r) :: L.drop (k + 1)) ∧ CRg w w3 g g) := by
                  have h := HP2.out.1.set1 HA1.out (s + 1 + r)
                  rw [set_set HXk.out] at h
                  rw [← hw3]
                  exact ⟨h.1.bl (Below.refl _ _).drew, HP2.out.2.1.trans ((Fr.of_grown (M := fun b => b = g) h.2 rfl).trans (Fr.of_below (Below.refl _ _).drew)), .inl rfl⟩
                have HM : Hid (putP L a = (L.take k ++ (f, s + 1 + r) :: L.drop (k + 1)).take (k + 1) ++ (L.take k ++ (f, s + 1 + r) :: L.drop (k + 1)).drop (k + 2)) := by
                  show _ = _
                  rw [set_cut HXk.out]
                  exact put_join2 HPs.out HXk.out h3 HXq.out h5
                have HL2 : Hid ((L.take k ++ (f, s + 1 + r) :: L.drop (k + 1)).length = n) := (len_set HXk.out _).trans HN.out
                generalize L.take k ++ (f, s + 1 + r) :: L.drop (k + 1) = L2 at HP3 HM HL2
                obtain ⟨A, hA, HNw⟩ : ∃ A : Addr, (if cap = k + 2 then some (⟨g, 0, none⟩ : Addr) else some ⟨g, (k + 2) * 2, none⟩) = some A ∧ Hid (∀ (j : Nat) (u : Value), (gC (L2.drop (k + 2)))[j]? = some u → w3.drew.cell? (A.add j) = some u) := by
                  by_cases e : cap = k + 2
                  · refine ⟨⟨g, 0, none⟩, by simp [e], fun j u hu => ?_⟩
                    rw [List.drop_eq_nil_of_le (by have := HL2.out; omega)] at hu
                    simp [gC] at hu
                  · exact ⟨⟨g, (k + 2) * 2, none⟩, by simp [e], (HP3.out.1.bl (Below.refl _ _).drew).news (k + 2)⟩
                have HF : Hid (w3.drew.ownsRow base 57 2 (.slice (some ⟨g, 0, none⟩) (k + 1) cap) (k + 1) (gC (L2.take (k + 1)))) := (HP3.out.1.bl (Below.refl _ _).drew).front (by have := HL2.out; omega)
                have HNl : Hid ((gC (L2.drop (k + 2))).length = (n - (k + 2)) * 2) := by show _ = _; rw [gC_len, List.length_drop, HL2.out]
                have HB3 : Hid (base ≤ w3.drew.heap.size) := by
                  have := HP3.out.1.cap
                  show base ≤ w3.heap.size
                  omega
                have hwr2 : IntKind.i64.wrap ((k : Int) + 2) = (k : Int) + 2 := Go.IntWalk.i64_in _ (by omega)
                have hq0 : (0 : Int) ≤ (k : Int) + 2 := by omega
                have hq1 : (k : Int) + 2 ≤ (n : Int) := by omega
                have hq2 : ((k : Int) + 2).toNat = k + 2 := by omega
                have hc2 : (k : Int) + 1 ≤ (cap : Int) := by omega
                clear hw3 g1 g2 gf hsrw
                go_region_law (refine step_app _ (by rfl) _ _ _ (by rfl) base 57 i0 _ 2 16 Try.underlying44 hi hz0 hz1 hz2 rfl (by decide) (.slice (some ⟨g, 0, none⟩) (k + 1) cap) (k + 1) (gC (L2.take (k + 1))) (by simp [Act.eval, Act.put]) HF.out A (n - (k + 2)) (cap - (k + 2)) (gC (L2.drop (k + 2))) (by simp [Act.eval, Act.put]) HNl.out HNw.out (gC_one _) (by omega) (by unfold maxLen; omega) (by omega) HB3.out ?_; intro g4 cap4 w4 hown4 hgrow4 hat4)
                go_wp2_with fail
                go_ret
                have hat5 : g4 = g ∨ g4 = w3.drew.heap.size := by
                  rcases hat4 with h | h
                  · exact .inl (by injection h with h; exact h.symm)
                  · exact .inr h
                exact PutY.app HM.out hown4 ⟨HP3.out.2.1.trans (Fr.of_below (Below.refl _ _).drew), .inl rfl⟩ hgrow4 hat5
            · have d5 : (q == a + 1) = false := by simp [h5]
              have HM : Hid (putP L a = L.take k ++ (f, s + 1) :: L.drop (k + 1)) := put_join HPs.out HXk.out h3 (fun x hx => by rw [HXq.out] at hx; injection hx with hx; subst hx; exact h5)
              clear hx2 h5
              go_wp2_with fail
              go_quiet (fail)
              go_wp2_with fail
              go_ret
              exact PutY.mk HM.out HLn.out (HP1.out _).1 (HP1.out _).2
          · have HM : Hid (putP L a = L.take k ++ (f, s + 1) :: L.drop (k + 1)) := put_join HPs.out HXk.out h3 (fun x hx => by have := (List.getElem?_eq_some_iff.1 hx).1; have := HN.out; omega)
            have d4 : decide ((k : Int) + 1 < (n : Int)) = false := by simp; omega
            clear h4
            go_wp2_with fail
            go_quiet (fail)
            go_wp2_with fail
            go_ret
            exact PutY.mk HM.out HLn.out (HP1.out _).1 (HP1.out _).2
        · have d2 : (f + s == a) = false := by simp [h3]
          have HE := Lib.hid (And.intro h2 h3)
          by_cases h6 : f = a + 1
          · have d6 : (f == a + 1) = true := by simp [h6]
            have HM : Hid (putP L a = L.take k ++ (a, s + 1) :: L.drop (k + 1)) := put_ahead HPs.out HXk.out (Int.not_lt.2 h2) h3 h6
            have HPa : Hid (∀ q, GLs (((wr.drewN q).setCell ⟨g, k * 2, none⟩ (.int .i64 a)).setCell ⟨g, k * 2 + 1, none⟩ (.int .i64 (s + 1))) base g cap (L.take k ++ (a, s + 1) :: L.drop (k + 1)) ∧ CRg w (((wr.drewN q).setCell ⟨g, k * 2, none⟩ (.int .i64 a)).setCell ⟨g, k * 2 + 1, none⟩ (.int .i64 (s + 1))) g g) := fun q => by
              have h := (HG.out.bl (HX.out q)).set0 HXk.out a
              have h' := h.1.set1 (at_set HXk.out (a, s)) (s + 1)
              rw [set_set HXk.out] at h'
              exact ⟨h'.1, (CRg.grown (HX.out q) h.2 (.inl rfl)).more h'.2 (.inl rfl)⟩
            have HLn : Hid ((L.take k ++ (a, s + 1) :: L.drop (k + 1)).length = n) := (len_set HXk.out _).trans HN.out
            have hfz0 : wr.frozen? ⟨g, k * 2, none⟩ = false := (HG.out.bl HB.out).fz _
            have hfz1 : wr.frozen? ⟨g, k * 2 + 1, none⟩ = false := (HG.out.bl HB.out).fz _
            clear h2 h3 h6
            go_wp2_with fail
            go_quiet (fail)
            go_wp2_with fail
            go_ret
            exact PutY.mk HM.out HLn.out (HPa.out _).1 (HPa.out _).2
          · have d6 : (f == a + 1) = false := by simp [h6]
            have HM : Hid (putP L a = L.take k ++ (a, 1) :: L.drop k) := put_in HPs.out HXk.out (Int.not_lt.2 h2) h3 h6
            clear h2 h3 h6
            go_wp2_with fail
            go_quiet (fail)
            go_wp2_with fail
            generalize hw2 : World.drewN _ _ = w2
            have HP2 : Hid (GLs w2 base g cap L ∧ CRg w w2 g g) := by rw [← hw2]; exact ⟨HG.out.bl (HX.out _), CRg.of_below g (HX.out _)⟩
            obtain ⟨A, hA, HNw⟩ : ∃ A : Addr, (if cap = k then some (⟨g, 0, none⟩ : Addr) else some ⟨g, k * 2, none⟩) = some A ∧ Hid (∀ o, ∀ (j : Nat) (u : Value), (gC (L.drop k))[j]? = some u → (w2.drew.alloc o).cell? (A.add j) = some u) := by
              by_cases e : cap = k
              · refine ⟨⟨g, 0, none⟩, by simp [e], fun o j u hu => ?_⟩
                rw [List.drop_eq_nil_of_le (by have := HN.out; omega)] at hu
                simp [gC] at hu
              · exact ⟨⟨g, k * 2, none⟩, by simp [e], fun o => (HP2.out.1.bl (((Below.refl _ _).drew).alloc (Nat.le_refl _) _)).news k⟩
            have HNl : Hid ((gC (L.drop k)).length = (n - k) * 2) := by show _ = _; rw [gC_len, List.length_drop, HN.out]
            have HB3 : Hid (base ≤ w2.heap.size ∧ g < w2.heap.size) := by
              have := HP2.out.1.cap
              exact ⟨by omega, by omega⟩
            have HLit : Hid ((w2.drew.alloc (.cells #[.int .i64 a, .int .i64 1] 57)).ownsRow base 57 2 (.slice (some ⟨w2.heap.size, 0, none⟩) 1 1) 1 [.int .i64 a, .int .i64 1]) := World.ownsRow_lit w2.drew #[.int .i64 a, .int .i64 1] 1 HB3.out.1 (by decide) rfl
            have hkc : (k : Int) ≤ (cap : Int) := by omega
            have hkn : (k : Int) ≤ (n : Int) := by omega
            clear hw2
            go_region_law (first
              | (refine step_app _ (by rfl) _ _ _ (by rfl) base 57 i0 _ 2 16 Try.underlying44 hi hz0 hz1 hz2 rfl (by decide) (.slice (some ⟨w2.heap.size, 0, none⟩) 1 1) 1 [.int .i64 a, .int .i64 1] (by simp [Act.eval, Act.put]) HLit.out A (n - k) (cap - k) (gC (L.drop k)) (by simp [Act.eval, Act.put]) HNl.out (HNw.out _) (gC_one _) (by omega) (by unfold maxLen; omega) (by omega) (by have := HB3.out.1; simp; omega) ?_
                 intro g5 cap5 w5 hown5 hgrow5 hat5
                 have HA5 : Hid (w5.ownsRow base 57 2 (.slice (some ⟨g5, 0, none⟩) (1 + (n - k)) cap5) (1 + (n - k)) (gC ((a, 1) :: L.drop k))) := hown5
                 have HB5 : Hid (Below w2.heap.size w2 w5) := (((Below.refl w2.heap.size w2).drew).alloc (Nat.le_refl _) _).grown hgrow5 (by simp) (fun b hb => by simp [Value.ownBlock] at hb; omega)
                 have HO5 : Hid (GLs w5 base g cap L) := HP2.out.1.bl HB5.out)
              | (refine step_app _ (by rfl) _ _ _ (by rfl) base 57 i0 _ 2 16 Try.underlying44 hi hz0 hz1 hz2 rfl (by decide) (.slice (some ⟨g, 0, none⟩) k cap) k (gC (L.take k)) (by simp [Act.eval, Act.put]) (HO5.out.front (by have := HN.out; omega)) ⟨g5, 0, none⟩ (1 + (n - k)) cap5 (gC ((a, 1) :: L.drop k)) (by simp [Act.eval, Act.put]) HA5.out.1 (HA5.out.cells rfl) (gC_one _) (by omega) (by unfold maxLen; omega) (by omega) (by have := HO5.out.cap; omega) ?_
                 intro g6 cap6 w6 hown6 hgrow6 hat6))
            all_goals
              go_wp2_with fail
              go_ret
              have hat7 : g6 = g ∨ g6 = w5.heap.size := by
                rcases hat6 with h | h
                · exact .inl (by injection h with h; exact h.symm)
                · exact .inr h
              exact PutY.app HM.out hown6 ⟨HP2.out.2.1.trans (Fr.of_below HB5.out), .inl rfl⟩ hgrow6 hat7
    · have HM : Hid (putP L a = L.take k ++ (a, 1) :: L.drop k) := put_end HPs.out (by have := HN.out; omega)
      have d6 : decide ((k : Int) < (n : Int)) = false := by simp; omega
      go_wp2_with fail
      go_quiet (fail)
      go_wp2_with fail
      go_quiet (fail)
      go_wp2_with fail
      generalize hw2 : World.drewN _ _ = w2
      have HP2 : Hid (GLs w2 base g cap L ∧ CRg w w2 g g) := by rw [← hw2]; exact ⟨HG.out.bl (HX.out _), CRg.of_below g (HX.out _)⟩
      obtain ⟨A, hA, HNw⟩ : ∃ A : Addr, (if cap = k then some (⟨g, 0, none⟩ : Addr) else some ⟨g, k * 2, none⟩) = some A ∧ Hid (∀ o, ∀ (j : Nat) (u : Value), (gC (L.drop k))[j]? = some u → (w2.drew.alloc o).cell? (A.add j) = some u) := by
        by_cases e : cap = k
        · refine ⟨⟨g, 0, none⟩, by simp [e], fun o j u hu => ?_⟩
          rw [List.drop_eq_nil_of_le (by have := HN.out; omega)] at hu
          simp [gC] at hu
        · exact ⟨⟨g, k * 2, none⟩, by simp [e], fun o => (HP2.out.1.bl (((Below.refl _ _).drew).alloc (Nat.le_refl _) _)).news k⟩
      have HNl : Hid ((gC (L.drop k)).length = (n - k) * 2) := by show _ = _; rw [gC_len, List.length_drop, HN.out]
      have HB3 : Hid (base ≤ w2.heap.size ∧ g < w2.heap.size) := by
        have := HP2.out.1.cap
        exact ⟨by omega, by omega⟩
      have HLit : Hid ((w2.drew.alloc (.cells #[.int .i64 a, .int .i64 1] 57)).ownsRow base 57 2 (.slice (some ⟨w2.heap.size, 0, none⟩) 1 1) 1 [.int .i64 a, .int .i64 1]) := World.ownsRow_lit w2.drew #[.int .i64 a, .int .i64 1] 1 HB3.out.1 (by decide) rfl
      have hkc : (k : Int) ≤ (cap : Int) := by omega
      have hkn : (k : Int) ≤ (n : Int) := by omega
      clear hw2
      go_region_law (first
        | (refine step_app _ (by rfl) _ _ _ (by rfl) base 57 i0 _ 2 16 Try.underlying44 hi hz0 hz1 hz2 rfl (by decide) (.slice (some ⟨w2.heap.size, 0, none⟩) 1 1) 1 [.int .i64 a, .int .i64 1] (by simp [Act.eval, Act.put]) HLit.out A (n - k) (cap - k) (gC (L.drop k)) (by simp [Act.eval, Act.put]) HNl.out (HNw.out _) (gC_one _) (by omega) (by unfold maxLen; omega) (by omega) (by have := HB3.out.1; simp; omega) ?_
           intro g5 cap5 w5 hown5 hgrow5 hat5
           have HA5 : Hid (w5.ownsRow base 57 2 (.slice (some ⟨g5, 0, none⟩) (1 + (n - k)) cap5) (1 + (n - k)) (gC ((a, 1) :: L.drop k))) := hown5
           have HB5 : Hid (Below w2.heap.size w2 w5) := (((Below.refl w2.heap.size w2).drew).alloc (Nat.le_refl _) _).grown hgrow5 (by simp) (fun b hb => by simp [Value.ownBlock] at hb; omega)
           have HO5 : Hid (GLs w5 base g cap L) := HP2.out.1.bl HB5.out)
        | (refine step_app _ (by rfl) _ _ _ (by rfl) base 57 i0 _ 2 16 Try.underlying44 hi hz0 hz1 hz2 rfl (by decide) (.slice (some ⟨g, 0, none⟩) k cap) k (gC (L.take k)) (by simp [Act.eval, Act.put]) (HO5.out.front (by have := HN.out; omega)) ⟨g5, 0, none⟩ (1 + (n - k)) cap5 (gC ((a, 1) :: L.drop k)) (by simp [Act.eval, Act.put]) HA5.out.1 (HA5.out.cells rfl) (gC_one _) (by omega) (by unfold maxLen; omega) (by omega) (by have := HO5.out.cap; omega) ?_
           intro g6 cap6 w6 hown6 hgrow6 hat6))
      all_goals
        go_wp2_with fail
        go_ret
        have hat7 : g6 = g ∨ g6 = w5.heap.size := by
          rcases hat6 with h | h
          · exact .inl (by injection h with h; exact h.symm)
          · exact .inr h
        exact PutY.app HM.out hown6 ⟨HP2.out.2.1.trans (Fr.of_below HB5.out), .inl rfl⟩ hgrow6 hat7
end Go.Proofs.Ytbfimedgichiiaa
