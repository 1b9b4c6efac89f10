/-
  Funcs, in the code.
-/
import Derived.Test.YtjadckhngalmlaaGreatDoorZNmFf
import Derived.Test.YtjadckhngalmlaaGreatDoorZNmFi
import Derived.Shelf.SlicesE.Clone
import Derived.Test.YtjadckhngalmlaaGreatDoorZNmPl
namespace Go.Proofs.YtjadckhngalmlaaGreatDoor
set_option linter.unusedVariables false
set_option linter.unusedSimpArgs false
open Go.RowKit

theorem flat_set {css : List (List Value)} {n s k i : Nat} {cs : List Value} {v : Value} {cur : Array Value} {cap : Nat} (hs : cur.size = cap * s) (hn : n ≤ cap) (hcl : css.length = n) (h5 : ∀ c ∈ css, c.length = s) (htake : cur.toList.take (n * s) = css.flatten) (hk : css[k]? = some cs) (hi : i < s) :
    (cur.setIfInBounds (k * s + i) v).toList.take (n * s) = (css.set k (cs.set i v)).flatten := by
  have hkn : k < n := by rw [← hcl]; exact (List.getElem?_eq_some_iff.1 hk).1
  have hcs : cs.length = s := h5 cs (List.mem_of_getElem? hk)
  have hns : k * s + s ≤ n * s := by rw [← Nat.succ_mul]; exact Nat.mul_le_mul_right s hkn
  have hnc : n * s ≤ cap * s := Nat.mul_le_mul_right s hn
  have hl5 : ∀ c ∈ css.set k (cs.set i v), c.length = s := fun c hc => by
    rcases List.mem_or_eq_of_mem_set hc with hc | rfl
    · exact h5 c hc
    · rw [List.length_set]; exact hcs
  have hfl : ∀ (l : List (List Value)), (∀ c ∈ l, c.length = s) → l.flatten.length = l.length * s := fun l => by
    induction l with
    | nil => intro _; simp
    | cons a r ih =>
      intro h
      rw [List.flatten_cons, List.length_append, h a (by simp), ih (fun c hc => h c (by simp [hc])), List.length_cons, Nat.succ_mul]
      omega
  apply List.ext_getElem?
  intro j
  by_cases hj : j < n * s
  · rw [List.getElem?_take_of_lt hj, Array.getElem?_toList]
    have hs0 : 0 < s := by omega
    have e : j = j / s * s + j % s := by have := Nat.div_add_mod j s; rw [Nat.mul_comm] at this; omega
    have hq : j / s < n := Nat.div_lt_of_lt_mul (by rw [Nat.mul_comm]; exact hj)
    have him : j % s < s := Nat.mod_lt _ hs0
    obtain ⟨c, hc⟩ : ∃ c, css[j / s]? = some c := ⟨_, List.getElem?_eq_getElem (by omega)⟩
    have h3 := flat_at h5 hc him
    rw [← htake, List.getElem?_take_of_lt (by omega), Array.getElem?_toList] at h3
    by_cases hqk : j / s = k
    · rw [hqk] at hc e h3
      cases hk.symm.trans hc
      have h1 : (css.set k (cs.set i v))[k]? = some (cs.set i v) := by rw [List.getElem?_set_self (by omega)]
      have h2 := flat_at hl5 h1 him
      rw [e, h2, Array.getElem?_setIfInBounds, List.getElem?_set]
      by_cases hii : j % s = i
      · rw [if_pos (by omega), if_pos (by omega), if_pos (by omega), if_pos (by omega)]
      · rw [if_neg (by omega), if_neg (by omega)]
        exact h3
    · have h1 : (css.set k (cs.set i v))[j / s]? = some c := by rw [List.getElem?_set_ne (by omega)]; exact hc
      have h2 := flat_at hl5 h1 him
      rw [e, h2, Array.getElem?_setIfInBounds, if_neg, ← h3]
      intro hh
      apply hqk
      have h9 := congrArg (· / s) hh
      rw [Nat.mul_comm k s, Nat.mul_comm (j / s) s, Nat.mul_add_div hs0, Nat.mul_add_div hs0, Nat.div_eq_of_lt hi, Nat.div_eq_of_lt him] at h9
      omega
  · rw [List.getElem?_eq_none (by rw [List.length_take]; omega), List.getElem?_eq_none]
    rw [hfl _ hl5, List.length_set, hcl]
    omega
/-- One cell of a row is written. -/
theorem own_put {w : World} {base : Nat} {e : TypeId} {s g n cap k i : Nat} {css : List (List Value)} {cs : List Value} (h : w.ownsRow base e s (.slice (some ⟨g, 0, none⟩) n cap) n css.flatten) (hcl : css.length = n) (h5 : ∀ c ∈ css, c.length = s) (hk : css[k]? = some cs) (hi : i < s) (v : Value) :
    (w.setCell ⟨g, k * s + i, none⟩ v).ownsRow base e s (.slice (some ⟨g, 0, none⟩) n cap) n (css.set k (cs.set i v)).flatten := by
  have hkn : k < n := by rw [← hcl]; exact (List.getElem?_eq_some_iff.1 hk).1
  rcases h.2 with ⟨_, h0⟩ | ⟨g', cap', cur, h1, h2, h3, h4, h5', h6, h7⟩
  · omega
  · injection h1 with e1 _ e2
    injection e1 with e1
    injection e1 with e1
    subst e1 e2
    have hf := flat_set (v := v) h6 h4 hcl h5 h7 hk hi
    refine ⟨?_, .inr ⟨g, cap, _, rfl, h2, heap_setCell_same w g (k * s + i) _ _ v h3, h4, h5', by rw [Array.size_setIfInBounds]; exact h6, hf⟩⟩
    have hl := congrArg List.length hf
    rw [← hl, List.length_take, Array.length_toList, Array.size_setIfInBounds, h6]
    have := Nat.mul_le_mul_right s h4
    omega
end Go.Proofs.YtjadckhngalmlaaGreatDoor
namespace Go.Proofs.YtjadckhngalmlaaGreatDoor
set_option linter.unusedVariables false
set_option linter.unusedSimpArgs false
set_option maxRecDepth 100000
open Go.RowKit

theorem infoVr : (Tryz.prog.info? 58).map (fun i => (i.zero, i.size, i.bytes)) = some (some (.agg #[.string ByteArray.empty, .string ByteArray.empty, .bool false]), 3, 40) := by kernel_rfl
theorem nilVr (w : World) (a : Option Addr) (n c n' c' : Nat) : (binOp .eql 41 (.slice a n c) (.slice none n' c')).run Tryz.prog w = .ok (.bool a.isNone) w := Lib.run_eql_slice_nil w _ _ a n c n' c' Tryz.underlying41
theorem nilTr (w : World) (a : Option Addr) (n c n' c' : Nat) : (binOp .eql 43 (.slice a n c) (.slice none n' c')).run Tryz.prog w = .ok (.bool a.isNone) w := Lib.run_eql_slice_nil w _ _ a n c n' c' Tryz.underlying43
set_option maxHeartbeats 1000000 in
theorem c_cloneVZ (ad : Addr) (c : Nat) (w : World) :
    Calls Tryz.prog 17 #[.slice (some ad) 0 c] w fun e w' => (∃ v', e = .returned v' ∧ w'.ownsRow w.heap.size 58 3 v' 0 []) ∧ Below w.heap.size w w' := by
  obtain ⟨i0, hi, hz0, hz1, hz2⟩ := info_parts infoVr
  have hq := nilVr
  go_enter Tryz.func17, Tryz.ntmps17
  go_wp2_with fail
  go_ret
  exact ⟨⟨_, rfl, World.ownsRow_made w #[] 0 (Nat.le_refl _) (Nat.zero_le _) (by simp)⟩, below_o _ _⟩
set_option maxHeartbeats 1000000 in
theorem c_cloneNZ (ad : Addr) (c : Nat) (w : World) :
    Calls Tryz.prog 18 #[.slice (some ad) 0 c] w fun e w' => (∃ v', e = .returned v' ∧ w'.ownsRow w.heap.size 47 6 v' 0 []) ∧ Below w.heap.size w w' := by
  obtain ⟨i0, hi, hz0, hz1, hz2⟩ := info_parts infoN
  have hq := nilTr
  go_enter Tryz.func18, Tryz.ntmps18
  go_wp2_with fail
  go_ret
  exact ⟨⟨_, rfl, World.ownsRow_made w #[] 0 (Nat.le_refl _) (Nat.zero_le _) (by simp)⟩, below_o _ _⟩
/-- A clone of nodes, from wherever they lie. -/
theorem c_cloneNA (t : List NdT) (a : Option Addr) (c : Nat) (w : World) (hl : t.length ≤ 4096) (hT : TrIn t a w) :
    Calls Tryz.prog 18 #[.slice a t.length c] w fun e w' => (∃ v', e = .returned v' ∧ w'.ownsRow w.heap.size 47 6 v' t.length (noCs t)) ∧ Below w.heap.size w w' := by
  by_cases h0 : t.length = 0
  · have ht : t = [] := List.eq_nil_of_length_eq_zero h0
    subst ht
    cases a with
    | none => exact (AnyE.slices_Clone_nil Tryz.laysSlE041_f18 0 c w).mono fun e w' ⟨he, hw⟩ => ⟨⟨_, he, World.ownsRow_nil _ _ _ _⟩, by rw [hw]; exact Below.refl _ _⟩
    | some ad => exact c_cloneNZ ad c w
  · obtain ⟨b, off, ha, _⟩ := hT (by omega)
    subst ha
    exact c_cloneN t b off c w hl hT
def vrCs (L : List VarP) : List Value := L.flatMap vrC
theorem vrCs_len (L : List VarP) : (vrCs L).length = L.length * 3 := by
  induction L with
  | nil => rfl
  | cons x L ih =>
    show (vrC x ++ vrCs L).length = _
    rw [List.length_append, ih, List.length_cons, show (vrC x).length = 3 from rfl]
    omega
theorem vrCs_flat (L : List VarP) : vrCs L = (L.map vrC).flatten := rfl
theorem vrCs_one (L : List VarP) : ∀ u ∈ vrCs L, u.oneCell' = true := by
  intro u hu
  obtain ⟨x, hx, hu⟩ := List.mem_flatMap.1 hu
  simp only [vrC, List.mem_cons, List.not_mem_nil, or_false] at hu
  rcases hu with rfl | rfl | rfl <;> rfl
theorem vrCs_of {L : List VarP} {j : Nat} {u : Value} (h : (vrCs L)[j]? = some u) : ∃ k x, L[k]? = some x ∧ j / 3 = k ∧ (vrC x)[j % 3]? = some u := by
  have hj : j < L.length * 3 := by rw [← vrCs_len]; exact (List.getElem?_eq_some_iff.1 h).1
  have hx : L[j / 3]? = some (L[j / 3]'(by omega)) := List.getElem?_eq_getElem (by omega)
  refine ⟨j / 3, _, hx, rfl, ?_⟩
  have h2 := flat_at (css := L.map vrC) (n := 3) (fun cs hcs => by
    obtain ⟨y, _, rfl⟩ := List.mem_map.1 hcs
    rfl) (k := j / 3) (cs := vrC (L[j / 3]'(by omega))) (by rw [List.getElem?_map, hx]; rfl) (i := j % 3) (by omega)
  rw [← h2, ← vrCs_flat, show j / 3 * 3 + j % 3 = j by omega]
  exact h
/-- A clone of variables, from wherever they lie. -/
theorem c_cloneV (L : List VarP) (a : Option Addr) (c : Nat) (w : World) (hl : L.length ≤ 4096) (hV : VrIn L a w) :
    Calls Tryz.prog 17 #[.slice a L.length c] w fun e w' => (∃ v', e = .returned v' ∧ w'.ownsRow w.heap.size 58 3 v' L.length (vrCs L)) ∧ Below w.heap.size w w' := by
  by_cases h0 : L.length = 0
  · have ht : L = [] := List.eq_nil_of_length_eq_zero h0
    subst ht
    cases a with
    | none => exact (AnyE.slices_Clone_nil Tryz.laysSlE041_f17 0 c w).mono fun e w' ⟨he, hw⟩ => ⟨⟨_, he, World.ownsRow_nil _ _ _ _⟩, by rw [hw]; exact Below.refl _ _⟩
    | some ad => exact c_cloneVZ ad c w
  · obtain ⟨b, off, ha, _, hc⟩ := hV (by omega)
    subst ha
    obtain ⟨i0, hi, hz0, hz1, hz2⟩ := info_parts infoVr
    refine (AnyE.slices_Clone Tryz.laysSlE041_f17 i0 _ 3 40 hi hz0 hz1 hz2 rfl (by decide) (fun w => by kernel_rfl) b off L.length c (vrCs L) w (vrCs_len L) (by unfold maxLen; omega) (by omega) ?_ (vrCs_one L)).mono fun e w' ⟨v', he, ho, _, hb⟩ => ⟨⟨v', he, ho⟩, hb⟩
    intro j u hj
    obtain ⟨k, x, hx, rfl, hu⟩ := vrCs_of hj
    obtain ⟨cs, rfl, hcs⟩ := hc _ x hx
    have h1 := hcs (j % 3) u hu
    rw [show off + j / 3 * 3 + j % 3 = off + j by omega] at h1
    exact h1
end Go.Proofs.YtjadckhngalmlaaGreatDoor
namespace Go.Proofs.YtjadckhngalmlaaGreatDoor
set_option linter.unusedVariables false
set_option linter.unusedSimpArgs false
set_option maxRecDepth 100000
open Go.RowKit

/-- A function whose lists are the call's own. -/
def FoC (B : Nat) (w : World) (x : FnP) (cs : List Value) : Prop := ∃ v3 v4, cs = [.int .i64 x.at', nmS x.name, nmS x.type, v3, v4] ∧ w.ownsRow B 58 3 v3 x.params.length (vrCs x.params) ∧ w.ownsRow B 47 6 v4 x.body.length (noCs x.body)
theorem FoC.next {B : Nat} {w w' : World} {x : FnP} {cs : List Value} (h : FoC B w x cs) (hb : Below w.heap.size w w') : FoC B w' x cs := by
  obtain ⟨v3, v4, h1, h2, h3⟩ := h
  exact ⟨v3, v4, h1, own_on h2 hb, own_on h3 hb⟩
theorem FoC.set {B : Nat} {w : World} {x : FnP} {cs : List Value} (h : FoC B w x cs) {g : Nat} {y : Array Value} {T : TypeId} {fr : Nat × Nat} (ho : w.heap[g]? = some (.cells y T fr)) (h1 : T ≠ 58) (h2 : T ≠ 47) (i : Nat) (u : Value) : FoC B (w.setCell ⟨g, i, none⟩ u) x cs := by
  obtain ⟨v3, v4, k1, k2, k3⟩ := h
  exact ⟨v3, v4, k1, nm_set k2 ho h1 i u, nm_set k3 ho h2 i u⟩
/-- What Funcs answers. -/
def FuT (u : UnP) (w : World) (e : Ending) (w' : World) : Prop :=
  (((rdA u).1.2 = 0 ∧ ∃ (fv : Value) (css : List (List Value)), e = .returned (.tuple #[fv, faV 0 0]) ∧ w'.ownsRow w.heap.size 45 5 fv (rdA u).2.funcs.length css.flatten ∧ css.length = (rdA u).2.funcs.length ∧ ∀ (k : Nat) (x : FnP) (cs : List Value), (rdA u).2.funcs[k]? = some x → css[k]? = some cs → FoC w.heap.size w' x cs) ∨ ((rdA u).1.2 ≠ 0 ∧ e = .returned (.tuple #[.slice none 0 0, faV (rdA u).1.1 ((rdA u).1.2 : Nat)]))) ∧ Below w.heap.size w w'
/-- While the functions' lists are cloned. -/
structure FuI (w W0 : World) (RB Fb : Nat) (p ra : Option Addr) (rc : Nat) (ov : Value) (f : FlP) (css : List (List Value)) (q : Nat) (wr : World) : Prop where
  bel : Below w.heap.size w wr
  bel0 : Below W0.heap.size W0 wr
  fb : wr.heap[Fb]? = some (.cells #[.pointer p, .int .i64 (f.ng : Int), ov, .slice ra f.funcs.length rc] 77)
  rb : wr.heap[RB]? = some (.cells #[.int .i64 0, .int .i64 0] 32)
  row : wr.ownsRow w.heap.size 45 5 (.slice ra f.funcs.length rc) f.funcs.length css.flatten
  cl : css.length = f.funcs.length
  dn : ∀ (k : Nat) (x : FnP) (cs : List Value), k < q → f.funcs[k]? = some x → css[k]? = some cs → FoC w.heap.size wr x cs
  td : ∀ (k : Nat) (x : FnP) (cs : List Value), q ≤ k → f.funcs[k]? = some x → css[k]? = some cs → FnC W0 x cs
theorem FoC.len {B : Nat} {w : World} {f : FnP} {cs : List Value} (h : FoC B w f cs) : cs.length = 5 := by
  obtain ⟨v3, v4, rfl, _⟩ := h
  rfl
theorem FuI.all5 {w W0 : World} {RB Fb : Nat} {p ra : Option Addr} {rc : Nat} {ov : Value} {f : FlP} {css : List (List Value)} {q : Nat} {wr : World} (h : FuI w W0 RB Fb p ra rc ov f css q wr) : ∀ cs ∈ css, cs.length = 5 := fun cs hcs => by
  obtain ⟨k, hk⟩ := List.getElem?_of_mem hcs
  have hkl : k < f.funcs.length := by rw [← h.cl]; exact (List.getElem?_eq_some_iff.1 hk).1
  by_cases hq : k < q
  · exact (h.dn k _ cs hq (List.getElem?_eq_getElem hkl) hk).len
  · exact (h.td k _ cs (by omega) (List.getElem?_eq_getElem hkl) hk).len
theorem FuI.next {w W0 : World} {RB Fb : Nat} {p ra : Option Addr} {rc : Nat} {ov : Value} {f : FlP} {css : List (List Value)} {q : Nat} {wr w' : World} (h : FuI w W0 RB Fb p ra rc ov f css q wr) (hb : Below wr.heap.size wr w') : FuI w W0 RB Fb p ra rc ov f css q w' :=
  ⟨below_t h.bel hb h.bel.size, below_t h.bel0 hb h.bel0.size, blk_on h.fb hb, blk_on h.rb hb, own_on h.row hb, h.cl, fun k x cs h1 h2 h3 => (h.dn k x cs h1 h2 h3).next hb, h.td⟩
/-- The cells of the next one. -/
theorem FuI.cell {w W0 : World} {RB Fb : Nat} {p ra : Option Addr} {rc : Nat} {ov : Value} {f : FlP} {css : List (List Value)} {q : Nat} {wr : World} (h : FuI w W0 RB Fb p ra rc ov f css q wr) {x : FnP} (hx : f.funcs[q]? = some x) :
    ∃ g cs, ra = some ⟨g, 0, none⟩ ∧ css[q]? = some cs ∧ FnC W0 x cs ∧ g < wr.heap.size ∧ (∃ cur, wr.heap[g]? = some (.cells cur 45 (0, 0))) ∧ w.heap.size ≤ g ∧ ∀ (i : Nat) (v : Value), cs[i]? = some v → wr.cell? ⟨g, q * 5 + i, none⟩ = some v := by
  have hk := (List.getElem?_eq_some_iff.1 hx).1
  obtain ⟨cs, hcs⟩ : ∃ cs, css[q]? = some cs := ⟨_, List.getElem?_eq_getElem (by rw [h.cl]; exact hk)⟩
  obtain ⟨g, rfl, hgl, _, hc⟩ := own_cell h.row (by omega)
  have hC := h.td q x cs (Nat.le_refl _) hx hcs
  refine ⟨g, cs, rfl, hcs, hC, hgl, own_ty h.row rfl, (h.row.lt g rfl).1, fun i v hi => hc _ v ?_⟩
  have hi5 : i < 5 := by have := (List.getElem?_eq_some_iff.1 hi).1; rw [hC.len] at this; exact this
  rw [flat_at h.all5 hcs hi5]
  exact hi
/-- One more has lists of its own. -/
theorem FuI.put {w W0 : World} {RB Fb : Nat} {p : Option Addr} {g rc : Nat} {ov : Value} {f : FlP} {css : List (List Value)} {q : Nat} {wr : World} (h : FuI w W0 RB Fb p (some ⟨g, 0, none⟩) rc ov f css q wr) {x : FnP} (hx : f.funcs[q]? = some x) (hW : W0.heap.size ≤ g) {cs : List Value} (hcs : css[q]? = some cs) {v3 v4 : Value} (h3 : wr.ownsRow w.heap.size 58 3 v3 x.params.length (vrCs x.params)) (h4 : wr.ownsRow w.heap.size 47 6 v4 x.body.length (noCs x.body)) :
    FuI w W0 RB Fb p (some ⟨g, 0, none⟩) rc ov f (css.set q ((cs.set 3 v3).set 4 v4)) (q + 1) ((wr.setCell ⟨g, q * 5 + 3, none⟩ v3).setCell ⟨g, q * 5 + 4, none⟩ v4) := by
  obtain ⟨cur, hh⟩ := own_ty h.row (g := g) rfl
  have hq := (List.getElem?_eq_some_iff.1 hx).1
  have hB := (h.row.lt g rfl).1
  have hC := h.td q x cs (Nat.le_refl _) hx hcs
  have r1 := own_put h.row h.cl h.all5 hcs (by decide : 3 < 5) v3
  have hcs2 : (css.set q (cs.set 3 v3))[q]? = some (cs.set 3 v3) := by rw [List.getElem?_set_self (by rw [h.cl]; exact hq)]
  have h52 : ∀ c ∈ css.set q (cs.set 3 v3), c.length = 5 := fun c hc => by
    rcases List.mem_or_eq_of_mem_set hc with hc | rfl
    · exact h.all5 c hc
    · rw [List.length_set]; exact hC.len
  have r2 := own_put r1 (by rw [List.length_set]; exact h.cl) h52 hcs2 (by decide : 4 < 5) v4
  rw [List.set_set] at r2
  have hh2 := heap_setCell_same wr g (q * 5 + 3) _ _ v3 hh
  have hkeep : ∀ b, b ≠ g → ((wr.setCell ⟨g, q * 5 + 3, none⟩ v3).setCell ⟨g, q * 5 + 4, none⟩ v4).heap[b]? = wr.heap[b]? := fun b hb => (Below.heap_setCell _ _ _ _ hb).trans (Below.heap_setCell _ _ _ _ hb)
  refine ⟨(h.bel.setCell (p := ⟨g, q * 5 + 3, none⟩) hB v3).setCell (p := ⟨g, q * 5 + 4, none⟩) hB v4, (h.bel0.setCell (p := ⟨g, q * 5 + 3, none⟩) hW v3).setCell (p := ⟨g, q * 5 + 4, none⟩) hW v4, (hkeep _ (ne_ty h.fb hh (by decide))).trans h.fb, (hkeep _ (ne_ty h.rb hh (by decide))).trans h.rb, r2, by rw [List.length_set]; exact h.cl, ?_, ?_⟩
  · intro k y ds hk hy hds
    by_cases hkq : k = q
    · subst hkq
      cases hx.symm.trans hy
      rw [List.getElem?_set_self (by rw [h.cl]; exact hq)] at hds
      cases hds
      obtain ⟨pa, pc, ba, bc, rfl, _⟩ := hC
      exact ⟨v3, v4, rfl, nm_set (nm_set h3 hh (by decide) _ _) hh2 (by decide) _ _, nm_set (nm_set h4 hh (by decide) _ _) hh2 (by decide) _ _⟩
    · rw [List.getElem?_set_ne (by omega)] at hds
      exact ((h.dn k y ds (by omega) hy hds).set hh (by decide) (by decide) _ _).set hh2 (by decide) (by decide) _ _
  · intro k y ds hk hy hds
    rw [List.getElem?_set_ne (by omega)] at hds
    exact h.td k y ds (by omega) hy hds
set_option maxHeartbeats 4000000 in
theorem c_Funcs (B : Nat) (u : UnP) (p : UnS) (hU : UnOk u) (w : World) (hE : Env B w) (hB : B ≤ w.heap.size) (hI : UnIn u p w) :
    Calls Tryz.prog 8 #[unV u p] w fun e w' => FuT u w e w' := by
  have HC := Lib.hid (fun w' (hb : Below w.heap.size w w') => c_read B u p hU w' (hE.next (hb.mono hB)) (Nat.le_trans hB hb.size) (hI.next hb))
  have HO := Lib.hid (fun (h : (rdA u).1.2 = 0) => And.intro (rdA_of h).2.2 (fun (x : FnP) (hx : x ∈ (rdA u).2.funcs) => And.intro (rd_small h x hx).2.1 (rd_small h x hx).2.2.1))
  unfold FuT
  unfold RdT at HC
  obtain ⟨ra, hra⟩ : ∃ ra, rdA u = ra := ⟨_, rfl⟩
  rw [hra] at HC HO ⊢
  obtain ⟨S, G, F⟩ := u
  obtain ⟨sa, sc, ga, gc, fa, fc⟩ := p
  obtain ⟨⟨gat, ge⟩, f⟩ := ra
  simp only [unV] at HC HO ⊢
  clear hE hB hI hU hra
  go_enter Tryz.func8, Tryz.ntmps8
  go_wp2_with fail
  have hb0 : Below w.heap.size w ((w.alloc (.cells #[.slice sa S.length sc, .slice ga G.length gc, .slice fa F.length fc] 26)).alloc (.cells #[.int .i64 0, .int .i64 0] 32)) := below_t (below_o _ _) (below_o _ _) (by simp)
  refine (HC.out _ hb0).mono ?_
  rintro e w1 ⟨hrd, hb⟩
  have HB1 := Lib.hid (below_t hb0 hb hb0.size)
  have HZ1 := Lib.hid (blk_on (heap_alloc_at (w := w.alloc (.cells #[.slice sa S.length sc, .slice ga G.length gc, .slice fa F.length fc] 26)) _ (w.heap.size + 1) (by simp)) hb)
  clear hb hb0
  obtain ⟨RB, hRB⟩ : ∃ RB, w.heap.size + 1 = RB := ⟨_, rfl⟩
  have HUR := Lib.hid hRB
  have HZ1' : Hid (w1.heap[RB]? = some (.cells #[.int .i64 0, .int .i64 0] 32)) := by rw [← hRB]; exact HZ1.out
  rw [hRB]
  clear hRB HZ1
  obtain ⟨z0, z1, zf⟩ := two_cells HZ1'.out
  have zf0 := zf 0
  have zf1 := zf 1
  have hzl := (Array.getElem?_eq_some_iff.1 HZ1'.out).1
  clear zf
  rcases hrd with ⟨rfl, Fb, p, L, ov, fv, css, K, rfl, hF, hK⟩ | ⟨hne, rfl⟩
  · have HZ2 := Lib.hid (And.intro hF hK)
    have HLw := Lib.hid (HO.out rfl)
    clear HC HO hK
    obtain ⟨ra, rc, hfv⟩ := own_slice hF.fo
    subst hfv
    obtain ⟨N, hN⟩ : ∃ N, f.funcs.length = N := ⟨_, rfl⟩
    have HN := Lib.hid hN
    rw [hN] at hF
    obtain ⟨y0, y1, y2, y3, _⟩ := cells4 hF.blk
    have hyl := (Array.getElem?_eq_some_iff.1 hF.blk).1
    clear hF hN
    go_wp2_with fail
    obtain ⟨W0, hW0⟩ : ∃ W0, (w.alloc (.cells #[.slice sa S.length sc, .slice ga G.length gc, .slice fa F.length fc] 26)).alloc (.cells #[.int .i64 0, .int .i64 0] 32) = W0 := ⟨_, rfl⟩
    have HW0 : Hid (w.heap.size ≤ W0.heap.size) := by rw [← hW0]; exact Lib.hid (by simp; omega)
    rw [hW0] at HZ2
    clear hW0
    have HI0 : Hid (FuI w W0 RB Fb p ra rc ov f css 0 w1) := Lib.hid ⟨HB1.out, HZ2.out.1.bel, HZ2.out.1.blk, HZ1'.out, own_base HZ2.out.1.fo HW0.out, HZ2.out.1.cl, fun k x cs h _ _ => by omega, fun k x cs _ h1 h2 => HZ2.out.1.fc k x cs h1 h2⟩
    have HGg : Hid (∀ g, ra = some ⟨g, 0, none⟩ → W0.heap.size ≤ g) := Lib.hid fun g hg => (HZ2.out.1.fo.lt g (by rw [hg]; rfl)).1
    have HI1 : Hid (∃ css, FuI w W0 RB Fb p ra rc ov f css 0 (w1.alloc (.cells #[.int .i64 0, .int .i64 0] 32))) := Lib.hid ⟨css, HI0.out.next (below_o _ _)⟩
    obtain ⟨w2, hw2⟩ : ∃ w2, w1.alloc (.cells #[.int .i64 0, .int .i64 0] 32) = w2 := ⟨_, rfl⟩
    rw [hw2] at HI1 ⊢
    clear hw2 HI0 HZ2 z0 z1 zf0 zf1 hzl y0 y1 y2 y3 hyl
    go_loopg [22] N (fun g v22 wr => ∃ q : Nat, q + g = N ∧ v22 = .int .i64 (q : Int) ∧ Hid (∃ css, FuI w W0 RB Fb p ra rc ov f css q wr))
    case atStart => exact ⟨0, by omega, rfl, HI1⟩
    case round =>
      obtain ⟨q, hq, rfl, HIx⟩ := hrel
      obtain ⟨css, hI⟩ := HIx.out
      have HI := Lib.hid hI
      by_cases hlt : q < N
      · have hd : decide ((q : Int) < (N : Int)) = true := by simp; omega
        obtain ⟨x, hx⟩ : ∃ x, f.funcs[q]? = some x := ⟨_, List.getElem?_eq_getElem (by have := HN.out; omega)⟩
        obtain ⟨g, cs, hra, hcs, hFC, hgl, hgc, hgw, hcell⟩ := hI.cell hx
        subst hra
        obtain ⟨pa, pc, ba, bc, rfl, hVI, hTI, _⟩ := hFC
        have c0 := hcell 0 _ rfl
        have c1 := hcell 1 _ rfl
        have c2 := hcell 2 _ rfl
        have c3 := hcell 3 _ rfl
        have c4 := hcell 4 _ rfl
        rw [Nat.add_zero] at c0
        have HX := Lib.hid (And.intro hx (And.intro hcs (And.intro hgl hgc)))
        have HV := Lib.hid (fun W (hb : Below wr.heap.size wr W) => c_cloneV x.params pa pc W (by have := (HLw.out.2 x (List.mem_of_getElem? HX.out.1)).1; omega) (hVI.next (below_t HI.out.bel0 hb HI.out.bel0.size)))
        have HT := Lib.hid (fun W (hb : Below wr.heap.size wr W) => c_cloneNA x.body ba bc W ((HLw.out.2 x (List.mem_of_getElem? HX.out.1)).2) (hTI.next (below_t HI.out.bel0 hb HI.out.bel0.size)))
        have hq0 : (0 : Int) ≤ (q : Int) := by omega
        have hqN : (q : Int) < (N : Int) := by omega
        clear hI HIx hx hcs hVI hTI hcell hgc hgw
        obtain ⟨xat, xn, xt, xp, xb⟩ := x
        obtain ⟨pl, hpl⟩ : ∃ n, xp.length = n := ⟨_, rfl⟩
        obtain ⟨bl, hbl⟩ : ∃ n, xb.length = n := ⟨_, rfl⟩
        simp only at c0 c1 c2 c3 c4 HV HT
        rw [hpl] at c3 HV
        rw [hbl] at c4 HT
        have HLn := Lib.hid (And.intro hpl hbl)
        have HMs : Hid (N - (q + 1) < gk ∧ q + 1 + (N - (q + 1)) = N) := Lib.hid ⟨by omega, by omega⟩
        have HWq : Hid (wrap64 ((q : Int) + 1) = ((q + 1 : Nat) : Int)) := Lib.hid (by have := HLw.out.1; have := HN.out; unfold wrap64; omega)
        clear hpl hbl
        go_wp2_with fail
        obtain ⟨w3, hw3⟩ : ∃ w3, wr.alloc (.cells #[.int .i64 xat, nmS xn, nmS xt, .slice pa pl pc, .slice ba bl bc] 45) = w3 := ⟨_, rfl⟩
        have HB3 : Hid (Below wr.heap.size wr w3) := by rw [← hw3]; exact below_o _ _
        have HX3 : Hid (w3.heap[wr.heap.size]? = some (.cells #[.int .i64 xat, nmS xn, nmS xt, .slice pa pl pc, .slice ba bl bc] 45)) := by rw [← hw3]; exact heap_alloc_at _ _ rfl
        rw [hw3]
        obtain ⟨XB, hXB⟩ : ∃ XB, wr.heap.size = XB := ⟨_, rfl⟩
        have HXB := Lib.hid hXB
        rw [hXB] at HX3 ⊢
        clear hw3 hXB c0 c1 c2 hd
        have hb3 := HB3.out.drew
        have hx3 := blk_on HX3.out (Below.refl _ w3).drew
        have hI3 := HI.out.next hb3
        obtain ⟨_, _, _, x3, x4, _⟩ := five_cells hx3
        have hxl := (Array.getElem?_eq_some_iff.1 hx3).1
        obtain ⟨y0, y1, y2, y3, _⟩ := cells4 hI3.fb
        have hyl := (Array.getElem?_eq_some_iff.1 hI3.fb).1
        rw [HN.out] at y3
        have hgl3 : g < w3.drew.heap.size := Nat.lt_of_lt_of_le hgl hb3.size
        have d3 := (hb3.cell hgl).trans c3
        have d4 := (hb3.cell hgl).trans c4
        obtain ⟨cur, hgc⟩ := HX.out.2.2.2
        have e3 : w3.drew.frozen? ⟨g, q * 5 + 3, none⟩ = false := Lib.frozen_of_heap (blk_on hgc hb3) _
        have e4 : w3.drew.frozen? ⟨g, q * 5 + 4, none⟩ = false := Lib.frozen_of_heap (blk_on hgc hb3) _
        have HI3 := Lib.hid (And.intro hb3 hI3)
        obtain ⟨S, hS⟩ : ∃ S : World → Prop, S = fun w' => w'.cell? ⟨XB, 3, none⟩ = some (.slice pa pl pc) ∧ w'.cell? ⟨XB, 4, none⟩ = some (.slice ba bl bc) ∧ w'.cell? ⟨Fb, 3, none⟩ = some (.slice (some ⟨g, 0, none⟩) N rc) := ⟨_, rfl⟩
        have hXg : XB ≠ g := by have := HXB.out; omega
        have hFg : Fb ≠ g := ne_ty hI3.fb (blk_on hgc hb3) (by decide)
        have HS0 : Hid ((fun w' : World => w'.cell? ⟨XB, 3, none⟩ = some (.slice pa pl pc) ∧ w'.cell? ⟨XB, 4, none⟩ = some (.slice ba bl bc) ∧ w'.cell? ⟨Fb, 3, none⟩ = some (.slice (some ⟨g, 0, none⟩) N rc)) w3.drew) := Lib.hid ⟨x3, x4, y3⟩
        have HKp : Hid (∀ w' w'', Below w'.heap.size w' w'' → (fun w' : World => w'.cell? ⟨XB, 3, none⟩ = some (.slice pa pl pc) ∧ w'.cell? ⟨XB, 4, none⟩ = some (.slice ba bl bc) ∧ w'.cell? ⟨Fb, 3, none⟩ = some (.slice (some ⟨g, 0, none⟩) N rc)) w' → (fun w' : World => w'.cell? ⟨XB, 3, none⟩ = some (.slice pa pl pc) ∧ w'.cell? ⟨XB, 4, none⟩ = some (.slice ba bl bc) ∧ w'.cell? ⟨Fb, 3, none⟩ = some (.slice (some ⟨g, 0, none⟩) N rc)) w'') := Lib.hid fun w' w'' hb ⟨h0, h1, h5⟩ => by
          have e := hb.block _ (World.block_lt_of_cell? _ ⟨XB, 3, none⟩ h0)
          have e2 := hb.block _ (World.block_lt_of_cell? _ ⟨Fb, 3, none⟩ h5)
          exact ⟨(cell_of_blk e 3).trans h0, (cell_of_blk e 4).trans h1, (cell_of_blk e2 3).trans h5⟩
        have HKs : Hid (∀ w' i v, (fun w' : World => w'.cell? ⟨XB, 3, none⟩ = some (.slice pa pl pc) ∧ w'.cell? ⟨XB, 4, none⟩ = some (.slice ba bl bc) ∧ w'.cell? ⟨Fb, 3, none⟩ = some (.slice (some ⟨g, 0, none⟩) N rc)) w' → (fun w' : World => w'.cell? ⟨XB, 3, none⟩ = some (.slice pa pl pc) ∧ w'.cell? ⟨XB, 4, none⟩ = some (.slice ba bl bc) ∧ w'.cell? ⟨Fb, 3, none⟩ = some (.slice (some ⟨g, 0, none⟩) N rc)) (w'.setCell ⟨g, i, none⟩ v)) := Lib.hid fun w' i v ⟨h0, h1, h5⟩ => by
          have e := Below.heap_setCell w' ⟨g, i, none⟩ v XB hXg
          have e2 := Below.heap_setCell w' ⟨g, i, none⟩ v Fb hFg
          exact ⟨(cell_of_blk e 3).trans h0, (cell_of_blk e 4).trans h1, (cell_of_blk e2 3).trans h5⟩
        clear hS S hb3 hx3 hI3 hgc c3 c4 hgl x3 x4 y0 y1 y2 y3 hxl hyl hXg hFg
        go_region_held3 (fun w' : World => w'.cell? ⟨XB, 3, none⟩ = some (.slice pa pl pc) ∧ w'.cell? ⟨XB, 4, none⟩ = some (.slice ba bl bc) ∧ w'.cell? ⟨Fb, 3, none⟩ = some (.slice (some ⟨g, 0, none⟩) N rc))
          (first | exact HS0.out | exact HKp.out _ _ (by assumption) (by assumption) | exact HKs.out _ _ _ (by assumption) | exact HKs.out _ _ _ (HKs.out _ _ _ (by assumption)) | assumption)
          (first
            | (go_at_call 17; refine (HV.out _ HI3.out.1).mono ?_; rintro e w4 ⟨⟨v3, rfl, hv3⟩, hb4⟩; obtain ⟨va3, vc3, rfl⟩ := own_slice hv3; have HV4 := Lib.hid (And.intro hv3 hb4); have hgl4 := Nat.lt_of_lt_of_le hgl3 hb4.size; have d3' := (hb4.cell hgl3).trans d3; have d4' := (hb4.cell hgl3).trans d4; have e3' := (hb4.frozen hgl3).trans e3; have e4' := (hb4.frozen hgl3).trans e4; clear hv3)
            | (go_at_call 18; refine (HT.out _ (below_t HI3.out.1 HV4.out.2 HI3.out.1.size)).mono ?_; rintro e w5 ⟨⟨v4, rfl, hv4⟩, hb5⟩; obtain ⟨va4, vc4, rfl⟩ := own_slice hv4; have HV5 := Lib.hid (And.intro hv4 hb5); have d3'' := (hb5.cell hgl4).trans d3'; have d4'' := (hb5.cell hgl4).trans d4'; have e3'' := (hb5.frozen hgl4).trans e3'; have e4'' := (hb5.frozen hgl4).trans e4'; clear hv4))
        all_goals
          go_wp2_with fail
          have hbb := below_t HI3.out.1 (below_t HV4.out.2 HV5.out.2 HV4.out.2.size) HI3.out.1.size
          have hsz : w.heap.size ≤ w3.drew.heap.size := Nat.le_trans HI.out.bel.size HI3.out.1.size
          have h3 := own_base (own_on HV4.out.1 HV5.out.2) hsz
          have h4 := own_base HV5.out.1 (Nat.le_trans hsz HV4.out.2.size)
          rw [← HLn.out.1] at h3
          rw [← HLn.out.2] at h4
          have hput := (HI.out.next hbb).put HX.out.1 (HGg.out g rfl) HX.out.2.1 h3 h4
          rw [HLn.out.1, HLn.out.2] at hput
          have HIn : Hid (∃ css, FuI w W0 RB Fb p (some ⟨g, 0, none⟩) rc ov f css (q + 1) ((w5.setCell ⟨g, q * 5 + 3, none⟩ (.slice va3 pl vc3)).setCell ⟨g, q * 5 + 4, none⟩ (.slice va4 bl vc4))) := Lib.hid ⟨_, hput⟩
          clear hbb h3 h4 hput hsz
          go_wp2_with fail
          go_roundg (N - (q + 1))
          case measure => exact HMs.out.1
          case rel => exact ⟨q + 1, HMs.out.2, by rw [HWq.out], HIn⟩
      · have hd : decide ((q : Int) < (N : Int)) = false := by simp; omega
        have hqN : q = N := by omega
        obtain ⟨y0, y1, y2, y3, _⟩ := cells4 hI.fb
        have hyl := (Array.getElem?_eq_some_iff.1 hI.fb).1
        rw [HN.out] at y3
        obtain ⟨z0, z1, zf⟩ := two_cells hI.rb
        have zf0 := zf 0
        have zf1 := zf 1
        have hzl := (Array.getElem?_eq_some_iff.1 hI.rb).1
        clear hI zf
        go_wp2_with fail
        have hz9 := two_put HI.out.rb (.int .i64 0) (.int .i64 0)
        have hx1 := heap_setCell_same wr RB 0 _ _ (.int .i64 0) HI.out.rb
        have hb9 := two_below HI.out.bel (show w.heap.size ≤ RB by have := HUR.out; omega) (.int .i64 0) (.int .i64 0)
        have o9 := nm_set (nm_set HI.out.row HI.out.rb (by decide) 0 (.int .i64 0)) hx1 (by decide) 1 (.int .i64 0)
        have d9 : ∀ (k : Nat) (x : FnP) (cs : List Value), f.funcs[k]? = some x → css[k]? = some cs → FoC w.heap.size ((wr.setCell ⟨RB, 0, none⟩ (.int .i64 0)).setCell ⟨RB, 1, none⟩ (.int .i64 0)) x cs := fun k x cs h1 h2 =>
          ((HI.out.dn k x cs (by have := (List.getElem?_eq_some_iff.1 h1).1; have := HN.out; omega) h1 h2).set HI.out.rb (by decide) (by decide) _ _).set hx1 (by decide) (by decide) _ _
        have l9 := HI.out.cl
        rw [HN.out] at o9
        clear hx1
        generalize (wr.setCell ⟨RB, 0, none⟩ (.int .i64 0)).setCell ⟨RB, 1, none⟩ (.int .i64 0) = w9 at hz9 hb9 o9 d9 ⊢
        obtain ⟨p0, p1, _⟩ := two_cells hz9
        refine bodyPost_ret (v := .tuple #[.slice ra N rc, faV 0 0]) (by simp [results, Tryz.results8, go_sem, p0, p1]) rfl ?_
        exact ⟨⟨_, rfl, css, by rw [HN.out]; exact o9, l9, d9⟩, hb9⟩
  · obtain ⟨gei, hgei⟩ : ∃ x : Int, ((ge : Nat) : Int) = x := ⟨_, rfl⟩
    have HGe := Lib.hid (And.intro hgei hne)
    have hne2 : (gei != 0) = true := by simp; omega
    rw [hgei]
    clear hne hgei
    go_wp2_with fail
    have hz9 := blk_on (two_put HZ1'.out (.int .i64 gat) (.int .i64 gei)) ((below_o _ (.cells #[.int .i64 gat, .int .i64 gei] 32)).drew)
    have hb9 := ((two_below HB1.out (show w.heap.size ≤ RB by have := HUR.out; omega) (.int .i64 gat) (.int .i64 gei)).alloc (by simpa using HB1.out.size) (.cells #[.int .i64 gat, .int .i64 gei] 32)).drew
    go_region
    all_goals
      go_wp2_with fail
      generalize (((w1.setCell ⟨RB, 0, none⟩ (.int .i64 gat)).setCell ⟨RB, 1, none⟩ (.int .i64 gei)).alloc (.cells #[.int .i64 gat, .int .i64 gei] 32)).drew = w9 at hz9 hb9 ⊢
      obtain ⟨p0, p1, _⟩ := two_cells hz9
      refine bodyPost_ret (v := .tuple #[.slice none 0 0, faV gat gei]) (by simp [results, Tryz.results8, go_sem, p0, p1]) rfl ?_
      exact ⟨.inr ⟨HGe.out.2, by rw [HGe.out.1]⟩, hb9⟩
end Go.Proofs.YtjadckhngalmlaaGreatDoor
