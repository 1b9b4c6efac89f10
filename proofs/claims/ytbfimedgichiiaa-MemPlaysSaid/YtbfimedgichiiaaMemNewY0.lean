/-
  The document's memory: New: its tables of rows.
-/
import Derived.Test.YtbfimedgichiiaaMemPlay0
namespace Go.Proofs.Ytbfimedgichiiaa
set_option linter.unusedVariables false
set_option linter.unusedSimpArgs false
set_option maxRecDepth 100000
open Go.ChangeShapes Go.WideShapes Go.ChangeAt Go.RowKit

theorem rgC_len (r : Rg) : (rgC r).length = 5 := rfl
/-- A row of ranges, of the call's own. -/
def RgOwn (w : World) (base g n cap : Nat) (R : Nat → Rg) : Prop := w.ownsRow base 34 5 (.slice (some ⟨g, 0, none⟩) n cap) n (fl (fun i => rgC (R i)) n)
theorem RgOwn.rs {w : World} {base g n cap : Nat} {R : Nat → Rg} (h : RgOwn w base g n cap R) : RS w g 0 n R := by
  intro i hi
  have key : ∀ c, c < 5 → w.cell? ⟨g, 0 + i * 5 + c, none⟩ = (rgC (R i))[c]? := fun c hc => by
    rw [Nat.zero_add, World.ownsRow.cellAt h _ (by omega), fl_get (fun i => rgC (R i)) 5 (fun i => rgC_len _) c hc n i hi]
  exact ⟨key 0 (by decide), key 1 (by decide), key 2 (by decide), key 3 (by decide), key 4 (by decide)⟩
theorem RgOwn.info {w : World} {base g n cap : Nat} {R : Nat → Rg} (h : RgOwn w base g n cap R) : n ≤ cap ∧ base ≤ g ∧ g < w.heap.size ∧ ∀ k, w.frozen? ⟨g, k, none⟩ = false := by
  have hz := fun k => World.ownsRow.frozenAt h k
  rcases h.2 with ⟨h', _⟩ | ⟨g', cap', cur, h', hb, hh, hle, hm, _⟩
  · cases h'
  · injection h' with h1 h2 h3
    injection h1 with h1
    injection h1 with h1
    subst h1 h3
    exact ⟨hle, hb, (Array.getElem?_eq_some_iff.1 hh).1, hz⟩
theorem rng_in {w : World} {b off n : Nat} {R : Nat → Rg} (h : RS w b off n R) : ∀ j u, (fl (fun i => rgC (R i)) n)[j]? = some u → w.cell? ((⟨b, off, none⟩ : Addr).add j) = some u := by
  intro j u hu
  have hj : j < n * 5 := by
    have := (List.getElem?_eq_some_iff.1 hu).1
    rwa [fl_len (fun i => rgC (R i)) 5 (fun i => rgC_len _) n] at this
  have hadd : (⟨b, off, none⟩ : Addr).add j = ⟨b, off + j, none⟩ := by unfold Addr.add; split <;> simp_all
  rw [hadd]
  have hi : j / 5 < n := by omega
  have hg := fl_get (fun i => rgC (R i)) 5 (fun i => rgC_len _) (j % 5) (by omega) n (j / 5) hi
  rw [show j / 5 * 5 + j % 5 = j by omega, hu] at hg
  obtain ⟨x0, x1, x2, x3, x4⟩ := h (j / 5) hi
  have hc : j % 5 = 0 ∨ j % 5 = 1 ∨ j % 5 = 2 ∨ j % 5 = 3 ∨ j % 5 = 4 := by omega
  rcases hc with hc | hc | hc | hc | hc <;> rw [hc] at hg <;> simp [rgC] at hg <;> subst hg
  · rw [show off + j = off + j / 5 * 5 by omega]; exact x0
  · rw [show off + j = off + j / 5 * 5 + 1 by omega]; exact x1
  · rw [show off + j = off + j / 5 * 5 + 2 by omega]; exact x2
  · rw [show off + j = off + j / 5 * 5 + 3 by omega]; exact x3
  · rw [show off + j = off + j / 5 * 5 + 4 by omega]; exact x4
theorem rgCs_one (R : Nat → Rg) : ∀ (n : Nat), ∀ u ∈ fl (fun i => rgC (R i)) n, u.oneCell' = true
  | 0 => fun u h => by simp [fl] at h
  | n + 1 => fun u h => by
    rw [fl_succ] at h
    rcases List.mem_append.1 h with h | h
    · exact rgCs_one R n u h
    · exact rgC_one _ u h
theorem wp_copyR {w : World} {ops : Array Oper} {rest : List Oper} {o : Oper} {ac : Act} {Q : Exit → Act → World → Prop} (hgd : o.guard = none) (s x : Operand)
    (ho : o.op = .call { callee := .builtin .append, args := #[s, x], argTypes := #[22, 22] })
    (base gv : Nat) (hs : ac.eval s = .slice (some ⟨gv, 0, none⟩) 0 0) (hown : w.ownsRow base 34 5 (.slice (some ⟨gv, 0, none⟩) 0 0) 0 [])
    (a : Option Addr) (n c : Nat) (R : Nat → Rg) (hx : ac.eval x = .slice a n c) (hX : RSO w a n c R) (hnil : a = none → n = 0 ∧ c = 0) (hr : n * 40 ≤ 140737488355328) (hbase : base ≤ w.heap.size)
    (h : ∀ g cap' w', RgOwn w' base g n cap' R → w.grownBy w' (some gv) → wpList Try.prog ops Q rest (ac.put o.dst (.slice (some ⟨g, 0, none⟩) n cap')) w') : wpList Try.prog ops Q (o :: rest) ac w := by
  obtain ⟨i0, hi, hz0, hz1, hz2⟩ := info_parts infoRg
  cases a with
  | none =>
    obtain ⟨rfl, rfl⟩ := hnil rfl
    exact wpList_append_own_none hgd s x 22 ho base 34 i0 5 Try.underlying22 hi _ 0 [] hs hown hx (h gv 0 w hown (World.grownBy.refl _ _))
  | some ad =>
    refine wpList_append_own w hgd s x 22 ho base 34 i0 _ 5 40 Try.underlying22 hi hz0 hz1 hz2 rfl (by decide) _ 0 [] hs hown ad n c (fl (fun i => rgC (R i)) n) hx (fl_len (fun i => rgC (R i)) 5 (fun i => rgC_len _) n) ?_ (rgCs_one R n) (by unfold maxLen; omega) (by omega) hbase ?_
    · rcases hX with h0 | ⟨b, off, he, _, hX⟩
      · subst h0
        intro j u hu
        simp [fl] at hu
      · cases he
        exact rng_in hX
    · intro v' w' hown' hg hnn
      rw [Nat.zero_add, List.nil_append] at hown'
      have hne : v' ≠ .slice none 0 0 := fun e => by have := (hnn.1 e).1; cases this
      rcases hown'.2 with ⟨h1, _⟩ | ⟨g, cap', cur, rfl, _⟩
      · exact absurd h1 hne
      · exact h g cap' w' hown' hg
end Go.Proofs.Ytbfimedgichiiaa
namespace Go.Proofs.Ytbfimedgichiiaa
set_option linter.unusedVariables false
set_option linter.unusedSimpArgs false
set_option maxRecDepth 100000
open Go.ChangeShapes Go.WideShapes Go.ChangeAt Go.RowKit

theorem infoBs : (Try.prog.info? 37).map (fun i => (i.zero, i.size, i.bytes)) = some (some (.slice none 0 0), 1, 24) := by kernel_rfl
/-- The first k rows, as they stand in a table. -/
def bsL (R : Nat → Rg) (r : Nat → Nat) (k : Nat) : List Value := fl (fun i => [.slice (some ⟨r i, 0, none⟩) (R i).sz.toNat (R i).sz.toNat]) k
theorem bsL_len (R : Nat → Rg) (r : Nat → Nat) (k : Nat) : (bsL R r k).length = k := by
  unfold bsL
  rw [fl_len _ 1 (fun i => rfl)]
  omega
theorem bsL_at {R : Nat → Rg} {r : Nat → Nat} {k i : Nat} (h : i < k) : (bsL R r k)[i]? = some (.slice (some ⟨r i, 0, none⟩) (R i).sz.toNat (R i).sz.toNat) := by
  unfold bsL
  have := fl_get (fun i => [Value.slice (some ⟨r i, 0, none⟩) (R i).sz.toNat (R i).sz.toNat]) 1 (fun i => rfl) 0 (by decide) k i h
  rw [Nat.mul_one, Nat.add_zero] at this
  exact this
/-- A table of k rows of noughts, in field q. -/
def Tab (w : World) (gy q k : Nat) (v : Value) (R : Nat → Rg) (r : Nat → Nat) : Prop :=
  w.cell? ⟨gy, q, none⟩ = some v ∧ w.ownsRow (gy + 1) 37 1 v k (bsL R r k) ∧ (∀ i, i < k → gy < r i ∧ w.heap[r i]? = some (.cells (madeCells #[.int .u8 0] (R i).sz.toNat) 5 (0, 0)) ∧ v.ownBlock ≠ some (r i)) ∧ ∀ i j, i < k → j < k → r i = r j → i = j
theorem Tab.own {w : World} {gy q k : Nat} {v : Value} {R : Nat → Rg} {r : Nat → Nat} (h : Tab w gy q k v R r) : ∀ b, v.ownBlock = some b → gy < b ∧ b < w.heap.size := fun b hb => by
  have := h.2.1.lt b hb
  omega
theorem Tab.lt {w : World} {gy q k : Nat} {v : Value} {R : Nat → Rg} {r : Nat → Nat} (h : Tab w gy q k v R r) : ∀ i, i < k → r i < w.heap.size := fun i hi => (Array.getElem?_eq_some_iff.1 (h.2.2.1 i hi).2.1).1
theorem own_fr {M : Nat → Prop} {w w' : World} {base : Nat} {T : TypeId} {s n : Nat} {v : Value} {xs : List Value} (h : w.ownsRow base T s v n xs) (hf : Fr M w w') (hM : ∀ b, v.ownBlock = some b → ¬ M b) : w'.ownsRow base T s v n xs := by
  refine ⟨h.1, ?_⟩
  rcases h.2 with h | ⟨g, cap, cur, rfl, a2, a3, a4⟩
  · exact .inl h
  · exact .inr ⟨g, cap, cur, rfl, a2, (hf.block g (Array.getElem?_eq_some_iff.1 a3).1 (hM g rfl)).trans a3, a4⟩
theorem Tab.fr {M : Nat → Prop} {w w' : World} {gy q k : Nat} {v : Value} {R : Nat → Rg} {r : Nat → Nat} (h : Tab w gy q k v R r) (hf : Fr M w w') (h1 : ¬ M gy) (h2 : ∀ b, v.ownBlock = some b → ¬ M b) (h3 : ∀ i, i < k → ¬ M (r i)) : Tab w' gy q k v R r := by
  have hl := h.lt
  obtain ⟨k1, k2, k3, k4⟩ := h
  exact ⟨fr_cel hf h1 k1, own_fr k2 hf h2, fun i hi => ⟨(k3 i hi).1, (hf.block _ (hl i hi) (h3 i hi)).trans (k3 i hi).2.1, (k3 i hi).2.2⟩, k4⟩
theorem Tab.set {w : World} {gy q q' k : Nat} {v : Value} {R : Nat → Rg} {r : Nat → Nat} (h : Tab w gy q k v R r) (hq : q' ≠ q) (u : Value) : Tab (w.setCell ⟨gy, q', none⟩ u) gy q k v R r := by
  have ho := h.own
  obtain ⟨k1, k2, k3, k4⟩ := h
  have hf := fr_set w gy q' u
  refine ⟨(World.cell?_setCell_other _ _ _ _ (fun e => hq (by injection e))).trans k1, own_fr k2 hf (fun b hb e => by have := (ho b hb).1; omega), fun i hi => ⟨(k3 i hi).1, ?_, (k3 i hi).2.2⟩, k4⟩
  exact (Below.heap_setCell w ⟨gy, q', none⟩ u (r i) (fun e => by have := (k3 i hi).1; have e' : r i = gy := e; omega)).trans (k3 i hi).2.1
/-- Both tables. -/
def NyI (w1 wr : World) (u0 : Value) (gy q q' k k' : Nat) (R : Nat → Rg) : Prop :=
  ∃ v v' r r', Tab wr gy q k v R r ∧ Tab wr gy q' k' v' R r' ∧ (∀ i j, i < k → j < k' → r i ≠ r' j) ∧ (∀ i, i < k → v'.ownBlock ≠ some (r i)) ∧ (∀ j, j < k' → v.ownBlock ≠ some (r' j)) ∧ (∀ b, v.ownBlock = some b → v'.ownBlock ≠ some b) ∧ (∀ o, wr.frozen? ⟨gy, o, none⟩ = false) ∧ Below gy w1 wr ∧ gy < wr.heap.size ∧ wr.cell? ⟨gy, 0, none⟩ = some u0
theorem Tab.push {w w9 : World} {gy q k : Nat} {v : Value} {R : Nat → Rg} {r : Nat → Nat} {H g9 cap9 : Nat} (h : Tab w gy q k v R r) (hf : Fr (fun b => v.ownBlock = some b) w w9) (hH : w.heap.size ≤ H) (hg : gy < w.heap.size) (hrow : w9.heap[H]? = some (.cells (madeCells #[.int .u8 0] (R k).sz.toNat) 5 (0, 0)))
    (hown : w9.ownsRow (gy + 1) 37 1 (.slice (some ⟨g9, 0, none⟩) (k + 1) cap9) (k + 1) (bsL R r k ++ [.slice (some ⟨H, 0, none⟩) (R k).sz.toNat (R k).sz.toNat])) (hat : v.ownBlock = some g9 ∨ H < g9) :
    Tab (w9.setCell ⟨gy, q, none⟩ (.slice (some ⟨g9, 0, none⟩) (k + 1) cap9)) gy q (k + 1) (.slice (some ⟨g9, 0, none⟩) (k + 1) cap9) R (ins r k H) := by
  have ho := h.own
  have hl := h.lt
  obtain ⟨k1, k2, k3, k4⟩ := h
  have hgy : ¬ v.ownBlock = some gy := fun e => by have := (ho gy e).1; omega
  have e1 := fr_cel hf hgy k1
  have hfs := fr_set w9 gy q (.slice (some ⟨g9, 0, none⟩) (k + 1) cap9)
  have hgg : gy < g9 := by have := (hown.lt g9 rfl).1; omega
  refine ⟨World.cell?_setCell_same _ _ _ e1, ?_, fun i hi => ?_, fun i j hi hj e => ?_⟩
  · have : bsL R (ins r k H) (k + 1) = bsL R r k ++ [.slice (some ⟨H, 0, none⟩) (R k).sz.toNat (R k).sz.toNat] := by
      unfold bsL
      rw [fl_succ, ins_at]
      congr 1
      exact fl_congr (fun i hi => by rw [ins_off _ _ _ _ (by omega)])
    rw [this]
    exact own_fr hown hfs (fun b hb e => by have e' : g9 = b := Option.some.inj hb; omega)
  · by_cases e : i = k
    · subst e
      rw [ins_at]
      refine ⟨by omega, (Below.heap_setCell w9 ⟨gy, q, none⟩ _ H (fun e => by have e' : H = gy := e; omega)).trans hrow, fun e => ?_⟩
      have e' : g9 = H := Option.some.inj e
      rcases hat with h | h
      · have := (ho g9 h).2; omega
      · omega
    · rw [ins_off _ _ _ _ e]
      obtain ⟨m1, m2, m3⟩ := k3 i (by omega)
      refine ⟨m1, (Below.heap_setCell w9 ⟨gy, q, none⟩ _ (r i) (fun e => by have e' : r i = gy := e; omega)).trans ((hf.block (r i) (hl i (by omega)) m3).trans m2), fun e => ?_⟩
      have e' : g9 = r i := Option.some.inj e
      rcases hat with h | h
      · exact m3 (by rw [h, e'])
      · have := hl i (by omega); omega
  · by_cases ei : i = k
    · by_cases ej : j = k
      · omega
      · rw [ei, ins_at, ins_off _ _ _ _ ej] at e
        have := hl j (by omega)
        omega
    · by_cases ej : j = k
      · rw [ej, ins_at, ins_off _ _ _ _ ei] at e
        have := hl i (by omega)
        omega
      · rw [ins_off _ _ _ _ ei, ins_off _ _ _ _ ej] at e
        exact k4 i j (by omega) (by omega) e
/-- A row more in the first table. -/
theorem NyI_push {w1 wr w9 : World} {u0 : Value} {gy q q' k k' : Nat} {R : Nat → Rg} {v v' : Value} {r r' : Nat → Nat} {H g9 cap9 : Nat} (hqq : q ≠ q') (h1 : Tab wr gy q k v R r) (h2 : Tab wr gy q' k' v' R r') (h3 : ∀ i j, i < k → j < k' → r i ≠ r' j) (h4 : ∀ i, i < k → v'.ownBlock ≠ some (r i)) (h5 : ∀ j, j < k' → v.ownBlock ≠ some (r' j)) (h6 : ∀ b, v.ownBlock = some b → v'.ownBlock ≠ some b) (h7 : ∀ o, wr.frozen? ⟨gy, o, none⟩ = false) (h8 : Below gy w1 wr) (h9 : gy < wr.heap.size) (h10 : wr.cell? ⟨gy, 0, none⟩ = some u0)
    (hf : Fr (fun b => v.ownBlock = some b) wr w9) (hH : wr.heap.size ≤ H) (hrow : w9.heap[H]? = some (.cells (madeCells #[.int .u8 0] (R k).sz.toNat) 5 (0, 0)))
    (hown : w9.ownsRow (gy + 1) 37 1 (.slice (some ⟨g9, 0, none⟩) (k + 1) cap9) (k + 1) (bsL R r k ++ [.slice (some ⟨H, 0, none⟩) (R k).sz.toNat (R k).sz.toNat])) (hat : v.ownBlock = some g9 ∨ H < g9) (hq0 : q ≠ 0) :
    NyI w1 (w9.setCell ⟨gy, q, none⟩ (.slice (some ⟨g9, 0, none⟩) (k + 1) cap9)) u0 gy q q' (k + 1) k' R := by
  have ho := h1.own
  have ho' := h2.own
  have hl := h1.lt
  have hl' := h2.lt
  have hgy : ¬ v.ownBlock = some gy := fun e => by have := (ho gy e).1; omega
  have hs := hf.size
  refine ⟨_, v', _, r', h1.push hf hH h9 hrow hown hat, (h2.fr hf hgy (fun b hb e => h6 b e hb) (fun j hj e => h5 j hj e)).set hqq _, fun i j hi hj => ?_, fun i hi => ?_, fun j hj e => ?_, fun b hb => ?_, fun o => ?_, ?_, by simp [World.setCell]; omega, ?_⟩
  · by_cases e : i = k
    · rw [e, ins_at]; have := hl' j hj; omega
    · rw [ins_off _ _ _ _ e]; exact h3 i j (by omega) hj
  · by_cases e : i = k
    · rw [e, ins_at]; intro h; have := (ho' _ h).2; omega
    · rw [ins_off _ _ _ _ e]; exact h4 i (by omega)
  · have e' : g9 = r' j := Option.some.inj e
    rcases hat with h | h
    · exact h5 j hj (by rw [h, e'])
    · have := hl' j hj; omega
  · have e' : g9 = b := Option.some.inj hb
    rcases hat with h | h
    · exact h6 b (by rw [h, e'])
    · intro h'; have := (ho' _ h').2; omega
  · rw [World.frozen?_setCell, World.frozen?_of_block (w := wr) (a := ⟨gy, o, none⟩) (hf.block gy h9 hgy)]
    exact h7 o
  · exact h8.trans (Below.setCell (p := ⟨gy, q, none⟩) (hf.below (Nat.le_of_lt h9) (fun b hb => by have := (ho b hb).1; omega)) (Nat.le_refl _) _)
  · exact (World.cell?_setCell_other _ _ _ _ (fun e => hq0 (by injection e))).trans (fr_cel hf hgy h10)
theorem NyI.swap {w1 wr : World} {u0 : Value} {gy q q' k k' : Nat} {R : Nat → Rg} (h : NyI w1 wr u0 gy q q' k k' R) : NyI w1 wr u0 gy q' q k' k R := by
  obtain ⟨v, v', r, r', h1, h2, h3, h4, h5, h6, h7, h8, h9, h10⟩ := h
  exact ⟨v', v, r', r, h2, h1, fun i j hi hj e => h3 j i hj hi e.symm, h5, h4, fun b hb hv => h6 b hv hb, h7, h8, h9, h10⟩
theorem Tab.rn {w : World} {gy q n : Nat} {v : Value} {R : Nat → Rg} {r : Nat → Nat} (h : Tab w gy q n v R r) : ∃ g, RN w q gy g n R r (fun _ _ => 0) ∧ (0 < n → v.ownBlock = some g ∧ ∀ k, w.frozen? ⟨g, k, none⟩ = false) := by
  have hown := h.2.1
  obtain ⟨k1, k2, k3, k4⟩ := h
  have zero : ∀ i, i < n → ∀ y : Nat, (y : Int) < (R i).sz → w.cell? ⟨r i, y, none⟩ = some (.int .u8 0) := fun i hi y hy => by
    rw [cell_of_row w (r i) y _ _ (0, 0) (k3 i hi).2.1]
    have : (madeCells #[Value.int .u8 0] (R i).sz.toNat).toList[y]? = some (.int .u8 0) := by
      rw [toList_madeCells_one, List.getElem?_replicate, if_pos (by omega)]
    rw [← Array.getElem?_toList]
    exact this
  rcases k2.2 with ⟨rfl, h0⟩ | ⟨g, cap, cur, rfl, hg, hh, hle, _⟩
  · subst h0
    exact ⟨0, ⟨⟨none, 0, k1, fun h => by omega⟩, fun i hi => by omega⟩, fun h => by omega⟩
  · refine ⟨g, ⟨⟨_, cap, k1, fun _ => rfl⟩, fun i hi => ⟨_, (R i).sz.toNat, ?_, Nat.le_refl _, rfl, fun y hy => ⟨zero i hi y hy, by show (0 : Int) ≤ 0; omega, by show (0 : Int) ≤ 255; omega⟩⟩⟩, fun _ => ⟨rfl, fun k => World.ownsRow.frozenAt hown k⟩⟩
    rw [World.ownsRow.cellAt hown i (by omega)]
    exact bsL_at hi
/-- Both tables whole: the memory. -/
theorem NyI.rm {w1 wr : World} {gy gl n capl N : Nat} {R : Nat → Rg} (h : NyI w1 wr (.slice (some ⟨gl, 0, none⟩) n capl) gy 1 2 n n R) (hgl : gl < gy) (hN : N ≤ gl) (hRS : RS wr gl 0 n R) : Rm wr (fun b => N ≤ b) (fun b => N ≤ b) gy n R (fun _ _ => 0) (fun _ _ => 0) := by
  obtain ⟨v, v', r, r', h1, h2, h3, h4, h5, h6, h7, h8, h9, h10⟩ := h
  obtain ⟨g, e1, e2⟩ := h1.rn
  obtain ⟨g', e1', e2'⟩ := h2.rn
  refine ⟨gl, g, g', r, r', ⟨⟨_, capl, h10, fun _ => rfl⟩, hRS⟩, e1, e1', ⟨by show N ≤ gy; omega, h9⟩, fun h0 => ?_, fun i hi => ?_⟩
  · have o1 := h1.own _ (e2 h0).1
    have o2 := h2.own _ (e2' h0).1
    refine ⟨hN, by show N ≤ g; omega, by show N ≤ g'; omega, by show N ≤ g'; omega, by omega, by omega, fun e => ?_, o2.2, by omega, o1.2, (e2' h0).2⟩
    exact h6 g (e2 h0).1 (by rw [(e2' h0).1, e])
  · have o1 := h1.own _ (e2 (by omega)).1
    have o2 := h2.own _ (e2' (by omega)).1
    have l1 := h1.lt i hi
    have l2 := h2.lt i hi
    have q1 := (h1.2.2.1 i hi).1
    have q2 := (h2.2.2.1 i hi).1
    refine ⟨⟨by show N ≤ r i; omega, by show N ≤ r i; omega, by show N ≤ r' i; omega, l1, l2⟩, ⟨by omega, by omega, fun e => (h1.2.2.1 i hi).2.2 (by rw [(e2 (by omega)).1, e]), fun e => h4 i hi (by rw [(e2' (by omega)).1, e]), fun e => (h2.2.2.1 i hi).2.2 (by rw [(e2' (by omega)).1, e])⟩, fun k => ?_, fun i' hi' hne e => hne (h1.2.2.2 i' i hi' hi e), fun i' hi' e => h3 i i' hi hi' e.symm⟩
    unfold World.frozen?
    simp [(h1.2.2.1 i hi).2.1]
/-- Behind a row of noughts and a cell that holds it, append has grown the table. -/
theorem grow_fr {wr w9 : World} {v : Value} {o o' : Obj} (hg : ((wr.alloc o).alloc o').drew.grownBy w9 v.ownBlock) (hv : ∀ b, v.ownBlock = some b → b < wr.heap.size) : Fr (fun b => v.ownBlock = some b) wr w9 ∧ w9.heap[wr.heap.size]? = some o := by
  have hs := hg.size
  have hsz : ((wr.alloc o).alloc o').drew.heap.size = wr.heap.size + 2 := by simp
  refine ⟨⟨hg.os, hg.tape, hg.output, by omega, fun b hb hn => (hg.block b (by omega) (fun e => hn e.symm)).trans ?_⟩, (hg.block _ (by omega) (fun e => by have := hv _ e.symm; omega)).trans ?_⟩
  · exact ((below_new (wr.alloc o) o').block b (by simp; omega)).trans ((below_new wr o).block b hb)
  · exact ((below_new (wr.alloc o) o').block _ (by simp)).trans (heap_alloc_new wr o)
end Go.Proofs.Ytbfimedgichiiaa
