/-
  The contract of with, in the code: a list of gaps and an address more.
-/
import Derived.Test.YtbfimedgichiiaaMemNew4
import Derived.Test.YtbfimedgichiiaaMemGap
import Derived.Deep.RegionLaw
import Derived.Maps.AppendAt
namespace Go.Proofs.Ytbfimedgichiiaa
set_option linter.unusedVariables false
set_option linter.unusedSimpArgs false
set_option maxRecDepth 100000
open Go.ChangeShapes Go.WideShapes Go.ChangeAt Go.RowKit

theorem infoGp : (Try.prog.info? 57).map (fun i => (i.zero, i.size, i.bytes)) = some (some (.agg #[.int .i64 0, .int .i64 0]), 2, 16) := by kernel_rfl
/-- The cells of a list of gaps. -/
def gC (L : List (Int × Int)) : List Value := L.flatMap fun g => [.int .i64 g.1, .int .i64 g.2]
theorem gC_len (L : List (Int × Int)) : (gC L).length = L.length * 2 := by
  induction L with
  | nil => rfl
  | cons g l ih => unfold gC at ih ⊢; rw [List.flatMap_cons, List.length_append, ih]; simp; omega
theorem gC_app (L M : List (Int × Int)) : gC (L ++ M) = gC L ++ gC M := by unfold gC; rw [List.flatMap_append]
theorem gC_one (L : List (Int × Int)) : ∀ u ∈ gC L, u.oneCell' = true := by
  intro u hu
  unfold gC at hu
  obtain ⟨g, _, hg⟩ := List.mem_flatMap.1 hu
  simp at hg
  rcases hg with rfl | rfl <;> rfl
/-- A list of gaps, of the call's own. -/
def GL (w : World) (base : Nat) (v : Value) (L : List (Int × Int)) : Prop := w.ownsRow base 57 2 v L.length (gC L)
theorem wth_snoc (f s a : Int) : ∀ (M : List (Int × Int)), wth (M ++ [(f, s)]) a = if f + s = a then M ++ [(f, s + 1)] else M ++ [(f, s), (a, 1)]
  | [] => by show wth [(f, s)] a = _; unfold wth; rfl
  | [g] => by
    show g :: wth [(f, s)] a = _
    unfold wth
    split <;> rfl
  | g :: k :: M => by
    show g :: wth (k :: M ++ [(f, s)]) a = _
    rw [wth_snoc f s a (k :: M)]
    split <;> rfl
theorem GL.form {w : World} {base : Nat} {v : Value} {L : List (Int × Int)} (h : GL w base v L) : ∃ a cap, v = .slice a L.length cap ∧ (a = none → L.length = 0 ∧ cap = 0) ∧ (0 < L.length → ∃ g, a = some ⟨g, 0, none⟩ ∧ base ≤ g ∧ g < w.heap.size) := by
  rcases h.2 with ⟨rfl, hn⟩ | ⟨g, cap, cur, rfl, hg, hh, _⟩
  · exact ⟨none, 0, by rw [hn], fun _ => ⟨hn, rfl⟩, fun h => by omega⟩
  · exact ⟨_, cap, rfl, (fun h => by cases h), fun _ => ⟨g, rfl, hg, (Array.getElem?_eq_some_iff.1 hh).1⟩⟩
theorem GL.own {w : World} {base : Nat} {v : Value} {L : List (Int × Int)} (h : GL w base v L) : ∀ k, v.ownBlock = some k → base ≤ k := by
  intro k hk
  rcases h.2 with ⟨rfl, _⟩ | ⟨g, cap, cur, rfl, hg, _⟩
  · simp [Value.ownBlock] at hk
  · simp [Value.ownBlock] at hk; omega
theorem GL.bl {w w' : World} {base : Nat} {v : Value} {L : List (Int × Int)} (h : GL w base v L) (hb : Below w.heap.size w w') : GL w' base v L := by
  refine ⟨h.1, ?_⟩
  rcases h.2 with h | ⟨g, cap, cur, a1, a2, a3, a4⟩
  · exact .inl h
  · exact .inr ⟨g, cap, cur, a1, a2, (hb.block g (Array.getElem?_eq_some_iff.1 a3).1).trans a3, a4⟩
theorem GL.drewN {w : World} {base : Nat} {v : Value} {L : List (Int × Int)} (h : GL w base v L) (n : Nat) : GL (w.drewN n) base v L := h.bl (below_drewN (Below.refl _ _) n)
/-- From v to v': but for v's own row, what stood stands; the row of v' is that of v, or new. -/
def CR (w w' : World) (v v' : Value) : Prop := Fr (fun b => v.ownBlock = some b) w w' ∧ ∀ b, v'.ownBlock = some b → v.ownBlock = some b ∨ w.heap.size ≤ b
theorem CR.refl (w : World) (v : Value) : CR w w v v := ⟨Fr.refl _ w, fun b h => .inl h⟩
theorem CR.trans {w w1 w2 : World} {v v1 v2 : Value} (h : CR w w1 v v1) (k : CR w1 w2 v1 v2) : CR w w2 v v2 := by
  have hs := h.1.size
  have h1 : Fr (fun b => v.ownBlock = some b ∨ w.heap.size ≤ b) w w1 := h.1.weak (fun b _ e => .inl e)
  have k1 : Fr (fun b => v.ownBlock = some b ∨ w.heap.size ≤ b) w1 w2 := k.1.weak (fun b _ e => h.2 b e)
  refine ⟨(h1.trans k1).weak (fun b hb e => e.resolve_right (by omega)), fun b e => ?_⟩
  rcases k.2 b e with e | e
  · exact h.2 b e
  · exact .inr (by omega)
theorem CR.of_below {w w' : World} (v : Value) (h : Below w.heap.size w w') : CR w w' v v := ⟨Fr.of_below h, fun b e => .inl e⟩
theorem CR.grown {w w1 w2 : World} {v v' : Value} (h : Below w.heap.size w w1) (g : w1.grownBy w2 v.ownBlock) (hv : v'.ownBlock = v.ownBlock ∨ v'.ownBlock = some w1.heap.size) : CR w w2 v v' := by
  have hs := h.size
  have g1 := g.size
  refine ⟨⟨g.os.trans h.os, g.tape.trans h.tape, g.output.trans h.output, by omega, fun b hb hn => (g.block b (by omega) (fun e => hn e.symm)).trans (h.block b hb)⟩, fun b e => ?_⟩
  rcases hv with hv | hv
  · exact .inl (by rw [← hv]; exact e)
  · rw [hv] at e
    injection e with e
    exact .inr (by omega)
theorem CR.below {w w' : World} {v v' : Value} {N : Nat} (h : CR w w' v v') (hN : N ≤ w.heap.size) (hv : ∀ b, v.ownBlock = some b → N ≤ b) : Below N w w' := h.1.below hN hv
set_option maxHeartbeats 1000000 in
theorem c_with_nil (v : Value) (a : Int) (base : Nat) (w : World) (hG : GL w base v []) (h0 : 0 ≤ a) (h1 : a ≤ 8589934592) (hb : base ≤ w.heap.size) :
    Calls Try.prog 84 #[v, .int .i64 a] w fun e w' => ∃ v', e = .returned v' ∧ GL w' base v' (wth [] a) ∧ CR w w' v v' := by
  obtain ⟨ad, cap, rfl, hnil, _⟩ := hG.form
  have HG := Lib.hid hG
  obtain ⟨i0, hi, hz0, hz1, hz2⟩ := info_parts infoGp
  have HO : Hid (∀ q o, ((w.drewN q).alloc o).ownsRow base 57 2 (.slice ad 0 cap) 0 []) := fun q o => (hG.drewN q).bl (below_new _ o)
  clear hG hnil
  show Calls Try.prog 84 #[.slice ad 0 cap, .int .i64 a] w _
  go_enter Try.func84, Try.ntmps84
  go_wp2_with fail
  go_quiet (fail)
  go_wp2_with (at_builtin; refine wpList_append_own_at _ rfl _ _ 44 rfl base 57 i0 _ 2 16 Try.underlying44 hi hz0 hz1 hz2 rfl (by decide) _ 0 [] rfl (HO.out _ _) ⟨w.heap.size, 0, none⟩ 1 1 (gC [(a, 1)]) rfl rfl ?c2 (gC_one _) (by decide) (by decide) (by simp [drewN_heap]; omega) ?_)
  case c2 =>
    have := World.news_of_block (heap_alloc_new (w.drewN nq) (.cells #[.int .i64 a, .int .i64 1] 57))
    rw [drewN_heap] at this
    exact this
  intro v' w1 hown hgrow hnn hat
  have HOW : Hid (GL w1 base v' [(a, 1)]) := hown
  have HB : Hid (CR w w1 _ v') := CR.grown ((below_drewN (Below.refl w.heap.size w) nq).alloc (by rw [drewN_heap]; exact Nat.le_refl _) _) hgrow (by simpa [drewN_heap] using hat)
  clear hown hgrow hnn hat
  go_wp2_with fail
  go_returns
  exact ⟨_, rfl, HOW.out, HB.out⟩
theorem last_cells {w : World} {base : Nat} {v : Value} {M : List (Int × Int)} {f s : Int} (h : GL w base v (M ++ [(f, s)])) :
    ∃ g cap, v = .slice (some ⟨g, 0, none⟩) (M.length + 1) cap ∧ base ≤ g ∧ g < w.heap.size ∧ M.length + 1 ≤ cap ∧ w.cell? ⟨g, M.length * 2, none⟩ = some (.int .i64 f) ∧ w.cell? ⟨g, M.length * 2 + 1, none⟩ = some (.int .i64 s) ∧ w.frozen? ⟨g, M.length * 2 + 1, none⟩ = false := by
  have hl : (M ++ [(f, s)]).length = M.length + 1 := by simp
  have h0 : w.ownsRow base 57 2 v (M.length + 1) (gC (M ++ [(f, s)])) := by unfold GL at h; rw [hl] at h; exact h
  obtain ⟨ad, cap, rfl, _, hp⟩ := h.form
  obtain ⟨g, rfl, hg, hlt⟩ := hp (by rw [hl]; omega)
  rw [hl] at h0 ⊢
  have hc : M.length + 1 ≤ cap := by
    rcases h0.2 with ⟨h', _⟩ | ⟨g', cap', cur, h', _, _, hle, _⟩
    · cases h'
    · injection h' with _ _ h3; omega
  have e1 : (gC (M ++ [(f, s)]))[M.length * 2]? = some (.int .i64 f) := by
    rw [gC_app, List.getElem?_append_right (by rw [gC_len]; omega), gC_len]
    simp [gC]
  have e2 : (gC (M ++ [(f, s)]))[M.length * 2 + 1]? = some (.int .i64 s) := by
    rw [gC_app, List.getElem?_append_right (by rw [gC_len]; omega), gC_len]
    rw [show M.length * 2 + 1 - M.length * 2 = 1 by omega]
    simp [gC]
  exact ⟨g, cap, rfl, hg, hlt, hc, (h0.cellAt _ (by omega)).trans e1, (h0.cellAt _ (by omega)).trans e2, h0.frozenAt _⟩
theorem set_last (M : List (Int × Int)) (f s t : Int) : (gC (M ++ [(f, s)])).set (M.length * 2 + 1) (.int .i64 t) = gC (M ++ [(f, t)]) := by
  rw [gC_app, gC_app, List.set_append_right _ _ (by rw [gC_len]; omega), gC_len, show M.length * 2 + 1 - M.length * 2 = 1 by omega]
  rfl
set_option maxHeartbeats 1000000 in
theorem c_with_join (v : Value) (M : List (Int × Int)) (f s a : Int) (base : Nat) (w : World) (hG : GL w base v (M ++ [(f, s)])) (h0 : 0 ≤ f) (h1 : 1 ≤ s) (h2 : f + s ≤ 8589934592) (he : f + s = a) (hM : M.length ≤ 8589934592) :
    Calls Try.prog 84 #[v, .int .i64 a] w fun e w' => ∃ v', e = .returned v' ∧ GL w' base v' (M ++ [(f, s + 1)]) ∧ CR w w' v v' := by
  obtain ⟨g, cap, rfl, hg, hlt, hc, x0, x1, xf⟩ := last_cells hG
  have hG2 : ∀ q, ((w.drewN q).setCell ⟨g, M.length * 2 + 1, none⟩ (.int .i64 (s + 1))).ownsRow base 57 2 (.slice (some ⟨g, 0, none⟩) (M.length + 1) cap) (M.length + 1) (gC (M ++ [(f, s + 1)])) ∧ (w.drewN q).grownBy ((w.drewN q).setCell ⟨g, M.length * 2 + 1, none⟩ (.int .i64 (s + 1))) (some g) := by
    intro q
    have h := hG.drewN q
    unfold GL at h
    rw [show (M ++ [(f, s)]).length = M.length + 1 by simp] at h
    have := h.stored (M.length * 2 + 1) (.int .i64 (s + 1))
    rw [set_last] at this
    exact this
  have HG2 := Lib.hid hG2
  have HL : Hid ((M ++ [(f, s + 1)]).length = M.length + 1) := by show _ = _; simp
  clear hG hG2
  generalize M.length = m at *
  have hle2 : (m : Int) < m + 1 := by omega
  have hsub : ((m + 1 : Nat) : Int) - 1 = m := by omega
  go_enter Try.func84, Try.ntmps84
  go_wp2_with fail
  go_quiet (fail)
  go_wp2_with fail
  go_returns
  refine ⟨_, rfl, ?_, ⟨?_, fun b e => .inl e⟩⟩
  rotate_left
  · have hb := below_drewN (Below.refl w.heap.size w) nq
    exact ⟨hb.os, hb.tape, hb.output, by simp [World.setCell, drewN_heap], fun b hbl hn => (Below.heap_setCell _ _ _ b (fun e => hn (by have e' : b = g := e; rw [e']; rfl))).trans (hb.block b hbl)⟩
  unfold GL
  rw [HL.out]
  exact (HG2.out nq).1
set_option maxHeartbeats 1000000 in
theorem c_with_far (v : Value) (M : List (Int × Int)) (f s a : Int) (base : Nat) (w : World) (hG : GL w base v (M ++ [(f, s)])) (h0 : 0 ≤ f) (h1 : 1 ≤ s) (h2 : f + s ≤ 8589934592) (he : ¬ f + s = a) (h3 : 0 ≤ a) (h4 : a ≤ 8589934592) (hM : M.length ≤ 8589934592) (hb : base ≤ w.heap.size) :
    Calls Try.prog 84 #[v, .int .i64 a] w fun e w' => ∃ v', e = .returned v' ∧ GL w' base v' (M ++ [(f, s), (a, 1)]) ∧ CR w w' v v' := by
  obtain ⟨g, cap, rfl, hg, hlt, hc, x0, x1, xf⟩ := last_cells hG
  obtain ⟨i0, hi, hz0, hz1, hz2⟩ := info_parts infoGp
  have HO : Hid (∀ q o, ((w.drewN q).alloc o).ownsRow base 57 2 (.slice (some ⟨g, 0, none⟩) (M.length + 1) cap) (M.length + 1) (gC (M ++ [(f, s)]))) := by
    intro q o
    have := (hG.drewN q).bl (below_new _ o)
    unfold GL at this
    rw [show (M ++ [(f, s)]).length = M.length + 1 by simp] at this
    exact this
  have HL : Hid ((M ++ [(f, s), (a, 1)]).length = M.length + 1 + 1) := by show _ = _; simp
  have HA : Hid (gC (M ++ [(f, s)]) ++ gC [(a, 1)] = gC (M ++ [(f, s), (a, 1)])) := by show _ = _; rw [← gC_app]; simp
  clear hG xf
  generalize M.length = m at *
  have hle2 : (m : Int) < m + 1 := by omega
  have hsub : ((m + 1 : Nat) : Int) - 1 = m := by omega
  have hed : (f + s == a) = false := beq_no he
  go_enter Try.func84, Try.ntmps84
  go_wp2_with fail
  go_quiet (fail)
  go_wp2_with (at_builtin; refine wpList_append_own_at _ rfl _ _ 44 rfl base 57 i0 _ 2 16 Try.underlying44 hi hz0 hz1 hz2 rfl (by decide) _ (m + 1) (gC (M ++ [(f, s)])) rfl (HO.out _ _) ⟨w.heap.size, 0, none⟩ 1 1 (gC [(a, 1)]) rfl rfl ?c2 (gC_one _) (by unfold maxLen; omega) (by omega) (by simp [drewN_heap]; omega) ?_)
  case c2 =>
    have := World.news_of_block (heap_alloc_new (w.drewN nq) (.cells #[.int .i64 a, .int .i64 1] 57))
    rw [drewN_heap] at this
    exact this
  intro v' w1 hown hgrow hnn hat
  have HOW : Hid (GL w1 base v' (M ++ [(f, s), (a, 1)])) := by
    show GL _ _ _ _
    unfold GL
    rw [HL.out, ← HA.out]
    exact hown
  have HB : Hid (CR w w1 _ v') := CR.grown ((below_drewN (Below.refl w.heap.size w) nq).alloc (by rw [drewN_heap]; exact Nat.le_refl _) _) hgrow (by simpa [drewN_heap] using hat)
  clear hown hgrow hnn hat
  go_wp2_with fail
  go_returns
  exact ⟨_, rfl, HOW.out, HB.out⟩
theorem list_snoc {α : Type} : ∀ (L : List α), L = [] ∨ ∃ M x, L = M ++ [x]
  | [] => .inl rfl
  | x :: L => by
    rcases list_snoc L with rfl | ⟨M, y, rfl⟩
    · exact .inr ⟨[], x, rfl⟩
    · exact .inr ⟨x :: M, y, rfl⟩
/-- An address more, above all of the list. -/
theorem c_with (v : Value) (L : List (Int × Int)) (a hi : Int) (base : Nat) (w : World) (hG : GL w base v L) (hW : Wf 0 L hi) (ha : hi ≤ a) (h4 : a ≤ 8589934000) (hb : base ≤ w.heap.size) :
    Calls Try.prog 84 #[v, .int .i64 a] w fun e w' => ∃ v', e = .returned v' ∧ GL w' base v' (wth L a) ∧ CR w w' v v' := by
  have hlo := hW.le
  rcases list_snoc L with rfl | ⟨M, ⟨f, s⟩, rfl⟩
  · exact c_with_nil v a base w hG (by omega) (by omega) hb
  · have hm := hW.mem (f, s) (by simp)
    simp only at hm
    have hlen := hW.len0
    simp at hlen
    rw [wth_snoc]
    split
    · exact c_with_join v M f s a base w hG (by omega) (by omega) (by omega) (by assumption) (by omega)
    · exact c_with_far v M f s a base w hG (by omega) (by omega) (by omega) (by assumption) (by omega) (by omega) (by omega) hb
end Go.Proofs.Ytbfimedgichiiaa
