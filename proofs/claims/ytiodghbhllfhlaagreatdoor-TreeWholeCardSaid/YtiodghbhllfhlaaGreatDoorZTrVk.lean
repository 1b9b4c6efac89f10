/-
  Plain: going over a tree tells each place once, behind its whole; a tree is its parts, one behind the other, and its last node.
-/
import Derived.Test.YtiodghbhllfhlaaGreatDoorZTrVu
import Derived.Test.YtiodghbhllfhlaaGreatDoorZTrCp
import Derived.Test.YtiodghbhllfhlaaGreatDoorZTrDp
namespace Go.Proofs.YtiodghbhllfhlaaGreatDoor
set_option linter.unusedVariables false
set_option linter.unusedSimpArgs false
set_option maxRecDepth 100000
open Go.RowKit

/-- What Walk answers. -/
def WaT (t : List NdT) (w : World) (e : Ending) (w' : World) : Prop :=
  ((ckA wlB t = 0 ∧ t.length ≤ 4096 ∧ ∃ P ps, grow t = some ps ∧ e = .returned (.tuple #[.func (.func 20) #[.slice (some ⟨P, 0, none⟩) t.length t.length] #[], .int .i64 0]) ∧ PtIn (fun b => w.heap.size ≤ b) ps P w' ∧ w.heap.size ≤ P) ∨ (ckA wlB t ≠ 0 ∧ e = .returned (.tuple #[.nilFunc, .int .i64 (ckA wlB t : Nat)]))) ∧ Below w.heap.size w w'
set_option maxHeartbeats 4000000 in
theorem c_tWalk (B : Nat) (t : List NdT) (a : Option Addr) (c : Nat) (w : World) (hE : Env B w) (hB : B ≤ w.heap.size) (ho : ∀ x ∈ t, NdOk x) (hT : TrIn t a w) :
    Calls Tryz.prog 8 #[.slice a t.length c] w fun e w' => WaT t w e w' := by
  have HT := Lib.hid (c_tkTree B t a c w hE hB ho hT)
  obtain ⟨N, hN⟩ : ∃ N, t.length = N := ⟨_, rfl⟩
  unfold TkT at HT
  have HN := Lib.hid hN
  rw [hN] at HT ⊢
  clear hE ho hT hN
  go_enter Tryz.func8, Tryz.ntmps8
  go_wp2_with fail
  refine HT.out.mono ?_
  rintro e w1 ⟨hr, hb⟩
  have HB1 := Lib.hid hb
  clear hb HT
  rcases hr with ⟨h0, hl, P, ps, hg, rfl, hPt, hP⟩ | ⟨h0, rfl⟩
  · have HQ := Lib.hid (And.intro h0 (And.intro hl (And.intro hg (And.intro hPt hP))))
    clear h0 hl hg hPt hP
    go_wp2_with fail
    go_ret2
    exact ⟨.inl ⟨HQ.out.1, by rw [HN.out]; exact HQ.out.2.1, P, ps, HQ.out.2.2.1, by rw [HN.out]; rfl, HQ.out.2.2.2.1.next (below_o _ _), HQ.out.2.2.2.2⟩, HB1.out.alloc HB1.out.size _⟩
  · have HC0 := Lib.hid h0
    obtain ⟨ck, hck⟩ : ∃ ck : Int, ((ckA wlB t : Nat) : Int) = ck := ⟨_, rfl⟩
    have hne : (ck == 0) = false := by rw [← hck]; simp; omega
    have HCK := Lib.hid hck
    rw [hck]
    clear h0 hck
    go_wp2_with fail
    go_ret2
    exact ⟨.inr ⟨HC0.out, by rw [HCK.out]; rfl⟩, HB1.out.alloc HB1.out.size _⟩
end Go.Proofs.YtiodghbhllfhlaaGreatDoor
namespace Go.Proofs.YtiodghbhllfhlaaGreatDoor
set_option linter.unusedVariables false
set_option linter.unusedSimpArgs false
set_option maxRecDepth 100000
open Go.RowKit
attribute [local go_sem] Oper.semAt_some

/-- Whole numbers lie in a row. -/
def IzIn (p : List Int) (a : Option Addr) (w : World) : Prop := 0 < p.length → ∃ b off, a = some ⟨b, off, none⟩ ∧ b < w.heap.size ∧ ∀ (k : Nat) (q : Int), p[k]? = some q → w.cell? ⟨b, off + k, none⟩ = some (.int .i64 q)
theorem IzIn.next {p : List Int} {a : Option Addr} {w w' : World} (h : IzIn p a w) (hb : Below w.heap.size w w') : IzIn p a w' := fun h0 => by
  obtain ⟨b, off, h1, h2, h3⟩ := h h0
  exact ⟨b, off, h1, Nat.lt_of_lt_of_le h2 hb.size, fun k q hk => (blk_cell (hb.block b h2) _).trans (h3 k q hk)⟩
/-- Is the node at a place of one of the kinds (of any, where none is named)? -/
def kdB (ks : List Int) (t : List NdT) (j : Nat) : Bool := (ks.length == 0) || ks.contains ((t[j]?.map NdT.kind).getD 0)
def ctA (ks : List Int) (t : List NdT) (l : List (Nat × Nat)) : Nat := l.countP fun x => kdB ks t (min x.1 (t.length - 1))
theorem ct_snoc (ks : List Int) (t : List NdT) (l : List (Nat × Nat)) (x : Nat × Nat) : ctA ks t (l ++ [x]) = ctA ks t l + if kdB ks t (min x.1 (t.length - 1)) then 1 else 0 := by
  unfold ctA
  rw [List.countP_append, List.countP_singleton]
theorem ct_le (ks : List Int) (t : List NdT) (l : List (Nat × Nat)) : ctA ks t l ≤ l.length := List.countP_le_length
/-- How many nodes are of the kinds, in order. -/
def cntA (ks : List Int) (t : List NdT) : Nat := (List.range t.length).countP (kdB ks t)
theorem KpsOk.of_grow {t : List NdT} {ps : List (List Nat)} (h : grow t = some ps) (hl : t.length ≤ 4096) : KpsOk ps t.length ∧ 0 < t.length ∧ (wkA ps).length = t.length ∧ (∀ x ∈ wkA ps, x.1 < t.length) ∧ ∀ ks, ctA ks t (wkA ps) = cntA ks t := by
  obtain ⟨fr, hbg, hG, hfl, hfe⟩ := grow_psG h
  obtain ⟨h0, hr⟩ := grow_root h hbg
  have hk : KpsOk ps t.length := ⟨hG.1, hl, hG.all hl⟩
  have hwc := fun P => wk_count hG hfl hfe P (t.length - 1 + 1) (t.length - 1) 1 0 (by omega) (by omega) hr
  have hwA : wkA ps = wk ps (t.length - 1 + 1) (t.length - 1) 1 := by unfold wkA; rw [hG.1]
  rw [show t.length - 1 + 1 = t.length by omega] at hwc hwA
  have hlen : (wkA ps).length = t.length := by
    have h1 := hwc (fun _ => true)
    rw [List.countP_true, cnR_zero_len] at h1
    rw [hwA]
    exact h1
  have hmem : ∀ x ∈ wkA ps, x.1 < t.length := by
    have h1 := hwc (fun j => decide (j < t.length))
    have h2 : cnR (fun j => decide (j < t.length)) 0 t.length = t.length := by
      unfold cnR
      rw [List.countP_eq_length.2, List.length_range', Nat.sub_zero]
      intro j hj
      rw [List.mem_range'_1] at hj
      simpa using hj.2
    rw [h2, ← hwA] at h1
    have h3 := List.countP_eq_length.1 (h1.trans hlen.symm)
    intro x hx
    simpa using h3 x hx
  refine ⟨hk, h0, hlen, hmem, fun ks => ?_⟩
  have h1 := hwc (kdB ks t)
  rw [← hwA] at h1
  unfold ctA cntA
  have h2 : cnR (kdB ks t) 0 t.length = (List.range t.length).countP (kdB ks t) := by unfold cnR; rw [Nat.sub_zero, ← List.range_eq_range']
  rw [← h2, ← h1]
  refine List.countP_congr fun x hx => ?_
  have := hmem x hx
  rw [show min x.1 (t.length - 1) = x.1 by omega]
end Go.Proofs.YtiodghbhllfhlaaGreatDoor
namespace Go.Proofs.YtiodghbhllfhlaaGreatDoor
set_option linter.unusedVariables false
set_option linter.unusedSimpArgs false

/-- The places on the way to the last one. -/
def dpS (s : List Nat) (x : Nat × Nat) : List Nat := s.take (x.2 - 1) ++ [x.1]
def dpL (l : List (Nat × Nat)) : List Nat := l.foldl dpS []
theorem dpL_snoc (l : List (Nat × Nat)) (x : Nat × Nat) : dpL (l ++ [x]) = dpS (dpL l) x := by unfold dpL; rw [List.foldl_append]; rfl
/-- A place may follow: it is no deeper than one below the way, and its whole stands there. -/
def OkS (ps : List (List Nat)) (s : List Nat) (x : Nat × Nat) : Prop := 1 ≤ x.2 ∧ x.2 ≤ s.length + 1 ∧ (2 ≤ x.2 → ∃ q p, s[x.2 - 2]? = some q ∧ ps[q]? = some p ∧ x.1 ∈ p)
def OkL (ps : List (List Nat)) : List Nat → List (Nat × Nat) → Prop
  | _, [] => True
  | s, x :: l => OkS ps s x ∧ OkL ps (dpS s x) l
theorem OkL.app {ps : List (List Nat)} : ∀ {s : List Nat} {l m : List (Nat × Nat)}, OkL ps s l → OkL ps (l.foldl dpS s) m → OkL ps s (l ++ m)
  | _, [], _, _, h => h
  | _, _ :: _, _, h, k => ⟨h.1, OkL.app h.2 k⟩
theorem OkL.at {ps : List (List Nat)} : ∀ {s : List Nat} {l : List (Nat × Nat)} {x : Nat × Nat} {m : List (Nat × Nat)}, OkL ps s (l ++ x :: m) → OkS ps (l.foldl dpS s) x
  | _, [], _, _, h => h.1
  | s, y :: l, x, m, h => by
    have h2 : OkL ps (dpS s y) (l ++ x :: m) := h.2
    have h3 := OkL.at (l := l) h2
    exact h3
theorem wk_ok (ps : List (List Nat)) : ∀ (f a d : Nat) (s : List Nat), OkS ps s (a, d) → OkL ps s (wk ps f a d) ∧ (0 < f → ((wk ps f a d).foldl dpS s).take d = s.take (d - 1) ++ [a])
  | 0, a, d, s, h => ⟨trivial, fun h0 => by omega⟩
  | f + 1, a, d, s, h => by
    have h1 : 1 ≤ d := h.1
    have h2 : d ≤ s.length + 1 := h.2.1
    have hs1 : (s.take (d - 1) ++ [a]).length = d := by rw [List.length_append, List.length_take, List.length_singleton]; omega
    -- the parts, one behind the other
    have hparts : ∀ (p : List Nat) (hp : ∀ q ∈ p, ∃ p', ps[a]? = some p' ∧ q ∈ p') (s2 : List Nat), s2.take d = s.take (d - 1) ++ [a] →
        OkL ps s2 (p.flatMap (fun q => wk ps f q (d + 1))) ∧ ((p.flatMap (fun q => wk ps f q (d + 1))).foldl dpS s2).take d = s.take (d - 1) ++ [a] := by
      intro p
      induction p with
      | nil => intro _ s2 h3; exact ⟨trivial, h3⟩
      | cons q p ih =>
        intro hp s2 h3
        have hl2 : d ≤ s2.length := by
          have := congrArg List.length h3
          rw [hs1, List.length_take] at this
          omega
        obtain ⟨p', hp1, hp2⟩ := hp q (List.mem_cons_self ..)
        have hok : OkS ps s2 (q, d + 1) := by
          refine ⟨by show 1 ≤ d + 1; omega, by show d + 1 ≤ _; omega, fun _ => ⟨a, p', ?_, hp1, hp2⟩⟩
          show s2[d + 1 - 2]? = some a
          have h4 : (s2.take d)[d - 1]? = some a := by
            rw [h3, List.getElem?_append_right (by rw [List.length_take]; omega), List.length_take, show d - 1 - min (d - 1) s.length = 0 by omega]
            rfl
          rw [List.getElem?_take_of_lt (by omega)] at h4
          rw [show d + 1 - 2 = d - 1 by omega]
          exact h4
        obtain ⟨g1, g2⟩ := wk_ok ps f q (d + 1) s2 hok
        have h5 : ((wk ps f q (d + 1)).foldl dpS s2).take d = s.take (d - 1) ++ [a] := by
          cases f with
          | zero => exact h3
          | succ f =>
            have g3 := congrArg (List.take d) (g2 (by omega))
            rw [List.take_take, show min d (d + 1) = d by omega, show d + 1 - 1 = d by omega, List.take_append_of_le_length (by rw [List.length_take]; omega), List.take_take, Nat.min_self] at g3
            rw [g3, h3]
        obtain ⟨g4, g5⟩ := ih (fun q' hq' => hp q' (List.mem_cons_of_mem _ hq')) _ h5
        rw [List.flatMap_cons]
        refine ⟨g1.app g4, ?_⟩
        rw [List.foldl_append]
        exact g5
    have ht : (s.take (d - 1) ++ [a]).take d = s.take (d - 1) ++ [a] := List.take_of_length_le (by omega)
    cases hp : ps[a]? with
    | none =>
      have hw : wk ps (f + 1) a d = [(a, d)] := by
        show _ :: ((ps[a]?).getD []).flatMap _ = _
        rw [hp]
        rfl
      rw [hw]
      exact ⟨⟨h, trivial⟩, fun _ => ht⟩
    | some p =>
      rw [wk_succ ps f a d hp]
      obtain ⟨g1, g2⟩ := hparts p (fun q hq => ⟨p, hp, hq⟩) (s.take (d - 1) ++ [a]) ht
      exact ⟨⟨h, g1⟩, fun _ => g2⟩
/-- How deep each place was when it was come to; 0: not yet. -/
def snL (N : Nat) (l : List (Nat × Nat)) : List Nat := l.foldl (fun s x => s.set x.1 x.2) (List.replicate N 0)
theorem snL_snoc (N : Nat) (l : List (Nat × Nat)) (x : Nat × Nat) : snL N (l ++ [x]) = (snL N l).set x.1 x.2 := by unfold snL; rw [List.foldl_append]; rfl
theorem snL_len (N : Nat) (l : List (Nat × Nat)) : (snL N l).length = N := by
  have : ∀ (l : List (Nat × Nat)) (s : List Nat), (l.foldl (fun s x => s.set x.1 x.2) s).length = s.length := by
    intro l
    induction l with
    | nil => intro s; rfl
    | cons x l ih => intro s; rw [List.foldl_cons, ih, List.length_set]
  unfold snL
  rw [this, List.length_replicate]
theorem sn_fold : ∀ (l : List (Nat × Nat)) (s : List Nat) (i : Nat), (∀ x ∈ l, x.1 ≠ i) → (l.foldl (fun s x => s.set x.1 x.2) s)[i]? = s[i]?
  | [], _, _, _ => rfl
  | x :: l, s, i, h => by
    rw [List.foldl_cons, sn_fold l _ i (fun y hy => h y (List.mem_cons_of_mem _ hy)), List.getElem?_set_ne (h x (List.mem_cons_self ..))]
theorem snL_not {N : Nat} {l : List (Nat × Nat)} {i : Nat} (hi : i < N) (h : ∀ x ∈ l, x.1 ≠ i) : (snL N l)[i]? = some 0 := by
  unfold snL
  rw [sn_fold l _ i h, List.getElem?_replicate, if_pos hi]
theorem snL_is {N : Nat} : ∀ {l : List (Nat × Nat)} {i : Nat}, i < N → (∀ x ∈ l, 1 ≤ x.2) → (∃ x ∈ l, x.1 = i) → ∃ d, (snL N l)[i]? = some (d + 1) := by
  intro l
  generalize hs : List.replicate N 0 = s0
  have hl0 : s0.length = N := by rw [← hs, List.length_replicate]
  unfold snL
  rw [hs]
  clear hs
  induction l generalizing s0 with
  | nil => intro i _ _ ⟨x, hx, _⟩; cases hx
  | cons x l ih =>
    intro i hi h1 ⟨y, hy, hyi⟩
    rw [List.foldl_cons]
    by_cases hm : ∃ z ∈ l, z.1 = i
    · exact ih _ (by rw [List.length_set]; exact hl0) hi (fun z hz => h1 z (List.mem_cons_of_mem _ hz)) hm
    · have hyx : y = x := by
        rcases List.mem_cons.1 hy with h | h
        · exact h
        · exact absurd ⟨y, h, hyi⟩ hm
      subst hyx
      rw [sn_fold l _ i (fun z hz he => hm ⟨z, hz, he⟩), hyi, List.getElem?_set_self (by rw [hl0]; exact hi)]
      have := h1 y (List.mem_cons_self ..)
      exact ⟨y.2 - 1, by rw [show y.2 - 1 + 1 = y.2 by omega]⟩
theorem cnR_is {N i : Nat} (hi : i < N) : cnR (fun j => j == i) 0 N = 1 := by
  have h0 : ∀ lo hi', (∀ j, lo ≤ j → j < hi' → j ≠ i) → cnR (fun j => j == i) lo hi' = 0 := by
    intro lo hi' h
    unfold cnR
    rw [List.countP_eq_zero]
    intro j hj
    rw [List.mem_range'_1] at hj
    simp
    exact h j hj.1 (by omega)
  rw [cnR_add _ (Nat.zero_le i) (by omega : i ≤ N), h0 0 i (fun j _ h => by omega), cnR_add _ (Nat.le_succ i) (by omega : i + 1 ≤ N), cnR_one, h0 (i + 1) N (fun j h _ => by omega)]
  simp
/-- What is known of each place as it is come to, and of all at the end. -/
theorem wkA_ok {t : List NdT} {ps : List (List Nat)} (h : grow t = some ps) (hl : t.length ≤ 4096) :
    (∀ (pre : List (Nat × Nat)) (x : Nat × Nat), pre ++ [x] <+: wkA ps → x.1 < t.length ∧ x.2 ≤ 4097 ∧ (snL t.length pre)[x.1]? = some 0 ∧ OkS ps (dpL pre) x) ∧ (∀ i, i < t.length → ∃ d, (snL t.length (wkA ps))[i]? = some (d + 1)) := by
  obtain ⟨hk, h0, hlen, hmem, _⟩ := KpsOk.of_grow h hl
  obtain ⟨fr, hbg, hG, hfl, hfe⟩ := grow_psG h
  obtain ⟨_, hr⟩ := grow_root h hbg
  have hwA : wkA ps = wk ps (t.length - 1 + 1) (t.length - 1) 1 := by unfold wkA; rw [hG.1]
  have hone : ∀ i, i < t.length → (wkA ps).countP (fun x => x.1 == i) = 1 := fun i hi => by
    have h1 := wk_count hG hfl hfe (fun j => j == i) (t.length - 1 + 1) (t.length - 1) 1 0 (by omega) (by omega) hr
    rw [← hwA, show t.length - 1 + 1 = t.length by omega, cnR_is hi] at h1
    exact h1
  have hok : OkL ps [] (wkA ps) := by
    rw [hwA]
    exact (wk_ok ps _ _ 1 [] ⟨Nat.le_refl _, by simp, fun h => by simp at h⟩).1
  have hdl : ∀ (l : List (Nat × Nat)) (s : List Nat), (l.foldl dpS s).length ≤ s.length + l.length := by
    intro l
    induction l with
    | nil => intro s; simp
    | cons x l ih =>
      intro s
      rw [List.foldl_cons]
      refine Nat.le_trans (ih _) ?_
      unfold dpS
      rw [List.length_append, List.length_take, List.length_singleton, List.length_cons]
      omega
  have hat : ∀ (pre : List (Nat × Nat)) (x : Nat × Nat), pre ++ [x] <+: wkA ps → x.1 < t.length ∧ x.2 ≤ 4097 ∧ (snL t.length pre)[x.1]? = some 0 ∧ OkS ps (dpL pre) x := by
    rintro pre x ⟨r, hr⟩
    have hr : pre ++ x :: r = wkA ps := by rw [← hr]; simp
    have hx : x.1 < t.length := hmem x (by rw [← hr]; simp)
    have hs : OkS ps (dpL pre) x := OkL.at (m := r) (by rw [hr]; exact hok)
    refine ⟨hx, ?_, snL_not hx fun y hy he => ?_, hs⟩
    · have h1 := hdl pre []
      have h2 : pre.length + 1 ≤ t.length := by rw [← hlen, ← hr]; simp
      have h3 := hs.2.1
      unfold dpL at h3
      simp at h1
      omega
    · have h1 := hone x.1 hx
      rw [← hr, List.countP_append, List.countP_cons] at h1
      have h2 : 0 < pre.countP (fun y => y.1 == x.1) := List.countP_pos_iff.2 ⟨y, hy, by simpa using he⟩
      simp at h1
      omega
  refine ⟨hat, fun i hi => snL_is hi (fun x hx => ?_) ?_⟩
  · obtain ⟨l1, l2, hs⟩ := List.append_of_mem hx
    exact (hat l1 x ⟨l2, by rw [hs]; simp⟩).2.2.2.1
  · have h1 := hone i hi
    have h2 : 0 < (wkA ps).countP (fun y => y.1 == i) := by omega
    obtain ⟨x, hx, he⟩ := List.countP_pos_iff.1 h2
    exact ⟨x, hx, by simpa using he⟩
/-- The parts of the whole, as trees of their own. -/
def sbL (t : List NdT) (fr p : List Nat) : List (List NdT) := p.map fun q => subL t (fr.getD q 0) q
theorem sb_len (t : List NdT) (fr p : List Nat) : (sbL t fr p).length = p.length := by unfold sbL; rw [List.length_map]
theorem sb_at {t : List NdT} {fr p : List Nat} {i q F : Nat} (h : p[i]? = some q) (hF : fr[q]? = some F) : (sbL t fr p)[i]? = some (subL t F q) := by
  unfold sbL
  rw [List.getElem?_map, h, Option.map_some, List.getD_eq_getElem?_getD, hF]
  rfl
/-- A tree is its parts, one behind the other, and its last node. -/
theorem whole_eq {t : List NdT} {ps : List (List Nat)} (h : grow t = some ps) : ∃ (fr p : List Nat) (x : NdT), bgn t = some fr ∧ PsG t t.length ps fr ∧ fr.length = t.length ∧ (∀ (k b : Nat), (fr : List Nat)[k]? = some b → b ≤ k) ∧ 0 < t.length ∧ ps[t.length - 1]? = some p ∧ t[t.length - 1]? = some x ∧ x.n = (p.length : Int) ∧ (∀ q ∈ p, q < t.length - 1) ∧ (sbL t fr p).flatten ++ [x] = t := by
  obtain ⟨fr, hbg, hG, hfl, hfe⟩ := grow_psG h
  obtain ⟨h0, hr⟩ := grow_root h hbg
  have hx : t[t.length - 1]? = some (t[t.length - 1]'(by omega)) := List.getElem?_eq_getElem (by omega)
  obtain ⟨p, e1, e2, e3, e4, e5⟩ := hG.2 (t.length - 1) _ (by omega) hx
  have hpl : ∀ q ∈ p, q < t.length - 1 := fun q hq => by
    obtain ⟨i, hi⟩ := List.getElem?_of_mem hq
    exact e5.lt i q hi
  refine ⟨fr, p, _, hbg, hG, hfl, hfe, h0, e1, hx, ?_, hpl, ?_⟩
  · rw [e2]
    have := hp_nn e3
    omega
  · have hpre : ∀ i, i ≤ p.length → ((sbL t fr p).take i).flatten = t.take (match i with | 0 => 0 | i + 1 => (p[i]?).getD 0 + 1) := by
      intro i
      induction i with
      | zero => intro _; simp
      | succ i ih =>
        intro hi
        have hpi : p[i]? = some p[i] := List.getElem?_eq_getElem (by omega)
        have hq := e5.lt i _ hpi
        obtain ⟨F, hF⟩ : ∃ F, fr[p[i]]? = some F := ⟨fr[p[i]], List.getElem?_eq_getElem (by omega)⟩
        have hFe := hfe _ _ hF
        have hsb := sb_at (t := t) hpi hF
        have hsl : i < (sbL t fr p).length := by rw [sb_len]; omega
        rw [List.take_succ_eq_append_getElem hsl, List.flatten_append, ih (by omega), List.getElem_eq_iff hsl |>.2 hsb]
        have hF2 : F = (match i with | 0 => 0 | i + 1 => (p[i]?).getD 0 + 1) := by
          cases i with
          | zero =>
            have h3 := e5.hd _ hpi
            rw [hr, hF] at h3
            exact (Option.some.inj h3).symm
          | succ i =>
            have hpj : p[i]? = some p[i] := List.getElem?_eq_getElem (by omega)
            have h3 := e5.nx i _ _ hpj hpi
            rw [hF] at h3
            have h4 := Option.some.inj h3
            show F = (p[i]?).getD 0 + 1
            rw [hpj]
            exact h4
        rw [← hF2]
        show _ = t.take ((p[i]?).getD 0 + 1)
        rw [hpi]
        show t.take F ++ (subL t F p[i] ++ []) = t.take (p[i] + 1)
        rw [List.append_nil]
        unfold subL
        rw [← List.drop_take]
        conv => rhs; rw [← List.take_append_drop F (t.take (p[i] + 1))]
        rw [List.take_take, show min F (p[i] + 1) = F by omega]
    have hall := hpre p.length (Nat.le_refl _)
    rw [show (sbL t fr p).take p.length = sbL t fr p by rw [← sb_len t fr p]; exact List.take_length] at hall
    rw [hall]
    have hlast : (match p.length with | 0 => 0 | i + 1 => (p[i]?).getD 0 + 1) = t.length - 1 := by
      cases hl : p.length with
      | zero =>
        have hpn : p[0]? = none := List.getElem?_eq_none (by omega)
        have h3 := e5.hd0 hpn
        rw [hr] at h3
        exact Option.some.inj h3
      | succ i =>
        have hpi : p[i]? = some (p[i]'(by omega)) := List.getElem?_eq_getElem (by omega)
        have h9 := e5.last i _ hpi (by omega)
        show (p[i]?).getD 0 + 1 = _
        rw [hpi]
        exact h9
    rw [hlast]
    conv => rhs; rw [← List.take_append_drop (t.length - 1) t]
    congr 1
    rw [List.drop_eq_getElem_cons (by omega), List.drop_of_length_le (by omega)]
end Go.Proofs.YtiodghbhllfhlaaGreatDoor
