/-
  What a function uses: plain; Uses, in the code.
-/
import Derived.Test.YtjadckhngalmlaaGreatDoorZNmCo
namespace Go.Proofs.YtjadckhngalmlaaGreatDoor
set_option linter.unusedVariables false
set_option linter.unusedSimpArgs false
set_option maxRecDepth 100000
/-- All nodes gone over. -/
theorem goN_us {t : List NdT} {f : FlP} : ∀ (l : List (Nat × Nat)) (r : RsP), r.Us f → (l.map Prod.fst).Nodup → (∀ k ∈ l.map Prod.fst, r.bds[k]? = some bd0) → (goN t r l).1.2 = 0 → (goN t r l).2.Us f
  | [], r, h, _, _, _ => h
  | x :: l, r, h, hn, h0, he => by
    unfold goN at he ⊢
    by_cases h1 : noE (r.leave x.2) (t.getD x.1 nd0) x.1 x.2 = 0
    · rw [if_pos h1] at he ⊢
      rw [List.map_cons, List.nodup_cons] at hn
      have hx0 : (r.leave x.2).bds[x.1]? = some bd0 := h0 x.1 (by simp)
      refine goN_us l _ ((h.lv x.2).node h1 hx0) hn.2 (fun k hk => ?_) he
      have hne : k ≠ x.1 := fun e => hn.1 (by rw [← e]; exact hk)
      have hk0 : r.bds[k]? = some bd0 := h0 k (by rw [List.map_cons]; exact List.mem_cons_of_mem _ hk)
      obtain ⟨c1, c2⟩ := node_bd h1
      by_cases hb : nmB (t.getD x.1 nd0).kind
      · obtain ⟨b, _, e⟩ := c1 hb
        rw [e, List.getElem?_set_ne (by omega)]
        exact hk0
      · rw [c2 hb]
        exact hk0
    · rw [if_neg h1] at he
      exact absurd he h1
theorem goP_us {f : FlP} : ∀ (l : List VarP) (r : RsP), r.Us f → (goP r l).2.Us f
  | [], r, h => h
  | v :: l, r, h => by
    unfold goP
    split
    · exact h
    · exact goP_us l _ (h.slot _ _)
theorem rs0_us (f : FlP) (n : Nat) : (rs0 f n).Us f := by
  refine ⟨fun s hs nm d hd hk => ?_, List.nodup_nil, (fun nm hn => by cases hn), fun b hb hk => ?_⟩
  · have hs : s ∈ (⟨mp0, 0⟩ :: [⟨f.m, 0⟩, bltS] : List ScP) := hs
    simp only [List.mem_cons, List.not_mem_nil, or_false] at hs
    rcases hs with rfl | rfl | rfl
    · cases hd
    · exact hd
    · have h1 := (blt_kind bltL 0 mp0 (fun n e he => by cases he) nm d hd).1
      unfold ofF at hk
      rw [h1] at hk
      cases hk
  · have hb := List.eq_of_mem_replicate hb
    subst hb
    cases hk
/-- What a function uses: each name of the file once, as many as its nodes are bound to. -/
theorem rsA_us {f : FlP} {x : FnP} {ps : List (List Nat)} (hg : grow x.body = some ps) (hl : x.body.length ≤ 4096) (he : (rsA f x ps).1.2 = 0) : (rsA f x ps).2.Us f := by
  obtain ⟨w1, w2, w3, w4⟩ := wkA_once hg hl
  unfold rsA at he ⊢
  by_cases h0 : (goP (rs0 f x.body.length) x.params).1 = 0
  · rw [if_pos h0] at he ⊢
    have hb : ∀ (l : List VarP) (r : RsP), (goP r l).2.bds = r.bds := fun l => by
      induction l with
      | nil => intro r; rfl
      | cons v l ih =>
        intro r
        unfold goP
        split
        · rfl
        · exact ih _
    refine goN_us _ _ (goP_us _ _ (rs0_us f _)) w1 (fun k hk => ?_) he
    rw [hb]
    show (List.replicate x.body.length (⟨0, 0, []⟩ : BdP))[k]? = some bd0
    rw [List.getElem?_replicate, if_pos ((w2 k).1 hk)]
    rfl
  · rw [if_neg h0] at he
    exact absurd he h0
/-- The different ones of a list that are the file's, in order. -/
def seenP : List BdP → List BdP → List BdP
  | s, [] => s
  | s, b :: l => if (ofF b && !s.contains b) = true then seenP (s ++ [b]) l else seenP s l
theorem seen_ok : ∀ (l s : List BdP), s.Nodup → (seenP s l).Nodup ∧ ∀ b, b ∈ seenP s l ↔ b ∈ s ∨ (b ∈ l ∧ ofF b = true)
  | [], s, h => ⟨h, fun b => by simp [seenP]⟩
  | x :: l, s, h => by
    unfold seenP
    by_cases hc : (ofF x && !s.contains x) = true
    · rw [if_pos hc]
      simp only [Bool.and_eq_true, Bool.not_eq_true', List.contains_eq_mem, decide_eq_false_iff_not] at hc
      obtain ⟨a1, a2⟩ := seen_ok l (s ++ [x]) (by
        rw [List.nodup_append]
        refine ⟨h, by simp, fun a ha c hc2 e => ?_⟩
        rw [List.mem_singleton] at hc2
        subst hc2
        subst e
        exact hc.2 ha)
      refine ⟨a1, fun b => ?_⟩
      rw [a2 b]
      constructor
      · rintro (h1 | h1)
        · rcases List.mem_append.1 h1 with h1 | h1
          · exact .inl h1
          · rw [List.mem_singleton] at h1
            subst h1
            exact .inr ⟨by simp, hc.1⟩
        · exact .inr ⟨by simp [h1.1], h1.2⟩
      · rintro (h1 | ⟨h1, h2⟩)
        · exact .inl (by simp [h1])
        · rcases List.mem_cons.1 h1 with rfl | h1
          · exact .inl (by simp)
          · exact .inr ⟨h1, h2⟩
    · rw [if_neg hc]
      obtain ⟨a1, a2⟩ := seen_ok l s h
      refine ⟨a1, fun b => ?_⟩
      rw [a2 b]
      constructor
      · rintro (h1 | h1)
        · exact .inl h1
        · exact .inr ⟨by simp [h1.1], h1.2⟩
      · rintro (h1 | ⟨h1, h2⟩)
        · exact .inl h1
        · rcases List.mem_cons.1 h1 with rfl | h1
          · simp only [Bool.and_eq_true, Bool.not_eq_true', List.contains_eq_mem, decide_eq_false_iff_not, not_and] at hc
            exact .inl (Decidable.of_not_not (hc h2))
          · exact .inr ⟨h1, h2⟩
/-- As many different ones as names that are used. -/
theorem Us_count {f : FlP} (hf : f.Wf) {r : RsP} (h : r.Us f) : (seenP [] r.bds).length = r.uses.length := by
  obtain ⟨a1, a2⟩ := seen_ok r.bds [] List.nodup_nil
  have inj : ∀ n ∈ r.uses, ∀ n' ∈ r.uses, finD (f.m n) = finD (f.m n') → n = n' := fun n hn n' hn' e => by
    obtain ⟨d, e1, e2, _⟩ := h.us n hn
    obtain ⟨d', e1', e2', _⟩ := h.us n' hn'
    rw [e1, e1'] at e
    have e : d.bd = d'.bd := e
    rcases hf.gl n d e1 with ⟨k1, _⟩ | k1
    · exact hf.gi n n' d d' e1 e1' k1 (by rw [← e]; exact k1) (by rw [e])
    · obtain ⟨x, hx, hxn, _⟩ := hf.fn n d e1 k1
      obtain ⟨x', hx', hxn', _⟩ := hf.fn n' d' e1' (by rw [← e]; exact k1)
      rw [← e, hx] at hx'
      cases hx'
      exact hxn.symm.trans hxn'
  have hmn : ∀ (l : List (List UInt8)), l.Nodup → (∀ n ∈ l, n ∈ r.uses) → (l.map fun n => finD (f.m n)).Nodup := fun l => by
    induction l with
    | nil => intro _ _; exact List.nodup_nil
    | cons y l ih =>
      intro hnd hm
      rw [List.map_cons, List.nodup_cons]
      rw [List.nodup_cons] at hnd
      refine ⟨fun hy => ?_, ih hnd.2 (fun n hn => hm n (by simp [hn]))⟩
      obtain ⟨z, hz, e⟩ := List.mem_map.1 hy
      have := inj z (hm z (by simp [hz])) y (hm y (by simp)) e
      subst this
      exact hnd.1 hz
  have hp : (seenP [] r.bds).Perm (r.uses.map fun n => finD (f.m n)) := by
    refine (List.perm_ext_iff_of_nodup a1 (hmn _ h.nd (fun n hn => hn))).2 fun b => ?_
    rw [a2 b, List.mem_map]
    constructor
    · rintro (h1 | ⟨h1, h2⟩)
      · cases h1
      · obtain ⟨n, hn, d, e1, e2⟩ := h.bd b h1 h2
        exact ⟨n, hn, by rw [e1]; exact e2⟩
    · rintro ⟨n, hn, e⟩
      obtain ⟨d, e1, e2, e3⟩ := h.us n hn
      rw [e1] at e
      have e : d.bd = b := e
      subst e
      exact .inr ⟨e3, e2⟩
  rw [hp.length_eq, List.length_map]
theorem Us_order {f : FlP} (hf : f.Wf) {r : RsP} (h : r.Us f) : ∀ n ∈ r.uses, n ∈ f.order := fun n hn => by
  obtain ⟨d, e1, _⟩ := h.us n hn
  rw [hf.od n, e1]
  rfl
open Go.RowKit
/-- What Uses answers. -/
def UsT (a : (Int × Nat) × RsP) (w : World) (e : Ending) (w' : World) : Prop :=
  ((a.1.2 = 0 ∧ ∃ uv, e = .returned (.tuple #[uv, faV 0 0]) ∧ w'.ownsRow w.heap.size 9 1 uv a.2.uses.length (usC a.2.uses)) ∨ (a.1.2 ≠ 0 ∧ e = .returned (.tuple #[.slice none 0 0, faV a.1.1 (a.1.2 : Nat)]))) ∧ Below w.heap.size w w'
set_option maxHeartbeats 4000000 in
theorem c_Uses (u : UnP) (pu : UnS) (nm : List UInt8) (a : (Int × Nat) × RsP) (w : World) (HC' : ∀ w', Below w.heap.size w w' → Calls Tryz.prog 15 #[unV u pu, nmS nm] w' fun e w'' => RvT a w' e w'') :
    Calls Tryz.prog 13 #[unV u pu, nmS nm] w fun e w' => UsT a w e w' := by
  have HC := Lib.hid HC'
  unfold UsT
  unfold RvT at HC
  obtain ⟨S, G, F⟩ := u
  obtain ⟨sa, sc, ga, gc, fa, fc⟩ := pu
  obtain ⟨⟨gat, ge⟩, rs⟩ := a
  simp only [unV] at HC ⊢
  clear HC'
  go_enter Tryz.func13, Tryz.ntmps13
  go_wp2_with fail
  have hb0 : Below w.heap.size w ((w.alloc (.cells #[.slice sa S.length sc, .slice ga G.length gc, .slice fa F.length fc] 26)).alloc (.cells #[.int .i64 0, .int .i64 0] 32)) := below_t (below_o _ _) (below_o _ _) (by simp)
  refine (HC.out _ hb0).mono ?_
  rintro e w1 ⟨hrd, hb⟩
  have HB1 := Lib.hid (below_t hb0 hb hb0.size)
  have HZ1 := Lib.hid (blk_on (heap_alloc_at (w := w.alloc (.cells #[.slice sa S.length sc, .slice ga G.length gc, .slice fa F.length fc] 26)) _ (w.heap.size + 1) (by simp)) hb)
  clear hb hb0
  obtain ⟨RB, hRB⟩ : ∃ RB, w.heap.size + 1 = RB := ⟨_, rfl⟩
  have HUR := Lib.hid hRB
  have HZ1' : Hid (w1.heap[RB]? = some (.cells #[.int .i64 0, .int .i64 0] 32)) := by rw [← hRB]; exact HZ1.out
  rw [hRB]
  clear hRB HZ1
  obtain ⟨z0, z1, zf⟩ := two_cells HZ1'.out
  have zf0 := zf 0
  have zf1 := zf 1
  have hzl := (Array.getElem?_eq_some_iff.1 HZ1'.out).1
  clear zf
  rcases hrd with ⟨rfl, Gr, p, L, sv, uv, K, rfl, hR, hbs⟩ | ⟨hne, rfl⟩
  · have HR := Lib.hid (And.intro hR hbs)
    obtain ⟨y0, y1, y2, y3, _⟩ := cells4 hR.blk
    have hyl := (Array.getElem?_eq_some_iff.1 hR.blk).1
    clear hR hbs HC
    go_wp2_with fail
    have hz9 := blk_on (two_put HZ1'.out (.int .i64 0) (.int .i64 0)) (below_o _ (.cells #[.int .i64 0, .int .i64 0] 32))
    have hb9 := ((two_below HB1.out (show w.heap.size ≤ RB by have := HUR.out; omega) (.int .i64 0) (.int .i64 0)).alloc (by simpa using HB1.out.size) (.cells #[.int .i64 0, .int .i64 0] 32))
    have hx1 := heap_setCell_same w1 RB 0 _ _ (.int .i64 0) HZ1'.out
    have hbase : w.heap.size ≤ Gr.base := Nat.le_trans (by simp; omega) HR.out.2
    have hs9 := own_on (nm_set (nm_set (own_base HR.out.1.uo hbase) HZ1'.out (by decide) 0 (.int .i64 0)) hx1 (by decide) 1 (.int .i64 0)) (below_o _ (.cells #[.int .i64 0, .int .i64 0] 32))
    have hne := ne_ty HR.out.1.bd HZ1'.out (by decide)
    have hd9 := blk_on ((Below.heap_setCell (w1.setCell ⟨RB, 0, none⟩ (.int .i64 0)) ⟨RB, 1, none⟩ (.int .i64 0) _ hne).trans ((Below.heap_setCell w1 ⟨RB, 0, none⟩ (.int .i64 0) _ hne).trans HR.out.1.bd)) (below_o _ (.cells #[.int .i64 0, .int .i64 0] 32))
    have hN := HR.out.1.bl
    have hlB := Nat.le_trans hbase HR.out.1.lB
    clear hx1 hne
    try go_wp2_with fail
    all_goals
      generalize ((w1.setCell ⟨RB, 0, none⟩ (.int .i64 0)).setCell ⟨RB, 1, none⟩ (.int .i64 0)).alloc (.cells #[.int .i64 0, .int .i64 0] 32) = w9 at hz9 hb9 hs9 hd9 ⊢
      obtain ⟨p0, p1, _⟩ := two_cells hz9
      refine bodyPost_ret (v := .tuple #[uv, faV 0 0]) (by simp [results, Tryz.results13, go_sem, p0, p1]) rfl ?_
      exact ⟨⟨uv, rfl, hs9⟩, hb9⟩
  · obtain ⟨gei, hgei⟩ : ∃ x : Int, ((ge : Nat) : Int) = x := ⟨_, rfl⟩
    have HGe := Lib.hid (And.intro hgei hne)
    have hne2 : (gei != 0) = true := by simp; omega
    rw [hgei]
    clear hne hgei
    go_wp2_with fail
    have hz9 := blk_on (two_put HZ1'.out (.int .i64 gat) (.int .i64 gei)) ((below_o _ (.cells #[.int .i64 gat, .int .i64 gei] 32)).drew)
    have hb9 := ((two_below HB1.out (show w.heap.size ≤ RB by have := HUR.out; omega) (.int .i64 gat) (.int .i64 gei)).alloc (by simpa using HB1.out.size) (.cells #[.int .i64 gat, .int .i64 gei] 32)).drew
    go_region
    all_goals
      go_wp2_with fail
      generalize (((w1.setCell ⟨RB, 0, none⟩ (.int .i64 gat)).setCell ⟨RB, 1, none⟩ (.int .i64 gei)).alloc (.cells #[.int .i64 gat, .int .i64 gei] 32)).drew = w9 at hz9 hb9 ⊢
      obtain ⟨p0, p1, _⟩ := two_cells hz9
      refine bodyPost_ret (v := .tuple #[.slice none 0 0, faV gat gei]) (by simp [results, Tryz.results13, go_sem, p0, p1]) rfl ?_
      exact ⟨.inr ⟨HGe.out.2, by rw [HGe.out.1]⟩, hb9⟩
theorem c_UsesA (B : Nat) (u : UnP) (p : UnS) (hU : UnOk u) (nm : List UInt8) (w : World) (hE : Env B w) (hB : B ≤ w.heap.size) (hI : UnIn u p w) :
    Calls Tryz.prog 13 #[unV u p, nmS nm] w fun e w' => UsT (rvA u nm) w e w' :=
  c_Uses u p nm (rvA u nm) w (fun w' hb => c_resolve B u p hU nm w' (hE.next (hb.mono hB)) (Nat.le_trans hB hb.size) (hI.next hb))
end Go.Proofs.YtjadckhngalmlaaGreatDoor
