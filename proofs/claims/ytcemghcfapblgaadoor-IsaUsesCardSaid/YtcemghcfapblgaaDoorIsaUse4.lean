/-
  Contracts of Rising and of Reads, Writes and Goes, in the document's answers.
-/
import Derived.Test.YtcemghcfapblgaaDoorIsaUse0
import Derived.Test.YtcemghcfapblgaaDoorIsaDec
import Derived.Test.YtcemghcfapblgaaDoorIsaRef2
import Derived.Laws.AppendOwnNone
import Derived.Deep.AppendLies
import Derived.Deep.RegionHeld3
namespace Go.Proofs.YtcemghcfapblgaaDoor
set_option linter.unusedVariables false
set_option linter.unusedSimpArgs false
open Go.ChangeShapes Go.WideShapes Go.ChangeAt Go.RowKit

theorem c_Rising0 (p : Option Addr) (c : Nat) (w : World) :
    Calls Tryd.prog 38 #[.slice p 0 c] w fun e w' => ∃ v, e = .returned v ∧ IL w' v [] ∧ Below w.heap.size w w' := by
  go_enter Tryd.func38, Tryd.ntmps38
  go_wp2
  go_rounds 2
  all_goals
    go_returns
    exact ⟨_, rfl, ⟨_, _, rfl⟩, by go_grown⟩
/-- append at a step of a region that draws its order: what comes out holds at least one. -/
theorem step_app {P : Program} (w : World) {ops : Array Oper} {o : Oper} {a : Act} {K : Act → World → Prop} {Q : Exit → Act → World → Prop} {E : Prop} (hgd : o.guard = none) (s x : Operand) (t : TypeId)
    (ho : o.op = .call { callee := .builtin .append, args := #[s, x], argTypes := #[t, t] })
    (base : Nat) (e : TypeId) (i : TypeInfo) (z : Value) (size bytes : Nat) (ht : P.underlying t = some (.slice e)) (hi : P.info? e = some i) (hz : i.zero = some z)
    (hsize : i.size = size) (hby : i.bytes = bytes) (hzs : z.cells.size = size) (hsz : 0 < size)
    (v : Value) (n : Nat) (xs : List Value) (hs : a.eval s = v) (hown : w.ownsRow base e size v n xs)
    (ad : Addr) (m c : Nat) (news : List Value) (hx : a.eval x = .slice (some ad) m c) (hl : news.length = m * size) (hnews : ∀ j u, news[j]? = some u → w.cell? (ad.add j) = some u) (h1 : ∀ u ∈ news, u.oneCell' = true)
    (hm : 0 < n + m) (h63 : n + m ≤ maxLen) (hbytes : (n + m) * bytes ≤ 140737488355328) (hbase : base ≤ w.heap.size)
    (h : ∀ g cap w', w'.ownsRow base e size (.slice (some ⟨g, 0, none⟩) (n + m) cap) (n + m) (xs ++ news) → w.grownBy w' v.ownBlock → (v.ownBlock = some g ∨ g = w.heap.size) → K (a.put o.dst (.slice (some ⟨g, 0, none⟩) (n + m) cap)) w') :
    if Region.wanted o (yielded ops a.tmps) = true then Oper.wp P o a w K Q else E := by
  have hw : Region.wanted o (yielded ops a.tmps) = true := by simp [Region.wanted, hgd]
  rw [if_pos hw]
  obtain ⟨v', w', hr, h2, h3, _, h5⟩ := run_append_own_at (P := P) w base t o.type e i z size bytes ht hi hz hsize hby hzs hsz v n xs hown ad m c news hl hnews h1 h63 hbytes hbase
  obtain ⟨g, cap, rfl, _, hlt⟩ := h2.form hm
  unfold Oper.wp execOp
  simp only [ho, resolve, invoke, builtin, Sem.run_bind, Sem.run_pure, Result.andThen_ok, List.map_toArray, List.map_cons, List.map_nil, hs, hx, hr]
  refine h g cap w' h2 h3 ?_
  rcases h5 with h5 | h5
  · exact .inl (by rw [← h5]; rfl)
  · exact .inr (by simpa [Value.ownBlock] using h5)
theorem own_one (w : World) (base : Nat) (e : TypeId) (x : Value) (H : Nat) (hH : w.heap.size = H) (hb : base ≤ H) : (w.alloc (.cells #[x] e)).ownsRow base e 1 (.slice (some ⟨H, 0, none⟩) 1 1) 1 [x] := by
  subst hH
  exact ⟨rfl, .inr ⟨w.heap.size, 1, #[x], rfl, hb, heap_alloc_new w _, Nat.le_refl _, by decide, rfl, rfl⟩⟩
theorem own_drewN {w : World} {base : Nat} {e : TypeId} {size : Nat} {v : Value} {n : Nat} {xs : List Value} (h : w.ownsRow base e size v n xs) : ∀ k, (w.drewN k).ownsRow base e size v n xs
  | 0 => h
  | k + 1 => (own_drewN h k).drew
theorem below_app {B : Nat} {w w1 w2 : World} {row : Option Nat} (h : Below B w w1) (g : w1.grownBy w2 row) (hb : B ≤ w1.heap.size) (hr : ∀ k, row = some k → B ≤ k) : Below B w w2 := h.grown g hb hr
theorem far_app {w1 w2 : World} {row : Option Nat} {b o : Nat} {v : Value} (g : w1.grownBy w2 row) (h : w1.cell? ⟨b, o, none⟩ = some v) (hr : row ≠ some b) : w2.cell? ⟨b, o, none⟩ = some v :=
  (g.cell_far ⟨b, o, none⟩ (cell_lt h) (Ne.symm hr)).trans h
theorem news_none (w : World) (ad : Addr) : ∀ (j : Nat) (u : Value), ([] : List Value)[j]? = some u → w.cell? (ad.add j) = some u := fun j u h => by simp at h
theorem news_own {w : World} {base : Nat} {e : TypeId} {g n cap : Nat} {xs : List Value} (h : w.ownsRow base e 1 (.slice (some ⟨g, 0, none⟩) n cap) n xs) : ∀ (j : Nat) (u : Value), xs[j]? = some u → w.cell? ((⟨g, 0, none⟩ : Addr).add j) = some u := fun j u hu => by
  have hadd : (⟨g, 0, none⟩ : Addr).add j = ⟨g, j, none⟩ := by unfold Addr.add; split <;> simp_all
  have hj : j < xs.length := by
    rcases Nat.lt_or_ge j xs.length with h | h
    · exact h
    · rw [List.getElem?_eq_none h] at hu; cases hu
  rw [hadd, h.cellAt j (by have := h.1; omega), hu]
theorem one_int (x : Int) : ∀ u ∈ [Value.int .i64 x], u.oneCell' = true := fun u h => by
  simp only [List.mem_singleton] at h
  subst h
  rfl
theorem none_int : ∀ u ∈ ([] : List Value), u.oneCell' = true := fun u h => by cases h
theorem i64_parts {i : TypeInfo} (h : Tryd.prog.info? 3 = some i) : i.zero = some (.int .i64 0) ∧ i.size = 1 ∧ i.bytes = 8 := by
  have e : (Tryd.prog.info? 3).map (fun i => (i.zero, i.size, i.bytes)) = some (some (.int .i64 0), 1, 8) := by kernel_rfl
  rw [h] at e
  simpa using e
theorem i64_some : (Tryd.prog.info? 3).isSome = true := by kernel_rfl
theorem i64_info : ∃ i, Tryd.prog.info? 3 = some i ∧ i.zero = some (.int .i64 0) ∧ i.size = 1 ∧ i.bytes = 8 := by
  obtain ⟨i, h⟩ := Option.isSome_iff_exists.1 i64_some
  exact ⟨i, h, i64_parts h⟩
theorem two_int (x y : Int) : ∀ u ∈ [Value.int .i64 x, Value.int .i64 y], u.oneCell' = true := fun u h => by
  simp only [List.mem_cons, List.not_mem_nil, or_false] at h
  rcases h with rfl | rfl <;> rfl
theorem own_cap {w : World} {base : Nat} {e : TypeId} {g n cap : Nat} {xs : List Value} (h : w.ownsRow base e 1 (.slice (some ⟨g, 0, none⟩) n cap) n xs) (hn : 0 < n) : n ≤ cap := by
  rcases h.2 with ⟨h', _⟩ | ⟨g', cap', cur, h', a, b, c, d, e', _⟩
  · simp at h'
  · simp only [Value.slice.injEq, Option.some.injEq, Addr.mk.injEq, and_true, true_and] at h'
    obtain ⟨rfl, rfl⟩ := h'
    exact c
theorem own_pre {w : World} {base : Nat} {e : TypeId} {g n cap : Nat} {xs : List Value} (h : w.ownsRow base e 1 (.slice (some ⟨g, 0, none⟩) n cap) n xs) : w.ownsRow base e 1 (.slice (some ⟨g, 0, none⟩) 0 cap) 0 [] := by
  refine ⟨rfl, ?_⟩
  rcases h.2 with ⟨h', _⟩ | ⟨g', cap', cur, h', a, b, c, d, e', _⟩
  · simp at h'
  · simp only [Value.slice.injEq, Option.some.injEq, Addr.mk.injEq, and_true, true_and] at h'
    obtain ⟨rfl, rfl⟩ := h'
    exact .inr ⟨g, cap, cur, rfl, a, b, Nat.zero_le _, d, e', by simp⟩
theorem c_Rising1 (b c : Nat) (x : Int) (w : World) (hx : w.cell? ⟨b, 0, none⟩ = some (.int .i64 x)) (h2 : -9223372036854775808 ≤ x) (h3 : x ≤ 9223372036854775807) :
    Calls Tryd.prog 38 #[.slice (some ⟨b, 0, none⟩) 1 c] w fun e w' => ∃ v, e = .returned v ∧ IL w' v [x] ∧ Below w.heap.size w w' := by
  have hlt := cell_lt hx
  obtain ⟨i0, hi, hz0, hz1, hz2⟩ := i64_info
  dsimp only at hlt
  go_enter Tryd.func38, Tryd.ntmps38
  go_wp2
  refine wp_loop_rounds 3 ?_
  rw [rounds_succ]
  go_wp2
  refine wp_loop_rounds 2 ?_
  rw [rounds_succ]
  go_wp2
  go_quiet (fail)
  go_wp2
  go_quiet (fail)
  go_wp2
  go_region_held3 (fun w' => w'.cell? ⟨b, 0, none⟩ = some (.int .i64 x) ∧ Below w.heap.size w w')
    (first
      | (exact ⟨by go_keep, by first | exact (below_drewN (below_drewN (below_new w _) _) _).drew | exact (below_drewN (below_new w _) _).drew | exact (below_new w _).drew⟩)
      | (exact ⟨by go_keep, (below_drewN (below_new w _) _).alloc (by simp) _⟩)
      | (exact ⟨far_app hgrow2 (by assumption : w1.cell? ⟨b, 0, none⟩ = some (.int .i64 x) ∧ Below w.heap.size w w1).1 (by simp [Value.ownBlock]; omega), below_app (by assumption : w1.cell? ⟨b, 0, none⟩ = some (.int .i64 x) ∧ Below w.heap.size w w1).2 hgrow2 (by assumption : w1.cell? ⟨b, 0, none⟩ = some (.int .i64 x) ∧ Below w.heap.size w w1).2.size (fun k hk => by simp [Value.ownBlock] at hk; omega)⟩)
      | (exact ⟨far_app hgrow1 (by go_keep) (by simp [Value.ownBlock]; omega), below_app ((below_drewN (below_new w _) _).alloc (by simp) _) hgrow1 (by simp; omega) (fun k hk => by simp [Value.ownBlock] at hk; omega)⟩))
    (first
      | (fail_if_success (have hq := HA.out)
         refine step_app _ (by rfl) _ _ _ (by rfl) w.heap.size 3 i0 (.int .i64 0) 1 8 Tryd.underlying31 hi hz0 hz1 hz2 rfl (by decide) (.slice (some ⟨w.heap.size + 1, 0, none⟩) 1 1) 1 [.int .i64 x] (by rfl) (own_one _ _ _ _ _ (by simp) (by simp)) ⟨w.heap.size, 0, none⟩ 0 0 [] (by rfl) rfl (news_none _ _) none_int (by decide) (by decide) (by decide) (by simp; omega) ?_
         intro g cap w1 hown1 hgrow1 hat1
         have hq1 := Lib.hid (below_app ((below_drewN (below_new w _) _).alloc (by simp) _) hgrow1 (by simp; omega) (fun k hk => by simp [Value.ownBlock] at hk; omega)).size
         have HA := Lib.hid (show w1.ownsRow w.heap.size 3 1 (.slice (some ⟨g, 0, none⟩) 1 cap) 1 [.int .i64 x] from hown1)
         have hO := Lib.hid ((own_drewN (World.ownsRow_made w #[] 0 (Nat.le_refl _) (by decide) rfl (e := 3) (size := 1)) _).alloc _ |>.kept hgrow1 (.inr (by simp [Value.ownBlock]))))
      | (have hq := HA.out
         refine step_app _ (by rfl) _ _ _ (by rfl) w.heap.size 3 i0 (.int .i64 0) 1 8 Tryd.underlying31 hi hz0 hz1 hz2 rfl (by decide) (.slice (some ⟨w.heap.size, 0, none⟩) 0 0) 0 [] (by rfl) hO.out ⟨g, 0, none⟩ 1 cap [.int .i64 x] (by rfl) rfl (news_own HA.out) (one_int x) (by decide) (by decide) (by decide) hq1.out ?_
         intro g2 cap2 w2 hown2 hgrow2 hat2))
  have hA2 := Lib.hid (show w2.ownsRow w.heap.size 3 1 (.slice (some ⟨g2, 0, none⟩) 1 cap2) 1 [.int .i64 x] from hown2)
  obtain ⟨k1, k2⟩ := (by assumption : w2.cell? ⟨b, 0, none⟩ = some (.int .i64 x) ∧ Below w.heap.size w w2)
  have hB2 := Lib.hid k2
  clear k2 hown2 hgrow2 hat2 hown1 hgrow1 hat1 HA hO hq1
  go_wp2
  rw [rounds_succ]
  go_wp2
  go_returns
  exact ⟨_, rfl, ⟨g2, cap2, rfl, hA2.out.cellAt 0 (by decide)⟩, hB2.out⟩
theorem c_Rising2eq (b c : Nat) (x : Int) (w : World) (hx : w.cell? ⟨b, 0, none⟩ = some (.int .i64 x)) (hy : w.cell? ⟨b, 1, none⟩ = some (.int .i64 x)) (h2 : -9223372036854775808 ≤ x) (h3 : x ≤ 9223372036854775807) :
    Calls Tryd.prog 38 #[.slice (some ⟨b, 0, none⟩) 2 c] w fun e w' => ∃ v, e = .returned v ∧ IL w' v [x] ∧ Below w.heap.size w w' := by
  have hlt := cell_lt hx
  obtain ⟨i0, hi, hz0, hz1, hz2⟩ := i64_info
  dsimp only at hlt
  go_enter Tryd.func38, Tryd.ntmps38
  go_wp2
  refine wp_loop_rounds 3 ?_
  rw [rounds_succ]
  go_wp2
  refine wp_loop_rounds 2 ?_
  rw [rounds_succ]
  go_wp2
  go_quiet (fail)
  go_wp2
  go_quiet (fail)
  go_wp2
  go_region_held3 (fun w' => w'.cell? ⟨b, 0, none⟩ = some (.int .i64 x) ∧ w'.cell? ⟨b, 1, none⟩ = some (.int .i64 x) ∧ Below w.heap.size w w')
    (first
      | (exact ⟨by go_keep, by go_keep, by first | exact (below_drewN (below_drewN (below_new w _) _) _).drew | exact (below_drewN (below_new w _) _).drew | exact (below_new w _).drew⟩)
      | (exact ⟨by go_keep, by go_keep, (below_drewN (below_new w _) _).alloc (by simp) _⟩)
      | (have kk := (by assumption : w1.cell? ⟨b, 0, none⟩ = some (.int .i64 x) ∧ w1.cell? ⟨b, 1, none⟩ = some (.int .i64 x) ∧ Below w.heap.size w w1); exact ⟨far_app hgrow2 kk.1 (by simp [Value.ownBlock]; omega), far_app hgrow2 kk.2.1 (by simp [Value.ownBlock]; omega), below_app kk.2.2 hgrow2 kk.2.2.size (fun k hk => by simp [Value.ownBlock] at hk; omega)⟩)
      | (exact ⟨far_app hgrow1 (by go_keep) (by simp [Value.ownBlock]; omega), far_app hgrow1 (by go_keep) (by simp [Value.ownBlock]; omega), below_app ((below_drewN (below_new w _) _).alloc (by simp) _) hgrow1 (by simp; omega) (fun k hk => by simp [Value.ownBlock] at hk; omega)⟩))
    (first
      | (fail_if_success (have hq := HA.out)
         refine step_app _ (by rfl) _ _ _ (by rfl) w.heap.size 3 i0 (.int .i64 0) 1 8 Tryd.underlying31 hi hz0 hz1 hz2 rfl (by decide) (.slice (some ⟨w.heap.size + 1, 0, none⟩) 1 1) 1 [.int .i64 x] (by rfl) (own_one _ _ _ _ _ (by simp) (by simp)) ⟨w.heap.size, 0, none⟩ 0 0 [] (by rfl) rfl (news_none _ _) none_int (by decide) (by decide) (by decide) (by simp; omega) ?_
         intro g cap w1 hown1 hgrow1 hat1
         have hq1 := Lib.hid (below_app ((below_drewN (below_new w _) _).alloc (by simp) _) hgrow1 (by simp; omega) (fun k hk => by simp [Value.ownBlock] at hk; omega)).size
         have HA := Lib.hid (show w1.ownsRow w.heap.size 3 1 (.slice (some ⟨g, 0, none⟩) 1 cap) 1 [.int .i64 x] from hown1)
         have hO := Lib.hid ((own_drewN (World.ownsRow_made w #[] 0 (Nat.le_refl _) (by decide) rfl (e := 3) (size := 1)) _).alloc _ |>.kept hgrow1 (.inr (by simp [Value.ownBlock]))))
      | (have hq := HA.out
         refine step_app _ (by rfl) _ _ _ (by rfl) w.heap.size 3 i0 (.int .i64 0) 1 8 Tryd.underlying31 hi hz0 hz1 hz2 rfl (by decide) (.slice (some ⟨w.heap.size, 0, none⟩) 0 0) 0 [] (by rfl) hO.out ⟨g, 0, none⟩ 1 cap [.int .i64 x] (by rfl) rfl (news_own HA.out) (one_int x) (by decide) (by decide) (by decide) hq1.out ?_
         intro g2 cap2 w2 hown2 hgrow2 hat2))
  have hA2 := Lib.hid (show w2.ownsRow w.heap.size 3 1 (.slice (some ⟨g2, 0, none⟩) 1 cap2) 1 [.int .i64 x] from hown2)
  obtain ⟨k1, kY, k2⟩ := (by assumption : w2.cell? ⟨b, 0, none⟩ = some (.int .i64 x) ∧ w2.cell? ⟨b, 1, none⟩ = some (.int .i64 x) ∧ Below w.heap.size w w2)
  have hB2 := Lib.hid k2
  have hz2' := hz2
  have hz2 := k2.size
  have hcX : w2.cell? ⟨g2, 0, none⟩ = some (.int .i64 x) := hA2.out.cellAt 0 (by decide)
  obtain ⟨hg2, hgl⟩ := hown2.lt g2 rfl
  clear k2 hown2 hgrow2 hat2 hown1 hgrow1 hat1 HA hO hq1 hx hy
  go_wp2
  rw [rounds_succ]
  go_wp2
  refine wp_loop_rounds 3 ?_
  rw [rounds_succ]
  go_wp2
  go_quiet (fail)
  go_wp2
  go_quiet (fail)
  go_wp2
  rw [rounds_succ]
  go_wp2
  go_returns
  exact ⟨_, rfl, ⟨g2, cap2, rfl, by first | exact hcX | simp [hcX]⟩, by first | exact below_drewN hB2.out _ | exact below_drewN (below_drewN hB2.out _) _⟩
theorem c_Rising2lt (b c : Nat) (x y : Int) (w : World) (hx : w.cell? ⟨b, 0, none⟩ = some (.int .i64 x)) (hy : w.cell? ⟨b, 1, none⟩ = some (.int .i64 y)) (h2 : -9223372036854775808 ≤ x) (h3 : x ≤ 9223372036854775807) (h4 : -9223372036854775808 ≤ y) (h5 : y ≤ 9223372036854775807) (hxy : x < y) :
    Calls Tryd.prog 38 #[.slice (some ⟨b, 0, none⟩) 2 c] w fun e w' => ∃ v, e = .returned v ∧ IL w' v [x, y] ∧ Below w.heap.size w w' := by
  have HXY := Lib.hid hxy
  clear hxy
  have hlt := cell_lt hx
  obtain ⟨i0, hi, hz0, hz1, hz2⟩ := i64_info
  dsimp only at hlt
  go_enter Tryd.func38, Tryd.ntmps38
  go_wp2
  refine wp_loop_rounds 3 ?_
  rw [rounds_succ]
  go_wp2
  refine wp_loop_rounds 2 ?_
  rw [rounds_succ]
  go_wp2
  go_quiet (fail)
  go_wp2
  go_quiet (fail)
  go_wp2
  go_region_held3 (fun w' => w'.cell? ⟨b, 0, none⟩ = some (.int .i64 x) ∧ w'.cell? ⟨b, 1, none⟩ = some (.int .i64 y) ∧ Below w.heap.size w w')
    (first
      | (exact ⟨by go_keep, by go_keep, by first | exact (below_drewN (below_drewN (below_new w _) _) _).drew | exact (below_drewN (below_new w _) _).drew | exact (below_new w _).drew⟩)
      | (exact ⟨by go_keep, by go_keep, (below_drewN (below_new w _) _).alloc (by simp) _⟩)
      | (have kk := (by assumption : w1.cell? ⟨b, 0, none⟩ = some (.int .i64 x) ∧ w1.cell? ⟨b, 1, none⟩ = some (.int .i64 y) ∧ Below w.heap.size w w1); exact ⟨far_app hgrow2 kk.1 (by simp [Value.ownBlock]; omega), far_app hgrow2 kk.2.1 (by simp [Value.ownBlock]; omega), below_app kk.2.2 hgrow2 kk.2.2.size (fun k hk => by simp [Value.ownBlock] at hk; omega)⟩)
      | (exact ⟨far_app hgrow1 (by go_keep) (by simp [Value.ownBlock]; omega), far_app hgrow1 (by go_keep) (by simp [Value.ownBlock]; omega), below_app ((below_drewN (below_new w _) _).alloc (by simp) _) hgrow1 (by simp; omega) (fun k hk => by simp [Value.ownBlock] at hk; omega)⟩))
    (first
      | (fail_if_success (have hq := HA.out)
         refine step_app _ (by rfl) _ _ _ (by rfl) w.heap.size 3 i0 (.int .i64 0) 1 8 Tryd.underlying31 hi hz0 hz1 hz2 rfl (by decide) (.slice (some ⟨w.heap.size + 1, 0, none⟩) 1 1) 1 [.int .i64 x] (by rfl) (own_one _ _ _ _ _ (by simp) (by simp)) ⟨w.heap.size, 0, none⟩ 0 0 [] (by rfl) rfl (news_none _ _) none_int (by decide) (by decide) (by decide) (by simp; omega) ?_
         intro g cap w1 hown1 hgrow1 hat1
         have hq1 := Lib.hid (below_app ((below_drewN (below_new w _) _).alloc (by simp) _) hgrow1 (by simp; omega) (fun k hk => by simp [Value.ownBlock] at hk; omega)).size
         have HA := Lib.hid (show w1.ownsRow w.heap.size 3 1 (.slice (some ⟨g, 0, none⟩) 1 cap) 1 [.int .i64 x] from hown1)
         have hO := Lib.hid ((own_drewN (World.ownsRow_made w #[] 0 (Nat.le_refl _) (by decide) rfl (e := 3) (size := 1)) _).alloc _ |>.kept hgrow1 (.inr (by simp [Value.ownBlock]))))
      | (have hq := HA.out
         refine step_app _ (by rfl) _ _ _ (by rfl) w.heap.size 3 i0 (.int .i64 0) 1 8 Tryd.underlying31 hi hz0 hz1 hz2 rfl (by decide) (.slice (some ⟨w.heap.size, 0, none⟩) 0 0) 0 [] (by rfl) hO.out ⟨g, 0, none⟩ 1 cap [.int .i64 x] (by rfl) rfl (news_own HA.out) (one_int x) (by decide) (by decide) (by decide) hq1.out ?_
         intro g2 cap2 w2 hown2 hgrow2 hat2))
  have hA2 := Lib.hid (show w2.ownsRow w.heap.size 3 1 (.slice (some ⟨g2, 0, none⟩) 1 cap2) 1 [.int .i64 x] from hown2)
  obtain ⟨k1, kY, k2⟩ := (by assumption : w2.cell? ⟨b, 0, none⟩ = some (.int .i64 x) ∧ w2.cell? ⟨b, 1, none⟩ = some (.int .i64 y) ∧ Below w.heap.size w w2)
  have hB2 := Lib.hid k2
  have hz2' := hz2
  have hz2 := k2.size
  have hcX : w2.cell? ⟨g2, 0, none⟩ = some (.int .i64 x) := hA2.out.cellAt 0 (by decide)
  obtain ⟨hg2, hgl⟩ := hown2.lt g2 rfl
  have hcap : 1 ≤ cap2 := own_cap hA2.out (by decide)
  have hcapI : (1 : Int) ≤ (cap2 : Int) := by omega
  clear k2 hown2 hgrow2 hat2 hown1 hgrow1 hat1 HA hO hq1 hx hy
  go_wp2
  rw [rounds_succ]
  go_wp2
  have hxy := HXY.out
  refine wp_loop_rounds 3 ?_
  rw [rounds_succ]
  go_wp2
  go_quiet (fail)
  go_wp2
  rw [rounds_succ]
  go_wp2
  go_quiet (fail)
  go_wp2
  go_quiet (fail)
  go_wp2
  go_region_held3 (fun w' => w'.cell? ⟨b, 1, none⟩ = some (.int .i64 y) ∧ Below w.heap.size w w')
    (first
      | (exact ⟨by go_keep, by first | exact (below_drewN hB2.out _).drew | exact (below_drewN (below_drewN hB2.out _) _).drew | exact (below_drewN (below_drewN (below_drewN hB2.out _) _) _).drew | exact (below_drewN (below_drewN (below_drewN (below_drewN hB2.out _) _) _) _).drew | exact hB2.out.drew⟩)
      | (exact ⟨by go_keep, ((below_drewN hB2.out _).alloc (by simp; omega) _)⟩)
      | (have kk := (by assumption : w3.cell? ⟨b, 1, none⟩ = some (.int .i64 y) ∧ Below w.heap.size w w3); exact ⟨far_app hgrow4 kk.1 (by simp [Value.ownBlock]; omega), below_app kk.2 hgrow4 kk.2.size (fun k hk => by simp [Value.ownBlock] at hk; omega)⟩)
      | (exact ⟨far_app hgrow3 (by go_keep) (by simp [Value.ownBlock]; omega), below_app ((below_drewN hB2.out _).alloc (by simp; omega) _) hgrow3 (by simp; omega) (fun k hk => by simp [Value.ownBlock] at hk; omega)⟩))
    (first
      | (fail_if_success (have hq := HA3.out)
         refine step_app _ (by rfl) _ _ _ (by rfl) w.heap.size 3 i0 (.int .i64 0) 1 8 Tryd.underlying31 hi hz0 hz1 hz2' rfl (by decide) (.slice (some ⟨w2.heap.size, 0, none⟩) 1 1) 1 [.int .i64 y] (by rfl) (own_one _ _ _ _ _ (by simp) hz2) (if cap2 = 1 then (⟨g2, 0, none⟩ : Addr) else ⟨g2, 1, none⟩) 0 _ [] (by rw [apply_ite some]; rfl) rfl (news_none _ _) none_int (by decide) (by decide) (by decide) (by simp; omega) ?_
         intro g3 cap3 w3 hown3 hgrow3 hat3
         have hq3 := Lib.hid (below_app ((below_drewN hB2.out _).alloc (by simp; omega) _) hgrow3 (by simp; omega) (fun k hk => by simp [Value.ownBlock] at hk; omega)).size
         have HA3 := Lib.hid (show w3.ownsRow w.heap.size 3 1 (.slice (some ⟨g3, 0, none⟩) 1 cap3) 1 [.int .i64 y] from hown3)
         have hO3 := Lib.hid (((own_drewN hA2.out _).alloc _).kept hgrow3 (.inr (by simp [Value.ownBlock]; omega))))
      | (have hq := HA3.out
         refine step_app _ (by rfl) _ _ _ (by rfl) w.heap.size 3 i0 (.int .i64 0) 1 8 Tryd.underlying31 hi hz0 hz1 hz2' rfl (by decide) (.slice (some ⟨g2, 0, none⟩) 1 cap2) 1 [.int .i64 x] (by rfl) hO3.out ⟨g3, 0, none⟩ 1 cap3 [.int .i64 y] (by rfl) rfl (news_own HA3.out) (one_int y) (by decide) (by decide) (by decide) hq3.out ?_
         intro g4 cap4 w4 hown4 hgrow4 hat4))
  have hA4 := Lib.hid (show w4.ownsRow w.heap.size 3 1 (.slice (some ⟨g4, 0, none⟩) 2 cap4) 2 [.int .i64 x, .int .i64 y] from hown4)
  obtain ⟨-, k2⟩ := (by assumption : w4.cell? ⟨b, 1, none⟩ = some (.int .i64 y) ∧ Below w.heap.size w w4)
  have hB4 := Lib.hid k2
  clear k2 hown4 hgrow4 hat4 hown3 hgrow3 hat3 HA3 hO3 hq3 hcX kY k1 hcap hcapI hxy
  generalize (if cap2 = 1 then some (⟨g2, 0, none⟩ : Addr) else some ⟨g2, 1, none⟩) = ao
  go_wp2
  rw [rounds_succ]
  go_wp2
  go_returns
  exact ⟨_, rfl, ⟨g4, cap4, rfl, hA4.out.cellAt 0 (by decide), hA4.out.cellAt 1 (by decide)⟩, hB4.out⟩
theorem c_Rising2gt (b c : Nat) (x y : Int) (w : World) (hx : w.cell? ⟨b, 0, none⟩ = some (.int .i64 x)) (hy : w.cell? ⟨b, 1, none⟩ = some (.int .i64 y)) (h2 : -9223372036854775808 ≤ x) (h3 : x ≤ 9223372036854775807) (h4 : -9223372036854775808 ≤ y) (h5 : y ≤ 9223372036854775807) (hxy : y < x) :
    Calls Tryd.prog 38 #[.slice (some ⟨b, 0, none⟩) 2 c] w fun e w' => ∃ v, e = .returned v ∧ IL w' v [y, x] ∧ Below w.heap.size w w' := by
  have HXY := Lib.hid hxy
  clear hxy
  have hlt := cell_lt hx
  obtain ⟨i0, hi, hz0, hz1, hz2⟩ := i64_info
  dsimp only at hlt
  go_enter Tryd.func38, Tryd.ntmps38
  go_wp2
  refine wp_loop_rounds 3 ?_
  rw [rounds_succ]
  go_wp2
  refine wp_loop_rounds 2 ?_
  rw [rounds_succ]
  go_wp2
  go_quiet (fail)
  go_wp2
  go_quiet (fail)
  go_wp2
  go_region_held3 (fun w' => w'.cell? ⟨b, 0, none⟩ = some (.int .i64 x) ∧ w'.cell? ⟨b, 1, none⟩ = some (.int .i64 y) ∧ Below w.heap.size w w')
    (first
      | (exact ⟨by go_keep, by go_keep, by first | exact (below_drewN (below_drewN (below_new w _) _) _).drew | exact (below_drewN (below_new w _) _).drew | exact (below_new w _).drew⟩)
      | (exact ⟨by go_keep, by go_keep, (below_drewN (below_new w _) _).alloc (by simp) _⟩)
      | (have kk := (by assumption : w1.cell? ⟨b, 0, none⟩ = some (.int .i64 x) ∧ w1.cell? ⟨b, 1, none⟩ = some (.int .i64 y) ∧ Below w.heap.size w w1); exact ⟨far_app hgrow2 kk.1 (by simp [Value.ownBlock]; omega), far_app hgrow2 kk.2.1 (by simp [Value.ownBlock]; omega), below_app kk.2.2 hgrow2 kk.2.2.size (fun k hk => by simp [Value.ownBlock] at hk; omega)⟩)
      | (exact ⟨far_app hgrow1 (by go_keep) (by simp [Value.ownBlock]; omega), far_app hgrow1 (by go_keep) (by simp [Value.ownBlock]; omega), below_app ((below_drewN (below_new w _) _).alloc (by simp) _) hgrow1 (by simp; omega) (fun k hk => by simp [Value.ownBlock] at hk; omega)⟩))
    (first
      | (fail_if_success (have hq := HA.out)
         refine step_app _ (by rfl) _ _ _ (by rfl) w.heap.size 3 i0 (.int .i64 0) 1 8 Tryd.underlying31 hi hz0 hz1 hz2 rfl (by decide) (.slice (some ⟨w.heap.size + 1, 0, none⟩) 1 1) 1 [.int .i64 x] (by rfl) (own_one _ _ _ _ _ (by simp) (by simp)) ⟨w.heap.size, 0, none⟩ 0 0 [] (by rfl) rfl (news_none _ _) none_int (by decide) (by decide) (by decide) (by simp; omega) ?_
         intro g cap w1 hown1 hgrow1 hat1
         have hq1 := Lib.hid (below_app ((below_drewN (below_new w _) _).alloc (by simp) _) hgrow1 (by simp; omega) (fun k hk => by simp [Value.ownBlock] at hk; omega)).size
         have HA := Lib.hid (show w1.ownsRow w.heap.size 3 1 (.slice (some ⟨g, 0, none⟩) 1 cap) 1 [.int .i64 x] from hown1)
         have hO := Lib.hid ((own_drewN (World.ownsRow_made w #[] 0 (Nat.le_refl _) (by decide) rfl (e := 3) (size := 1)) _).alloc _ |>.kept hgrow1 (.inr (by simp [Value.ownBlock]))))
      | (have hq := HA.out
         refine step_app _ (by rfl) _ _ _ (by rfl) w.heap.size 3 i0 (.int .i64 0) 1 8 Tryd.underlying31 hi hz0 hz1 hz2 rfl (by decide) (.slice (some ⟨w.heap.size, 0, none⟩) 0 0) 0 [] (by rfl) hO.out ⟨g, 0, none⟩ 1 cap [.int .i64 x] (by rfl) rfl (news_own HA.out) (one_int x) (by decide) (by decide) (by decide) hq1.out ?_
         intro g2 cap2 w2 hown2 hgrow2 hat2))
  have hA2 := Lib.hid (show w2.ownsRow w.heap.size 3 1 (.slice (some ⟨g2, 0, none⟩) 1 cap2) 1 [.int .i64 x] from hown2)
  obtain ⟨k1, kY, k2⟩ := (by assumption : w2.cell? ⟨b, 0, none⟩ = some (.int .i64 x) ∧ w2.cell? ⟨b, 1, none⟩ = some (.int .i64 y) ∧ Below w.heap.size w w2)
  have hB2 := Lib.hid k2
  have hz2' := hz2
  have hz2 := k2.size
  have hcX : w2.cell? ⟨g2, 0, none⟩ = some (.int .i64 x) := hA2.out.cellAt 0 (by decide)
  obtain ⟨hg2, hgl⟩ := hown2.lt g2 rfl
  clear k2 hown2 hgrow2 hat2 hown1 hgrow1 hat1 HA hO hq1 hx hy
  go_wp2
  rw [rounds_succ]
  go_wp2
  have hxy := HXY.out
  have hxn : decide (x < y) = false := by simp; omega
  have hxe : (x == y) = false := beq_no (by omega)
  clear hxy
  refine wp_loop_rounds 3 ?_
  rw [rounds_succ]
  go_wp2
  go_quiet (fail)
  go_wp2
  go_quiet (fail)
  go_wp2
  go_region_held3 (fun w' => w'.cell? ⟨b, 1, none⟩ = some (.int .i64 y) ∧ Below w.heap.size w w')
    (first
      | (exact ⟨by go_keep, by first | exact (below_drewN hB2.out _).drew | exact (below_drewN (below_drewN hB2.out _) _).drew | exact (below_drewN (below_drewN (below_drewN hB2.out _) _) _).drew | exact (below_drewN (below_drewN (below_drewN (below_drewN hB2.out _) _) _) _).drew | exact hB2.out.drew⟩)
      | (exact ⟨by go_keep, ((below_drewN hB2.out _).alloc (by simp; omega) _)⟩)
      | (have kk := (by assumption : w3.cell? ⟨b, 1, none⟩ = some (.int .i64 y) ∧ Below w.heap.size w w3); exact ⟨far_app hgrow4 kk.1 (by simp [Value.ownBlock]; omega), below_app kk.2 hgrow4 kk.2.size (fun k hk => by simp [Value.ownBlock] at hk; omega)⟩)
      | (exact ⟨far_app hgrow3 (by go_keep) (by simp [Value.ownBlock]; omega), below_app ((below_drewN hB2.out _).alloc (by simp; omega) _) hgrow3 (by simp; omega) (fun k hk => by simp [Value.ownBlock] at hk; omega)⟩))
    (first
      | (fail_if_success (have hq := HA3.out)
         refine step_app _ (by rfl) _ _ _ (by rfl) w.heap.size 3 i0 (.int .i64 0) 1 8 Tryd.underlying31 hi hz0 hz1 hz2' rfl (by decide) (.slice (some ⟨w2.heap.size, 0, none⟩) 1 1) 1 [.int .i64 y] (by rfl) (own_one _ _ _ _ _ (by simp) hz2) ⟨g2, 0, none⟩ 1 cap2 [.int .i64 x] (by rfl) rfl (news_own ((own_drewN hA2.out _).alloc _)) (one_int x) (by decide) (by decide) (by decide) (by simp; omega) ?_
         intro g3 cap3 w3 hown3 hgrow3 hat3
         have hq3 := Lib.hid (below_app ((below_drewN hB2.out _).alloc (by simp; omega) _) hgrow3 (by simp; omega) (fun k hk => by simp [Value.ownBlock] at hk; omega)).size
         have HA3 := Lib.hid (show w3.ownsRow w.heap.size 3 1 (.slice (some ⟨g3, 0, none⟩) 2 cap3) 2 [.int .i64 y, .int .i64 x] from hown3)
         have hO3 := Lib.hid ((own_pre ((own_drewN hA2.out _).alloc _)).kept hgrow3 (.inr (by simp [Value.ownBlock]; omega))))
      | (have hq := HA3.out
         refine step_app _ (by rfl) _ _ _ (by rfl) w.heap.size 3 i0 (.int .i64 0) 1 8 Tryd.underlying31 hi hz0 hz1 hz2' rfl (by decide) (.slice (some ⟨g2, 0, none⟩) 0 cap2) 0 [] (by rfl) hO3.out ⟨g3, 0, none⟩ 2 cap3 [.int .i64 y, .int .i64 x] (by rfl) rfl (news_own HA3.out) (two_int y x) (by decide) (by decide) (by decide) hq3.out ?_
         intro g4 cap4 w4 hown4 hgrow4 hat4))
  have hA4 := Lib.hid (show w4.ownsRow w.heap.size 3 1 (.slice (some ⟨g4, 0, none⟩) 2 cap4) 2 [.int .i64 y, .int .i64 x] from hown4)
  obtain ⟨-, k2⟩ := (by assumption : w4.cell? ⟨b, 1, none⟩ = some (.int .i64 y) ∧ Below w.heap.size w w4)
  have hB4 := Lib.hid k2
  clear k2 hown4 hgrow4 hat4 hown3 hgrow3 hat3 HA3 hO3 hq3 hcX kY k1
  go_wp2
  rw [rounds_succ]
  go_wp2
  go_returns
  exact ⟨_, rfl, ⟨g4, cap4, rfl, hA4.out.cellAt 0 (by decide), hA4.out.cellAt 1 (by decide)⟩, hB4.out⟩
end Go.Proofs.YtcemghcfapblgaaDoor
