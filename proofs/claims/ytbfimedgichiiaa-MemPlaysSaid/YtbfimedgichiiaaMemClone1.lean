/-
  The contract of clone of a bank, in the code.
-/
import Derived.Test.YtbfimedgichiiaaMemNew4
import Derived.Deep.RegionHeld3
import Derived.Deep.RegionLaw
import Derived.Lib.Builder
namespace Go.Proofs.Ytbfimedgichiiaa
set_option linter.unusedVariables false
set_option linter.unusedSimpArgs false
set_option maxRecDepth 100000
open Go.ChangeShapes Go.WideShapes Go.ChangeAt Go.RowKit
attribute [local go_sem ↓] Go.wp_at_zero Go.wp_at_succ

theorem neq_same (p : Addr) (w : World) : (binOp .neq 95 (.pointer (some p)) (.pointer (some p))).run Try.prog w = .ok (.bool false) w := by
  obtain ⟨j, hj, _⟩ := page_j
  exact Go.Lib.run_neq_ptr_same w p Try.underlying95 hj
theorem run_neq_ptr_other {P : Program} (w : World) {tp te : TypeId} {j : TypeInfo} {a b : Addr} {ca cb : Array Value} {ta tb : TypeId} (hp : P.underlying tp = some (.pointer te)) (hte : P.info? te = some j) (hsz : j.size ≠ 0)
    (hne : a ≠ b) (ha : w.heap[a.block]? = some (.cells ca ta (0, 0))) (hb : w.heap[b.block]? = some (.cells cb tb (0, 0))) :
    (binOp .neq tp (.pointer (some a)) (.pointer (some b))).run P w = .ok (.bool true) w := by
  have h : ∀ d : Nat, (Op.equalIn (d + 1) tp (.pointer (some a)) (.pointer (some b))).run P w = .ok false w := fun d => by
    simp [Op.equalIn, run_underlying hp, sizeOf, typeInfo, hte, hsz, run_sameAddr_other w hne ha hb]
  simp only [binOp]
  simp [Op.equal, Op.maxDepth, h 9999]
theorem neq_other {p q : Nat} {c d : Nat → Int} {w : World} (hpq : p ≠ q) (hp : Pg w p c) (hq : Pg w q d) : (binOp .neq 95 (.pointer (some ⟨p, 0, none⟩)) (.pointer (some ⟨q, 0, none⟩))).run Try.prog w = .ok (.bool true) w := by
  obtain ⟨j, hj, hs⟩ := page_j
  obtain ⟨cs, T, h1, _⟩ := hp
  obtain ⟨ds, T', h2, _⟩ := hq
  exact run_neq_ptr_other w Try.underlying95 hj (by rw [hs]; decide) (fun e => hpq (by injection e)) h1 h2
/-- A bank's seven cells. -/
abbrev B7 (gb o : Nat) (r : Rg) (np gn cn gt ct : Nat) (w : World) : Prop := w.cell? ⟨gb, o, none⟩ = some (.string ⟨r.nm.toArray⟩) ∧ w.cell? ⟨gb, o + 1, none⟩ = some (.int .i64 r.fr) ∧ w.cell? ⟨gb, o + 2, none⟩ = some (.int .i64 r.sz) ∧ w.cell? ⟨gb, o + 3, none⟩ = some (.bool r.wr) ∧ w.cell? ⟨gb, o + 4, none⟩ = some (.bool r.ex) ∧ w.cell? ⟨gb, o + 5, none⟩ = some (.slice (some ⟨gn, 0, none⟩) np cn) ∧ w.cell? ⟨gb, o + 6, none⟩ = some (.slice (some ⟨gt, 0, none⟩) np ct)
theorem B7.next {gb o : Nat} {r : Rg} {np gn cn gt ct : Nat} {w w' : World} (h : B7 gb o r np gn cn gt ct w) (hb : Below w.heap.size w w') : B7 gb o r np gn cn gt ct w' := by
  obtain ⟨a0, a1, a2, a3, a4, a5, a6⟩ := h
  exact ⟨(hb.cell (cell_lt a0)).trans a0, (hb.cell (cell_lt a1)).trans a1, (hb.cell (cell_lt a2)).trans a2, (hb.cell (cell_lt a3)).trans a3, (hb.cell (cell_lt a4)).trans a4, (hb.cell (cell_lt a5)).trans a5, (hb.cell (cell_lt a6)).trans a6⟩
theorem B7.far {gb o b : Nat} {r : Rg} {np gn cn gt ct : Nat} {w w' : World} (h : B7 gb o r np gn cn gt ct w) (hk : ∀ i, i ≠ b → w'.heap[i]? = w.heap[i]?) (hne : gb ≠ b) : B7 gb o r np gn cn gt ct w' := by
  obtain ⟨a0, a1, a2, a3, a4, a5, a6⟩ := h
  have c := fun k => World.cell?_of_block (w := w) (w' := w') (a := ⟨gb, k, none⟩) (hk gb hne)
  exact ⟨(c _).trans a0, (c _).trans a1, (c _).trans a2, (c _).trans a3, (c _).trans a4, (c _).trans a5, (c _).trans a6⟩
/-- Room for a bank. -/
def Z7 (cb : Nat) (w : World) : Prop :=
  (w.cell? ⟨cb, 0, none⟩ = some (.string ⟨#[]⟩) ∧ w.cell? ⟨cb, 1, none⟩ = some (.int .i64 0) ∧ w.cell? ⟨cb, 2, none⟩ = some (.int .i64 0) ∧ w.cell? ⟨cb, 3, none⟩ = some (.bool false) ∧ w.cell? ⟨cb, 4, none⟩ = some (.bool false) ∧ w.cell? ⟨cb, 5, none⟩ = some (.slice none 0 0) ∧ w.cell? ⟨cb, 6, none⟩ = some (.slice none 0 0)) ∧
  (w.frozen? ⟨cb, 0, none⟩ = false ∧ w.frozen? ⟨cb, 1, none⟩ = false ∧ w.frozen? ⟨cb, 2, none⟩ = false ∧ w.frozen? ⟨cb, 3, none⟩ = false ∧ w.frozen? ⟨cb, 4, none⟩ = false ∧ w.frozen? ⟨cb, 5, none⟩ = false ∧ w.frozen? ⟨cb, 6, none⟩ = false)
theorem Z7.next {cb : Nat} {w w' : World} (h : Z7 cb w) (hb : Below w.heap.size w w') : Z7 cb w' := by
  obtain ⟨⟨b0, b1, b2, b3, b4, b5, b6⟩, ⟨f0, f1, f2, f3, f4, f5, f6⟩⟩ := h
  have hl : cb < w.heap.size := cell_lt b0
  have c := fun k => hb.cell (p := ⟨cb, k, none⟩) hl
  have f := fun k => hb.frozen (p := ⟨cb, k, none⟩) hl
  exact ⟨⟨(c _).trans b0, (c _).trans b1, (c _).trans b2, (c _).trans b3, (c _).trans b4, (c _).trans b5, (c _).trans b6⟩, ⟨(f _).trans f0, (f _).trans f1, (f _).trans f2, (f _).trans f3, (f _).trans f4, (f _).trans f5, (f _).trans f6⟩⟩
theorem z7_new (w : World) (T : TypeId) : Z7 w.heap.size (w.alloc (.cells #[.string ⟨#[]⟩, .int .i64 0, .int .i64 0, .bool false, .bool false, .slice none 0 0, .slice none 0 0] T)) := by
  refine ⟨⟨?_, ?_, ?_, ?_, ?_, ?_, ?_⟩, ⟨?_, ?_, ?_, ?_, ?_, ?_, ?_⟩⟩ <;> simp [go_sem]
theorem z7_new2 (w : World) (o : Obj) (T : TypeId) : Z7 (w.heap.size + 1) ((w.alloc o).alloc (.cells #[.string ⟨#[]⟩, .int .i64 0, .int .i64 0, .bool false, .bool false, .slice none 0 0, .slice none 0 0] T)) := by
  have h := z7_new (w.alloc o) T
  rw [show (w.alloc o).heap.size = w.heap.size + 1 by simp] at h
  exact h
theorem bel2 {w w1 w2 : World} (h : Below w.heap.size w w1) (k : Below w1.heap.size w1 w2) : Below w.heap.size w w2 := below_on h k h.size
theorem B7.st {gb o cb : Nat} {r : Rg} {np gn cn gt ct : Nat} {w : World} (h : B7 gb o r np gn cn gt ct w) (hne : gb ≠ cb) (v0 v1 v2 v3 v4 v5 v6 : Value) :
    B7 gb o r np gn cn gt ct (((((((w.setCell ⟨cb, 0, none⟩ v0).setCell ⟨cb, 1, none⟩ v1).setCell ⟨cb, 2, none⟩ v2).setCell ⟨cb, 3, none⟩ v3).setCell ⟨cb, 4, none⟩ v4).setCell ⟨cb, 5, none⟩ v5).setCell ⟨cb, 6, none⟩ v6) :=
  B7.far h (keep_set (keep_set (keep_set (keep_set (keep_set (keep_set (keep_set (fun _ _ => rfl) _ _) _ _) _ _) _ _) _ _) _ _) _ _) hne
/-- A clone under way: its cells at cb, its rows, its pages; those below k are its own where the mark has others. -/
def ClI (w : World) (cb : Nat) (r : Rg) (np g1 c1 g2 c2 : Nat) (P Q : Nat → Nat) (C D : Nat → Nat → Int) (k : Nat) (wr : World) : Prop :=
  ∃ F : Nat → Nat, (w.heap.size < cb ∧ cb < wr.heap.size ∧ cb ≠ g1 ∧ cb ≠ g2 ∧ w.heap.size < g1 ∧ w.heap.size < g2) ∧
    (wr.cell? ⟨cb, 0, none⟩ = some (.string ⟨r.nm.toArray⟩) ∧ wr.cell? ⟨cb, 1, none⟩ = some (.int .i64 r.fr) ∧ wr.cell? ⟨cb, 2, none⟩ = some (.int .i64 r.sz) ∧ wr.cell? ⟨cb, 3, none⟩ = some (.bool r.wr) ∧ wr.cell? ⟨cb, 4, none⟩ = some (.bool r.ex) ∧ wr.cell? ⟨cb, 5, none⟩ = some (.slice (some ⟨g1, 0, none⟩) np c1) ∧ wr.cell? ⟨cb, 6, none⟩ = some (.slice (some ⟨g2, 0, none⟩) np c2)) ∧
    Z7 w.heap.size wr ∧ BkAt wr w.heap.size np g1 g2 F Q C D ∧
    (∀ j, j < np → (F j = P j ∧ (P j = Q j ∨ k ≤ j) ∧ P j < w.heap.size) ∨ (j < k ∧ P j ≠ Q j ∧ w.heap.size < F j ∧ F j ≠ cb ∧ F j ≠ g1 ∧ F j ≠ g2)) ∧ (∀ j, j < np → Q j < w.heap.size) ∧
    (∀ j j', j < np → j' < np → F j = F j' → w.heap.size ≤ F j → j = j') ∧ Below w.heap.size w wr
theorem ClI.bl {w : World} {cb : Nat} {r : Rg} {np g1 c1 g2 c2 : Nat} {P Q : Nat → Nat} {C D : Nat → Nat → Int} {k : Nat} {wr w' : World} (h : ClI w cb r np g1 c1 g2 c2 P Q C D k wr) (hb : Below wr.heap.size wr w') : ClI w cb r np g1 c1 g2 c2 P Q C D k w' := by
  obtain ⟨F, ⟨a1, a2, a3⟩, ⟨b0, b1, b2, b3, b4, b5, b6⟩, hz, hB, h1, h2, h3, h4⟩ := h
  have c := fun k => hb.cell (p := ⟨cb, k, none⟩) a2
  exact ⟨F, ⟨a1, Nat.lt_of_lt_of_le a2 hb.size, a3⟩, ⟨(c _).trans b0, (c _).trans b1, (c _).trans b2, (c _).trans b3, (c _).trans b4, (c _).trans b5, (c _).trans b6⟩, hz.next hb, hB.next hb, h1, h2, h3, bel2 h4 hb⟩
theorem ClI.skip {w : World} {cb : Nat} {r : Rg} {np g1 c1 g2 c2 : Nat} {P Q : Nat → Nat} {C D : Nat → Nat → Int} {k : Nat} {wr : World} (h : ClI w cb r np g1 c1 g2 c2 P Q C D k wr) (he : P k = Q k) : ClI w cb r np g1 c1 g2 c2 P Q C D (k + 1) wr := by
  obtain ⟨F, a, b, hz, hB, h1, h2, h3, h4⟩ := h
  refine ⟨F, a, b, hz, hB, fun j hj => ?_, h2, h3, h4⟩
  rcases h1 j hj with ⟨x1, x2, x3⟩ | ⟨x1, x2⟩
  · refine .inl ⟨x1, ?_, x3⟩
    by_cases e : j = k
    · subst e; exact .inl he
    · exact x2.imp id (fun h => by omega)
  · exact .inr ⟨by omega, x2⟩
theorem ClI.copy {w : World} {cb : Nat} {r : Rg} {np g1 c1 g2 c2 : Nat} {P Q : Nat → Nat} {C D : Nat → Nat → Int} {k : Nat} {wr : World} (h : ClI w cb r np g1 c1 g2 c2 P Q C D k wr) (hk : k < np) (he : P k ≠ Q k) {cs : Array Value} (hc : PgC cs (C k)) (n : Nat) (T : TypeId) :
    ClI w cb r np g1 c1 g2 c2 P Q C D (k + 1) (((wr.drewN n).alloc (.cells cs T)).setCell ⟨g1, k, none⟩ (.pointer (some ⟨wr.heap.size, 0, none⟩))) := by
  have hb0 : Below wr.heap.size wr ((wr.drewN n).alloc (.cells cs T)) := (below_drewN (Below.refl _ _) n).alloc (by rw [drewN_heap]; exact Nat.le_refl _) _
  have hs1 : ((wr.drewN n).alloc (.cells cs T)).heap.size = wr.heap.size + 1 := by simp [World.alloc, drewN_heap]
  have hnew : Pg ((wr.drewN n).alloc (.cells cs T)) wr.heap.size (C k) := by
    refine ⟨cs, T, ?_, hc⟩
    have := heap_alloc_new (wr.drewN n) (.cells cs T)
    rw [drewN_heap] at this
    exact this
  obtain ⟨F, ⟨a1, a2, a3, a4, a5, a6⟩, ⟨b0, b1, b2, b3, b4, b5, b6⟩, hz0, hB0, h1, h2, h3, h4⟩ := h
  have hFs : ∀ j, j < np → F j < wr.heap.size := fun j hj => (hB0.2.2.2.2 j hj).2.2.1.lt
  have hg1s : g1 < wr.heap.size := hB0.1.2
  have hg2s : g2 < wr.heap.size := hB0.2.1.2
  have hz := hz0.next hb0
  have hB := hB0.next hb0
  have cb0 := fun k => hb0.cell (p := ⟨cb, k, none⟩) a2
  have h4' : Below w.heap.size w ((wr.drewN n).alloc (.cells cs T)) := bel2 h4 hb0
  revert hnew hs1 hz hB cb0 h4'
  generalize (wr.drewN n).alloc (.cells cs T) = wx
  intro hs1 hnew hz hB cb0 h4'
  generalize hu : Value.pointer (some ⟨wr.heap.size, 0, none⟩) = u
  have hkb : ∀ i, i ≠ g1 → (wx.setCell ⟨g1, k, none⟩ u).heap[i]? = wx.heap[i]? := fun i hi => Below.heap_setCell wx ⟨g1, k, none⟩ _ i (fun e => hi e)
  have cel : ∀ b o, b ≠ g1 → (wx.setCell ⟨g1, k, none⟩ u).cell? ⟨b, o, none⟩ = wx.cell? ⟨b, o, none⟩ := fun b o hb => World.cell?_of_block (a := ⟨b, o, none⟩) (hkb b hb)
  have hsz : (wx.setCell ⟨g1, k, none⟩ u).heap.size = wx.heap.size := by simp [World.setCell]
  have hFg : ∀ j, j < np → F j ≠ g1 := fun j hj => by
    rcases h1 j hj with ⟨x1, _, x3⟩ | ⟨_, _, _, _, x, _⟩
    · omega
    · exact x
  obtain ⟨z1, z2⟩ := hz
  refine ⟨ins F k wr.heap.size, ⟨a1, by omega, a3, a4, a5, a6⟩, ⟨(cel _ _ a3).trans ((cb0 _).trans b0), (cel _ _ a3).trans ((cb0 _).trans b1), (cel _ _ a3).trans ((cb0 _).trans b2), (cel _ _ a3).trans ((cb0 _).trans b3), (cel _ _ a3).trans ((cb0 _).trans b4), (cel _ _ a3).trans ((cb0 _).trans b5), (cel _ _ a3).trans ((cb0 _).trans b6)⟩, ⟨?_, ?_⟩, ?_, fun j hj => ?_, h2, fun j j' hj hj' e hge => ?_, h4'.setCell (p := ⟨g1, k, none⟩) (by show w.heap.size ≤ g1; omega) _⟩
  · have q := fun o => cel w.heap.size o (show w.heap.size ≠ g1 by omega)
    exact ⟨(q _).trans z1.1, (q _).trans z1.2.1, (q _).trans z1.2.2.1, (q _).trans z1.2.2.2.1, (q _).trans z1.2.2.2.2.1, (q _).trans z1.2.2.2.2.2.1, (q _).trans z1.2.2.2.2.2.2⟩
  · simp only [World.frozen?_setCell]
    exact z2
  · obtain ⟨d1, d2, d3, d4, d5⟩ := hB
    refine ⟨⟨d1.1, by omega⟩, ⟨d2.1, by omega⟩, d3, fun k => by simp only [World.frozen?_setCell]; exact d4 k, fun j hj => ?_⟩
    obtain ⟨e1, e2, e3, e4⟩ := d5 j hj
    refine ⟨?_, (cel _ _ d3.symm).trans e2, ?_, e4.of_block (hkb _ (by have := h2 j hj; omega))⟩
    · by_cases e : j = k
      · subst e
        rw [ins_at, World.cell?_setCell_same _ _ _ e1, hu]
      · rw [ins_off _ _ _ _ e, World.cell?_setCell_other _ _ _ _ (fun e' => e (by injection e' with _ e'; exact e'.symm))]
        exact e1
    · by_cases e : j = k
      · subst e
        rw [ins_at]
        exact hnew.of_block (hkb _ (by omega))
      · rw [ins_off _ _ _ _ e]
        exact e3.of_block (hkb _ (hFg j hj))
  · by_cases e : j = k
    · subst e
      rw [ins_at]
      exact .inr ⟨by omega, he, by omega, by omega, by omega, by omega⟩
    · rw [ins_off _ _ _ _ e]
      rcases h1 j hj with ⟨x1, x2, x3⟩ | ⟨x1, x2⟩
      · exact .inl ⟨x1, x2.imp id (fun h => by omega), x3⟩
      · exact .inr ⟨by omega, x2⟩
  · by_cases e1 : j = k
    · by_cases e2 : j' = k
      · omega
      · subst e1
        rw [ins_at, ins_off _ _ _ _ e2] at e
        have := hFs j' hj'
        omega
    · by_cases e2 : j' = k
      · subst e2
        rw [ins_at, ins_off _ _ _ _ e1] at e
        have := hFs j hj
        omega
      · rw [ins_off _ _ _ _ e1, ins_off _ _ _ _ e2] at e
        rw [ins_off _ _ _ _ e1] at hge
        exact h3 j j' hj hj' e hge
/-- Behind the region that lays the new bank. -/
theorem ClI.start0 {w wp w3 : World} {cb : Nat} {r : Rg} {np g1 c1 g2 c2 : Nat} {P Q : Nat → Nat} {C D : Nat → Nat → Int} (hz0 : Z7 w.heap.size wp) (hcb : w.heap.size < cb) (hB : Below w.heap.size w wp) (h1 : w.heap.size < g1) (h2 : w.heap.size < g2) (l1 : g1 < wp.heap.size) (l2 : g2 < wp.heap.size)
    (n1 : cb ≠ g1) (n2 : cb ≠ g2) (n3 : g1 ≠ g2) (f1 : ∀ k, wp.frozen? ⟨g1, k, none⟩ = false) (f2 : ∀ k, wp.frozen? ⟨g2, k, none⟩ = false) (r1 : ∀ j, j < np → wp.cell? ⟨g1, j, none⟩ = some (.pointer (some ⟨P j, 0, none⟩))) (r2 : ∀ j, j < np → wp.cell? ⟨g2, j, none⟩ = some (.pointer (some ⟨Q j, 0, none⟩)))
    (hp : ∀ j, j < np → Pg w (P j) (C j) ∧ Pg w (Q j) (D j)) (hk : ∀ i, i < wp.heap.size → i ≠ cb → w3.heap[i]? = wp.heap[i]?) (hs : wp.heap.size ≤ w3.heap.size) (hcs : cb < w3.heap.size)
    (hb : w3.cell? ⟨cb, 0, none⟩ = some (.string ⟨r.nm.toArray⟩) ∧ w3.cell? ⟨cb, 1, none⟩ = some (.int .i64 r.fr) ∧ w3.cell? ⟨cb, 2, none⟩ = some (.int .i64 r.sz) ∧ w3.cell? ⟨cb, 3, none⟩ = some (.bool r.wr) ∧ w3.cell? ⟨cb, 4, none⟩ = some (.bool r.ex) ∧ w3.cell? ⟨cb, 5, none⟩ = some (.slice (some ⟨g1, 0, none⟩) np c1) ∧ w3.cell? ⟨cb, 6, none⟩ = some (.slice (some ⟨g2, 0, none⟩) np c2))
    (hB3 : Below w.heap.size w w3) :
    ClI w cb r np g1 c1 g2 c2 P Q C D 0 w3 := by
  have cel : ∀ b o, b < wp.heap.size → b ≠ cb → w3.cell? ⟨b, o, none⟩ = wp.cell? ⟨b, o, none⟩ := fun b o hl hb => World.cell?_of_block (a := ⟨b, o, none⟩) (hk b hl hb)
  have fro : ∀ b o, b < wp.heap.size → b ≠ cb → w3.frozen? ⟨b, o, none⟩ = wp.frozen? ⟨b, o, none⟩ := fun b o hl hb => World.frozen?_of_block (a := ⟨b, o, none⟩) (hk b hl hb)
  have hsB := hB.size
  have pg : ∀ {p : Nat} {c : Nat → Int}, Pg w p c → Pg w3 p c := fun {p c} h => (h.next hB h.lt).of_block (hk _ (by have := h.lt; omega) (by have := h.lt; omega))
  have hl : w.heap.size < wp.heap.size := cell_lt hz0.1.1
  obtain ⟨z1, z2⟩ := hz0
  have hne : w.heap.size ≠ cb := by omega
  refine ⟨P, ⟨hcb, hcs, n1, n2, h1, h2⟩, hb, ⟨?_, ?_⟩, ⟨⟨by omega, by omega⟩, ⟨by omega, by omega⟩, n3, fun k => ⟨(fro _ _ l1 n1.symm).trans (f1 k), (fro _ _ l2 n2.symm).trans (f2 k)⟩, fun j hj => ⟨(cel _ _ l1 n1.symm).trans (r1 j hj), (cel _ _ l2 n2.symm).trans (r2 j hj), pg (hp j hj).1, pg (hp j hj).2⟩⟩,
    fun j hj => .inl ⟨rfl, .inr (Nat.zero_le _), (hp j hj).1.lt⟩, fun j hj => (hp j hj).2.lt, fun j j' hj hj' e hge => by have := (hp j hj).1.lt; omega, hB3⟩
  · have q := fun o => cel w.heap.size o hl hne
    exact ⟨(q _).trans z1.1, (q _).trans z1.2.1, (q _).trans z1.2.2.1, (q _).trans z1.2.2.2.1, (q _).trans z1.2.2.2.2.1, (q _).trans z1.2.2.2.2.2.1, (q _).trans z1.2.2.2.2.2.2⟩
  · have q := fun o => fro w.heap.size o hl hne
    exact ⟨(q _).trans z2.1, (q _).trans z2.2.1, (q _).trans z2.2.2.1, (q _).trans z2.2.2.2.1, (q _).trans z2.2.2.2.2.1, (q _).trans z2.2.2.2.2.2.1, (q _).trans z2.2.2.2.2.2.2⟩
theorem ClI.start {w wp : World} {cb : Nat} {r : Rg} {np g1 c1 g2 c2 : Nat} {P Q : Nat → Nat} {C D : Nat → Nat → Int} (hz : Z7 cb wp) (hz0 : Z7 w.heap.size wp) (hcb : w.heap.size < cb) (hB : Below w.heap.size w wp) (h1 : w.heap.size < g1) (h2 : w.heap.size < g2) (l1 : g1 < wp.heap.size) (l2 : g2 < wp.heap.size)
    (n1 : cb ≠ g1) (n2 : cb ≠ g2) (n3 : g1 ≠ g2) (f1 : ∀ k, wp.frozen? ⟨g1, k, none⟩ = false) (f2 : ∀ k, wp.frozen? ⟨g2, k, none⟩ = false) (r1 : ∀ j, j < np → wp.cell? ⟨g1, j, none⟩ = some (.pointer (some ⟨P j, 0, none⟩))) (r2 : ∀ j, j < np → wp.cell? ⟨g2, j, none⟩ = some (.pointer (some ⟨Q j, 0, none⟩)))
    (hp : ∀ j, j < np → Pg w (P j) (C j) ∧ Pg w (Q j) (D j)) :
    ClI w cb r np g1 c1 g2 c2 P Q C D 0 (((((((wp.setCell ⟨cb, 0, none⟩ (.string ⟨r.nm.toArray⟩)).setCell ⟨cb, 1, none⟩ (.int .i64 r.fr)).setCell ⟨cb, 2, none⟩ (.int .i64 r.sz)).setCell ⟨cb, 3, none⟩ (.bool r.wr)).setCell ⟨cb, 4, none⟩ (.bool r.ex)).setCell ⟨cb, 5, none⟩ (.slice (some ⟨g1, 0, none⟩) np c1)).setCell ⟨cb, 6, none⟩ (.slice (some ⟨g2, 0, none⟩) np c2)) := by
  obtain ⟨⟨u0, u1, u2, u3, u4, u5, u6⟩, _⟩ := hz
  have hcs : cb < wp.heap.size := cell_lt u0
  have hBt := ((((((hB.setCell (p := ⟨cb, 0, none⟩) (by show w.heap.size ≤ cb; omega) (.string ⟨r.nm.toArray⟩)).setCell (p := ⟨cb, 1, none⟩) (by show w.heap.size ≤ cb; omega) (.int .i64 r.fr)).setCell (p := ⟨cb, 2, none⟩) (by show w.heap.size ≤ cb; omega) (.int .i64 r.sz)).setCell (p := ⟨cb, 3, none⟩) (by show w.heap.size ≤ cb; omega) (.bool r.wr)).setCell (p := ⟨cb, 4, none⟩) (by show w.heap.size ≤ cb; omega) (.bool r.ex)).setCell (p := ⟨cb, 5, none⟩) (by show w.heap.size ≤ cb; omega) (.slice (some ⟨g1, 0, none⟩) np c1)).setCell (p := ⟨cb, 6, none⟩) (by show w.heap.size ≤ cb; omega) (.slice (some ⟨g2, 0, none⟩) np c2)
  generalize hw3 : World.setCell _ ⟨cb, 6, none⟩ _ = w3 at hBt ⊢
  have hk : ∀ i, i ≠ cb → w3.heap[i]? = wp.heap[i]? := by rw [← hw3]; exact keep_set (keep_set (keep_set (keep_set (keep_set (keep_set (keep_set (fun _ _ => rfl) _ _) _ _) _ _) _ _) _ _) _ _) _ _
  have hs : w3.heap.size = wp.heap.size := by rw [← hw3]; simp [World.setCell]
  exact ClI.start0 hz0 hcb hB h1 h2 l1 l2 n1 n2 n3 f1 f2 r1 r2 hp (fun i _ hi => hk i hi) (by omega) (by omega) ⟨by rw [← hw3]; simp [go_sem, u0], by rw [← hw3]; simp [go_sem, u1], by rw [← hw3]; simp [go_sem, u2], by rw [← hw3]; simp [go_sem, u3], by rw [← hw3]; simp [go_sem, u4], by rw [← hw3]; simp [go_sem, u5], by rw [← hw3]; simp [go_sem, u6]⟩ hBt
/-- The same, where the new bank is made last of all. -/
theorem ClI.start' {w wp : World} {r : Rg} {np g1 c1 g2 c2 : Nat} {P Q : Nat → Nat} {C D : Nat → Nat → Int} (T : TypeId) (hz0 : Z7 w.heap.size wp) (hcb : w.heap.size < wp.heap.size) (hB : Below w.heap.size w wp) (h1 : w.heap.size < g1) (h2 : w.heap.size < g2) (l1 : g1 < wp.heap.size) (l2 : g2 < wp.heap.size)
    (n3 : g1 ≠ g2) (f1 : ∀ k, wp.frozen? ⟨g1, k, none⟩ = false) (f2 : ∀ k, wp.frozen? ⟨g2, k, none⟩ = false) (r1 : ∀ j, j < np → wp.cell? ⟨g1, j, none⟩ = some (.pointer (some ⟨P j, 0, none⟩))) (r2 : ∀ j, j < np → wp.cell? ⟨g2, j, none⟩ = some (.pointer (some ⟨Q j, 0, none⟩)))
    (hp : ∀ j, j < np → Pg w (P j) (C j) ∧ Pg w (Q j) (D j)) :
    ClI w wp.heap.size r np g1 c1 g2 c2 P Q C D 0 (wp.alloc (.cells #[.string ⟨r.nm.toArray⟩, .int .i64 r.fr, .int .i64 r.sz, .bool r.wr, .bool r.ex, .slice (some ⟨g1, 0, none⟩) np c1, .slice (some ⟨g2, 0, none⟩) np c2] T)) :=
  ClI.start0 hz0 hcb hB h1 h2 l1 l2 (by omega) (by omega) n3 f1 f2 r1 r2 hp (fun i hl _ => Below.heap_alloc _ _ _ hl) (by simp) (by simp) (by refine ⟨?_, ?_, ?_, ?_, ?_, ?_, ?_⟩ <;> simp [go_sem]) (hB.alloc hB.size _)
end Go.Proofs.Ytbfimedgichiiaa
