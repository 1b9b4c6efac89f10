/-
  The contract of clone of a bank, in the code.
-/
import Derived.Test.YtbfimedgichiiaaMemClone1
namespace Go.Proofs.Ytbfimedgichiiaa
set_option linter.unusedVariables false
set_option linter.unusedSimpArgs false
set_option maxRecDepth 100000
open Go.ChangeShapes Go.WideShapes Go.ChangeAt Go.RowKit
attribute [local go_sem ↓] Go.wp_at_zero Go.wp_at_succ

/-- What clone of a bank answers. -/
def CloneIs (w w' : World) (r : Rg) (np : Nat) (P Q : Nat → Nat) (C D : Nat → Nat → Int) (e : Ending) : Prop :=
  ∃ g1 g2 c1 c2 F, e = .returned (.agg #[.string ⟨r.nm.toArray⟩, .int .i64 r.fr, .int .i64 r.sz, .bool r.wr, .bool r.ex, .slice (some ⟨g1, 0, none⟩) np c1, .slice (some ⟨g2, 0, none⟩) np c2]) ∧ BkAt w' w.heap.size np g1 g2 F Q C D ∧
    (∀ j, j < np → (F j = P j ∧ P j = Q j ∧ P j < w.heap.size) ∨ (P j ≠ Q j ∧ w.heap.size ≤ F j ∧ F j ≠ g1 ∧ F j ≠ g2)) ∧ (∀ j, j < np → Q j < w.heap.size) ∧ (∀ j j', j < np → j' < np → F j = F j' → w.heap.size ≤ F j → j = j') ∧ Below w.heap.size w w'
theorem lt_of_al1 {w : World} {o : Obj} {g : Nat} (h : (w.alloc o).heap.size ≤ g) : w.heap.size < g := by
  have e : (w.alloc o).heap.size = w.heap.size + 1 := by simp
  omega
theorem lt_of_al {w : World} {o : Obj} {g : Nat} (h : (w.alloc o).drew.heap.size ≤ g) : w.heap.size < g := lt_of_al1 h
theorem lt_of_al2 {w : World} {o o' : Obj} {g : Nat} (h : ((w.alloc o).alloc o').drew.heap.size ≤ g) : w.heap.size + 1 < g := by
  have h1 := lt_of_al1 (w := w.alloc o) h
  have e : (w.alloc o).heap.size = w.heap.size + 1 := by simp
  omega
theorem ClI.below {w : World} {cb : Nat} {r : Rg} {np g1 c1 g2 c2 : Nat} {P Q : Nat → Nat} {C D : Nat → Nat → Int} {k : Nat} {wr : World} (h : ClI w cb r np g1 c1 g2 c2 P Q C D k wr) : Below w.heap.size w wr := by
  obtain ⟨F, _, _, _, _, _, _, _, h4⟩ := h
  exact h4
theorem ClI.done {w wr w5 : World} {cb : Nat} {r : Rg} {np g1 c1 g2 c2 : Nat} {P Q : Nat → Nat} {C D : Nat → Nat → Int} (h : ClI w cb r np g1 c1 g2 c2 P Q C D np wr) (hk : ∀ i, i ≠ w.heap.size → w5.heap[i]? = wr.heap[i]?) (hs : w5.heap.size = wr.heap.size) (hb : Below w.heap.size w w5) :
    CloneIs w w5 r np P Q C D (.returned (.agg #[.string ⟨r.nm.toArray⟩, .int .i64 r.fr, .int .i64 r.sz, .bool r.wr, .bool r.ex, .slice (some ⟨g1, 0, none⟩) np c1, .slice (some ⟨g2, 0, none⟩) np c2])) := by
  obtain ⟨F, ⟨a1, a2, a3, a4, a5, a6⟩, b, hz, hB, h1, h2, h3, h4⟩ := h
  refine ⟨g1, g2, c1, c2, F, rfl, hB.keep (b := w.heap.size) hk (by omega) (by omega) (by omega) (fun j hj => ⟨?_, by have := h2 j hj; omega⟩), fun j hj => ?_, h2, h3, hb⟩
  · rcases h1 j hj with ⟨x1, x2, x3⟩ | ⟨x1, x2, x3, _⟩ <;> omega
  · rcases h1 j hj with ⟨x1, x2, x3⟩ | ⟨x1, x2, x3, x4, x5, x6⟩
    · exact .inl ⟨x1, x2.resolve_right (by omega), x3⟩
    · exact .inr ⟨x2, by omega, x5, x6⟩
theorem pg_drewN {w : World} {p : Nat} {c : Nat → Int} (h : Pg w p c) : ∃ cs T, PgC cs c ∧ ∀ n, (w.drewN n).heap[p]? = some (.cells cs T (0, 0)) := by
  obtain ⟨cs, T, h1, h2⟩ := h
  exact ⟨cs, T, h2, fun n => by rw [drewN_heap]; exact h1⟩
set_option maxHeartbeats 8000000 in
theorem c_bclone (G gb o gn gt np cn ct : Nat) (r : Rg) (P Q : Nat → Nat) (C D : Nat → Nat → Int) (w : World) (hR : RdH w G gb o gn np cn r P C) (hT : ThH w G gb o gt np ct Q D) (hG : G ≤ w.heap.size) :
    Calls Try.prog 29 #[.pointer (some ⟨gb, o, none⟩)] w fun e w' => CloneIs w w' r np P Q C D e := by
  have ⟨⟨y0, y1, y2, y3, y4⟩, y5, hgb, hgn, hnp, hsz, hrow⟩ := hR
  have ⟨y6, hgt, hrowt⟩ := hT
  have HSx : Hid (∀ wx, Below w.heap.size w wx → B7 gb o r np gn cn gt ct wx) := fun wx hb => B7.next ⟨y0, y1, y2, y3, y4, y5, y6⟩ hb
  have HPx : Hid (∀ wx, Below w.heap.size w wx → ∀ j, j < np → wx.cell? ⟨gn, j, none⟩ = some (.pointer (some ⟨P j, 0, none⟩))) := fun wx hb j hj => (hb.cell (cell_lt (hrow j hj).1)).trans (hrow j hj).1
  have HQx : Hid (∀ wx, Below w.heap.size w wx → ∀ j, j < np → wx.cell? ⟨gt, j, none⟩ = some (.pointer (some ⟨Q j, 0, none⟩))) := fun wx hb j hj => (hb.cell (cell_lt (hrowt j hj).1)).trans (hrowt j hj).1
  have HPg : Hid (∀ j, j < np → Pg w (P j) (C j) ∧ Pg w (Q j) (D j)) := fun j hj => ⟨(hrow j hj).2.1, (hrowt j hj).2.1⟩
  have hgbs : gb < w.heap.size := by omega
  have hgns : gn < w.heap.size := by omega
  have hgts : gt < w.heap.size := by omega
  clear hR hT
  have hne0 : w.heap.size ≠ gb := by omega
  clear hrow hrowt hsz y0 y1 y2 y3 y4 y5 y6
  go_enter Try.func29, Try.ntmps29
  go_wp2_with fail
  have hS1 := HSx.out _ (below_new w (Obj.cells #[Value.string { data := #[] }, Value.int IntKind.i64 0, Value.int IntKind.i64 0, Value.bool false, Value.bool false, Value.slice none 0 0, Value.slice none 0 0] 69))
  go_region_held3 (fun w' => w'.cell? ⟨gb, o, none⟩ = some (.string ⟨r.nm.toArray⟩) ∧ w'.cell? ⟨gb, o + 1, none⟩ = some (.int .i64 r.fr) ∧ w'.cell? ⟨gb, o + 2, none⟩ = some (.int .i64 r.sz) ∧ w'.cell? ⟨gb, o + 3, none⟩ = some (.bool r.wr) ∧ w'.cell? ⟨gb, o + 4, none⟩ = some (.bool r.ex) ∧ w'.cell? ⟨gb, o + 5, none⟩ = some (.slice (some ⟨gn, 0, none⟩) np cn) ∧ w'.cell? ⟨gb, o + 6, none⟩ = some (.slice (some ⟨gt, 0, none⟩) np ct))
    (first
      | with_reducible exact hS1
      | with_reducible exact HSx.out _ HB3.out
      | with_reducible exact HSx.out _ (HB3.out.alloc HB3.out.size _)
      | with_reducible exact HSx.out _ HB2.out
      | with_reducible exact HSx.out _ (HB2.out.alloc HB2.out.size _)
      | with_reducible exact HSx.out _ (below_new w _).drew
      | with_reducible exact HSx.out _ ((below_new w _).alloc (below_new w _).size _).drew
      | with_reducible exact HSx.out _ ((below_new w _).drew.alloc (below_new w _).size _)
      | (with_reducible refine B7.st ?_ ?_ _ _ _ _ _ _ _
         · first
            | with_reducible exact HSx.out _ HB3.out
            | with_reducible exact HSx.out _ (HB3.out.alloc HB3.out.size _)
         · omega))
    (first
      | (fail_if_success (have hq := hb2)
         go_at_call 58
         refine Calls.mono (c_ClonePages gn np cn P _ hnp ?hcP) ?_
         case hcP => first | exact HPx.out _ (below_new w _).drew | exact HPx.out _ ((below_new w _).alloc (below_new w _).size _).drew
         rintro e w2 ⟨v2, rfl, hown2, hnn2, hb2⟩
         obtain ⟨g1, c1, rfl, hg1, hl1, hf1, hr1⟩ := row_own hown2 hnn2
         have HB2 : Hid (Below w.heap.size w w2) := by first | (exact bel2 (below_new w _).drew hb2) | (exact bel2 ((below_new w _).alloc (below_new w _).size _).drew hb2)
         have hs2 : w.heap.size ≤ w2.heap.size := HB2.out.size
         first | (have hz2 := (z7_new2 w _ _).next ((Below.refl _ _).drew.trans hb2)) | skip
         have HZ2 : Hid (Z7 w.heap.size w2) := by first | exact (z7_new w _).next (bel2 (Below.refl _ _).drew hb2) | exact (z7_new w _).next (bel2 (below_new (w.alloc _) _).drew hb2)
         have HR2 : Hid ((w.heap.size < g1 ∧ g1 < w2.heap.size) ∧ (∀ k, w2.frozen? ⟨g1, k, none⟩ = false) ∧ (∀ j, j < np → w2.cell? ⟨g1, j, none⟩ = some (.pointer (some ⟨P j, 0, none⟩)))) := ⟨⟨by first | exact lt_of_al hg1 | exact Nat.lt_of_succ_lt (lt_of_al2 hg1), hl1⟩, hf1, hr1⟩
         have HG1 : Hid (w2.heap.size = w2.heap.size ∨ True) := .inr trivial
         clear hown2 hnn2 hl1 hf1 hr1)
      | (fail_if_success (have hq := hb3)
         go_at_call 58
         refine Calls.mono (c_ClonePages gt np ct Q _ hnp ?hcQ) ?_
         case hcQ => first | exact HQx.out _ HB2.out | exact HQx.out _ (HB2.out.alloc HB2.out.size _)
         rintro e w3 ⟨v3, rfl, hown3, hnn3, hb3⟩
         obtain ⟨g2, c2, rfl, hg2, hl2, hf2, hr2⟩ := row_own hown3 hnn3
         have HB3 : Hid (Below w.heap.size w w3) := by first | (exact bel2 HB2.out hb3) | (exact bel2 (HB2.out.alloc HB2.out.size _) hb3)
         have hs3 : w.heap.size ≤ w3.heap.size := HB3.out.size
         have HB23 : Hid (Below w2.heap.size w2 w3) := by first | exact hb3 | exact bel2 (below_new w2 _) hb3
         have HZ3 : Hid (Z7 w.heap.size w3) := HZ2.out.next HB23.out
         have HR1 : Hid ((w.heap.size < g1 ∧ g1 < w3.heap.size) ∧ (∀ k, w3.frozen? ⟨g1, k, none⟩ = false) ∧ (∀ j, j < np → w3.cell? ⟨g1, j, none⟩ = some (.pointer (some ⟨P j, 0, none⟩)))) := ⟨⟨HR2.out.1.1, Nat.lt_of_lt_of_le HR2.out.1.2 HB23.out.size⟩, fun k => (HB23.out.frozen (p := ⟨g1, k, none⟩) HR2.out.1.2).trans (HR2.out.2.1 k), fun j hj => (HB23.out.cell (p := ⟨g1, j, none⟩) HR2.out.1.2).trans (HR2.out.2.2 j hj)⟩
         have HR3 : Hid ((w2.heap.size ≤ g2 ∧ g2 < w3.heap.size) ∧ (∀ k, w3.frozen? ⟨g2, k, none⟩ = false) ∧ (∀ j, j < np → w3.cell? ⟨g2, j, none⟩ = some (.pointer (some ⟨Q j, 0, none⟩)))) := ⟨⟨by first | exact hg2 | exact Nat.le_of_lt (lt_of_al1 hg2), hl2⟩, hf2, hr2⟩
         have HG2 : Hid (w2.heap.size < w3.heap.size) := Nat.lt_of_le_of_lt HR3.out.1.1 HR3.out.1.2
         clear hown3 hnn3 hl2 hf2 hr2
         first
           | (have hz3 := hz2.next hb3
              have HK := Lib.hid hz3
              have HK1 : Hid (w.heap.size + 1 < g1) := by exact lt_of_al2 hg1
              obtain ⟨⟨z0, z1, z2, z3, z4, z5, z6⟩, ⟨f0, f1, f2, f3, f4, f5, f6⟩⟩ := hz3)
           | (have hz3 := (z7_new w2 _).next hb3
              have HK := Lib.hid hz3
              have HK2 : Hid (w2.heap.size < g2) := by exact lt_of_al1 hg2
              obtain ⟨⟨z0, z1, z2, z3, z4, z5, z6⟩, ⟨f0, f1, f2, f3, f4, f5, f6⟩⟩ := hz3)
           | skip))
  all_goals
    obtain ⟨⟨x1, x2⟩, x3, x4⟩ := HR1.out
    obtain ⟨⟨v1, v2⟩, v3, v4⟩ := HR3.out
    have x5 : g1 < w2.heap.size := HR2.out.1.2
    have x6 := HG2.out
    first
      | (have HI : Hid (ClI w (w.heap.size + 1) r np g1 c1 g2 c2 P Q C D 0 _) := ClI.start HK.out HZ3.out (by omega) HB3.out (by omega) (by omega) x2 v2 (by have := HK1.out; omega) (by have := HK1.out; omega) (by omega) x3 v3 x4 v4 HPg.out
         generalize hW : World.setCell _ ⟨_, 6, none⟩ _ = w4 at HI ⊢
         generalize hcb : w.heap.size + 1 = cb at HI ⊢)
      | (have HI : Hid (ClI w w2.heap.size r np g1 c1 g2 c2 P Q C D 0 _) := ClI.start HK.out HZ3.out (by omega) HB3.out (by omega) (by omega) x2 v2 (by omega) (by have := HK2.out; omega) (by omega) x3 v3 x4 v4 HPg.out
         generalize hW : World.setCell _ ⟨_, 6, none⟩ _ = w4 at HI ⊢
         generalize hcb : w2.heap.size = cb at HI ⊢)
      | (have HI : Hid (ClI w w3.heap.size r np g1 c1 g2 c2 P Q C D 0 _) := ClI.start' 69 HZ3.out (by omega) HB3.out (by omega) (by omega) x2 v2 (by omega) x3 v3 x4 v4 HPg.out
         generalize hW : World.alloc _ _ = w4 at HI ⊢
         generalize hcb : w3.heap.size = cb at HI ⊢)
    obtain ⟨y0, y1, y2, y3, y4, y5, y6⟩ := HSx.out w4 HI.out.below
    try clear z0 z1 z2 z3 z4 z5 z6 f0 f1 f2 f3 f4 f5 f6
    clear hW hcb x1 x2 x3 x4 x5 x6 v1 v2 v3 v4 hs2 hs3 hg1 hg2 hb2 hb3
    go_wp2_with fail
    go_loopw [27] (fun i wr => ∃ k : Nat, k ≤ np ∧ i = .int .i64 k ∧ Hid (ClI w cb r np g1 c1 g2 c2 P Q C D k wr)) (fun i _ => np - (intOf i).toNat)
    case atStart => first | exact ⟨0, Nat.zero_le _, rfl, HI⟩
    case round =>
      obtain ⟨k, hk, rfl, HIr⟩ := hrel
      have hbr := HIr.out.below
      obtain ⟨q0, q1, q2, q3, q4, q5, q6⟩ := HSx.out wr hbr
      have HIc := HIr
      obtain ⟨F, ⟨a1, a2, a3, a4, a5, a6⟩, ⟨b0, b1, b2, b3, b4, b5, b6⟩, hz, hBk, _⟩ := HIc.out
      have hnpz : np ≤ 4096 := hnp
      by_cases hlt : k < np
      · have hpn := HPx.out wr hbr k hlt
        have hqn := HQx.out wr hbr k hlt
        have hc1 := (hBk.2.2.2.2 k hlt).1
        have hfz := (hBk.2.2.2.1 k).1
        by_cases he : P k = Q k
        · rw [← he] at hqn
          have hE := fun w => neq_same ⟨P k, 0, none⟩ w
          have HS : Hid (ClI w cb r np g1 c1 g2 c2 P Q C D (k + 1) wr) := HIr.out.skip he
          clear he hz hBk hbr
          go_wp2_with fail
          go_roundw
          case rel => exact ⟨k + 1, by omega, by go_num, HS⟩
          case measure => simp [intOf]; omega
        · have hpg := HPg.out k hlt
          have hb1 : P k < w.heap.size := hpg.1.lt
          have hE : ∀ n, (binOp .neq 95 (.pointer (some ⟨P k, 0, none⟩)) (.pointer (some ⟨Q k, 0, none⟩))).run Try.prog (wr.drewN n) = .ok (.bool true) (wr.drewN n) := fun n => neq_other he ((hpg.1.next hbr hb1).drewN n) ((hpg.2.next hbr hpg.2.lt).drewN n)
          have hE0 : (binOp .neq 95 (.pointer (some ⟨P k, 0, none⟩)) (.pointer (some ⟨Q k, 0, none⟩))).run Try.prog wr = .ok (.bool true) wr := hE 0
          obtain ⟨cs, T, hcs, hheap⟩ := pg_drewN (hpg.1.next hbr hb1)
          have HH := Lib.hid hheap
          have HSz : Hid ((Try.prog.info? 97).map (·.size) = some cs.size) := by show _ = _; rw [page_size, hcs.1]
          have HZ : Hid (Try.zeroCells97.size = cs.size) := by show _ = _; rw [Try.zeroCells97_size, hcs.1]
          have HO := Lib.hid (PgC.one hcs)
          have HCp : Hid (∀ n, ClI w cb r np g1 c1 g2 c2 P Q C D (k + 1) (((wr.drewN n).alloc (.cells cs 97)).setCell ⟨g1, k, none⟩ (.pointer (some ⟨wr.heap.size, 0, none⟩)))) := fun n => HIr.out.copy hlt he hcs n _
          have hg1s : g1 < wr.heap.size := hBk.1.2
          have k5 : ∀ n o', ((wr.drewN n).alloc o').cell? ⟨cb, 5, none⟩ = some (.slice (some ⟨g1, 0, none⟩) np c1) := fun n o' => (far_cell wr n o' cb 5 a2).trans b5
          have k7 : ∀ n o', ((wr.drewN n).alloc o').cell? ⟨g1, k, none⟩ = some (.pointer (some ⟨F k, 0, none⟩)) := fun n o' => (far_cell wr n o' g1 k hg1s).trans hc1
          have kf : ∀ n o', ((wr.drewN n).alloc o').frozen? ⟨g1, k, none⟩ = false := fun n o' => (far_frozen wr n o' g1 k hg1s).trans hfz
          have l5 : ∀ o', (wr.alloc o').cell? ⟨cb, 5, none⟩ = some (.slice (some ⟨g1, 0, none⟩) np c1) := fun o' => k5 0 o'
          have l7 : ∀ o', (wr.alloc o').cell? ⟨g1, k, none⟩ = some (.pointer (some ⟨F k, 0, none⟩)) := fun o' => k7 0 o'
          have lf : ∀ o', (wr.alloc o').frozen? ⟨g1, k, none⟩ = false := fun o' => kf 0 o'
          clear he hz hBk hbr hpg hheap hcs
          go_wp2_with (first
            | (refine wpList_load_row rfl 97 _ rfl (P k) rfl T cs (0, 0) _ (HH.out 0) Try.underlying97 rfl HSz.out ?_)
            | (refine wpList_store_row rfl 97 _ _ rfl wr.heap.size cs rfl rfl 97 Try.zeroCells97 (heap_alloc_new wr _) HSz.out HZ.out HO.out ?_; rw [setRow_new _ _ _ _ _ rfl]))
          go_roundw
          case rel =>
            have h := HCp.out 0
            rw [show wr.drewN 0 = wr from rfl] at h
            refine ⟨k + 1, by omega, by go_num, ?_⟩
            show ClI _ _ _ _ _ _ _ _ _ _ _ _ _ _
            simpa [go_sem, hg1s] using h
          case measure => simp [intOf]; omega
      · obtain rfl : k = np := by omega
        obtain ⟨⟨z0, z1, z2, z3, z4, z5, z6⟩, ⟨f0, f1, f2, f3, f4, f5, f6⟩⟩ := hz
        have hge : decide (k < k) = false := by simp
        clear hlt hk hBk hbr
        go_wp2_with fail
        have hBs := ((((((HIr.out.below.setCell (p := ⟨w.heap.size, 0, none⟩) (Nat.le_refl _) (.string ⟨r.nm.toArray⟩)).setCell (p := ⟨w.heap.size, 1, none⟩) (Nat.le_refl _) (.int .i64 r.fr)).setCell (p := ⟨w.heap.size, 2, none⟩) (Nat.le_refl _) (.int .i64 r.sz)).setCell (p := ⟨w.heap.size, 3, none⟩) (Nat.le_refl _) (.bool r.wr)).setCell (p := ⟨w.heap.size, 4, none⟩) (Nat.le_refl _) (.bool r.ex)).setCell (p := ⟨w.heap.size, 5, none⟩) (Nat.le_refl _) (.slice (some ⟨g1, 0, none⟩) k c1)).setCell (p := ⟨w.heap.size, 6, none⟩) (Nat.le_refl _) (.slice (some ⟨g2, 0, none⟩) k c2)
        generalize hw5 : World.setCell _ ⟨w.heap.size, 6, none⟩ _ = w5 at hBs ⊢
        have p0 : w5.cell? ⟨w.heap.size, 0, none⟩ = some (.string ⟨r.nm.toArray⟩) := by rw [← hw5]; simp [go_sem, z0]
        have p1 : w5.cell? ⟨w.heap.size, 1, none⟩ = some (.int .i64 r.fr) := by rw [← hw5]; simp [go_sem, z1]
        have p2 : w5.cell? ⟨w.heap.size, 2, none⟩ = some (.int .i64 r.sz) := by rw [← hw5]; simp [go_sem, z2]
        have p3 : w5.cell? ⟨w.heap.size, 3, none⟩ = some (.bool r.wr) := by rw [← hw5]; simp [go_sem, z3]
        have p4 : w5.cell? ⟨w.heap.size, 4, none⟩ = some (.bool r.ex) := by rw [← hw5]; simp [go_sem, z4]
        have p5 : w5.cell? ⟨w.heap.size, 5, none⟩ = some (.slice (some ⟨g1, 0, none⟩) k c1) := by rw [← hw5]; simp [go_sem, z5]
        have p6 : w5.cell? ⟨w.heap.size, 6, none⟩ = some (.slice (some ⟨g2, 0, none⟩) k c2) := by rw [← hw5]; simp [go_sem, z6]
        have HK5 : Hid (∀ i, i ≠ w.heap.size → w5.heap[i]? = wr.heap[i]?) := by show ∀ _, _; rw [← hw5]; exact keep_set (keep_set (keep_set (keep_set (keep_set (keep_set (keep_set (fun _ _ => rfl) _ _) _ _) _ _) _ _) _ _) _ _) _ _
        have HS5 : Hid (w5.heap.size = wr.heap.size) := by show _ = _; rw [← hw5]; simp [World.setCell]
        refine bodyPost_ret (v := .agg #[.string ⟨r.nm.toArray⟩, .int .i64 r.fr, .int .i64 r.sz, .bool r.wr, .bool r.ex, .slice (some ⟨g1, 0, none⟩) k c1, .slice (some ⟨g2, 0, none⟩) k c2]) (by simp [results, Try.results29, go_sem, p0, p1, p2, p3, p4, p5, p6]) rfl ?_
        exact HIr.out.done HK5.out HS5.out hBs
end Go.Proofs.Ytbfimedgichiiaa
