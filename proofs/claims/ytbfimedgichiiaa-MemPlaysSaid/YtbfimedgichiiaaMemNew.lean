/-
  The contract of newBank, in the code.
-/
import Derived.Test.YtbfimedgichiiaaMemRep2
namespace Go.Proofs.Ytbfimedgichiiaa
set_option linter.unusedVariables false
set_option linter.unusedSimpArgs false
set_option maxRecDepth 100000
open Go.ChangeShapes Go.WideShapes Go.ChangeAt Go.RowKit

/-- How many pages a range has. -/
def pgs (r : Rg) : Nat := ((r.sz + 4095) / 4096).toNat
/-- The rows of a bank, of its own, behind H; their pages. -/
def BkAt (w : World) (H np gn gt : Nat) (P Q : Nat → Nat) (C D : Nat → Nat → Int) : Prop :=
  (H ≤ gn ∧ gn < w.heap.size) ∧ (H ≤ gt ∧ gt < w.heap.size) ∧ gn ≠ gt ∧ (∀ k, w.frozen? ⟨gn, k, none⟩ = false ∧ w.frozen? ⟨gt, k, none⟩ = false) ∧
  ∀ j, j < np → w.cell? ⟨gn, j, none⟩ = some (.pointer (some ⟨P j, 0, none⟩)) ∧ w.cell? ⟨gt, j, none⟩ = some (.pointer (some ⟨Q j, 0, none⟩)) ∧ Pg w (P j) (C j) ∧ Pg w (Q j) (D j)
theorem Pg.lt {w : World} {g : Nat} {c : Nat → Int} (h : Pg w g c) : g < w.heap.size := by
  obtain ⟨cs, T, hh, _⟩ := h
  exact (Array.getElem?_eq_some_iff.1 hh).1
theorem BkAt.next {w w' : World} {H np gn gt : Nat} {P Q : Nat → Nat} {C D : Nat → Nat → Int} (h : BkAt w H np gn gt P Q C D) (hb : Below w.heap.size w w') : BkAt w' H np gn gt P Q C D := by
  obtain ⟨h1, h2, h3, h4, h5⟩ := h
  have hs := hb.size
  refine ⟨⟨h1.1, by omega⟩, ⟨h2.1, by omega⟩, h3, fun k => ⟨(hb.frozen (p := ⟨gn, k, none⟩) h1.2).trans (h4 k).1, (hb.frozen (p := ⟨gt, k, none⟩) h2.2).trans (h4 k).2⟩, fun j hj => ?_⟩
  obtain ⟨k1, k2, k3, k4⟩ := h5 j hj
  exact ⟨(hb.cell (cell_lt k1)).trans k1, (hb.cell (cell_lt k2)).trans k2, k3.next hb k3.lt, k4.next hb k4.lt⟩
theorem BkAt.keep {w w' : World} {H np gn gt b : Nat} {P Q : Nat → Nat} {C D : Nat → Nat → Int} (h : BkAt w H np gn gt P Q C D) (hk : ∀ i, i ≠ b → w'.heap[i]? = w.heap[i]?) (hs : w.heap.size ≤ w'.heap.size) (h1 : gn ≠ b) (h2 : gt ≠ b) (h3 : ∀ j, j < np → P j ≠ b ∧ Q j ≠ b) : BkAt w' H np gn gt P Q C D := by
  obtain ⟨a1, a2, a3, a4, a5⟩ := h
  refine ⟨⟨a1.1, by omega⟩, ⟨a2.1, by omega⟩, a3, fun k => ⟨(World.frozen?_of_block (a := ⟨gn, k, none⟩) (hk gn h1)).trans (a4 k).1, (World.frozen?_of_block (a := ⟨gt, k, none⟩) (hk gt h2)).trans (a4 k).2⟩, fun j hj => ?_⟩
  obtain ⟨k1, k2, k3, k4⟩ := a5 j hj
  exact ⟨(World.cell?_of_block (a := ⟨gn, j, none⟩) (hk gn h1)).trans k1, (World.cell?_of_block (a := ⟨gt, j, none⟩) (hk gt h2)).trans k2, k3.of_block (hk _ (h3 j hj).1), k4.of_block (hk _ (h3 j hj).2)⟩
theorem keep_set {w w0 : World} {b : Nat} (h : ∀ i, i ≠ b → w.heap[i]? = w0.heap[i]?) (k : Nat) (v : Value) : ∀ i, i ≠ b → (w.setCell ⟨b, k, none⟩ v).heap[i]? = w0.heap[i]? := fun i hi =>
  (Below.heap_setCell w ⟨b, k, none⟩ v i (fun e => hi e)).trans (h i hi)
/-- A row of pages that was made. -/
theorem row_own {w : World} {base n : Nat} {v : Value} {P : Nat → Nat} (h : w.ownsRow base 95 1 v n (prow P n)) (hv : v ≠ .slice none 0 0) :
    ∃ g cap, v = .slice (some ⟨g, 0, none⟩) n cap ∧ base ≤ g ∧ g < w.heap.size ∧ (∀ k, w.frozen? ⟨g, k, none⟩ = false) ∧ ∀ j, j < n → w.cell? ⟨g, j, none⟩ = some (.pointer (some ⟨P j, 0, none⟩)) := by
  have h0 := h
  rcases h.2 with ⟨h1, _⟩ | ⟨g, cap, cur, rfl, hg, hh, _⟩
  · exact absurd h1 hv
  · refine ⟨g, cap, rfl, hg, (Array.getElem?_eq_some_iff.1 hh).1, fun k => h0.frozenAt k, fun j hj => ?_⟩
    rw [h0.cellAt j (by omega), prow_at P n j hj]
theorem cells_rep {w : World} {g n : Nat} {v : Value} {T : TypeId} (h : w.heap[g]? = some (.cells (List.replicate n v).toArray T (0, 0))) : (∀ k, w.frozen? ⟨g, k, none⟩ = false) ∧ ∀ j, j < n → w.cell? ⟨g, j, none⟩ = some v := by
  refine ⟨fun k => ?_, fun j hj => ?_⟩
  · unfold World.frozen?
    simp [h]
  · unfold World.cell?
    simp [h, hj]
/-- The frame of newBank: the range at H, room for a bank behind it. -/
def NbK (H : Nat) (r : Rg) (w : World) : Prop :=
  (w.cell? ⟨H, 0, none⟩ = some (.string ⟨r.nm.toArray⟩) ∧ w.cell? ⟨H, 1, none⟩ = some (.int .i64 r.fr) ∧ w.cell? ⟨H, 2, none⟩ = some (.int .i64 r.sz) ∧ w.cell? ⟨H, 3, none⟩ = some (.bool r.wr) ∧ w.cell? ⟨H, 4, none⟩ = some (.bool r.ex)) ∧
  (w.cell? ⟨H + 1, 0, none⟩ = some (.string ⟨#[]⟩) ∧ w.cell? ⟨H + 1, 1, none⟩ = some (.int .i64 0) ∧ w.cell? ⟨H + 1, 2, none⟩ = some (.int .i64 0) ∧ w.cell? ⟨H + 1, 3, none⟩ = some (.bool false) ∧ w.cell? ⟨H + 1, 4, none⟩ = some (.bool false) ∧ w.cell? ⟨H + 1, 5, none⟩ = some (.slice none 0 0) ∧ w.cell? ⟨H + 1, 6, none⟩ = some (.slice none 0 0)) ∧
  (w.frozen? ⟨H + 1, 0, none⟩ = false ∧ w.frozen? ⟨H + 1, 1, none⟩ = false ∧ w.frozen? ⟨H + 1, 2, none⟩ = false ∧ w.frozen? ⟨H + 1, 3, none⟩ = false ∧ w.frozen? ⟨H + 1, 4, none⟩ = false ∧ w.frozen? ⟨H + 1, 5, none⟩ = false ∧ w.frozen? ⟨H + 1, 6, none⟩ = false)
theorem NbK.next {H : Nat} {r : Rg} {w w' : World} (h : NbK H r w) (hb : Below w.heap.size w w') : NbK H r w' := by
  obtain ⟨⟨a0, a1, a2, a3, a4⟩, ⟨b0, b1, b2, b3, b4, b5, b6⟩, ⟨f0, f1, f2, f3, f4, f5, f6⟩⟩ := h
  have hl : H + 1 < w.heap.size := cell_lt b0
  have c := fun k => hb.cell (p := ⟨H + 1, k, none⟩) hl
  have f := fun k => hb.frozen (p := ⟨H + 1, k, none⟩) hl
  have d := fun k => hb.cell (p := ⟨H, k, none⟩) (show H < w.heap.size by omega)
  exact ⟨⟨(d _).trans a0, (d _).trans a1, (d _).trans a2, (d _).trans a3, (d _).trans a4⟩, ⟨(c _).trans b0, (c _).trans b1, (c _).trans b2, (c _).trans b3, (c _).trans b4, (c _).trans b5, (c _).trans b6⟩, ⟨(f _).trans f0, (f _).trans f1, (f _).trans f2, (f _).trans f3, (f _).trans f4, (f _).trans f5, (f _).trans f6⟩⟩
theorem nbK_new (r : Rg) (w : World) (T T' : TypeId) : NbK w.heap.size r ((w.alloc (.cells #[.string ⟨r.nm.toArray⟩, .int .i64 r.fr, .int .i64 r.sz, .bool r.wr, .bool r.ex] T)).alloc (.cells #[.string ⟨#[]⟩, .int .i64 0, .int .i64 0, .bool false, .bool false, .slice none 0 0, .slice none 0 0] T')) := by
  refine ⟨⟨?_, ?_, ?_, ?_, ?_⟩, ⟨?_, ?_, ?_, ?_, ?_, ?_, ?_⟩, ⟨?_, ?_, ?_, ?_, ?_, ?_, ?_⟩⟩ <;> simp [go_sem]
/-- What newBank answers. -/
def NewIs (w w' : World) (r : Rg) (e : Ending) : Prop :=
  ∃ gn gt cn ct p, e = .returned (.agg #[.string ⟨r.nm.toArray⟩, .int .i64 r.fr, .int .i64 r.sz, .bool r.wr, .bool r.ex, .slice (some ⟨gn, 0, none⟩) (pgs r) cn, .slice (some ⟨gt, 0, none⟩) (pgs r) ct]) ∧
    BkAt w' w.heap.size (pgs r) gn gt (fun _ => p) (fun _ => p) (fun _ _ => 0) (fun _ _ => 0) ∧ p ≠ gn ∧ p ≠ gt ∧ w.heap.size ≤ p ∧ p < w'.heap.size ∧ Below w.heap.size w w'
set_option maxHeartbeats 2000000 in
theorem c_newBank (r : Rg) (w : World) (hr : rgB r = true) :
    Calls Try.prog 28 #[.agg #[.string ⟨r.nm.toArray⟩, .int .i64 r.fr, .int .i64 r.sz, .bool r.wr, .bool r.ex]] w fun e w' => NewIs w w' r e := by
  have hbd := rg_bd hr
  have hnp : pgs r ≤ 4096 := by unfold pgs; omega
  have HE : Hid ((r.sz + 4096 - 1) / 4096 = ((pgs r : Nat) : Int)) := by show _ = _; unfold pgs; omega
  obtain ⟨b1, b2, b3, b4, b5⟩ := hbd
  clear hr
  go_enter Try.func28, Try.ntmps28
  go_wp2_with fail
  rw [HE.out]
  refine (c_RepeatAll _ (pgs r) (.pointer (some ⟨w.heap.size + 1 + 1, 0, none⟩)) _ rfl hnp (by simp [go_sem])).mono ?_
  rintro e w1 ⟨rfl, hrow, hb1⟩
  have hK1 : NbK w.heap.size r w1 := (((nbK_new r w _ _).next (below_new _ _)).next (below_new _ _)).next hb1
  have hB1 : Below w.heap.size w w1 := ((((below_new w _).alloc (by simp) _).alloc (by simp; omega) _).alloc (by simp; omega) _).trans (hb1.mono (by simp; omega))
  have hs1 : w.heap.size + 1 + 1 + 1 + 1 ≤ w1.heap.size := by have := hb1.size; simpa using this
  have hp1 : Pg w1 (w.heap.size + 1 + 1) (fun _ => 0) := by
    refine Pg.next (w := ((w.alloc _).alloc _).alloc _) ⟨_, 97, ?_, zpage_pg⟩ ((below_new _ _).trans (hb1.mono (by simp))) (by simp)
    have := heap_alloc_new ((w.alloc (Obj.cells #[Value.string { data := r.nm.toArray }, Value.int IntKind.i64 r.fr, Value.int IntKind.i64 r.sz, Value.bool r.wr, Value.bool r.ex] 34)).alloc (Obj.cells #[Value.string { data := #[] }, Value.int IntKind.i64 0, Value.int IntKind.i64 0, Value.bool false, Value.bool false, Value.slice none 0 0, Value.slice none 0 0] 69)) (.cells Try.zeroCells97 97)
    simpa using this
  have hrow' : w1.heap[w.heap.size + 1 + 1 + 1 + 1]? = some (.cells (List.replicate (pgs r) (.pointer (some ⟨w.heap.size + 1 + 1, 0, none⟩))).toArray 95 (0, 0)) := by simpa using hrow
  have hg1 : w.heap.size + 1 + 1 + 1 + 1 < w1.heap.size := (Array.getElem?_eq_some_iff.1 hrow').1
  obtain ⟨hfz, hcell⟩ := cells_rep hrow'
  have HFZ := Lib.hid hfz
  have HCE := Lib.hid hcell
  have HP1 := Lib.hid hp1
  have HB1 := Lib.hid hB1
  have HK1 := Lib.hid hK1
  have HG1 := Lib.hid hg1
  obtain ⟨⟨x0, x1, x2, x3, x4⟩, ⟨y0, y1, y2, y3, y4, y5, y6⟩, ⟨f0, f1, f2, f3, f4, f5, f6⟩⟩ := hK1
  clear hrow hrow' hfz hcell hp1 hB1 hs1 hb1 hg1
  go_wp2_with fail
  (go_region_with (go_at_call 58; refine (c_ClonePages (w.heap.size + 1 + 1 + 1 + 1) (pgs r) (pgs r) (fun _ => w.heap.size + 1 + 1) _ hnp (by exact HCE.out)).mono ?_; rintro e w2 ⟨v, rfl, hown, hnn, hb2⟩; obtain ⟨gt, ct, rfl, hgt, hgl, hfr, hce⟩ := row_own hown hnn; obtain ⟨⟨z0, z1, z2, z3, z4⟩, ⟨u0, u1, u2, u3, u4, u5, u6⟩, ⟨g0, g1, g2, g3, g4, g5, g6⟩⟩ := NbK.next (H := w.heap.size) (r := r) (by exact HK1.out) hb2; have HT := Lib.hid (And.intro hgt (And.intro hgl (And.intro hce hfr))); have HB2 := Lib.hid hb2; clear hown hnn hb2 hgt hgl hfr hce))
  all_goals
    have hT := HT.out
    have HB2 : Hid (Below w1.heap.size w1 w2) := (Below.refl w1.heap.size w1).drew.trans HB2.out
    have hBk : BkAt w2 w.heap.size (pgs r) (w.heap.size + 1 + 1 + 1 + 1) gt (fun _ => w.heap.size + 1 + 1) (fun _ => w.heap.size + 1 + 1) (fun _ _ => 0) (fun _ _ => 0) := by
      have hb2 := HB2.out
      have hg1 : w.heap.size + 1 + 1 + 1 + 1 < w1.heap.size := HG1.out
      have hsz : w1.heap.size ≤ w2.heap.size := hb2.size
      have hge : w1.heap.size ≤ gt := hT.1
      have hp2 : Pg w2 (w.heap.size + 1 + 1) (fun _ => 0) := HP1.out.next hb2 (by show _ < w1.heap.size; omega)
      exact ⟨⟨by omega, by omega⟩, ⟨by omega, hT.2.1⟩, by omega, fun k => ⟨(hb2.frozen (p := ⟨_, k, none⟩) hg1).trans (HFZ.out k), hT.2.2.2 k⟩, fun j hj => ⟨(hb2.cell (p := ⟨_, j, none⟩) hg1).trans (HCE.out j hj), hT.2.2.1 j hj, hp2, hp2⟩⟩
    have HBk := Lib.hid hBk
    have hge : w.heap.size + 1 + 1 + 1 + 1 < gt := by have h1 := HG1.out; have h2 : w1.heap.size ≤ gt := hT.1; omega
    have HGE := Lib.hid hge
    have HB3 : Hid (Below w.heap.size w w2) := HB1.out.trans (HB2.out.mono (Nat.le_of_lt (Nat.lt_of_le_of_lt (by omega) HG1.out)))
    clear hT hBk hge HT HB2
    generalize hw3 : World.setCell _ ⟨w.heap.size + 1, 6, none⟩ _ = w3
    have q0 : w3.cell? ⟨w.heap.size + 1, 0, none⟩ = some (.string ⟨r.nm.toArray⟩) := by rw [← hw3]; simp [go_sem, u0]
    have q1 : w3.cell? ⟨w.heap.size + 1, 1, none⟩ = some (.int .i64 r.fr) := by rw [← hw3]; simp [go_sem, u1]
    have q2 : w3.cell? ⟨w.heap.size + 1, 2, none⟩ = some (.int .i64 r.sz) := by rw [← hw3]; simp [go_sem, u2]
    have q3 : w3.cell? ⟨w.heap.size + 1, 3, none⟩ = some (.bool r.wr) := by rw [← hw3]; simp [go_sem, u3]
    have q4 : w3.cell? ⟨w.heap.size + 1, 4, none⟩ = some (.bool r.ex) := by rw [← hw3]; simp [go_sem, u4]
    have q5 : w3.cell? ⟨w.heap.size + 1, 5, none⟩ = some (.slice (some ⟨w.heap.size + 1 + 1 + 1 + 1, 0, none⟩) (pgs r) (pgs r)) := by rw [← hw3]; simp [go_sem, u5]
    have q6 : w3.cell? ⟨w.heap.size + 1, 6, none⟩ = some (.slice (some ⟨gt, 0, none⟩) (pgs r) ct) := by rw [← hw3]; simp [go_sem, u6]
    have HBk3 : Hid (BkAt w3 w.heap.size (pgs r) (w.heap.size + 1 + 1 + 1 + 1) gt (fun _ => w.heap.size + 1 + 1) (fun _ => w.heap.size + 1 + 1) (fun _ _ => 0) (fun _ _ => 0)) := by
      have hge := HGE.out
      have := HBk.out.keep (w' := w3) (b := w.heap.size + 1) (by rw [← hw3]; exact keep_set (keep_set (keep_set (keep_set (keep_set (keep_set (keep_set (fun _ _ => rfl) _ _) _ _) _ _) _ _) _ _) _ _) _ _) (by rw [← hw3]; simp [World.setCell]) (by omega) (by omega) (fun j hj => ⟨by omega, by omega⟩)
      exact this
    have HB4 : Hid (Below w.heap.size w w3) := by
      have := ((((((HB3.out.setCell (p := ⟨w.heap.size + 1, 0, none⟩) (by simp) (.string ⟨r.nm.toArray⟩)).setCell (p := ⟨w.heap.size + 1, 1, none⟩) (by simp) (.int .i64 r.fr)).setCell (p := ⟨w.heap.size + 1, 2, none⟩) (by simp) (.int .i64 r.sz)).setCell (p := ⟨w.heap.size + 1, 3, none⟩) (by simp) (.bool r.wr)).setCell (p := ⟨w.heap.size + 1, 4, none⟩) (by simp) (.bool r.ex)).setCell (p := ⟨w.heap.size + 1, 5, none⟩) (by simp) (.slice (some ⟨w.heap.size + 1 + 1 + 1 + 1, 0, none⟩) (pgs r) (pgs r))).setCell (p := ⟨w.heap.size + 1, 6, none⟩) (by simp) (.slice (some ⟨gt, 0, none⟩) (pgs r) ct)
      rw [hw3] at this
      exact this
    clear hw3 x0 x1 x2 x3 x4 y0 y1 y2 y3 y4 y5 y6 f0 f1 f2 f3 f4 f5 f6 z0 z1 z2 z3 z4 u0 u1 u2 u3 u4 u5 u6 g0 g1 g2 g3 g4 g5 g6 HFZ HCE HP1 HB1 HK1 HG1 HBk HB3
    go_wp2_with fail
    refine bodyPost_ret (v := .agg #[.string ⟨r.nm.toArray⟩, .int .i64 r.fr, .int .i64 r.sz, .bool r.wr, .bool r.ex, .slice (some ⟨w.heap.size + 1 + 1 + 1 + 1, 0, none⟩) (pgs r) (pgs r), .slice (some ⟨gt, 0, none⟩) (pgs r) ct]) (by simp [results, Try.results28, go_sem, q0, q1, q2, q3, q4, q5, q6]) rfl ?_
    refine ⟨w.heap.size + 1 + 1 + 1 + 1, gt, pgs r, ct, w.heap.size + 1 + 1, rfl, HBk3.out, by omega, by have := HGE.out; omega, by omega, ?_, HB4.out⟩
    have := HBk3.out.1.2
    omega
end Go.Proofs.Ytbfimedgichiiaa
