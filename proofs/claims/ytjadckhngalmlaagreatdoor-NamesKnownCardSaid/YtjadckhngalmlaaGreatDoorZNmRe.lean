/-
  Resolve and Uses, in the code, once resolve's contract is there.
-/
import Derived.Test.YtjadckhngalmlaaGreatDoorZNmRnd
import Derived.Test.YtjadckhngalmlaaGreatDoorZNmPv
import Derived.Test.YtjadckhngalmlaaGreatDoorZNmFi
namespace Go.Proofs.YtjadckhngalmlaaGreatDoor
set_option linter.unusedVariables false
set_option linter.unusedSimpArgs false
set_option maxRecDepth 100000
open Go.RowKit

/-- What resolve answers: a is the fault and the resolver. -/
def RvT (a : (Int × Nat) × RsP) (w : World) (e : Ending) (w' : World) : Prop :=
  ((a.1.2 = 0 ∧ ∃ G p L sv uv K, e = .returned (.tuple #[.pointer (some ⟨G.R, 0, none⟩), faV 0 0]) ∧ RsM G a.2 p L sv uv K w' ∧ w.heap.size ≤ G.base) ∨ (a.1.2 ≠ 0 ∧ e = .returned (.tuple #[.pointer none, faV a.1.1 (a.1.2 : Nat)]))) ∧ Below w.heap.size w w'
/-- What Resolve answers. -/
def ReT (a : (Int × Nat) × RsP) (w : World) (e : Ending) (w' : World) : Prop :=
  ((a.1.2 = 0 ∧ ∃ sv D, e = .returned (.tuple #[sv, .slice (some ⟨D, 0, none⟩) a.2.bds.length a.2.bds.length, faV 0 0]) ∧ w'.ownsRow w.heap.size 51 4 sv a.2.slots.length (slCs a.2.slots) ∧ w'.heap[D]? = some (.cells (bdCs a.2.bds).toArray 49) ∧ w.heap.size ≤ D) ∨ (a.1.2 ≠ 0 ∧ e = .returned (.tuple #[.slice none 0 0, .slice none 0 0, faV a.1.1 (a.1.2 : Nat)]))) ∧ Below w.heap.size w w'
set_option maxHeartbeats 4000000 in
theorem c_Resolve (u : UnP) (pu : UnS) (nm : List UInt8) (a : (Int × Nat) × RsP) (w : World) (HC' : ∀ w', Below w.heap.size w w' → Calls Tryz.prog 15 #[unV u pu, nmS nm] w' fun e w'' => RvT a w' e w'') :
    Calls Tryz.prog 7 #[unV u pu, nmS nm] w fun e w' => ReT a w e w' := by
  have HC := Lib.hid HC'
  unfold ReT
  unfold RvT at HC
  obtain ⟨S, G, F⟩ := u
  obtain ⟨sa, sc, ga, gc, fa, fc⟩ := pu
  obtain ⟨⟨gat, ge⟩, rs⟩ := a
  simp only [unV] at HC ⊢
  clear HC'
  go_enter Tryz.func7, Tryz.ntmps7
  go_wp2_with fail
  have hb0 : Below w.heap.size w ((w.alloc (.cells #[.slice sa S.length sc, .slice ga G.length gc, .slice fa F.length fc] 26)).alloc (.cells #[.int .i64 0, .int .i64 0] 32)) := below_t (below_o _ _) (below_o _ _) (by simp)
  refine (HC.out _ hb0).mono ?_
  rintro e w1 ⟨hrd, hb⟩
  have HB1 := Lib.hid (below_t hb0 hb hb0.size)
  have HZ1 := Lib.hid (blk_on (heap_alloc_at (w := w.alloc (.cells #[.slice sa S.length sc, .slice ga G.length gc, .slice fa F.length fc] 26)) _ (w.heap.size + 1) (by simp)) hb)
  clear hb hb0
  obtain ⟨RB, hRB⟩ : ∃ RB, w.heap.size + 1 = RB := ⟨_, rfl⟩
  have HUR := Lib.hid hRB
  have HZ1' : Hid (w1.heap[RB]? = some (.cells #[.int .i64 0, .int .i64 0] 32)) := by rw [← hRB]; exact HZ1.out
  rw [hRB]
  clear hRB HZ1
  obtain ⟨z0, z1, zf⟩ := two_cells HZ1'.out
  have zf0 := zf 0
  have zf1 := zf 1
  have hzl := (Array.getElem?_eq_some_iff.1 HZ1'.out).1
  clear zf
  rcases hrd with ⟨rfl, Gr, p, L, sv, uv, K, rfl, hR, hbs⟩ | ⟨hne, rfl⟩
  · have HR := Lib.hid (And.intro hR hbs)
    obtain ⟨y0, y1, y2, y3, _⟩ := cells4 hR.blk
    have hyl := (Array.getElem?_eq_some_iff.1 hR.blk).1
    clear hR hbs HC
    go_wp2_with fail
    have hz9 := blk_on (two_put HZ1'.out (.int .i64 0) (.int .i64 0)) ((below_o _ (.cells #[.int .i64 0, .int .i64 0] 32)).drew)
    have hb9 := ((two_below HB1.out (show w.heap.size ≤ RB by have := HUR.out; omega) (.int .i64 0) (.int .i64 0)).alloc (by simpa using HB1.out.size) (.cells #[.int .i64 0, .int .i64 0] 32)).drew
    have hx1 := heap_setCell_same w1 RB 0 _ _ (.int .i64 0) HZ1'.out
    have hbase : w.heap.size ≤ Gr.base := Nat.le_trans (by simp; omega) HR.out.2
    have hs9 := own_on (nm_set (nm_set (own_base HR.out.1.so hbase) HZ1'.out (by decide) 0 (.int .i64 0)) hx1 (by decide) 1 (.int .i64 0)) ((below_o _ (.cells #[.int .i64 0, .int .i64 0] 32)).drew)
    have hne := ne_ty HR.out.1.bd HZ1'.out (by decide)
    have hd9 := blk_on ((Below.heap_setCell (w1.setCell ⟨RB, 0, none⟩ (.int .i64 0)) ⟨RB, 1, none⟩ (.int .i64 0) _ hne).trans ((Below.heap_setCell w1 ⟨RB, 0, none⟩ (.int .i64 0) _ hne).trans HR.out.1.bd)) ((below_o _ (.cells #[.int .i64 0, .int .i64 0] 32)).drew)
    have hN := HR.out.1.bl
    have hlB := Nat.le_trans hbase HR.out.1.lB
    clear hx1 hne
    go_region
    all_goals
      go_wp2_with fail
      generalize (((w1.setCell ⟨RB, 0, none⟩ (.int .i64 0)).setCell ⟨RB, 1, none⟩ (.int .i64 0)).alloc (.cells #[.int .i64 0, .int .i64 0] 32)).drew = w9 at hz9 hb9 hs9 hd9 ⊢
      obtain ⟨p0, p1, _⟩ := two_cells hz9
      refine bodyPost_ret (v := .tuple #[sv, .slice (some ⟨Gr.BD, 0, none⟩) Gr.N Gr.N, faV 0 0]) (by simp [results, Tryz.results7, go_sem, p0, p1]) rfl ?_
      exact ⟨⟨sv, Gr.BD, rfl, hs9, hd9, hlB⟩, hb9⟩
  · obtain ⟨gei, hgei⟩ : ∃ x : Int, ((ge : Nat) : Int) = x := ⟨_, rfl⟩
    have HGe := Lib.hid (And.intro hgei hne)
    have hne2 : (gei != 0) = true := by simp; omega
    rw [hgei]
    clear hne hgei
    go_wp2_with fail
    have hz9 := blk_on (two_put HZ1'.out (.int .i64 gat) (.int .i64 gei)) ((below_o _ (.cells #[.int .i64 gat, .int .i64 gei] 32)).drew)
    have hb9 := ((two_below HB1.out (show w.heap.size ≤ RB by have := HUR.out; omega) (.int .i64 gat) (.int .i64 gei)).alloc (by simpa using HB1.out.size) (.cells #[.int .i64 gat, .int .i64 gei] 32)).drew
    go_region
    all_goals
      go_wp2_with fail
      generalize (((w1.setCell ⟨RB, 0, none⟩ (.int .i64 gat)).setCell ⟨RB, 1, none⟩ (.int .i64 gei)).alloc (.cells #[.int .i64 gat, .int .i64 gei] 32)).drew = w9 at hz9 hb9 ⊢
      obtain ⟨p0, p1, _⟩ := two_cells hz9
      refine bodyPost_ret (v := .tuple #[.slice none 0 0, .slice none 0 0, faV gat gei]) (by simp [results, Tryz.results7, go_sem, p0, p1]) rfl ?_
      exact ⟨.inr ⟨HGe.out.2, by rw [HGe.out.1]⟩, hb9⟩
end Go.Proofs.YtjadckhngalmlaaGreatDoor
