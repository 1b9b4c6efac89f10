/-
  The contracts of pages, in the code: a page of noughts; a page that may be written to.
-/
import Derived.Test.YtbflnkkoecfbaaaMemBank
import Derived.Laws.Rows
import Derived.Laws.CopyRow
import Derived.Laws.Tables
import Derived.LaidEqlPtr
namespace Go.Proofs.Ytbflnkkoecfbaaa
set_option linter.unusedVariables false
set_option linter.unusedSimpArgs false
open Go.ChangeShapes Go.WideShapes Go.ChangeAt Go.RowKit

/-- A page's cells: so many bytes. -/
def PgC (cs : Array Value) (c : Nat → Int) : Prop := cs.size = 4096 ∧ ∀ k, k < 4096 → cs[k]? = some (.int .u8 (c k)) ∧ 0 ≤ c k ∧ c k ≤ 255
/-- A block that is a page. -/
def Pg (w : World) (g : Nat) (c : Nat → Int) : Prop := ∃ cs T, w.heap[g]? = some (.cells cs T (0, 0)) ∧ PgC cs c
theorem Pg.next {N : Nat} {w w' : World} {g : Nat} {c : Nat → Int} (h : Pg w g c) (hb : Below N w w') (hg : g < N) : Pg w' g c := by
  obtain ⟨cs, T, hh, hc⟩ := h
  exact ⟨cs, T, (hb.block g hg).trans hh, hc⟩
theorem PgC.one {cs : Array Value} {c : Nat → Int} (h : PgC cs c) : cs.all (·.oneCell') = true := by
  rw [Array.all_eq_true]
  intro i hi
  have := (h.2 i (by have := h.1; omega)).1
  rw [Array.getElem?_eq_getElem hi] at this
  have e : cs[i] = .int .u8 (c i) := Option.some.inj this
  rw [e]
  rfl
theorem zcells : Try.zeroCells97 = Array.replicate 4096 (.int .u8 0) := by kernel_rfl
theorem zpage_pg : PgC Try.zeroCells97 (fun _ => 0) := by
  rw [zcells]
  exact ⟨by simp, fun k hk => ⟨by simp [hk], Int.le_refl _, by show (0 : Int) ≤ 255; decide⟩⟩
theorem page_size : (Try.prog.info? 97).map (·.size) = some 4096 := by kernel_rfl
theorem page_j : ∃ j, Try.prog.info? 97 = some j ∧ j.size = 4096 := by
  have h := page_size
  cases hi : Try.prog.info? 97 with
  | none => rw [hi] at h; cases h
  | some i => rw [hi] at h; exact ⟨i, rfl, by simpa using h⟩
theorem eq_same (p : Addr) (w : World) : (binOp .eql 95 (.pointer (some p)) (.pointer (some p))).run Try.prog w = .ok (.bool true) w := by
  obtain ⟨j, hj, _⟩ := page_j
  exact run_eql_ptr_same w p Try.underlying95 hj
theorem eq_other {p q : Nat} {c d : Nat → Int} {w : World} (hpq : p ≠ q) (hp : Pg w p c) (hq : Pg w q d) : (binOp .eql 95 (.pointer (some ⟨p, 0, none⟩)) (.pointer (some ⟨q, 0, none⟩))).run Try.prog w = .ok (.bool false) w := by
  obtain ⟨j, hj, hs⟩ := page_j
  obtain ⟨cs, T, h1, _⟩ := hp
  obtain ⟨ds, T', h2, _⟩ := hq
  exact run_eql_ptr_other w Try.underlying95 hj (by rw [hs]; decide) (fun e => hpq (by injection e)) h1 h2
theorem drewN_heap (w : World) : ∀ n, (w.drewN n).heap = w.heap
  | 0 => rfl
  | n + 1 => drewN_heap w.drew n
theorem Pg.drewN {w : World} {g : Nat} {c : Nat → Int} (h : Pg w g c) (n : Nat) : Pg (w.drewN n) g c := by
  obtain ⟨cs, T, h1, h2⟩ := h
  exact ⟨cs, T, by rw [drewN_heap]; exact h1, h2⟩
/-- A bank's page, as it is now and as it was at the mark. -/
def BP (w : World) (gb o gn gt i p q : Nat) : Prop :=
  ∃ np cn nt ct, i < np ∧ np ≤ 4096 ∧ i < nt ∧ nt ≤ 4096 ∧ w.cell? ⟨gb, o + 5, none⟩ = some (.slice (some ⟨gn, 0, none⟩) np cn) ∧ w.cell? ⟨gb, o + 6, none⟩ = some (.slice (some ⟨gt, 0, none⟩) nt ct) ∧
    w.cell? ⟨gn, i, none⟩ = some (.pointer (some ⟨p, 0, none⟩)) ∧ w.cell? ⟨gt, i, none⟩ = some (.pointer (some ⟨q, 0, none⟩))
/-- A page of its own is handed back as it is. -/
theorem c_own_other (gb o gn gt p q i : Nat) (c d : Nat → Int) (w : World) (hB : BP w gb o gn gt i p q) (hp : Pg w p c) (hq : Pg w q d) (hpq : p ≠ q) :
    Calls Try.prog 61 #[.pointer (some ⟨gb, o, none⟩), .int .i64 i] w fun e w' => e = .returned (.pointer (some ⟨p, 0, none⟩)) ∧ ∃ n, w' = w.drewN n := by
  obtain ⟨np, cn, nt, ct, h1, h2, h3, h4, h5, h6, h7, h8⟩ := hB
  have hE : ∀ n, (binOp .eql 95 (.pointer (some ⟨p, 0, none⟩)) (.pointer (some ⟨q, 0, none⟩))).run Try.prog (w.drewN n) = .ok (.bool false) (w.drewN n) := fun n => eq_other hpq (hp.drewN n) (hq.drewN n)
  clear hp hq hpq
  go_enter Try.func61, Try.ntmps61
  go_wp2_with fail
  go_quiet (fail)
  go_wp2_with fail
  go_returns
  exact ⟨rfl, _, rfl⟩
theorem setRow_new (w : World) (old cs : Array Value) (t : TypeId) (n : Nat) (hn : n = w.heap.size) : (w.alloc (.cells old t)).setRow n cs = w.alloc (.cells cs t) := by
  subst hn
  unfold World.setRow World.alloc
  congr 1
  apply Array.ext
  · simp
  · intro k h1 h2
    simp only [Array.getElem_modify, Array.getElem_push]
    split
    · rename_i hk
      subst hk
      simp
    · rename_i hk
      have : k < w.heap.size := by simp at h2; omega
      simp [this]
theorem far_cell (w : World) (n : Nat) (o : Obj) (b k : Nat) (h : b < w.heap.size) : ((w.drewN n).alloc o).cell? ⟨b, k, none⟩ = w.cell? ⟨b, k, none⟩ := by
  have hb : Below w.heap.size w ((w.drewN n).alloc o) := (below_drewN (Below.refl _ _) n).alloc (by rw [drewN_heap]; exact Nat.le_refl _) _
  exact hb.cell (p := ⟨b, k, none⟩) h
theorem far_frozen (w : World) (n : Nat) (o : Obj) (b k : Nat) (h : b < w.heap.size) : ((w.drewN n).alloc o).frozen? ⟨b, k, none⟩ = w.frozen? ⟨b, k, none⟩ := by
  have hb : Below w.heap.size w ((w.drewN n).alloc o) := (below_drewN (Below.refl _ _) n).alloc (by rw [drewN_heap]; exact Nat.le_refl _) _
  exact hb.frozen (p := ⟨b, k, none⟩) h
set_option maxRecDepth 100000 in
set_option maxHeartbeats 2000000 in
theorem c_own_same (gb o gn gt p i : Nat) (c : Nat → Int) (w : World) (hB : BP w gb o gn gt i p p) (hp : Pg w p c) (hf : w.frozen? ⟨gn, i, none⟩ = false) (hne : gb ≠ gn) :
    Calls Try.prog 61 #[.pointer (some ⟨gb, o, none⟩), .int .i64 i] w fun e w' => e = .returned (.pointer (some ⟨w.heap.size, 0, none⟩)) ∧
      ∃ cs n, PgC cs c ∧ w' = ((w.drewN n).alloc (.cells cs 97)).setCell ⟨gn, i, none⟩ (.pointer (some ⟨w.heap.size, 0, none⟩)) := by
  obtain ⟨np, cn, nt, ct, h1, h2, h3, h4, h5, h6, h7, h8⟩ := hB
  have hE := eq_same
  obtain ⟨cs, T, hh, hc⟩ := hp
  have HC := Lib.hid hc
  have HH : Hid (∀ n, (w.drewN n).heap[p]? = some (.cells cs T (0, 0))) := fun n => by rw [drewN_heap]; exact hh
  have HSz : Hid ((Try.prog.info? 97).map (·.size) = some cs.size) := by show _ = _; rw [page_size, hc.1]
  have HZ : Hid (Try.zeroCells97.size = cs.size) := by show _ = _; rw [Try.zeroCells97_size, hc.1]
  have HO := Lib.hid (PgC.one hc)
  have hgb : gb < w.heap.size := cell_lt h5
  have hgn : gn < w.heap.size := cell_lt h7
  have hne' : ¬ gn = gb := fun e => hne e.symm
  have k5 : ∀ n o', ((w.drewN n).alloc o').cell? ⟨gb, o + 5, none⟩ = some (.slice (some ⟨gn, 0, none⟩) np cn) := fun n o' => (far_cell w n o' gb (o + 5) hgb).trans h5
  have k7 : ∀ n o', ((w.drewN n).alloc o').cell? ⟨gn, i, none⟩ = some (.pointer (some ⟨p, 0, none⟩)) := fun n o' => (far_cell w n o' gn i hgn).trans h7
  have kf : ∀ n o', ((w.drewN n).alloc o').frozen? ⟨gn, i, none⟩ = false := fun n o' => (far_frozen w n o' gn i hgn).trans hf
  clear hh hc
  go_enter Try.func61, Try.ntmps61
  go_wp2_with fail
  go_quiet (fail)
  go_wp2_with (first
    | (refine wpList_load_row rfl 97 _ rfl p rfl T cs (0, 0) _ (HH.out _) Try.underlying97 rfl HSz.out ?_)
    | (refine wpList_store_row rfl 97 _ _ rfl w.heap.size cs rfl rfl 97 Try.zeroCells97 (by simp [World.alloc, drewN_heap]) HSz.out HZ.out HO.out ?_; rw [setRow_new _ _ _ _ _ (by rw [drewN_heap])]))
  go_returns
  exact ⟨rfl, cs, _, HC.out, rfl⟩
end Go.Proofs.Ytbflnkkoecfbaaa
