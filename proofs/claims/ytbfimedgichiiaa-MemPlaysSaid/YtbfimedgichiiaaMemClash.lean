/-
  The contract of clashes, in the code.
-/
import Derived.Test.YtbfimedgichiiaaMemLeaf
import Derived.Deep.RegionHeld3
namespace Go.Proofs.Ytbfimedgichiiaa
set_option linter.unusedVariables false
set_option linter.unusedSimpArgs false
open Go.ChangeShapes Go.WideShapes Go.ChangeAt Go.RowKit

theorem below_drewN {B : Nat} {w w' : World} (h : Below B w w') : ∀ n, Below B w (w'.drewN n)
  | 0 => h
  | n + 1 => (below_drewN h n).drew
theorem cell_lt {w : World} {p : Addr} {v : Value} (h : w.cell? p = some v) : p.block < w.heap.size := by
  unfold World.cell? at h
  cases hb : w.heap[p.block]? with
  | none => rw [hb] at h; cases h
  | some o => exact (Array.getElem?_eq_some_iff.1 hb).1
theorem below_on {B : Nat} {w w1 w2 : World} (h : Below B w w1) (k : Below w1.heap.size w1 w2) (hB : B ≤ w1.heap.size) : Below B w w2 := h.trans (k.mono hB)
theorem below_new (w : World) (o : Obj) : Below w.heap.size w (w.alloc o) := (Below.refl _ _).alloc (Nat.le_refl _) _
/-! ### Do two ranges clash? -/
set_option maxHeartbeats 2000000 in
theorem c_clashes_same (r o : Rg) (w : World) (hs : r.nm = o.nm) :
    Calls Try.prog 26 #[.agg #[.string ⟨r.nm.toArray⟩, .int .i64 r.fr, .int .i64 r.sz, .bool r.wr, .bool r.ex], .agg #[.string ⟨o.nm.toArray⟩, .int .i64 o.fr, .int .i64 o.sz, .bool o.wr, .bool o.ex]] w
      fun e w' => e = .returned (.bool (clB r o)) ∧ Below w.heap.size w w' := by
  obtain ⟨l, fr, sz, wr, ex⟩ := r
  obtain ⟨l', fr', sz', wr', ex'⟩ := o
  simp only at hs ⊢
  subst hs
  have HV : Hid (clB ⟨l, fr, sz, wr, ex⟩ ⟨l, fr', sz', wr', ex'⟩ = true) := by
    show _ = _
    unfold clB
    simp
  go_enter Try.func26, Try.ntmps26
  go_wp2_with fail
  have heq : (l == l) = true := by simp
  go_quiet (fail)
  go_wp2_with fail
  go_returns
  exact ⟨ret_b HV.out.symm, below_drewN ((below_new w _).alloc (by simp) _) _⟩
/-- Two ranges in blocks of their own. -/
def K2 (w0 : World) (l l' : List UInt8) (fr sz fr' sz' : Int) (wr ex wr' ex' : Bool) (w' : World) : Prop :=
  w'.cell? ⟨w0.heap.size, 0, none⟩ = some (.string ⟨l.toArray⟩) ∧ w'.cell? ⟨w0.heap.size, 1, none⟩ = some (.int .i64 fr) ∧ w'.cell? ⟨w0.heap.size, 2, none⟩ = some (.int .i64 sz) ∧ w'.cell? ⟨w0.heap.size, 3, none⟩ = some (.bool wr) ∧ w'.cell? ⟨w0.heap.size, 4, none⟩ = some (.bool ex) ∧
  w'.cell? ⟨w0.heap.size + 1, 0, none⟩ = some (.string ⟨l'.toArray⟩) ∧ w'.cell? ⟨w0.heap.size + 1, 1, none⟩ = some (.int .i64 fr') ∧ w'.cell? ⟨w0.heap.size + 1, 2, none⟩ = some (.int .i64 sz') ∧ w'.cell? ⟨w0.heap.size + 1, 3, none⟩ = some (.bool wr') ∧ w'.cell? ⟨w0.heap.size + 1, 4, none⟩ = some (.bool ex') ∧
  Below w0.heap.size w0 w'
theorem K2.next {w0 : World} {l l' : List UInt8} {fr sz fr' sz' : Int} {wr ex wr' ex' : Bool} {w1 w2 : World} (h : K2 w0 l l' fr sz fr' sz' wr ex wr' ex' w1) (hb : Below w1.heap.size w1 w2) : K2 w0 l l' fr sz fr' sz' wr ex wr' ex' w2 := by
  obtain ⟨h0, h1, h2, h3, h4, k0, k1, k2, k3, k4, hB⟩ := h
  exact ⟨(hb.cell (cell_lt h0)).trans h0, (hb.cell (cell_lt h1)).trans h1, (hb.cell (cell_lt h2)).trans h2, (hb.cell (cell_lt h3)).trans h3, (hb.cell (cell_lt h4)).trans h4, (hb.cell (cell_lt k0)).trans k0, (hb.cell (cell_lt k1)).trans k1, (hb.cell (cell_lt k2)).trans k2, (hb.cell (cell_lt k3)).trans k3, (hb.cell (cell_lt k4)).trans k4, below_on hB hb hB.size⟩
set_option maxHeartbeats 8000000 in
theorem c_clashes_other (r o : Rg) (w : World) (hs : ¬ r.nm = o.nm) (f0 : 0 ≤ r.fr) (f1 : r.fr ≤ 4294967296) (s0 : 0 ≤ r.sz) (s1 : r.sz ≤ 16777216) (f0' : 0 ≤ o.fr) (f1' : o.fr ≤ 4294967296) (s0' : 0 ≤ o.sz) (s1' : o.sz ≤ 16777216) :
    Calls Try.prog 26 #[.agg #[.string ⟨r.nm.toArray⟩, .int .i64 r.fr, .int .i64 r.sz, .bool r.wr, .bool r.ex], .agg #[.string ⟨o.nm.toArray⟩, .int .i64 o.fr, .int .i64 o.sz, .bool o.wr, .bool o.ex]] w
      fun e w' => e = .returned (.bool (clB r o)) ∧ Below w.heap.size w w' := by
  obtain ⟨l, fr, sz, wr, ex⟩ := r
  obtain ⟨l', fr', sz', wr', ex'⟩ := o
  simp only at hs f0 f1 s0 s1 f0' f1' s0' s1' ⊢
  have HV : Hid (clB ⟨l, fr, sz, wr, ex⟩ ⟨l', fr', sz', wr', ex'⟩ = decide ((if fr < fr' then fr' else fr) < (if fr + sz < fr' + sz' then fr + sz else fr' + sz'))) := by
    show _ = _
    unfold clB
    simp [hs]
  have heq : (l == l') = false := by simpa using hs
  clear hs
  have HS0 := Lib.hid (show K2 w l l' fr sz fr' sz' wr ex wr' ex' ((w.alloc (.cells #[.string ⟨l.toArray⟩, .int .i64 fr, .int .i64 sz, .bool wr, .bool ex] 60)).alloc (.cells #[.string ⟨l'.toArray⟩, .int .i64 fr', .int .i64 sz', .bool wr', .bool ex'] 34)) from by
    refine ⟨?_, ?_, ?_, ?_, ?_, ?_, ?_, ?_, ?_, ?_, (below_new _ _).alloc (by simp) _⟩ <;> simp [go_sem])
  have c1 : fr < fr' ∨ fr' ≤ fr := by omega
  have c2 : fr + sz < fr' + sz' ∨ fr' + sz' ≤ fr + sz := by omega
  rcases c1 with c1 | c1 <;> rcases c2 with c2 | c2
  all_goals
    go_enter Try.func26, Try.ntmps26
    go_wp2_with fail
    go_region_held3 (fun w' => w'.cell? ⟨w.heap.size, 0, none⟩ = some (.string ⟨l.toArray⟩) ∧ w'.cell? ⟨w.heap.size, 1, none⟩ = some (.int .i64 fr) ∧ w'.cell? ⟨w.heap.size, 2, none⟩ = some (.int .i64 sz) ∧ w'.cell? ⟨w.heap.size, 3, none⟩ = some (.bool wr) ∧ w'.cell? ⟨w.heap.size, 4, none⟩ = some (.bool ex) ∧
        w'.cell? ⟨w.heap.size + 1, 0, none⟩ = some (.string ⟨l'.toArray⟩) ∧ w'.cell? ⟨w.heap.size + 1, 1, none⟩ = some (.int .i64 fr') ∧ w'.cell? ⟨w.heap.size + 1, 2, none⟩ = some (.int .i64 sz') ∧ w'.cell? ⟨w.heap.size + 1, 3, none⟩ = some (.bool wr') ∧ w'.cell? ⟨w.heap.size + 1, 4, none⟩ = some (.bool ex') ∧ Below w.heap.size w w')
      (first
        | (exact HS0.out)
        | (exact hk2.out)
        | (exact hk1.out)
        | (exact HS0.out.next ((Below.refl _ _).drew)))
      (first
        | (go_at_call 55
           refine (c_end _ _ _ _ _ _ (by omega) (by omega) (by omega) (by omega)).mono ?_
           rintro e w' ⟨rfl, hb⟩
           have hk1 := Lib.hid (K2.next (l := l) (l' := l') (fr := fr) (sz := sz) (fr' := fr') (sz' := sz') (wr := wr) (ex := ex) (wr' := wr') (ex' := ex') (by assumption) hb)
           clear hb))
    all_goals
      go_wp2_with fail
      all_goals
        go_returns
        refine ⟨ret_b ?_, ?_⟩
        · rw [HV.out, Bool.eq_iff_iff]
          simp only [decide_eq_true_eq, Bool.false_eq_true, false_iff, true_iff]
          (repeat' split) <;> omega
        · exact (show K2 w l l' fr sz fr' sz' wr ex wr' ex' _ from by assumption).2.2.2.2.2.2.2.2.2.2
theorem c_clashes (r o : Rg) (w : World) (f0 : 0 ≤ r.fr) (f1 : r.fr ≤ 4294967296) (s0 : 0 ≤ r.sz) (s1 : r.sz ≤ 16777216) (f0' : 0 ≤ o.fr) (f1' : o.fr ≤ 4294967296) (s0' : 0 ≤ o.sz) (s1' : o.sz ≤ 16777216) :
    Calls Try.prog 26 #[.agg #[.string ⟨r.nm.toArray⟩, .int .i64 r.fr, .int .i64 r.sz, .bool r.wr, .bool r.ex], .agg #[.string ⟨o.nm.toArray⟩, .int .i64 o.fr, .int .i64 o.sz, .bool o.wr, .bool o.ex]] w
      fun e w' => e = .returned (.bool (clB r o)) ∧ Below w.heap.size w w' := by
  by_cases hs : r.nm = o.nm
  · exact c_clashes_same r o w hs
  · exact c_clashes_other r o w hs f0 f1 s0 s1 f0' f1' s0' s1'
end Go.Proofs.Ytbfimedgichiiaa
