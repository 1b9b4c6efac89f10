/-
  The chapter's first example, by hand.
-/
import Derived.Test.YtjadckhngalmlaaGreatDoorZNmRv
import Derived.Test.YtjadckhngalmlaaGreatDoorZNmCk
import Derived.Test.YtjadckhngalmlaaGreatDoorZNmRz
namespace Go.Proofs.YtjadckhngalmlaaGreatDoor
set_option linter.unusedVariables false
set_option linter.unusedSimpArgs false
set_option maxRecDepth 100000
open Go.RowKit

def wkT : List NdT := [⟨3, 0, 9, 0, [97], []⟩, ⟨22, 1, 8, 0, [120], [105]⟩, ⟨3, 0, 30, 0, [120], []⟩, ⟨32, 1, 29, 0, [], []⟩, ⟨21, 2, 7, 0, [], []⟩]
def wkG : GlP := ⟨0, ⟨[120], [105], false⟩, []⟩
def wkF : FnP := ⟨5, [102], [102, 40, 105, 41, 105], [⟨[97], [105], false⟩], wkT⟩
def wkU : UnP := ⟨[], [wkG], [wkF]⟩
theorem wk_f : (rvA wkU [102]).1 = (0, 0) := by kernel_rfl
theorem wk_s : (rvA wkU [102]).2.slots = [⟨[97], [105], false, true⟩, ⟨[120], [105], false, false⟩] := by kernel_rfl
theorem wk_b : (rvA wkU [102]).2.bds = [⟨3, 0, [105]⟩, ⟨3, 1, [105]⟩, ⟨3, 1, [105]⟩, ⟨0, 0, []⟩, ⟨0, 0, []⟩] := by kernel_rfl
theorem c_ResolveA (B : Nat) (u : UnP) (p : UnS) (hU : UnOk u) (nm : List UInt8) (w : World) (hE : Env B w) (hB : B ≤ w.heap.size) (hI : UnIn u p w) :
    Calls Tryz.prog 7 #[unV u p, nmS nm] w fun e w' => ReT (rvA u nm) w e w' :=
  c_Resolve u p nm (rvA u nm) w (fun w' hb => c_resolve B u p hU nm w' (hE.next (hb.mono hB)) (Nat.le_trans hB hb.size) (hI.next hb))
theorem TsIn_nil (W : World) : TsIn [] none W := RwIn.nil _ _ _ _
theorem wkU_ok : UnOk wkU := by
  refine ⟨(fun s hs => by cases hs), Nat.zero_le _, fun g hg => ?_, by decide, fun f hf => ?_, by decide⟩
  · rw [show wkU.globals = [wkG] from rfl, List.mem_singleton] at hg
    subst hg
    exact ⟨⟨by decide, by decide⟩, (fun t ht => by cases ht), by decide⟩
  · rw [show wkU.funcs = [wkF] from rfl, List.mem_singleton] at hf
    subst hf
    refine ⟨by decide, by decide, fun v hv => ?_, by decide, fun x hx => ?_, by decide⟩
    · rw [show wkF.params = [⟨[97], [105], false⟩] from rfl, List.mem_singleton] at hv
      subst hv
      exact ⟨by decide, by decide⟩
    · have hx : x ∈ wkT := hx
      unfold wkT at hx
      simp only [List.mem_cons, List.not_mem_nil, or_false] at hx
      rcases hx with rfl | rfl | rfl | rfl | rfl <;> exact ⟨by decide, by decide⟩
theorem eq_fault (a b : Int) (w : World) : (binOp .eql 32 (faV a b) (faV a b)).run Tryz.prog w = .ok (.bool true) w := by
  have u3 := Tryz.underlying3
  have a3 := Tryz.isAgg3
  have z3 := Tryz.sizeOf3
  have u34 := Tryz.underlying30
  have a34 := Tryz.isAgg30
  have z34 := Tryz.sizeOf30
  have hS : Tryz.prog.underlying 32 = some (.struct (Tryz.prog.fieldsOf 32)) := by kernel_rfl
  have hp : Tryz.prog.stoodInHeld 32 = false := by kernel_rfl
  rw [run_eql_struct, show (10000 : Nat) = 9999 + 1 from rfl, run_equalIn_agg w 9999 32 _ _ hS hp]
  simp only [Program.fieldsOf, Tryz.underlying32]
  go_simp
theorem eq_bind (b c : BdP) (w : World) : (binOp .eql 49 (bdV b) (bdV c)).run Tryz.prog w = .ok (.bool (decide (b = c))) w := by
  have u3 := Tryz.underlying3
  have a3 := Tryz.isAgg3
  have z3 := Tryz.sizeOf3
  have u34 := Tryz.underlying40
  have a34 := Tryz.isAgg40
  have z34 := Tryz.sizeOf40
  have hS : Tryz.prog.underlying 49 = some (.struct (Tryz.prog.fieldsOf 49)) := by kernel_rfl
  have hp : Tryz.prog.stoodInHeld 49 = false := by kernel_rfl
  rw [run_eql_struct, show (10000 : Nat) = 9999 + 1 from rfl, run_equalIn_agg w 9999 49 _ _ hS hp]
  simp only [Program.fieldsOf, Tryz.underlying49]
  go_simp
  obtain ⟨bk, bi, bt⟩ := b
  obtain ⟨ck, ci, ct⟩ := c
  by_cases h1 : bk = ck
  · by_cases h2 : bi = ci
    · by_cases h3 : bt = ct
      · subst h1 h2 h3
        simp
      · simp [h1, h2, h3]
    · have h2' : ¬ (bi : Int) = (ci : Int) := by omega
      simp [h1, h2, h2']
  · simp [h1]
theorem neq_bind (b c : BdP) (w : World) : (binOp .neq 49 (bdV b) (bdV c)).run Tryz.prog w = .ok (.bool (!decide (b = c))) w := by
  have h := eq_bind b c w
  rw [run_eql_struct] at h
  rw [run_neq_struct]
  cases hc : (Op.equalIn 10000 49 (bdV b) (bdV c)).run Tryz.prog w with
  | ok r w2 =>
    rw [hc] at h
    simp only [Result.andThen_ok, Result.ok.injEq, Value.bool.injEq] at h ⊢
    exact ⟨by rw [h.1], h.2⟩
  | halt r w2 =>
    rw [hc] at h
    cases h
/-- The example's unit, where the text lays it. -/
abbrev wkP (s : Nat) : UnS := ⟨none, 0, some ⟨s + 1, 0, none⟩, 1, some ⟨s + 1 + 1 + 1, 0, none⟩, 1⟩
theorem wk_in {w W : World} {s : Nat} (h0 : W.heap[s]? = some (.cells (noCs wkT).toArray 47)) (h1 : W.heap[s + 1]? = some (.cells #[.int .i64 0, nmS [120], nmS [105], .bool false, .slice none 0 0] 66))
    (h2 : W.heap[s + 1 + 1]? = some (.cells #[nmS [97], nmS [105], .bool false] 58)) (h3 : W.heap[s + 1 + 1 + 1]? = some (.cells #[.int .i64 5, nmS [102], nmS [102, 40, 105, 41, 105], .slice (some ⟨s + 1 + 1, 0, none⟩) 1 1, .slice (some ⟨s, 0, none⟩) 5 5] 45)) : UnIn wkU (wkP s) W := by
  have row : ∀ {b : Nat} {L : List Value} {T : TypeId}, W.heap[b]? = some (.cells L.toArray T) → ∀ (j : Nat) (v : Value), L[j]? = some v → W.cell? ⟨b, j, none⟩ = some v := fun h j v hj => by
    rw [Lib.cell_of_heap h]
    simpa using hj
  have hT : TrIn wkT (some ⟨s, 0, none⟩) W := fun _ => ⟨s, 0, rfl, (Array.getElem?_eq_some_iff.1 h0).1, fun k x hk i v hi => by
    rw [Nat.zero_add]
    exact row h0 _ v (noCs_at wkT k x hk i v hi)⟩
  refine ⟨(fun h => by cases h), fun _ => ⟨s + 1, 0, rfl, (Array.getElem?_eq_some_iff.1 h1).1, fun k x hk => ?_⟩, fun _ => ⟨s + 1 + 1 + 1, 0, rfl, (Array.getElem?_eq_some_iff.1 h3).1, fun k x hk => ?_⟩⟩
  · have hk : [wkG][k]? = some x := hk
    have hl := (List.getElem?_eq_some_iff.1 hk).1
    obtain rfl : k = 0 := by simpa using hl
    cases hk
    refine ⟨_, ⟨none, 0, rfl, TsIn_nil W, Nat.le_refl _, fun _ => rfl⟩, fun i v hi => ?_⟩
    rw [show 0 + 0 * 5 + i = i by omega]
    exact row h1 i v hi
  · have hk : [wkF][k]? = some x := hk
    have hl := (List.getElem?_eq_some_iff.1 hk).1
    obtain rfl : k = 0 := by simpa using hl
    cases hk
    refine ⟨_, ⟨some ⟨s + 1 + 1, 0, none⟩, 1, some ⟨s, 0, none⟩, 5, rfl, fun _ => ⟨s + 1 + 1, 0, rfl, (Array.getElem?_eq_some_iff.1 h2).1, fun k x hk => ?_⟩, hT, ⟨Nat.le_refl _, (fun h => by cases h)⟩, Nat.le_refl _, (fun h => by cases h)⟩, fun i v hi => ?_⟩
    · have hk : [(⟨[97], [105], false⟩ : VarP)][k]? = some x := hk
      have hl := (List.getElem?_eq_some_iff.1 hk).1
      obtain rfl : k = 0 := by simpa using hl
      cases hk
      refine ⟨_, rfl, fun i v hi => ?_⟩
      rw [show 0 + 0 * 3 + i = i by omega]
      exact row h2 i v hi
    · rw [show 0 + 0 * 5 + i = i by omega]
      exact row h3 i v hi
set_option maxHeartbeats 4000000 in
theorem c_works (B : Nat) (w : World) (hE : Env B w) (hB : B ≤ w.heap.size) :
    Calls Tryz.prog 6 #[] w fun e w' => e = .returned (.bool true) ∧ Below w.heap.size w w' := by
  have HE := Lib.hid (And.intro hE hB)
  clear hE hB
  go_enter Tryz.func6, Tryz.ntmps6
  go_wp2_with fail
  obtain ⟨oN, hoN⟩ : ∃ o : Obj, .cells (noCs wkT).toArray 47 = o := ⟨_, rfl⟩
  obtain ⟨oG, hoG⟩ : ∃ o : Obj, .cells #[.int .i64 0, nmS [120], nmS [105], .bool false, .slice none 0 0] 66 = o := ⟨_, rfl⟩
  obtain ⟨oV, hoV⟩ : ∃ o : Obj, .cells #[nmS [97], nmS [105], .bool false] 58 = o := ⟨_, rfl⟩
  obtain ⟨oF, hoF⟩ : ∃ o : Obj, .cells #[.int .i64 5, nmS [102], nmS [102, 40, 105, 41, 105], .slice (some ⟨w.heap.size + 1 + 1, 0, none⟩) 1 1, .slice (some ⟨w.heap.size, 0, none⟩) 5 5] 45 = o := ⟨_, rfl⟩
  obtain ⟨oU, hoU⟩ : ∃ o : Obj, .cells #[.slice none 0 0, .slice (some ⟨w.heap.size + 1, 0, none⟩) 1 1, .slice (some ⟨w.heap.size + 1 + 1 + 1, 0, none⟩) 1 1] 26 = o := ⟨_, rfl⟩
  change Calls _ _ #[.agg #[.slice none 0 0, .slice (some ⟨w.heap.size + 1, 0, none⟩) 1 1, .slice (some ⟨w.heap.size + 1 + 1 + 1, 0, none⟩) 1 1], .string ⟨#[102]⟩] (((((w.alloc (.cells (noCs wkT).toArray 47)).alloc (.cells #[.int .i64 0, nmS [120], nmS [105], .bool false, .slice none 0 0] 66)).alloc (.cells #[nmS [97], nmS [105], .bool false] 58)).alloc (.cells #[.int .i64 5, nmS [102], nmS [102, 40, 105, 41, 105], .slice (some ⟨w.heap.size + 1 + 1, 0, none⟩) 1 1, .slice (some ⟨w.heap.size, 0, none⟩) 5 5] 45)).alloc (.cells #[.slice none 0 0, .slice (some ⟨w.heap.size + 1, 0, none⟩) 1 1, .slice (some ⟨w.heap.size + 1 + 1 + 1, 0, none⟩) 1 1] 26)) _
  rw [hoN, hoG, hoV, hoF, hoU]
  have b1 := below_o w oN
  have b2 := below_o (w.alloc oN) oG
  have b3 := below_o ((w.alloc oN).alloc oG) oV
  have b4 := below_o (((w.alloc oN).alloc oG).alloc oV) oF
  have b5 := below_o ((((w.alloc oN).alloc oG).alloc oV).alloc oF) oU
  have q2 := below_t b1 b2 b1.size
  have q3 := below_t q2 b3 q2.size
  have q4 := below_t q3 b4 q3.size
  have q5 := below_t q4 b5 q4.size
  have k0 := blk_on (blk_on (blk_on (blk_on (heap_alloc_at (w := w) oN _ rfl) b2) b3) b4) b5
  have k1 := blk_on (blk_on (blk_on (heap_alloc_at (w := w.alloc oN) oG (w.heap.size + 1) (by simp)) b3) b4) b5
  have k2 := blk_on (blk_on (heap_alloc_at (w := (w.alloc oN).alloc oG) oV (w.heap.size + 1 + 1) (by simp)) b4) b5
  have k3 := blk_on (heap_alloc_at (w := ((w.alloc oN).alloc oG).alloc oV) oF (w.heap.size + 1 + 1 + 1) (by simp)) b5
  generalize ((((w.alloc oN).alloc oG).alloc oV).alloc oF).alloc oU = w1 at q5 k0 k1 k2 k3 b5 ⊢
  rw [← hoN] at k0
  rw [← hoG] at k1
  rw [← hoV] at k2
  rw [← hoF] at k3
  have hI := wk_in (w := w) k0 k1 k2 k3
  have HC := Lib.hid (c_ResolveA B wkU (wkP w.heap.size) wkU_ok [102] w1 (HE.out.1.next (q5.mono HE.out.2)) (Nat.le_trans HE.out.2 q5.size) hI)
  have HQ := Lib.hid q5
  clear b1 b2 b3 b4 b5 q2 q3 q4 q5 k0 k1 k2 k3 hI hoN hoG hoV hoF hoU
  refine HC.out.mono ?_
  rintro e w2 ⟨hr, hb⟩
  obtain ⟨sv, D, rfl, hs, hD, _⟩ : ∃ sv D, e = .returned (.tuple #[sv, .slice (some ⟨D, 0, none⟩) 5 5, faV 0 0]) ∧ w2.ownsRow w1.heap.size 51 4 sv 2 (slCs [⟨[97], [105], false, true⟩, ⟨[120], [105], false, false⟩]) ∧ w2.heap[D]? = some (.cells (bdCs [⟨3, 0, [105]⟩, ⟨3, 1, [105]⟩, ⟨3, 1, [105]⟩, ⟨0, 0, []⟩, ⟨0, 0, []⟩]).toArray 49) ∧ True := by
    rcases hr with ⟨_, sv, D, h1, h2, h3, _⟩ | ⟨h, _⟩
    · rw [wk_b] at h1 h3
      rw [wk_s] at h2
      exact ⟨sv, D, h1, h2, h3, trivial⟩
    · rw [wk_f] at h
      exact absurd rfl h
  obtain ⟨sa, sc, rfl⟩ := own_slice hs
  obtain ⟨g, rfl, hg, _, hsc⟩ := own_cell hs (by decide)
  have s0 := hsc 0 _ rfl
  have s3 := hsc 3 _ rfl
  have s4 := hsc 4 _ rfl
  have row : ∀ (j : Nat) (v : Value), (bdCs [⟨3, 0, [105]⟩, ⟨3, 1, [105]⟩, ⟨3, 1, [105]⟩, ⟨0, 0, []⟩, ⟨0, 0, []⟩])[j]? = some v → w2.cell? ⟨D, j, none⟩ = some v := fun j v hj => by
    rw [Lib.cell_of_heap hD]
    simpa using hj
  have d0 := row 0 _ rfl
  have d1 := row 1 _ rfl
  have d2 := row 2 _ rfl
  have d6 := row 6 _ rfl
  have d7 := row 7 _ rfl
  have d8 := row 8 _ rfl
  have hDl := (Array.getElem?_eq_some_iff.1 hD).1
  have HB := Lib.hid (below_t HQ.out hb HQ.out.size)
  have e1 := eq_fault 0 0
  have e2 := eq_bind ⟨3, 0, [105]⟩ ⟨3, 0, [105]⟩
  have e3 := eq_bind ⟨3, 1, [105]⟩ ⟨3, 1, [105]⟩
  clear hr hs hD hsc row hb HC
  go_wp2_with fail
  refine bodyPost_ret (v := .bool true) (by simp [results, Tryz.results6, go_sem]) rfl ?_
  exact ⟨rfl, below_t HB.out (below_o _ _) HB.out.size⟩
end Go.Proofs.YtjadckhngalmlaaGreatDoor
