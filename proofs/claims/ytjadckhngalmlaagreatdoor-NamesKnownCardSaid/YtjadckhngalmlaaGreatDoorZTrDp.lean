/-
  The contract of depths.
-/
import Derived.Test.YtjadckhngalmlaaGreatDoorZTrFi
namespace Go.Proofs.YtjadckhngalmlaaGreatDoor
set_option linter.unusedVariables false
set_option linter.unusedSimpArgs false
set_option maxRecDepth 100000
open Go.RowKit

/-- The deepest of the first parts. -/
def mxA (L p : List Nat) (i : Nat) : Nat := (p.take i).foldl (fun d q => max d (L.getD q 0)) 0
theorem mx_succ {L p : List Nat} {i r : Nat} (h : p[i]? = some r) : mxA L p (i + 1) = max (mxA L p i) (L.getD r 0) := by
  unfold mxA
  obtain ⟨h1, h2⟩ := List.getElem?_eq_some_iff.1 h
  rw [List.take_succ_eq_append_getElem h1, List.foldl_append, h2]
  rfl
theorem mx_le {L p : List Nat} {M : Nat} (h : ∀ k, L.getD k 0 ≤ M) (i : Nat) : mxA L p i ≤ M := by
  unfold mxA
  generalize p.take i = m
  have : ∀ (m : List Nat) (d : Nat), d ≤ M → m.foldl (fun d q => max d (L.getD q 0)) d ≤ M := by
    intro m
    induction m with
    | nil => intro d hd; exact hd
    | cons a m ih => intro d hd; exact ih _ (by have := h a; show max d (L.getD a 0) ≤ M; omega)
  exact this m 0 (Nat.zero_le _)
theorem dp_step {ps : List (List Nat)} {q : Nat} {p : List Nat} (hp : ps[q]? = some p) (L : List Nat) : dpF (ps.drop q) L = dpF (ps.drop (q + 1)) (L ++ [mxA L p p.length + 1]) := by
  obtain ⟨h3, h4⟩ := List.getElem?_eq_some_iff.1 hp
  rw [List.drop_eq_getElem_cons h3, h4]
  unfold mxA
  rw [List.take_length]
  rfl
structure DpI (ps : List (List Nat)) (w : World) (q : Nat) (L : List Nat) (u : Nat) (wr : World) : Prop where
  below : Below w.heap.size w wr
  row : ∃ cur, wr.heap[w.heap.size]? = some (.cells cur 3) ∧ cur.size = ps.length
  st : dpF (ps.drop q) L = dpF ps []
  ll : L.length = q
  le : ∀ k, L.getD k 0 ≤ q
  vs : ∀ k, k < ps.length → wr.cell? ⟨w.heap.size, k, none⟩ = some (.int .i64 ((if k = q then u else L.getD k 0 : Nat) : Int))
theorem DpI.put {ps : List (List Nat)} {w wr w4 : World} {q u u' : Nat} {L : List Nat} (h : DpI ps w q L u wr) (hq : q < ps.length) (hw : Put1 w.heap.size q (.int .i64 (u' : Int)) wr w4) : DpI ps w q L u' w4 := by
  refine ⟨hw.below h.below (Nat.le_refl _), hw.rows h.row, h.st, h.ll, h.le, fun k hk => ?_⟩
  by_cases hkq : k = q
  · subst hkq
    rw [if_pos rfl]
    exact hw.got h.row hk
  · rw [if_neg hkq, hw.kept h.row (fun e => hkq e.symm), h.vs k hk, if_neg hkq]
theorem getD_snocN {L : List Nat} {b k : Nat} : (L ++ [b]).getD k 0 = if k = L.length then b else L.getD k 0 := by
  rw [List.getD_eq_getElem?_getD, List.getD_eq_getElem?_getD]
  by_cases h : k < L.length
  · rw [List.getElem?_append_left h, if_neg (by omega)]
  · rw [List.getElem?_append_right (by omega)]
    by_cases h2 : k = L.length
    · rw [if_pos h2, h2, Nat.sub_self]
      rfl
    · rw [if_neg h2, List.getElem?_eq_none (by simp; omega), List.getElem?_eq_none (by omega)]
theorem DpI.next {ps : List (List Nat)} {w wr : World} {q : Nat} {L p : List Nat} (h : DpI ps w q L (mxA L p p.length + 1) wr) (hp : ps[q]? = some p) : DpI ps w (q + 1) (L ++ [mxA L p p.length + 1]) 0 wr := by
  have hm := mx_le h.le (p := p) p.length
  refine ⟨h.below, h.row, by rw [← h.st, dp_step hp], by rw [List.length_append, h.ll]; rfl, fun k => ?_, fun k hk => ?_⟩
  · rw [getD_snocN]
    have := h.le k
    split <;> omega
  · rw [h.vs k hk, getD_snocN, h.ll]
    by_cases hkq : k = q
    · rw [if_pos hkq, if_neg (by omega)]
    · rw [if_neg hkq]
      by_cases hk1 : k = q + 1
      · rw [if_pos hk1, List.getD_eq_getElem?_getD, List.getElem?_eq_none (by rw [h.ll]; omega)]
        rfl
      · rw [if_neg hk1]
set_option maxHeartbeats 8000000 in
theorem c_depths (ps : List (List Nat)) (P : Nat) (w : World) (hl : ps.length ≤ 4096) (hP : PtIn any_ ps P w) (hw : ∀ (j : Nat) (p : List Nat), ps[j]? = some p → p.length ≤ 4096 ∧ ∀ q ∈ p, q < j) :
    Calls Tryz.prog 58 #[.slice (some ⟨P, 0, none⟩) ps.length ps.length] w fun e w' => (e = .returned (.slice (some ⟨w.heap.size, 0, none⟩) ps.length ps.length) ∧ IntIn any_ (dpF ps []) (some ⟨w.heap.size, 0, none⟩) w' ∧ (dpF ps []).length = ps.length) ∧ Below w.heap.size w w' := by
  obtain ⟨N, hN⟩ : ∃ N, ps.length = N := ⟨_, rfl⟩
  have hmk : ∀ w' : World, (Instr.makeSlice 131 (.int .i64 (N : Int)) (.int .i64 (N : Int))).run Tryz.prog w' = .ok (.slice (some ⟨w'.heap.size, 0, none⟩) N N) (w'.alloc (.cells (madeCells #[.int .i64 0] N) 3)) := fun w' => run_make_row' 131 3 (.int .i64 0) 8 Tryz.underlying131 infoI rfl .i64 .i64 N (by omega) (by omega) w'
  have HP := Lib.hid hP
  have HW := Lib.hid hw
  have HN := Lib.hid hN
  have HL := Lib.hid hl
  rw [hN]
  clear hl hN hP hw
  go_enter Tryz.func58, Tryz.ntmps58
  go_wp2_with fail
  clear hmk
  go_loopg [13] N (fun m v13 wr => ∃ q : Nat, q + m = N ∧ v13 = .int .i64 (q : Int) ∧ Hid (∃ L, DpI ps w q L 0 wr))
  case atStart =>
    refine ⟨0, by omega, rfl, [], below_o w _, ⟨madeCells #[.int .i64 0] N, heap_alloc_at _ _ rfl, by rw [HN.out]; simp [madeCells]⟩, rfl, rfl, fun k => Nat.le_refl _, fun k hk => ?_⟩
    rw [Lib.cell_of_heap (heap_alloc_at _ _ rfl)]
    rw [HN.out] at hk
    simp [madeCells, hk, Nat.mod_one]
  case round =>
    obtain ⟨q, hq, rfl, HH⟩ := hrel
    obtain ⟨L, hI⟩ := HH.out
    by_cases hlt : q < N
    · have hd : decide ((q : Int) < (N : Int)) = true := by simp; omega
      obtain ⟨p, hpq⟩ : ∃ p, ps[q]? = some p := ⟨_, List.getElem?_eq_getElem (by have := HN.out; omega)⟩
      obtain ⟨hplen, hplt⟩ := HW.out q p hpq
      obtain ⟨pa, pc, z1, hpc, hpi⟩ := HP.out.row q p hpq
      have z1' := (hI.below.cell (p := ⟨P, q, none⟩) HP.out.lt).trans z1
      have hq0 : (0 : Int) ≤ (q : Int) := by omega
      have hqN : (q : Int) < (N : Int) := by omega
      have HMs : Hid (N - (q + 1) < gk ∧ q + 1 + (N - (q + 1)) = N) := ⟨by omega, by omega⟩
      have hwq : IntKind.i64.wrap ((q : Int) + 1) = ((q + 1 : Nat) : Int) := by
        have h2 := HL.out
        have h1 := HN.out
        rw [IntKind.wrap_i64]
        omega
      obtain ⟨ml, hml⟩ : ∃ ml, p.length = ml := ⟨_, rfl⟩
      rw [hml] at z1'
      have HI := Lib.hid hI
      have HX := Lib.hid (And.intro hpq (And.intro hml (And.intro hplen hplt)))
      have HPI := Lib.hid hpi
      clear hI hpq hplen hplt z1 hpc hpi hml HH
      go_wp2_with fail
      clear z1'
      have hmx0 : DpI ps w q L (mxA L p 0) wr := by
        have h := HI.out
        exact ⟨h.below, h.row, h.st, h.ll, h.le, fun k hk => h.vs k hk⟩
      have HI0 := Lib.hid hmx0
      clear hmx0
      go_loopg [20] ml (fun m v20 w2 => ∃ i : Nat, i + m = ml ∧ v20 = .int .i64 (i : Int) ∧ Hid (DpI ps w q L (mxA L p i) w2))
      case atStart => exact ⟨0, by omega, rfl, HI0.out⟩
      case round =>
        obtain ⟨i, hi, rfl, HH⟩ := hrel
        have hI := HH.out
        by_cases hil : i < ml
        · have hdi : decide ((i : Int) < (ml : Int)) = true := by simp; omega
          obtain ⟨rb, ro, hpa, _, hrb, hri⟩ := HPI.out (by have := HX.out.2.1; omega)
          subst hpa
          obtain ⟨r, hr⟩ : ∃ r, p[i]? = some r := ⟨_, List.getElem?_eq_getElem (by have := HX.out.2.1; omega)⟩
          have hrq := HX.out.2.2.2 r (List.mem_of_getElem? hr)
          have z2 := (hI.below.cell (p := ⟨rb, ro + i, none⟩) hrb).trans (hri i r hr)
          have v1 := hI.vs q (by have := HN.out; omega)
          have v2 := hI.vs r (by have := HN.out; omega)
          rw [if_pos rfl] at v1
          rw [if_neg (by omega)] at v2
          obtain ⟨uq, huc, huf⟩ := row_cells hI.row (k := q) (by have := HN.out; omega)
          have HS := Lib.hid (mx_succ (L := L) hr)
          obtain ⟨mm, hmm⟩ : ∃ mm, mxA L p i = mm := ⟨_, rfl⟩
          obtain ⟨lr, hlr⟩ : ∃ lr, L.getD r 0 = lr := ⟨_, rfl⟩
          rw [hmm] at v1
          rw [hlr] at v2
          have HV := Lib.hid (And.intro hmm hlr)
          have hi0 : (0 : Int) ≤ (i : Int) := by omega
          have himl : (i : Int) < (ml : Int) := by omega
          have hr0 : (0 : Int) ≤ (r : Int) := by omega
          have hrN : (r : Int) < (N : Int) := by omega
          have hwi : IntKind.i64.wrap ((i : Int) + 1) = ((i + 1 : Nat) : Int) := by
            have h2 := HX.out.2.2.1
            have h1 := HX.out.2.1
            rw [IntKind.wrap_i64]
            omega
          have HMi : Hid (ml - (i + 1) < gk ∧ i + 1 + (ml - (i + 1)) = ml) := ⟨by omega, by omega⟩
          have HI := Lib.hid hI
          have HQ : Hid (q < ps.length) := by show q < ps.length; have := HN.out; omega
          clear hI hri hr hrb hrq hmm hlr huc HH
          go_wp2_with fail
          go_region
          all_goals
            go_wp2_with fail
            go_roundg (ml - (i + 1))
            case measure => exact HMi.out.1
            case rel =>
              refine ⟨i + 1, HMi.out.2, rfl, ?_⟩
              rw [HS.out, HV.out.1, HV.out.2]
              refine HI.out.put (u' := max mm lr) HQ.out ?_
              rw [show ((max mm lr : Nat) : Int) = max (mm : Int) (lr : Int) by omega]
              exact (Put1.set _ _ _ wr).drew
        · have hdi : decide ((i : Int) < (ml : Int)) = false := by simp; omega
          obtain rfl : i = ml := by omega
          have v1 := hI.vs q (by have := HN.out; omega)
          rw [if_pos rfl] at v1
          obtain ⟨uq, huc, huf⟩ := row_cells hI.row (k := q) (by have := HN.out; omega)
          have HV : Hid (mxA L p i ≤ q) := mx_le hI.le i
          obtain ⟨mm, hmm⟩ : ∃ mm, mxA L p i = mm := ⟨_, rfl⟩
          rw [hmm] at v1 HV
          have hwm : IntKind.i64.wrap ((mm : Int) + 1) = ((mm + 1 : Nat) : Int) := by
            have h2 := HL.out
            have h1 := HN.out
            have h3 := HV.out
            rw [IntKind.wrap_i64]
            omega
          have HI := Lib.hid hI
          have HMM := Lib.hid hmm
          have HQ : Hid (q < ps.length) := by show q < ps.length; have := HN.out; omega
          clear hI hmm huc HH
          go_wp2_with fail
          go_roundg (N - (q + 1))
          case measure => exact HMs.out.1
          case rel =>
            refine ⟨q + 1, HMs.out.2, rfl, L ++ [mxA L p p.length + 1], DpI.next (L := L) (p := p) ?_ HX.out.1⟩
            rw [HX.out.2.1, HMM.out]
            exact HI.out.put (u' := mm + 1) HQ.out (Put1.set _ _ _ wr)
    · have hd : decide ((q : Int) < (N : Int)) = false := by simp; omega
      obtain rfl : q = N := by omega
      have hst := hI.st
      rw [← HN.out, List.drop_length] at hst
      have hLe : L = dpF ps [] := hst
      have HI := Lib.hid hI
      have HE := Lib.hid hLe
      clear hI hst hLe
      go_wp2_with fail
      go_ret
      refine ⟨⟨rfl, fun h0 => ⟨w.heap.size, 0, rfl, trivial, ?_, fun k y hk => ?_⟩, by rw [← HE.out, HI.out.ll]⟩, HI.out.below⟩
      · obtain ⟨cur, h1, _⟩ := HI.out.row
        exact (Array.getElem?_eq_some_iff.1 h1).1
      · rw [← HE.out] at hk
        have hkl := (List.getElem?_eq_some_iff.1 hk).1
        rw [HI.out.ll] at hkl
        rw [Nat.zero_add, HI.out.vs k (by have := HN.out; omega), if_neg (by omega), List.getD_eq_getElem?_getD, hk]
        rfl
end Go.Proofs.YtjadckhngalmlaaGreatDoor
