/-
  The contract of Ranges, in the code.
-/
import Derived.Test.YtbfimedgichiiaaMemOps
import Derived.Deep.RegionHeld3
import Derived.Maps.AppendAt
namespace Go.Proofs.Ytbfimedgichiiaa
set_option linter.unusedVariables false
set_option linter.unusedSimpArgs false
set_option maxRecDepth 100000
open Go.ChangeShapes Go.WideShapes Go.ChangeAt Go.RowKit

theorem info8 : (Try.prog.info? 5).map (fun i => (i.zero, i.size, i.bytes)) = some (some (.int .u8 0), 1, 1) := by kernel_rfl
/-- Bytes that were read out, in a row of their own. -/
def RdRow (w : World) (g n : Nat) (C : Nat → Nat → Int) (x : Nat) : Prop := ∃ T, w.heap[g]? = some (.cells (bytesAt C x n).toArray T (0, 0))
set_option maxHeartbeats 2000000 in
theorem c_MRead_ok (A M : Nat → Prop) (gm nb : Nat) (R : Nat → Rg) (C D : Nat → Nat → Nat → Int) (a : Int) (n i : Nat) (w : World) (hM : Mm w A M gm nb R C D) (h4 : 0 ≤ a) (h5 : a ≤ 4294967295) (hn0 : 0 < n) (hn : n ≤ 16777216) (hi : i < nb) (hh : holdB (R i) a n = true) :
    Calls Try.prog 23 #[.pointer (some ⟨gm, 0, none⟩), .int .u32 a, .int .i64 n] w fun e w' => ∃ g, e = .returned (.tuple #[.slice (some ⟨g, 0, none⟩) n n, .int .i64 0]) ∧ RdRow w' g n (C i) (a - (R i).fr).toNat ∧ w.heap.size ≤ g ∧ Below w.heap.size w w' := by
  have hok := hM.okR
  obtain ⟨G, gb, cap, gn, gt, np, cn, ct, P, Q, h1, _⟩ := hM
  have HM := Lib.hid h1.1
  have HOk := Lib.hid hok
  have HH := Lib.hid hh
  obtain ⟨i0, hi0, hz0, hz1, hz2⟩ := info_parts info8
  clear h1 hok hh
  go_enter Try.func23, Try.ntmps23
  go_wp2_with fail
  refine (c_bankOf gm gb nb cap R a n _ HM.out.2.2.1 HM.out.1 HM.out.2.2.2.1 h4 h5 (by omega) (by omega)).mono ?_
  rintro e w1 ⟨p, c, rfl, hB, hb1⟩
  have hM1 := HM.out.next hb1
  have HB1 := Lib.hid hb1
  rcases hB with ⟨i', hi', _, hh', rfl, rfl⟩ | ⟨hno, _⟩
  · obtain rfl : i = i' := hold_one HOk.out hi hi' HH.out hh' (Int.le_refl _) (by omega) (by omega) (by omega)
    have hf := hold_of hh'
    have hrd := hM1.2.2.2.2.1 i hi
    have hrg := HM.out.2.2.2.1 i hi
    have hG := hM1.2.2.2.2.2
    have HR := Lib.hid (fun (w2 : World) (hb2 : Below w1.heap.size w1 w2) (gl : Nat) (hgl : w1.heap.size ≤ gl) (T : TypeId) (cur : List Value) (hl : w2.heap[gl]? = some (.cells cur.toArray T (0, 0))) (hlen : cur.length = n) =>
      c_read gb (i * 7) (gn i) (np i) (cn i) G gl 0 n n (a - (R i).fr).toNat (R i) (P i) (C i) cur T a w2 (hrd.next hb2 hG) hrg (by have := rg_bd hrg; omega) h5 (by have := rg_bd hrg; omega) (by omega) hl (by omega) (Nat.le_refl _) hn)
    clear hb1 hM1 hh' hf hrd hrg hG
    go_wp2_with (refine wpList_make_row _ rfl _ _ 37 rfl 5 i0 (.int .u8 0) Try.underlying37 hi0 hz0 hz1 rfl .i64 .i64 n rfl rfl (by rw [hz2]; omega) (by omega) ?_)
    refine (HR.out _ (below_new w1 _) w1.heap.size (Nat.le_refl _) 5 (List.replicate n (.int .u8 0)) (by
      rw [heap_alloc_new]
      congr 2
      apply Array.ext'
      rw [toList_madeCells_one]) (by simp)).mono ?_
    rintro e w2 ⟨rfl, hrow, hb2⟩
    have HRow : Hid (RdRow w2 w1.heap.size n (C i) (a - (R i).fr).toNat) := by
      refine ⟨5, ?_⟩
      rw [hrow]
      congr 3
      unfold splice
      rw [List.take_zero, List.nil_append, bytesAt_len, List.drop_of_length_le (by simp)]
      simp
    have HB2 : Hid (Below w.heap.size w w2) := below_on HB1.out ((below_new w1 _).trans hb2) HB1.out.size
    have HS := Lib.hid HB1.out.size
    clear hrow hb2
    go_wp2_with fail
    go_ret2
    exact ⟨w1.heap.size, rfl, HRow.out, HS.out, HB2.out⟩
  · exfalso
    have := hno i hi
    rw [HH.out] at this
    cases this
end Go.Proofs.Ytbfimedgichiiaa
namespace Go.Proofs.Ytbfimedgichiiaa
set_option linter.unusedVariables false
set_option linter.unusedSimpArgs false
set_option maxRecDepth 100000
open Go.ChangeShapes Go.WideShapes Go.ChangeAt Go.RowKit

def FetchAns (nb : Nat) (R : Nat → Rg) (C : Nat → Nat → Nat → Int) (a v e : Int) : Prop :=
  (e = 0 ∧ ∃ i, AccOk nb R a 4 i ∧ (R i).ex = true ∧ v = ldI (C i) (a - (R i).fr).toNat 4) ∨ (e = 33 ∧ v = 0 ∧ ∃ i, AccOk nb R a 4 i ∧ (R i).ex = false) ∨ (e ≠ 0 ∧ v = 0 ∧ AccNo nb R a 4 e)
set_option maxHeartbeats 2000000 in
theorem c_mFetch (A M : Nat → Prop) (gm nb : Nat) (R : Nat → Rg) (C D : Nat → Nat → Nat → Int) (a : Int) (w : World) (hM0 : Mm w A M gm nb R C D) (h4 : 0 ≤ a) (h5 : a ≤ 4294967295) :
    Calls Try.prog 35 #[.pointer (some ⟨gm, 0, none⟩), .int .u32 a] w fun e w' => ∃ v c, e = .returned (.tuple #[.int .u32 v, .int .i64 c]) ∧ FetchAns nb R C a v c ∧ Below w.heap.size w w' := by
  obtain ⟨G, gb, cap, gn, gt, np, cn, ct, P, Q, h1, _⟩ := hM0
  have HM := Lib.hid h1.1
  clear h1
  go_enter Try.func35, Try.ntmps35
  go_wp2_with fail
  refine (c_access gm gb nb cap R a 4 _ HM.out.2.2.1 HM.out.1 HM.out.2.2.2.1 h4 h5).mono ?_
  rintro e w1 ⟨p, c, rfl, hA, hb1⟩
  have HB1 := Lib.hid hb1
  rcases acc_cases hA with ⟨rfl, i, hok, rfl⟩ | ⟨hne, hno⟩
  · have HA := Lib.hid hok
    have hM1 := HM.out.next hb1
    have hi := hok.2.2.1
    have hh2 := hold_of hok.2.2.2
    have hbd := rg_bd (HM.out.2.2.2.1 i hi)
    have y4 := (hM1.2.2.2.2.1 i hi).1.2.2.2.2
    have HL := Lib.hid (c_load gb (i * 7) (gn i) (np i) (cn i) G (a - (R i).fr).toNat 4 (R i) (P i) (C i) a w1 (by omega) (hM1.2.2.2.2.1 i hi) (HM.out.2.2.2.1 i hi) (by omega) h5 (by have := hok.1; omega) hM1.2.2.2.2.2 (hM1.by_ hi))
    clear hb1 hA hM1 hh2 hbd hok
    cases hx : (R i).ex
    · rw [hx] at y4
      have HX := Lib.hid hx
      clear hx
      go_wp2_with fail
      go_ret2
      exact ⟨0, 33, rfl, .inr (.inl ⟨rfl, rfl, i, HA.out, HX.out⟩), HB1.out⟩
    · rw [hx] at y4
      have HX := Lib.hid hx
      clear hx
      go_wp2_with fail
      refine HL.out.mono ?_
      rintro e w2 ⟨rfl, hb2⟩
      have HB2 := Lib.hid (below_on HB1.out hb2 HB1.out.size)
      clear hb2 HL
      go_wp2_with fail
      go_ret2
      exact ⟨_, 0, rfl, .inl ⟨rfl, i, HA.out, HX.out, rfl⟩, HB2.out⟩
  · have hcd : (c == 0) = false := beq_no hne
    have HNo := Lib.hid hno
    have HNe : Hid ((c = 0) = False) := eq_false hne
    clear hb1 hA hno hne
    go_wp2_with fail
    go_ret2
    exact ⟨0, c, rfl, .inr (.inr ⟨of_eq_false HNe.out, rfl, HNo.out⟩), HB1.out⟩
/-! ### Gaps, one list against the other -/
/-- A list of gaps, wherever it stands. -/
def GapIn (w : World) (a : Option Addr) (L : List (Int × Int)) : Prop := 0 < L.length → ∃ g off, a = some ⟨g, off, none⟩ ∧ ∀ i x, L[i]? = some x → w.cell? ⟨g, off + i * 2, none⟩ = some (.int .i64 x.1) ∧ w.cell? ⟨g, off + i * 2 + 1, none⟩ = some (.int .i64 x.2)
theorem gC_at : ∀ (L : List (Int × Int)) (i : Nat) (x : Int × Int), L[i]? = some x → (gC L)[i * 2]? = some (.int .i64 x.1) ∧ (gC L)[i * 2 + 1]? = some (.int .i64 x.2)
  | g :: L, 0, x, h => by
    simp at h
    subst h
    exact ⟨rfl, rfl⟩
  | g :: L, i + 1, x, h => by
    have := gC_at L i x (by simpa using h)
    have e : gC (g :: L) = .int .i64 g.1 :: .int .i64 g.2 :: gC L := rfl
    rw [e, show (i + 1) * 2 = i * 2 + 1 + 1 by omega]
    exact this
theorem GL.gapIn {w : World} {base : Nat} {v : Value} {L : List (Int × Int)} (h : GL w base v L) : ∃ a cap, v = .slice a L.length cap ∧ L.length ≤ cap ∧ GapIn w a L := by
  obtain ⟨a, cap, rfl, hn, hp⟩ := h.form
  have h0 : w.ownsRow base 57 2 (.slice a L.length cap) L.length (gC L) := h
  refine ⟨a, cap, rfl, ?_, fun h0l => ?_⟩
  · rcases h0.2 with ⟨h', h''⟩ | ⟨g', cap', cur, h', _, _, hle, _⟩
    · omega
    · injection h' with _ _ h3; omega
  · obtain ⟨g, rfl, _, _⟩ := hp h0l
    refine ⟨g, 0, rfl, fun i x hx => ?_⟩
    have hi : i < L.length := (List.getElem?_eq_some_iff.1 hx).1
    have := gC_at L i x hx
    rw [Nat.zero_add]
    exact ⟨(h0.cellAt _ (by omega)).trans this.1, (h0.cellAt _ (by omega)).trans this.2⟩
theorem neq_gap (a b : Int) (w : World) : (binOp .neq 57 (.agg #[.int .i64 a, .int .i64 b]) (.agg #[.int .i64 a, .int .i64 b])).run Try.prog w = .ok (.bool false) w := by
  have u3 := Try.underlying3
  have a3 := Try.isAgg3
  have z3 := Try.sizeOf3
  have hS : Try.prog.underlying 57 = some (.struct (Try.prog.fieldsOf 57)) := by kernel_rfl
  have hp : Try.prog.stoodInHeld 57 = false := by kernel_rfl
  rw [run_neq_struct, show (10000 : Nat) = 9999 + 1 from rfl, run_equalIn_agg w 9999 57 _ _ hS hp]
  simp only [Program.fieldsOf, Try.underlying57]
  go_simp
theorem GapIn.next {w w' : World} {a : Option Addr} {L : List (Int × Int)} (h : GapIn w a L) (hb : Below w.heap.size w w') : GapIn w' a L := fun hl => by
  obtain ⟨g, off, rfl, hc⟩ := h hl
  exact ⟨g, off, rfl, fun i x hx => ⟨(hb.cell (cell_lt (hc i x hx).1)).trans (hc i x hx).1, (hb.cell (cell_lt (hc i x hx).2)).trans (hc i x hx).2⟩⟩
set_option maxHeartbeats 2000000 in
theorem c_gaps (a b : Option Addr) (c d : Nat) (L : List (Int × Int)) (w : World) (hn : L.length ≤ 8589934592) (hc : L.length ≤ c) (hd : L.length ≤ d) (hA : GapIn w a L) (hB : GapIn w b L) :
    Calls Try.prog 16 #[.slice a L.length c, .slice b L.length d] w fun e w' => e = .returned (.bool true) ∧ Below w.heap.size w w' := by
  have HA := Lib.hid hA
  have HB := Lib.hid hB
  have HAt : Hid (∀ i, i < L.length → ∃ x, L[i]? = some x) := fun i hi => ⟨_, List.getElem?_eq_getElem hi⟩
  have hne := neq_gap
  generalize hN : L.length = n at *
  have HPos : Hid (∀ i, i < n → 0 < L.length) := fun i hi => by omega
  clear hA hB hN
  go_enter Try.func16, Try.ntmps16
  go_wp2_with fail
  go_loopw [5] (fun i wr => ∃ k : Nat, k ≤ n ∧ i = .int .i64 k ∧ Hid (Below w.heap.size w wr)) (fun i _ => n - (intOf i).toNat)
  case atStart => exact ⟨0, Nat.zero_le _, rfl, Below.refl _ _⟩
  case round =>
    obtain ⟨k, hk, rfl, HBl⟩ := hrel
    by_cases hlt : k < n
    · obtain ⟨x, hx⟩ := HAt.out k hlt
      obtain ⟨g, o, rfl, hg⟩ := HA.out.next HBl.out (HPos.out k hlt)
      obtain ⟨g', o', rfl, hg'⟩ := HB.out.next HBl.out (HPos.out k hlt)
      obtain ⟨y0, y1⟩ := hg k x hx
      obtain ⟨z0, z1⟩ := hg' k x hx
      clear hg hg' hx
      go_wp2_with fail
      go_quiet (fail)
      go_wp2_with fail
      go_roundw
      case rel => exact ⟨k + 1, by omega, by go_num, below_drewN HBl.out _⟩
      case measure => simp [intOf]; omega
    · have hge : decide (k < n) = false := by simp; omega
      clear hk hlt
      go_wp2_with fail
      go_ret
      exact ⟨rfl, HBl.out⟩
end Go.Proofs.Ytbfimedgichiiaa
namespace Go.Proofs.Ytbfimedgichiiaa
set_option linter.unusedVariables false
set_option linter.unusedSimpArgs false
set_option maxRecDepth 100000
open Go.ChangeShapes Go.WideShapes Go.ChangeAt Go.RowKit

abbrev H5 (gb o : Nat) (r : Rg) (w : World) : Prop := w.cell? ⟨gb, o, none⟩ = some (.string ⟨r.nm.toArray⟩) ∧ w.cell? ⟨gb, o + 1, none⟩ = some (.int .i64 r.fr) ∧ w.cell? ⟨gb, o + 2, none⟩ = some (.int .i64 r.sz) ∧ w.cell? ⟨gb, o + 3, none⟩ = some (.bool r.wr) ∧ w.cell? ⟨gb, o + 4, none⟩ = some (.bool r.ex)
theorem H5.next {gb o : Nat} {r : Rg} {w w' : World} (h : H5 gb o r w) (hb : Below w.heap.size w w') : H5 gb o r w' := by
  obtain ⟨a0, a1, a2, a3, a4⟩ := h
  exact ⟨(hb.cell (cell_lt a0)).trans a0, (hb.cell (cell_lt a1)).trans a1, (hb.cell (cell_lt a2)).trans a2, (hb.cell (cell_lt a3)).trans a3, (hb.cell (cell_lt a4)).trans a4⟩
/-- What Of answers. -/
def OfAns (nb : Nat) (R : Nat → Rg) (a : Int) (e : Ending) : Prop :=
  (∃ i, i < nb ∧ holdB (R i) a 1 = true ∧ e = .returned (.tuple #[.string ⟨(R i).nm.toArray⟩, .int .i64 (a - (R i).fr), .int .i64 0])) ∨
  ((∀ j, j < nb → holdB (R j) a 1 = false) ∧ e = .returned (.tuple #[.string ⟨#[]⟩, .int .i64 0, .int .i64 30]))
set_option maxHeartbeats 2000000 in
theorem c_mOf (A M : Nat → Prop) (gm nb : Nat) (R : Nat → Rg) (C D : Nat → Nat → Nat → Int) (a : Int) (w : World) (hM : Mm w A M gm nb R C D) (h4 : 0 ≤ a) (h5 : a ≤ 4294967295) :
    Calls Try.prog 41 #[.pointer (some ⟨gm, 0, none⟩), .int .u32 a] w fun e w' => OfAns nb R a e ∧ Below w.heap.size w w' := by
  obtain ⟨G, gb, cap, gn, gt, np, cn, ct, P, Q, h1, _⟩ := hM
  have HM := Lib.hid h1.1
  clear h1
  go_enter Try.func41, Try.ntmps41
  go_wp2_with fail
  refine (c_bankOf gm gb nb cap R a 1 _ HM.out.2.2.1 HM.out.1 HM.out.2.2.2.1 h4 h5 (by omega) (by omega)).mono ?_
  rintro e w1 ⟨p, c, rfl, hB, hb1⟩
  have hM1 := HM.out.next hb1
  have HB1 := Lib.hid hb1
  rcases hB with ⟨i, hi, _, hh, rfl, rfl⟩ | ⟨hno, rfl, rfl⟩
  · have hrd := hM1.2.2.2.2.1 i hi
    obtain ⟨y0, y1, y2, y3, y4⟩ := hrd.1
    have hf := hold_of hh
    have hrg := rg_bd (HM.out.2.2.2.1 i hi)
    have HH := Lib.hid hh
    have HPl := Lib.hid (fun (wx : World) => c_place ⟨(R i).nm.toArray⟩ (R i).fr (R i).sz a (R i).wr (R i).ex wx (by omega) (by omega) h4 h5)
    clear hb1 hM1 hrd hf hh
    go_wp2_with fail
    have hS : H5 gb (i * 7) (R i) w1 := ⟨y0, y1, y2, y3, y4⟩
    go_region_held3 (fun w' => w'.cell? ⟨gb, i * 7, none⟩ = some (.string ⟨(R i).nm.toArray⟩) ∧ w'.cell? ⟨gb, i * 7 + 1, none⟩ = some (.int .i64 (R i).fr) ∧ w'.cell? ⟨gb, i * 7 + 2, none⟩ = some (.int .i64 (R i).sz) ∧ w'.cell? ⟨gb, i * 7 + 3, none⟩ = some (.bool (R i).wr) ∧ w'.cell? ⟨gb, i * 7 + 4, none⟩ = some (.bool (R i).ex))
      (first
        | exact hS
        | exact H5.next (gb := gb) (o := i * 7) (r := R i) (by assumption) hb2)
      (first
        | (go_at_call 60; refine (HPl.out _).mono ?_; rintro e w2 ⟨rfl, hb2⟩))
    all_goals
      have HB2 : Hid (Below w.heap.size w w2) := below_on HB1.out ((Below.refl w1.heap.size w1).drew.trans hb2) HB1.out.size
      go_wp2_with fail
      go_returns
      exact ⟨.inl ⟨i, hi, HH.out, rfl⟩, HB2.out⟩
  · have HNo := Lib.hid hno
    clear hb1 hM1 hno
    go_wp2_with fail
    all_goals
      go_returns
      exact ⟨.inr ⟨HNo.out, rfl⟩, HB1.out⟩
/-- What Read answers: a slice and a number. -/
def ReadAns (w' : World) (nb : Nat) (R : Nat → Rg) (C : Nat → Nat → Nat → Int) (a n : Int) (v : Value) (e : Int) : Prop :=
  (n < 0 ∧ v = .slice none 0 0 ∧ e = 1) ∨ (16777216 < n ∧ v = .slice none 0 0 ∧ e = 3) ∨ (n = 0 ∧ v = .slice none 0 0 ∧ e = 0) ∨
  (0 < n ∧ n ≤ 16777216 ∧ (∀ j, j < nb → holdB (R j) a n = false) ∧ v = .slice none 0 0 ∧ e = 30) ∨
  (0 < n ∧ n ≤ 16777216 ∧ ∃ i g, i < nb ∧ holdB (R i) a n = true ∧ v = .slice (some ⟨g, 0, none⟩) n.toNat n.toNat ∧ RdRow w' g n.toNat (C i) (a - (R i).fr).toNat ∧ e = 0)
set_option maxHeartbeats 2000000 in
theorem c_MRead_no (A M : Nat → Prop) (gm nb : Nat) (R : Nat → Rg) (C D : Nat → Nat → Nat → Int) (a n : Int) (w : World) (hM : Mm w A M gm nb R C D) (h4 : 0 ≤ a) (h5 : a ≤ 4294967295) (hn0 : 0 < n) (hn : n ≤ 16777216) (hno : ∀ j, j < nb → holdB (R j) a n = false) :
    Calls Try.prog 23 #[.pointer (some ⟨gm, 0, none⟩), .int .u32 a, .int .i64 n] w fun e w' => e = .returned (.tuple #[.slice none 0 0, .int .i64 30]) ∧ Below w.heap.size w w' := by
  obtain ⟨G, gb, cap, gn, gt, np, cn, ct, P, Q, h1, _⟩ := hM
  have HM := Lib.hid h1.1
  have HNo := Lib.hid hno
  have hnz : (n == 0) = false := beq_no (by omega)
  clear h1 hno
  go_enter Try.func23, Try.ntmps23
  go_wp2_with fail
  refine (c_bankOf gm gb nb cap R a n _ HM.out.2.2.1 HM.out.1 HM.out.2.2.2.1 h4 h5 (by omega) (by omega)).mono ?_
  rintro e w1 ⟨p, c, rfl, hB, hb1⟩
  have HB1 := Lib.hid hb1
  rcases hB with ⟨i', hi', _, hh', _⟩ | ⟨_, rfl, rfl⟩
  · have := HNo.out i' hi'
    rw [hh'] at this
    cases this
  · clear hb1
    go_wp2_with fail
    go_ret2
    exact ⟨rfl, HB1.out⟩
theorem c_MRead_neg (gm : Nat) (a n : Int) (w : World) (hn : n < 0) :
    Calls Try.prog 23 #[.pointer (some ⟨gm, 0, none⟩), .int .u32 a, .int .i64 n] w fun e w' => e = .returned (.tuple #[.slice none 0 0, .int .i64 1]) ∧ Below w.heap.size w w' := by
  have hd : decide (n < 0) = true := by simpa using hn
  go_enter Try.func23, Try.ntmps23
  go_wp2_with fail
  go_ret2
  exact ⟨rfl, Below.refl _ _⟩
theorem c_MRead_long (gm : Nat) (a n : Int) (w : World) (hn : 16777216 < n) :
    Calls Try.prog 23 #[.pointer (some ⟨gm, 0, none⟩), .int .u32 a, .int .i64 n] w fun e w' => e = .returned (.tuple #[.slice none 0 0, .int .i64 3]) ∧ Below w.heap.size w w' := by
  have hd : decide (n < 0) = false := by simp; omega
  have hd2 : decide (16777216 < n) = true := by simpa using hn
  clear hn
  go_enter Try.func23, Try.ntmps23
  go_wp2_with fail
  go_ret2
  exact ⟨rfl, Below.refl _ _⟩
theorem c_MRead_zero (gm : Nat) (a : Int) (w : World) :
    Calls Try.prog 23 #[.pointer (some ⟨gm, 0, none⟩), .int .u32 a, .int .i64 0] w fun e w' => e = .returned (.tuple #[.slice none 0 0, .int .i64 0]) ∧ Below w.heap.size w w' := by
  go_enter Try.func23, Try.ntmps23
  go_wp2_with fail
  go_ret2
  exact ⟨rfl, Below.refl _ _⟩
/-- Read, whatever is asked. -/
theorem c_mRead (A M : Nat → Prop) (gm nb : Nat) (R : Nat → Rg) (C D : Nat → Nat → Nat → Int) (a n : Int) (w : World) (hM : Mm w A M gm nb R C D) (h4 : 0 ≤ a) (h5 : a ≤ 4294967295) :
    Calls Try.prog 23 #[.pointer (some ⟨gm, 0, none⟩), .int .u32 a, .int .i64 n] w fun e w' => ∃ v c, e = .returned (.tuple #[v, .int .i64 c]) ∧ ReadAns w' nb R C a n v c ∧ (∀ b, v.ownBlock = some b → w.heap.size ≤ b) ∧ Below w.heap.size w w' := by
  have none : ∀ b, (Value.slice none 0 0).ownBlock = some b → w.heap.size ≤ b := fun b h => by cases h
  by_cases h1 : n < 0
  · exact (c_MRead_neg gm a n w h1).mono fun e w' ⟨he, hb⟩ => ⟨_, _, he, .inl ⟨h1, rfl, rfl⟩, none, hb⟩
  by_cases h2 : 16777216 < n
  · exact (c_MRead_long gm a n w h2).mono fun e w' ⟨he, hb⟩ => ⟨_, _, he, .inr (.inl ⟨h2, rfl, rfl⟩), none, hb⟩
  by_cases h3 : n = 0
  · subst h3
    exact (c_MRead_zero gm a w).mono fun e w' ⟨he, hb⟩ => ⟨_, _, he, .inr (.inr (.inl ⟨rfl, rfl, rfl⟩)), none, hb⟩
  by_cases h6 : ∀ j, j < nb → holdB (R j) a n = false
  · exact (c_MRead_no A M gm nb R C D a n w hM h4 h5 (by omega) (by omega) h6).mono fun e w' ⟨he, hb⟩ => ⟨_, _, he, .inr (.inr (.inr (.inl ⟨by omega, by omega, h6, rfl, rfl⟩))), none, hb⟩
  · obtain ⟨i, hi, hh⟩ : ∃ i, i < nb ∧ holdB (R i) a n = true := by
      apply Classical.byContradiction
      intro h
      apply h6
      intro j hj
      cases hc : holdB (R j) a n
      · rfl
      · exact absurd ⟨j, hj, hc⟩ h
    have hnn : ((n.toNat : Nat) : Int) = n := by omega
    have hk := c_MRead_ok A M gm nb R C D a n.toNat i w hM h4 h5 (by omega) (by omega) hi (by rw [hnn]; exact hh)
    rw [hnn] at hk
    refine hk.mono fun e w' ⟨g, he, hrow, hg, hb⟩ => ⟨_, _, he, .inr (.inr (.inr (.inr ⟨by omega, by omega, i, g, hi, hh, rfl, hrow, rfl⟩))), fun b e => ?_, hb⟩
    have e' : g = b := by injection e
    omega
end Go.Proofs.Ytbfimedgichiiaa
namespace Go.Proofs.Ytbfimedgichiiaa
set_option linter.unusedVariables false
set_option linter.unusedSimpArgs false
set_option maxRecDepth 100000
open Go.ChangeShapes Go.WideShapes Go.ChangeAt Go.RowKit

theorem infoRg : (Try.prog.info? 34).map (fun i => (i.zero, i.size, i.bytes)) = some (some (.agg #[.string ⟨#[]⟩, .int .i64 0, .int .i64 0, .bool false, .bool false]), 5, 40) := by kernel_rfl
/-- The cells of a range. -/
def rgC (r : Rg) : List Value := [.string ⟨r.nm.toArray⟩, .int .i64 r.fr, .int .i64 r.sz, .bool r.wr, .bool r.ex]
theorem rgC_one (r : Rg) : ∀ v ∈ rgC r, v.oneCell' = true := by
  intro v hv
  unfold rgC at hv
  simp only [List.mem_cons, List.not_mem_nil, or_false] at hv
  rcases hv with rfl | rfl | rfl | rfl | rfl <;> rfl
theorem own_bl {w w' : World} {base : Nat} {T : TypeId} {s n : Nat} {v : Value} {xs : List Value} (h : w.ownsRow base T s v n xs) (hb : Below w.heap.size w w') : w'.ownsRow base T s v n xs := by
  refine ⟨h.1, ?_⟩
  rcases h.2 with h | ⟨g, cap, cur, a1, a2, a3, a4⟩
  · exact .inl h
  · exact .inr ⟨g, cap, cur, a1, a2, (hb.block g (Array.getElem?_eq_some_iff.1 a3).1).trans a3, a4⟩
theorem own_ge {w : World} {base : Nat} {T : TypeId} {s n : Nat} {v : Value} {xs : List Value} (h : w.ownsRow base T s v n xs) : ∀ k, v.ownBlock = some k → base ≤ k := by
  intro k hk
  rcases h.2 with ⟨rfl, _⟩ | ⟨g, cap, cur, rfl, hg, _⟩
  · simp [Value.ownBlock] at hk
  · simp [Value.ownBlock] at hk; omega
set_option maxHeartbeats 2000000 in
theorem c_mRanges (A M : Nat → Prop) (gm nb : Nat) (R : Nat → Rg) (C D : Nat → Nat → Nat → Int) (w : World) (hM : Mm w A M gm nb R C D) :
    Calls Try.prog 19 #[.pointer (some ⟨gm, 0, none⟩)] w fun e w' => ∃ v, e = .returned v ∧ w'.ownsRow w.heap.size 34 5 v nb (fl (fun i => rgC (R i)) nb) ∧ Below w.heap.size w w' := by
  obtain ⟨G, gb, cap, gn, gt, np, cn, ct, P, Q, h1, _⟩ := hM
  obtain ⟨aB, hc0, haB⟩ := h1.1.1.1
  have HM := Lib.hid h1
  have HAB := Lib.hid haB
  have hn16 := h1.1.2.2.1
  obtain ⟨i0, hi, hz0, hz1, hz2⟩ := info_parts infoRg
  clear h1 haB
  go_enter Try.func19, Try.ntmps19
  go_wp2_with fail
  go_loopw [3, 11] (fun l i wr => ∃ k : Nat, k ≤ nb ∧ i = .int .i64 k ∧ Hid (wr.ownsRow w.heap.size 34 5 l k (fl (fun i => rgC (R i)) k)) ∧ Hid (Below w.heap.size w wr)) (fun _ i _ => nb - (intOf i).toNat)
  case atStart => exact ⟨0, Nat.zero_le _, rfl, ⟨rfl, .inl ⟨rfl, rfl⟩⟩, Below.refl _ _⟩
  case round =>
    obtain ⟨k, hk, rfl, HOw, HBr⟩ := hrel
    by_cases hlt : k < nb
    · obtain rfl := HAB.out (by omega)
      have hM' := HM.out.next HBr.out
      obtain ⟨⟨x0, x1, x2, x3, x4⟩, x5, _⟩ := hM'.1.2.2.2.2.1 k hlt
      have x6 := (hM'.2.1 k hlt).1
      have HO : Hid (∀ o o', ((wr.alloc o).alloc o').ownsRow w.heap.size 34 5 u3 k (fl (fun i => rgC (R i)) k)) := fun o o' => own_bl (own_bl HOw.out (below_new wr o)) (below_new _ o')
      have HOb : Hid (∀ b, u3.ownBlock = some b → w.heap.size ≤ b) := own_ge HOw.out
      have HSz := Lib.hid HBr.out.size
      clear hM'
      go_wp2_with (at_builtin; refine wpList_append_own _ rfl _ _ 22 rfl w.heap.size 34 i0 _ 5 40 Try.underlying22 hi hz0 hz1 hz2 rfl (by decide) u3 k (fl (fun i => rgC (R i)) k) rfl (HO.out _ _) ⟨wr.heap.size + 1, 0, none⟩ 1 1 (rgC (R k)) rfl rfl ?c2 (rgC_one _) (by unfold maxLen; omega) (by omega) (by have := HSz.out; simp; omega) ?_)
      case c2 =>
        have := World.news_of_block (heap_alloc_new (wr.alloc (.cells (bkC (R k) (np k) (gn k) (cn k) (gt k) (ct k)).toArray 69)) (.cells (rgC (R k)).toArray 34))
        simp [bkC, rgC]
      intro v' w1 hown hgrow hnn
      have HO1 : Hid (w1.ownsRow w.heap.size 34 5 v' (k + 1) (fl (fun i => rgC (R i)) (k + 1))) := by
        show World.ownsRow _ _ _ _ _ _ _
        rw [fl_succ]
        exact hown
      have HB1 : Hid (Below w.heap.size w w1) := ((HBr.out.alloc HSz.out _).alloc (by have := HSz.out; simp; omega) _).grown hgrow (by have := HSz.out; simp; omega) (fun b hb => HOb.out b hb)
      clear hown hgrow hnn x0 x1 x2 x3 x4 x5 x6
      go_wp2_with fail
      go_roundw
      case rel => exact ⟨k + 1, by omega, by go_num, HO1, HB1⟩
      case measure => simp [intOf]; omega
    · obtain rfl : k = nb := by omega
      clear hlt hk
      go_wp2_with fail
      go_returns
      exact ⟨_, rfl, HOw.out, HBr.out⟩
end Go.Proofs.Ytbfimedgichiiaa
