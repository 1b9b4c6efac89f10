/-
  The contracts of Fetch, and of gaps held against each other, in the code.
-/
import Derived.Test.YtbflnkkoecfbaaaMemMRead
import Derived.Deep.RegionHeld3
namespace Go.Proofs.Ytbflnkkoecfbaaa
set_option linter.unusedVariables false
set_option linter.unusedSimpArgs false
set_option maxRecDepth 100000
open Go.ChangeShapes Go.WideShapes Go.ChangeAt Go.RowKit

def FetchAns (nb : Nat) (R : Nat → Rg) (C : Nat → Nat → Nat → Int) (a v e : Int) : Prop :=
  (e = 0 ∧ ∃ i, AccOk nb R a 4 i ∧ (R i).ex = true ∧ v = ldI (C i) (a - (R i).fr).toNat 4) ∨ (e = 33 ∧ v = 0 ∧ ∃ i, AccOk nb R a 4 i ∧ (R i).ex = false) ∨ (e ≠ 0 ∧ v = 0 ∧ AccNo nb R a 4 e)
set_option maxHeartbeats 2000000 in
theorem c_mFetch (A M : Nat → Prop) (gm nb : Nat) (R : Nat → Rg) (C D : Nat → Nat → Nat → Int) (a : Int) (w : World) (hM0 : Mm w A M gm nb R C D) (h4 : 0 ≤ a) (h5 : a ≤ 4294967295) :
    Calls Try.prog 35 #[.pointer (some ⟨gm, 0, none⟩), .int .u32 a] w fun e w' => ∃ v c, e = .returned (.tuple #[.int .u32 v, .int .i64 c]) ∧ FetchAns nb R C a v c ∧ Below w.heap.size w w' := by
  obtain ⟨G, gb, cap, gn, gt, np, cn, ct, P, Q, h1, _⟩ := hM0
  have HM := Lib.hid h1.1
  clear h1
  go_enter Try.func35, Try.ntmps35
  go_wp2_with fail
  refine (c_access gm gb nb cap R a 4 _ HM.out.2.2.1 HM.out.1 HM.out.2.2.2.1 h4 h5).mono ?_
  rintro e w1 ⟨p, c, rfl, hA, hb1⟩
  have HB1 := Lib.hid hb1
  rcases acc_cases hA with ⟨rfl, i, hok, rfl⟩ | ⟨hne, hno⟩
  · have HA := Lib.hid hok
    have hM1 := HM.out.next hb1
    have hi := hok.2.2.1
    have hh2 := hold_of hok.2.2.2
    have hbd := rg_bd (HM.out.2.2.2.1 i hi)
    have y4 := (hM1.2.2.2.2.1 i hi).1.2.2.2.2
    have HL := Lib.hid (c_load gb (i * 7) (gn i) (np i) (cn i) G (a - (R i).fr).toNat 4 (R i) (P i) (C i) a w1 (by omega) (hM1.2.2.2.2.1 i hi) (HM.out.2.2.2.1 i hi) (by omega) h5 (by have := hok.1; omega) hM1.2.2.2.2.2 (hM1.by_ hi))
    clear hb1 hA hM1 hh2 hbd hok
    cases hx : (R i).ex
    · rw [hx] at y4
      have HX := Lib.hid hx
      clear hx
      go_wp2_with fail
      go_ret2
      exact ⟨0, 33, rfl, .inr (.inl ⟨rfl, rfl, i, HA.out, HX.out⟩), HB1.out⟩
    · rw [hx] at y4
      have HX := Lib.hid hx
      clear hx
      go_wp2_with fail
      refine HL.out.mono ?_
      rintro e w2 ⟨rfl, hb2⟩
      have HB2 := Lib.hid (below_on HB1.out hb2 HB1.out.size)
      clear hb2 HL
      go_wp2_with fail
      go_ret2
      exact ⟨_, 0, rfl, .inl ⟨rfl, i, HA.out, HX.out, rfl⟩, HB2.out⟩
  · have hcd : (c == 0) = false := beq_no hne
    have HNo := Lib.hid hno
    have HNe : Hid ((c = 0) = False) := eq_false hne
    clear hb1 hA hno hne
    go_wp2_with fail
    go_ret2
    exact ⟨0, c, rfl, .inr (.inr ⟨of_eq_false HNe.out, rfl, HNo.out⟩), HB1.out⟩
/-! ### Gaps, one list against the other -/
/-- A list of gaps, wherever it stands. -/
def GapIn (w : World) (a : Option Addr) (L : List (Int × Int)) : Prop := 0 < L.length → ∃ g off, a = some ⟨g, off, none⟩ ∧ ∀ i x, L[i]? = some x → w.cell? ⟨g, off + i * 2, none⟩ = some (.int .i64 x.1) ∧ w.cell? ⟨g, off + i * 2 + 1, none⟩ = some (.int .i64 x.2)
theorem gC_at : ∀ (L : List (Int × Int)) (i : Nat) (x : Int × Int), L[i]? = some x → (gC L)[i * 2]? = some (.int .i64 x.1) ∧ (gC L)[i * 2 + 1]? = some (.int .i64 x.2)
  | g :: L, 0, x, h => by
    simp at h
    subst h
    exact ⟨rfl, rfl⟩
  | g :: L, i + 1, x, h => by
    have := gC_at L i x (by simpa using h)
    have e : gC (g :: L) = .int .i64 g.1 :: .int .i64 g.2 :: gC L := rfl
    rw [e, show (i + 1) * 2 = i * 2 + 1 + 1 by omega]
    exact this
theorem GL.gapIn {w : World} {base : Nat} {v : Value} {L : List (Int × Int)} (h : GL w base v L) : ∃ a cap, v = .slice a L.length cap ∧ L.length ≤ cap ∧ GapIn w a L := by
  obtain ⟨a, cap, rfl, hn, hp⟩ := h.form
  have h0 : w.ownsRow base 57 2 (.slice a L.length cap) L.length (gC L) := h
  refine ⟨a, cap, rfl, ?_, fun h0l => ?_⟩
  · rcases h0.2 with ⟨h', h''⟩ | ⟨g', cap', cur, h', _, _, hle, _⟩
    · omega
    · injection h' with _ _ h3; omega
  · obtain ⟨g, rfl, _, _⟩ := hp h0l
    refine ⟨g, 0, rfl, fun i x hx => ?_⟩
    have hi : i < L.length := (List.getElem?_eq_some_iff.1 hx).1
    have := gC_at L i x hx
    rw [Nat.zero_add]
    exact ⟨(h0.cellAt _ (by omega)).trans this.1, (h0.cellAt _ (by omega)).trans this.2⟩
theorem neq_gap (a b : Int) (w : World) : (binOp .neq 57 (.agg #[.int .i64 a, .int .i64 b]) (.agg #[.int .i64 a, .int .i64 b])).run Try.prog w = .ok (.bool false) w := by
  have u3 := Try.underlying3
  have a3 := Try.isAgg3
  have z3 := Try.sizeOf3
  have hS : Try.prog.underlying 57 = some (.struct (Try.prog.fieldsOf 57)) := by kernel_rfl
  have hp : Try.prog.stoodInHeld 57 = false := by kernel_rfl
  rw [run_neq_struct, show (10000 : Nat) = 9999 + 1 from rfl, run_equalIn_agg w 9999 57 _ _ hS hp]
  simp only [Program.fieldsOf, Try.underlying57]
  go_simp
theorem GapIn.next {w w' : World} {a : Option Addr} {L : List (Int × Int)} (h : GapIn w a L) (hb : Below w.heap.size w w') : GapIn w' a L := fun hl => by
  obtain ⟨g, off, rfl, hc⟩ := h hl
  exact ⟨g, off, rfl, fun i x hx => ⟨(hb.cell (cell_lt (hc i x hx).1)).trans (hc i x hx).1, (hb.cell (cell_lt (hc i x hx).2)).trans (hc i x hx).2⟩⟩
set_option maxHeartbeats 2000000 in
theorem c_gaps (a b : Option Addr) (c d : Nat) (L : List (Int × Int)) (w : World) (hn : L.length ≤ 8589934592) (hc : L.length ≤ c) (hd : L.length ≤ d) (hA : GapIn w a L) (hB : GapIn w b L) :
    Calls Try.prog 16 #[.slice a L.length c, .slice b L.length d] w fun e w' => e = .returned (.bool true) ∧ Below w.heap.size w w' := by
  have HA := Lib.hid hA
  have HB := Lib.hid hB
  have HAt : Hid (∀ i, i < L.length → ∃ x, L[i]? = some x) := fun i hi => ⟨_, List.getElem?_eq_getElem hi⟩
  have hne := neq_gap
  generalize hN : L.length = n at *
  have HPos : Hid (∀ i, i < n → 0 < L.length) := fun i hi => by omega
  clear hA hB hN
  go_enter Try.func16, Try.ntmps16
  go_wp2_with fail
  go_loopw [5] (fun i wr => ∃ k : Nat, k ≤ n ∧ i = .int .i64 k ∧ Hid (Below w.heap.size w wr)) (fun i _ => n - (intOf i).toNat)
  case atStart => exact ⟨0, Nat.zero_le _, rfl, Below.refl _ _⟩
  case round =>
    obtain ⟨k, hk, rfl, HBl⟩ := hrel
    by_cases hlt : k < n
    · obtain ⟨x, hx⟩ := HAt.out k hlt
      obtain ⟨g, o, rfl, hg⟩ := HA.out.next HBl.out (HPos.out k hlt)
      obtain ⟨g', o', rfl, hg'⟩ := HB.out.next HBl.out (HPos.out k hlt)
      obtain ⟨y0, y1⟩ := hg k x hx
      obtain ⟨z0, z1⟩ := hg' k x hx
      clear hg hg' hx
      go_wp2_with fail
      go_quiet (fail)
      go_wp2_with fail
      go_roundw
      case rel => exact ⟨k + 1, by omega, by go_num, below_drewN HBl.out _⟩
      case measure => simp [intOf]; omega
    · have hge : decide (k < n) = false := by simp; omega
      clear hk hlt
      go_wp2_with fail
      go_ret
      exact ⟨rfl, HBl.out⟩
end Go.Proofs.Ytbflnkkoecfbaaa
