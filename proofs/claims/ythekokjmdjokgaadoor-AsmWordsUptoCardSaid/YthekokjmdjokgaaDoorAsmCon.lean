/-
  The contracts of Const, in the code and in the document's answers.
-/
import Derived.Test.YthekokjmdjokgaaDoorAsmRef
import Derived.Laws.AppendOwn
import Derived.Deep.AppendLies
namespace Go.Proofs.YthekokjmdjokgaaDoor
set_option linter.unusedVariables false
set_option linter.unusedSimpArgs false
set_option maxRecDepth 100000
open Go.ChangeShapes Go.WideShapes Go.ChangeAt Go.RowKit

def insV (op d a i : Int) : List Value := [.int .i64 op, .int .i64 d, .int .i64 a, .int .i64 0, .int .i64 i]
/-- The instructions of a constant, cell by cell; how many. -/
def conV (d n : Int) : List Value :=
  if -32768 ≤ n ∧ n ≤ 32767 then insV 25 d 0 n else if n % 4294967296 % 65536 = 0 then insV 26 d 0 (n % 4294967296 / 65536) else insV 26 d 0 (n % 4294967296 / 65536) ++ insV 20 d d (n % 4294967296 % 65536)
def conN (d n : Int) : Nat := if -32768 ≤ n ∧ n ≤ 32767 then 1 else if n % 4294967296 % 65536 = 0 then 1 else 2
def conOk (d n : Int) : Prop := (0 ≤ d ∧ d ≤ 15) ∧ -2147483648 ≤ n ∧ n ≤ 4294967295
def ConIs (w w' : World) (d n : Int) (e : Ending) : Prop :=
  ((¬ conOk d n ∧ e = .returned (.tuple #[.slice none 0 0, .int .i64 1])) ∨ (conOk d n ∧ ∃ v, e = .returned (.tuple #[v, .int .i64 0]) ∧ w'.ownsRow w.heap.size 29 5 v (conN d n) (conV d n))) ∧ Below w.heap.size w w'
theorem chk_li (d n : Int) : chkB 25 d 0 0 n = (decide (0 ≤ d) && decide (d < 16) && decide (-32768 ≤ n) && decide (n ≤ 32767)) := by
  have hf : formI 25 = 5 := by decide +kernel
  unfold chkB
  rw [hf]
  unfold regB fitB
  have h1 : lD 5 = true := by decide +kernel
  have h2 : lA 5 = false := by decide +kernel
  have h3 : lB 5 = false := by decide +kernel
  have h4 : lLeast 5 = -32768 := by decide +kernel
  have h5 : lMost 5 = 32767 := by decide +kernel
  rw [h1, h2, h3, h4, h5]
  simp [Bool.and_assoc]
theorem infoIn : (Tryd.prog.info? 29).map (fun i => (i.zero, i.size, i.bytes)) = some (some (.agg #[.int .i64 0, .int .i64 0, .int .i64 0, .int .i64 0, .int .i64 0]), 5, 40) := by kernel_rfl
theorem row_full (w : World) (base : Nat) (hb : base ≤ w.heap.size) (op d a i : Int) (T : TypeId) : (w.alloc (.cells #[.int .i64 op, .int .i64 d, .int .i64 a, .int .i64 0, .int .i64 i] T)).ownsRow base T 5 (.slice (some ⟨w.heap.size, 0, none⟩) 1 1) 1 (insV op d a i) :=
  ⟨rfl, .inr ⟨w.heap.size, 1, _, rfl, hb, heap_alloc_new w _, Nat.le_refl _, by decide, rfl, rfl⟩⟩
theorem insV_one (op d a i : Int) : ∀ u ∈ insV op d a i, u.oneCell' = true := by
  intro u hu
  unfold insV at hu
  simp only [List.mem_cons, List.not_mem_nil, or_false] at hu
  rcases hu with rfl | rfl | rfl | rfl | rfl <;> rfl
theorem news2 (w : World) (A : Obj) (op d a i : Int) (T : TypeId) : ∀ (j : Nat) (u : Value), (insV op d a i)[j]? = some u → ((w.alloc A).alloc (.cells #[.int .i64 op, .int .i64 d, .int .i64 a, .int .i64 0, .int .i64 i] T)).cell? ((⟨w.heap.size + 1, 0, none⟩ : Addr).add j) = some u := by
  have h := World.news_of_block (heap_alloc_new (w.alloc A) (.cells #[.int .i64 op, .int .i64 d, .int .i64 a, .int .i64 0, .int .i64 i] T))
  rw [show (w.alloc A).heap.size = w.heap.size + 1 by simp] at h
  exact h
theorem own_ge {w : World} {N : Nat} (h : N ≤ w.heap.size) : ∀ b, (Value.slice (some ⟨w.heap.size, 0, none⟩) 1 1).ownBlock = some b → N ≤ b := fun b e => by
  have e' : w.heap.size = b := Option.some.inj e
  omega
theorem below_grown {N : Nat} {w wa wb : World} {k : Option Nat} (h : Below N w wa) (hN : N ≤ wa.heap.size) (hg : wa.grownBy wb k) (hk : ∀ b, k = some b → N ≤ b) : Below N w wb :=
  h.trans ⟨hg.os, hg.tape, hg.output, hg.size, fun b hb => hg.block b (Nat.lt_of_lt_of_le hb hN) (fun e => by have := hk b e.symm; have hb' : b < N := hb; omega)⟩
set_option maxHeartbeats 2000000 in
theorem c_Const (d n : Int) (w : World) (d0 : -9223372036854775808 ≤ d) (d1 : d ≤ 9223372036854775807) (n0 : -9223372036854775808 ≤ n) (n1 : n ≤ 9223372036854775807) :
    Calls Tryd.prog 4 #[.int .i64 d, .int .i64 n] w fun e w' => ConIs w w' d n e := by
  by_cases hd : 0 ≤ d ∧ d ≤ 15
  · have hc1 : chkB 25 d 0 0 0 = true := by rw [chk_li]; simp; omega
    by_cases hn : -2147483648 ≤ n ∧ n ≤ 4294967295
    · have hok : conOk d n := ⟨hd, hn⟩
      have HOk := Lib.hid hok
      obtain ⟨hd0, hd1⟩ := hd
      obtain ⟨hn0, hn1⟩ := hn
      by_cases hs : -32768 ≤ n ∧ n ≤ 32767
      · have hc2 : chkB 25 d 0 0 n = true := by rw [chk_li]; simp; omega
        have HV : Hid (conV d n = insV 25 d 0 n ∧ conN d n = 1) := by show _ ∧ _; unfold conV conN; rw [if_pos hs, if_pos hs]; exact ⟨rfl, rfl⟩
        clear hok hs
        go_enter Tryd.func4, Tryd.ntmps4
        go_wp2_with fail
        refine (c_Check 25 d 0 0 0 _ (by omega) (by omega) (by omega) (by omega) (by omega)).mono ?_
        rw [hc1, errI_yes]
        rintro e w1 ⟨rfl, hb1⟩
        have HB1 := Lib.hid hb1
        clear hb1
        go_wp2_with fail
        refine (c_Check 25 d 0 0 n _ (by omega) (by omega) (by omega) (by omega) (by omega)).mono ?_
        rw [hc2, errI_yes]
        rintro e w2 ⟨rfl, hb2⟩
        have hx := box5 hb2
        have HB2 : Hid (Below w.heap.size w w2) := below_on (HB1.out.alloc HB1.out.size _) hb2 (HB1.out.alloc HB1.out.size _).size
        clear hb2
        obtain ⟨x0, x1, x2, x3, x4, _⟩ := hx
        go_wp2_with fail
        go_ret2
        refine ⟨.inr ⟨HOk.out, _, rfl, ?_⟩, HB2.out.alloc HB2.out.size _⟩
        rw [HV.out.1, HV.out.2]
        exact row_full w2 _ HB2.out.size _ _ _ _ _
      · have hc2 : chkB 25 d 0 0 n = false := by rw [chk_li]; simp; omega
        obtain ⟨U, hU⟩ : ∃ U, U = n % 4294967296 := ⟨_, rfl⟩
        have hU0 : 0 ≤ U ∧ U ≤ 4294967295 := by omega
        obtain ⟨hU0, hU1⟩ := hU0
        have hw : IntKind.u32.wrap n = U := by rw [hU]; simp [IntKind.wrap, IntKind.signed, IntKind.bits]
        have hw2 : n % 4294967296 = U := hU.symm
        have HS := Lib.hid hs
        have HU := Lib.hid hU
        clear hok hs hU
        go_enter Tryd.func4, Tryd.ntmps4
        go_wp2_with fail
        refine (c_Check 25 d 0 0 0 _ (by omega) (by omega) (by omega) (by omega) (by omega)).mono ?_
        rw [hc1, errI_yes]
        rintro e w1 ⟨rfl, hb1⟩
        have HB1 := Lib.hid hb1
        clear hb1
        go_wp2_with fail
        refine (c_Check 25 d 0 0 n _ (by omega) (by omega) (by omega) (by omega) (by omega)).mono ?_
        rw [hc2, errI_no]
        rintro e w2 ⟨rfl, hb2⟩
        have HB2 : Hid (Below w.heap.size w w2) := below_on (HB1.out.alloc HB1.out.size _) hb2 (HB1.out.alloc HB1.out.size _).size
        clear hb2
        by_cases hz : U % 65536 = 0
        · have hz2 : (U % 65536 == 0) = true := by simp [hz]
          have HV : Hid (conV d n = insV 26 d 0 (U / 65536) ∧ conN d n = 1) := by show _ ∧ _; unfold conV conN; rw [if_neg HS.out, if_neg HS.out, ← HU.out, if_pos hz, if_pos hz]; exact ⟨rfl, rfl⟩
          go_wp2_with fail
          go_ret2
          refine ⟨.inr ⟨HOk.out, _, rfl, ?_⟩, HB2.out.alloc HB2.out.size _⟩
          rw [HV.out.1, HV.out.2]
          exact row_full w2 _ HB2.out.size _ _ _ _ _
        · have hz2 : (U % 65536 == 0) = false := by simp [hz]
          have HV : Hid (conV d n = insV 26 d 0 (U / 65536) ++ insV 20 d d (U % 65536) ∧ conN d n = 2) := by show _ ∧ _; unfold conV conN; rw [if_neg HS.out, if_neg HS.out, ← HU.out, if_neg hz, if_neg hz]; exact ⟨rfl, rfl⟩
          obtain ⟨i0, hi, hz0, hz1, hz3⟩ := info_parts infoIn
          go_wp2_with (at_builtin; refine wpList_append_own _ rfl _ _ 23 rfl w.heap.size 29 i0 (.agg #[.int .i64 0, .int .i64 0, .int .i64 0, .int .i64 0, .int .i64 0]) 5 40 Tryd.underlying23 hi hz0 hz1 hz3 rfl (by decide) (.slice (some ⟨w2.heap.size, 0, none⟩) 1 1) 1 (insV 26 d 0 (U / 65536)) rfl ((row_full w2 _ HB2.out.size _ _ _ _ _).alloc _) ⟨w2.heap.size + 1, 0, none⟩ 1 1 (insV 20 d d (U % 65536)) rfl rfl (news2 w2 _ _ _ _ _ _) (insV_one _ _ _ _) (by decide) (by decide) ?c5 ?_)
          case c5 => have := HB2.out.size; simp; omega
          intro v' w3 hown hgrow _
          have HB3 : Hid (Below w.heap.size w w3) := below_grown ((HB2.out.alloc HB2.out.size _).alloc (HB2.out.alloc HB2.out.size _).size _) ((HB2.out.alloc HB2.out.size _).alloc (HB2.out.alloc HB2.out.size _).size _).size hgrow (own_ge HB2.out.size)
          have HRow := Lib.hid hown
          clear hown hgrow
          go_wp2_with fail
          go_ret2
          refine ⟨.inr ⟨HOk.out, _, rfl, ?_⟩, HB3.out⟩
          rw [HV.out.1, HV.out.2]
          exact HRow.out
    · have hok : ¬ conOk d n := fun h => hn h.2
      have HOk := Lib.hid hok
      have HNn := Lib.hid hn
      obtain ⟨hd0, hd1⟩ := hd
      clear hok
      by_cases h1 : n < -2147483648
      · clear hn
        go_enter Tryd.func4, Tryd.ntmps4
        go_wp2_with fail
        refine (c_Check 25 d 0 0 0 _ (by omega) (by omega) (by omega) (by omega) (by omega)).mono ?_
        rw [hc1, errI_yes]
        rintro e w1 ⟨rfl, hb1⟩
        go_wp2_with fail
        go_ret2
        exact ⟨.inl ⟨HOk.out, rfl⟩, hb1⟩
      · have h2 : 4294967295 < n := by omega
        clear hn
        go_enter Tryd.func4, Tryd.ntmps4
        go_wp2_with fail
        refine (c_Check 25 d 0 0 0 _ (by omega) (by omega) (by omega) (by omega) (by omega)).mono ?_
        rw [hc1, errI_yes]
        rintro e w1 ⟨rfl, hb1⟩
        go_wp2_with fail
        go_ret2
        exact ⟨.inl ⟨HOk.out, rfl⟩, hb1⟩
  · have hok : ¬ conOk d n := fun h => hd h.1
    have HOk := Lib.hid hok
    have hc1 : chkB 25 d 0 0 0 = false := by rw [chk_li]; simp; omega
    clear hok hd
    go_enter Tryd.func4, Tryd.ntmps4
    go_wp2_with fail
    refine (c_Check 25 d 0 0 0 _ (by omega) (by omega) (by omega) (by omega) (by omega)).mono ?_
    rw [hc1, errI_no]
    rintro e w1 ⟨rfl, hb1⟩
    go_wp2_with fail
    go_ret2
    exact ⟨.inl ⟨HOk.out, rfl⟩, hb1⟩
set_option maxHeartbeats 2000000 in
theorem c_rConst (d n : Int) (w : World) (d0 : -9223372036854775808 ≤ d) (d1 : d ≤ 9223372036854775807) (n0 : -9223372036854775808 ≤ n) (n1 : n ≤ 9223372036854775807) :
    Calls Tryd.prog 5 #[.int .i64 d, .int .i64 n] w fun e w' => ConIs w w' d n e := by
  by_cases hok : conOk d n
  · have HOk := Lib.hid hok
    obtain ⟨⟨hd0, hd1⟩, hn0, hn1⟩ := hok
    by_cases hs : -32768 ≤ n ∧ n ≤ 32767
    · have HV : Hid (conV d n = insV 25 d 0 n ∧ conN d n = 1) := by show _ ∧ _; unfold conV conN; rw [if_pos hs, if_pos hs]; exact ⟨rfl, rfl⟩
      obtain ⟨hs0, hs1⟩ := hs
      go_enter Tryd.func5, Tryd.ntmps5
      go_wp2_with fail
      go_ret2
      refine ⟨.inr ⟨HOk.out, _, rfl, ?_⟩, below_new w _⟩
      rw [HV.out.1, HV.out.2]
      exact row_full w _ (Nat.le_refl _) _ _ _ _ _
    · obtain ⟨U, hU⟩ : ∃ U, U = n % 4294967296 := ⟨_, rfl⟩
      have hU0 : 0 ≤ U ∧ U ≤ 4294967295 := by omega
      obtain ⟨hU0, hU1⟩ := hU0
      have hw : IntKind.u32.wrap n = U := by rw [hU]; simp [IntKind.wrap, IntKind.signed, IntKind.bits]
      have hw2 : n % 4294967296 = U := hU.symm
      have HS := Lib.hid hs
      have HU := Lib.hid hU
      have HB2 : Hid (Below w.heap.size w w) := Below.refl _ _
      have hlo : n < -32768 ∨ 32767 < n := by omega
      clear hs hU
      rcases hlo with hlo | hlo
      all_goals
        by_cases hz : U % 65536 = 0
        · have hz2 : (U % 65536 == 0) = true := by simp [hz]
          have HV : Hid (conV d n = insV 26 d 0 (U / 65536) ∧ conN d n = 1) := by show _ ∧ _; unfold conV conN; rw [if_neg HS.out, if_neg HS.out, ← HU.out, if_pos hz, if_pos hz]; exact ⟨rfl, rfl⟩
          go_enter Tryd.func5, Tryd.ntmps5
          go_wp2_with fail
          go_ret2
          refine ⟨.inr ⟨HOk.out, _, rfl, ?_⟩, below_new w _⟩
          rw [HV.out.1, HV.out.2]
          exact row_full w _ (Nat.le_refl _) _ _ _ _ _
        · have hz2 : (U % 65536 == 0) = false := by simp [hz]
          have HV : Hid (conV d n = insV 26 d 0 (U / 65536) ++ insV 20 d d (U % 65536) ∧ conN d n = 2) := by show _ ∧ _; unfold conV conN; rw [if_neg HS.out, if_neg HS.out, ← HU.out, if_neg hz, if_neg hz]; exact ⟨rfl, rfl⟩
          obtain ⟨i0, hi, hz0, hz1, hz3⟩ := info_parts infoIn
          go_enter Tryd.func5, Tryd.ntmps5
          go_wp2_with (at_builtin; refine wpList_append_own _ rfl _ _ 23 rfl w.heap.size 29 i0 (.agg #[.int .i64 0, .int .i64 0, .int .i64 0, .int .i64 0, .int .i64 0]) 5 40 Tryd.underlying23 hi hz0 hz1 hz3 rfl (by decide) (.slice (some ⟨w.heap.size, 0, none⟩) 1 1) 1 (insV 26 d 0 (U / 65536)) rfl ((row_full w _ HB2.out.size _ _ _ _ _).alloc _) ⟨w.heap.size + 1, 0, none⟩ 1 1 (insV 20 d d (U % 65536)) rfl rfl (news2 w _ _ _ _ _ _) (insV_one _ _ _ _) (by decide) (by decide) ?c5 ?_)
          case c5 => have := HB2.out.size; simp; omega
          intro v' w3 hown hgrow _
          have HB3 : Hid (Below w.heap.size w w3) := below_grown ((HB2.out.alloc HB2.out.size _).alloc (HB2.out.alloc HB2.out.size _).size _) ((HB2.out.alloc HB2.out.size _).alloc (HB2.out.alloc HB2.out.size _).size _).size hgrow (own_ge HB2.out.size)
          have HRow := Lib.hid hown
          clear hown hgrow
          go_wp2_with fail
          go_ret2
          refine ⟨.inr ⟨HOk.out, _, rfl, ?_⟩, HB3.out⟩
          rw [HV.out.1, HV.out.2]
          exact HRow.out
  · have HOk := Lib.hid hok
    have hbad : (d < 0 ∨ 15 < d) ∨ ((0 ≤ d ∧ d ≤ 15) ∧ (n < -2147483648 ∨ 4294967295 < n)) := by unfold conOk at hok; omega
    clear hok
    rcases hbad with (h | h) | ⟨⟨h1, h2⟩, h | h⟩
    all_goals
      go_enter Tryd.func5, Tryd.ntmps5
      go_wp2_with fail
      go_ret2
      exact ⟨.inl ⟨HOk.out, rfl⟩, Below.refl _ _⟩
end Go.Proofs.YthekokjmdjokgaaDoor
