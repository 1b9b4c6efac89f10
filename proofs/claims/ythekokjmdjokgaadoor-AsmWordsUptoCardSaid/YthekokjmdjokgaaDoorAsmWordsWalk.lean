/-
  The walk of the law on symbols, constants and lines.
-/
import Derived.Test.YthekokjmdjokgaaDoorAsmLines
import Derived.Laws.StructEq
namespace Go.Proofs.YthekokjmdjokgaaDoor
set_option linter.unusedVariables false
set_option linter.unusedSimpArgs false
set_option maxRecDepth 100000
open Go.ChangeShapes Go.WideShapes Go.ChangeAt Go.RowKit

theorem ne_instr (a b c d e : Int) (w : World) : (binOp .neq 29 (.agg #[.int .i64 a, .int .i64 b, .int .i64 c, .int .i64 d, .int .i64 e]) (.agg #[.int .i64 a, .int .i64 b, .int .i64 c, .int .i64 d, .int .i64 e])).run Tryd.prog w = .ok (.bool false) w := by
  have u3 := Tryd.underlying3
  have a3 := Tryd.isAgg3
  have z3 := Tryd.sizeOf3
  have hS : Tryd.prog.underlying 29 = some (.struct (Tryd.prog.fieldsOf 29)) := by kernel_rfl
  have hp : Tryd.prog.stoodInHeld 29 = false := by kernel_rfl
  rw [run_neq_struct, show (10000 : Nat) = 9999 + 1 from rfl, run_equalIn_agg w 9999 29 _ _ hS hp]
  simp only [Program.fieldsOf, Tryd.underlying29]
  go_simp
/-- A row of instructions, cell by cell. -/
def InsIn (w : World) (v : Value) (d n : Int) : Prop :=
  ∃ g cap, v = .slice (some ⟨g, 0, none⟩) (conN d n) cap ∧ conN d n ≤ cap ∧ ∀ i, i < conN d n → ∃ o d' a m : Int, (conV d n)[i * 5]? = some (.int .i64 o) ∧ (conV d n)[i * 5 + 1]? = some (.int .i64 d') ∧ (conV d n)[i * 5 + 2]? = some (.int .i64 a) ∧ (conV d n)[i * 5 + 3]? = some (.int .i64 0) ∧ (conV d n)[i * 5 + 4]? = some (.int .i64 m) ∧
    w.cell? ⟨g, i * 5, none⟩ = some (.int .i64 o) ∧ w.cell? ⟨g, i * 5 + 1, none⟩ = some (.int .i64 d') ∧ w.cell? ⟨g, i * 5 + 2, none⟩ = some (.int .i64 a) ∧ w.cell? ⟨g, i * 5 + 3, none⟩ = some (.int .i64 0) ∧ w.cell? ⟨g, i * 5 + 4, none⟩ = some (.int .i64 m)
theorem conN_bd (d n : Int) : 1 ≤ conN d n ∧ conN d n ≤ 2 := by unfold conN; split <;> (try split) <;> omega
theorem con_at (d n : Int) (i : Nat) (hi : i < conN d n) : ∃ o d' a m : Int, (conV d n)[i * 5]? = some (.int .i64 o) ∧ (conV d n)[i * 5 + 1]? = some (.int .i64 d') ∧ (conV d n)[i * 5 + 2]? = some (.int .i64 a) ∧ (conV d n)[i * 5 + 3]? = some (.int .i64 0) ∧ (conV d n)[i * 5 + 4]? = some (.int .i64 m) := by
  unfold conN at hi
  unfold conV
  split at hi
  · rename_i h
    obtain rfl : i = 0 := by omega
    rw [if_pos h]
    exact ⟨_, _, _, _, rfl, rfl, rfl, rfl, rfl⟩
  · rename_i h
    rw [if_neg h]
    split at hi
    · rename_i h2
      obtain rfl : i = 0 := by omega
      rw [if_pos h2]
      exact ⟨_, _, _, _, rfl, rfl, rfl, rfl, rfl⟩
    · rename_i h2
      rw [if_neg h2]
      have : i = 0 ∨ i = 1 := by omega
      rcases this with rfl | rfl
      · exact ⟨_, _, _, _, rfl, rfl, rfl, rfl, rfl⟩
      · exact ⟨_, _, _, _, rfl, rfl, rfl, rfl, rfl⟩
theorem row_ins {w : World} {base : Nat} {v : Value} {d n : Int} (h : w.ownsRow base 29 5 v (conN d n) (conV d n)) : InsIn w v d n := by
  have hb := conN_bd d n
  have h0 := h
  rcases h.2 with ⟨_, hn⟩ | ⟨g, cap, cur, rfl, hg, hh, hle, _⟩
  · omega
  · refine ⟨g, cap, rfl, hle, fun i hi => ?_⟩
    obtain ⟨o, d', a, m, e0, e1, e2, e3, e4⟩ := con_at d n i hi
    have hc := fun k (hk : k < conN d n * 5) => h0.cellAt k hk
    exact ⟨o, d', a, m, e0, e1, e2, e3, e4, (hc _ (by omega)).trans e0, (hc _ (by omega)).trans e1, (hc _ (by omega)).trans e2, (hc _ (by omega)).trans e3, (hc _ (by omega)).trans e4⟩
theorem InsIn.next {w w' : World} {v : Value} {d n : Int} (h : InsIn w v d n) (hb : Below w.heap.size w w') : InsIn w' v d n := by
  obtain ⟨g, cap, rfl, h1, h2⟩ := h
  refine ⟨g, cap, rfl, h1, fun i hi => ?_⟩
  obtain ⟨o, d', a, m, e0, e1, e2, e3, e4, c0, c1, c2, c3, c4⟩ := h2 i hi
  exact ⟨o, d', a, m, e0, e1, e2, e3, e4, (hb.cell (cell_lt c0)).trans c0, (hb.cell (cell_lt c1)).trans c1, (hb.cell (cell_lt c2)).trans c2, (hb.cell (cell_lt c3)).trans c3, (hb.cell (cell_lt c4)).trans c4⟩
set_option maxHeartbeats 8000000 in
theorem words_walk (s : List UInt8) (d n : Int) (a : Option Addr) (k cap : Nat) (L : List (List UInt8)) (w : World) (hm : s.length ≤ maxLen) (hg : GW w) (d0 : -9223372036854775808 ≤ d) (d1 : d ≤ 9223372036854775807) (n0 : -9223372036854775808 ≤ n) (n1 : n ≤ 9223372036854775807)
    (hn : L.length = k) (hc : k ≤ cap) (hS : StrIn w a L) (hA : a = none → cap = 0) (hb : (linL L).length ≤ 4194304) :
    Calls Tryd.prog 3 #[.string ⟨s.toArray⟩, .int .i64 d, .int .i64 n, .slice a k cap] w fun e w' => e = .returned (.bool true) ∧ Below w.heap.size w w' := by
  have hll := linL_len L
  have hk4 : k ≤ 4194304 := by omega
  have HM := Lib.hid hm
  have HG := Lib.hid hg
  have HN := Lib.hid hn
  have HS := Lib.hid hS
  have HA := Lib.hid hA
  have HB := Lib.hid hb
  clear hm hg hn hS hA hb hll
  go_enter Tryd.func3, Tryd.ntmps3
  go_wp2_with fail
  refine (c_Const d n _ d0 d1 n0 n1).mono ?_
  rintro e w1 ⟨hcon, hb1⟩
  have HB1 := Lib.hid hb1
  rcases hcon with ⟨hno, rfl⟩ | ⟨hok, v, rfl, hrow⟩
  · have HNo := Lib.hid hno
    clear hno hb1
    go_wp2_with fail
    refine (c_rConst d n _ d0 d1 n0 n1).mono ?_
    rintro e w2 ⟨hcon, hb2⟩
    have HB2 : Hid (Below w.heap.size w w2) := below_on HB1.out hb2 HB1.out.size
    rcases hcon with ⟨_, rfl⟩ | ⟨hok, _⟩
    · clear hb2
      go_wp2_with fail
      refine (c_IsSymbol s _ HM.out (HG.out.next HB2.out rfl)).mono ?_
      rintro e w3 ⟨rfl, hb3⟩
      have HB3 : Hid (Below w.heap.size w w3) := below_on HB2.out hb3 HB2.out.size
      clear hb3
      go_wp2_with fail
      refine (c_rIsSymbol s _ HM.out).mono ?_
      rintro e w4 ⟨rfl, hb4⟩
      have HB4 : Hid (Below w.heap.size w w4) := below_on HB3.out hb4 HB3.out.size
      clear hb4
      go_wp2_with fail
      go_loopw [13] (fun i wr => i = .int .i64 0 ∧ Hid (Below w.heap.size w wr)) (fun _ _ => 1)
      case atStart => exact ⟨rfl, HB4⟩
      case round =>
        obtain ⟨rfl, HBr⟩ := hrel
        go_wp2_with fail
        refine (c_Texts a k cap L _ HN.out hc (HS.out.next HBr.out) hk4 HA.out).mono ?_
        rintro e wt ⟨vt, rfl, hrt, hbt⟩
        obtain ⟨at', capt, rfl, hct, hst⟩ := row_strIn hrt
        have HBt : Hid (Below w.heap.size w wt) := below_on HBr.out hbt HBr.out.size
        have HSt := Lib.hid hst
        rw [HN.out] at hct ⊢
        clear hrt hbt hst
        go_wp2_with fail
        refine (c_Lines at' k capt L _ HN.out hct HSt.out HB.out).mono ?_
        rintro e wu ⟨rfl, hbu⟩
        have HBu : Hid (Below w.heap.size w wu) := below_on HBt.out hbu HBt.out.size
        have HSu : Hid (StrIn wu at' L) := HSt.out.next hbu
        clear hbu
        go_wp2_with fail
        refine (c_rLines a k cap L _ HN.out hc (HS.out.next HBu.out) HB.out).mono ?_
        rintro e wv ⟨rfl, hbv⟩
        have HBv : Hid (Below w.heap.size w wv) := below_on HBu.out hbv HBu.out.size
        have HSv : Hid (StrIn wv at' L) := HSu.out.next hbv
        clear hbv
        go_wp2_with fail
        refine (c_SameTexts at' a k capt cap L _ HN.out hct hc HSv.out (HS.out.next HBv.out) hk4).mono ?_
        rintro e wz ⟨rfl, hbz⟩
        have HBz : Hid (Below w.heap.size w wz) := below_on HBv.out hbz HBv.out.size
        clear hbz
        go_wp2_with fail
        go_ret
        exact ⟨ret_b (by simp), HBz.out⟩
    · exact absurd hok HNo.out
  · have HOk := Lib.hid hok
    have HR1 : Hid (InsIn w1 v d n) := row_ins hrow
    clear hok hrow hb1
    go_wp2_with fail
    refine (c_rConst d n _ d0 d1 n0 n1).mono ?_
    rintro e w2 ⟨hcon, hb2⟩
    have HB2 : Hid (Below w.heap.size w w2) := below_on HB1.out hb2 HB1.out.size
    rcases hcon with ⟨hno, _⟩ | ⟨_, v2, rfl, hrow2⟩
    · exact absurd HOk.out hno
    · have HR2 : Hid (InsIn w2 v2 d n) := row_ins hrow2
      have HR1b : Hid (InsIn w2 v d n) := HR1.out.next hb2
      obtain ⟨g, capa, rfl, hca, _⟩ := HR1b.out
      obtain ⟨g2, capb, rfl, hcb, _⟩ := HR2.out
      have hcn := conN_bd d n
      obtain ⟨hcn0, hcn1⟩ := hcn
      clear hb2 hrow2
      go_wp2_with fail
      refine (c_IsSymbol s _ HM.out (HG.out.next HB2.out rfl)).mono ?_
      rintro e w3 ⟨rfl, hb3⟩
      have HB3 : Hid (Below w.heap.size w w3) := below_on HB2.out hb3 HB2.out.size
      have HA3 : Hid (InsIn w3 (.slice (some ⟨g, 0, none⟩) (conN d n) capa) d n ∧ InsIn w3 (.slice (some ⟨g2, 0, none⟩) (conN d n) capb) d n) := ⟨HR1b.out.next hb3, HR2.out.next hb3⟩
      clear hb3
      go_wp2_with fail
      refine (c_rIsSymbol s _ HM.out).mono ?_
      rintro e w4 ⟨rfl, hb4⟩
      have HB4 : Hid (Below w.heap.size w w4) := below_on HB3.out hb4 HB3.out.size
      have HA4 : Hid (InsIn w4 (.slice (some ⟨g, 0, none⟩) (conN d n) capa) d n ∧ InsIn w4 (.slice (some ⟨g2, 0, none⟩) (conN d n) capb) d n) := ⟨HA3.out.1.next hb4, HA3.out.2.next hb4⟩
      clear hb4
      generalize hcN : conN d n = N at hca hcb hcn0 hcn1 HA4 ⊢
      have HcN := Lib.hid hcN
      clear hcN
      go_wp2_with fail
      go_loopw [13] (fun i wr => ∃ q : Nat, q ≤ N ∧ i = .int .i64 q ∧ Hid (InsIn wr (.slice (some ⟨g, 0, none⟩) N capa) d n ∧ InsIn wr (.slice (some ⟨g2, 0, none⟩) N capb) d n) ∧ Hid (Below w.heap.size w wr)) (fun i _ => N - (intOf i).toNat)
      case atStart => exact ⟨0, Nat.zero_le _, rfl, HA4, HB4⟩
      case round =>
        obtain ⟨q, hq, rfl, HAr, HBr⟩ := hrel
        by_cases hlt : q < N
        · obtain ⟨⟨ga, ca, ea, _, ha⟩, ⟨gb, cb, eb, _, hb⟩⟩ := HAr.out
          have ga' : g = ga := by injection ea with h1; injection h1 with h1; injection h1
          have gb' : g2 = gb := by injection eb with h1; injection h1 with h1; injection h1
          subst ga' gb'
          obtain ⟨o, d', a', m, e0, e1, e2, e3, e4, c0, c1, c2, c3, c4⟩ := ha q (by rw [HcN.out]; exact hlt)
          obtain ⟨o2, d2, a2, m2, f0, f1, f2, f3, f4, x0, x1, x2, x3, x4⟩ := hb q (by rw [HcN.out]; exact hlt)
          have g0 : o2 = o := by have h := f0.symm.trans e0; simpa using h
          have g1 : d2 = d' := by have h := f1.symm.trans e1; simpa using h
          have g2' : a2 = a' := by have h := f2.symm.trans e2; simpa using h
          have g4 : m2 = m := by have h := f4.symm.trans e4; simpa using h
          subst g0 g1 g2' g4
          have hne := ne_instr o2 d2 a2 0 m2
          have hq0 : (0 : Int) ≤ (q : Int) := by omega
          have hq1 : (q : Int) < (N : Int) := by omega
          clear ea eb ha hb e0 e1 e2 e3 e4 f0 f1 f2 f3 f4
          go_wp2_with fail
          go_quiet (fail)
          go_wp2_with fail
          go_roundw
          case rel => exact ⟨q + 1, by omega, by go_num, ⟨HAr.out.1.next (below_drewN (Below.refl _ _) _), HAr.out.2.next (below_drewN (Below.refl _ _) _)⟩, below_drewN HBr.out _⟩
          case measure => simp [intOf]; omega
        · have hge : decide (q < N) = false := by simp; omega
          obtain rfl : q = N := by omega
          clear hq hlt
          go_wp2_with fail
          refine (c_Texts a k cap L _ HN.out hc (HS.out.next HBr.out) hk4 HA.out).mono ?_
          rintro e wt ⟨vt, rfl, hrt, hbt⟩
          obtain ⟨at', capt, rfl, hct, hst⟩ := row_strIn hrt
          have HBt : Hid (Below w.heap.size w wt) := below_on HBr.out hbt HBr.out.size
          have HSt := Lib.hid hst
          rw [HN.out] at hct ⊢
          clear hrt hbt hst
          go_wp2_with fail
          refine (c_Lines at' k capt L _ HN.out hct HSt.out HB.out).mono ?_
          rintro e wu ⟨rfl, hbu⟩
          have HBu : Hid (Below w.heap.size w wu) := below_on HBt.out hbu HBt.out.size
          have HSu : Hid (StrIn wu at' L) := HSt.out.next hbu
          clear hbu
          go_wp2_with fail
          refine (c_rLines a k cap L _ HN.out hc (HS.out.next HBu.out) HB.out).mono ?_
          rintro e wv ⟨rfl, hbv⟩
          have HBv : Hid (Below w.heap.size w wv) := below_on HBu.out hbv HBu.out.size
          have HSv : Hid (StrIn wv at' L) := HSu.out.next hbv
          clear hbv
          go_wp2_with fail
          refine (c_SameTexts at' a k capt cap L _ HN.out hct hc HSv.out (HS.out.next HBv.out) hk4).mono ?_
          rintro e wz ⟨rfl, hbz⟩
          have HBz : Hid (Below w.heap.size w wz) := below_on HBv.out hbz HBv.out.size
          clear hbz
          go_wp2_with fail
          go_ret
          exact ⟨ret_b (by simp), HBz.out⟩
end Go.Proofs.YthekokjmdjokgaaDoor
