/-
  The walk of the law on instructions' bytes: a slice of instructions is copied, both codes are made and held against each other.
-/
import Derived.Test.YtcemghcfapblgaaDoorIsaCode2
import Derived.Test.YtcemghcfapblgaaDoorIsaFrame
import Derived.Laws.BytesArg
import Derived.Deep.QuietTactic
import Derived.BigQuiet
import Derived.Deep.Slices
import Derived.SizedLaws
namespace Go.Proofs.YtcemghcfapblgaaDoor
set_option linter.unusedVariables false
set_option linter.unusedSimpArgs false
open Go.ChangeShapes Go.WideShapes Go.ChangeAt Go.RowKit

/-! ### Texts of bytes -/
theorem conv_none (w : World) (a : Option Addr) (cap : Nat) : (convert 39 9 (.slice a 0 cap)).run Tryd.prog w = .ok (.string (strOfNums [])) w := by
  cases a with
  | none => exact run_convert_bytes_nil w 39 5 Tryd.underlying39 Tryd.underlying5 0 cap 9 Tryd.underlying9
  | some x =>
    rw [run_convert_bytes_string w 39 9 5 _ 0 cap Tryd.underlying39 Tryd.underlying5 Tryd.underlying9, run_bytesToString w x 0 cap [] (run_loadCells_list w x [] (fun j v hj => by simp at hj))]
    rfl
theorem Own.conv {w : World} {a : Option Addr} {len cap m : Nat} {ns : List Int} (h : Own w (.slice a len cap) m ns) : (convert 39 9 (.slice a len cap)).run Tryd.prog w = .ok (.string (strOfNums ns)) w := by
  obtain ⟨a', cap', hv, hn, hc⟩ := h
  cases hv
  rcases hc with h0 | ⟨b, ha, hc⟩
  · obtain rfl : ns = [] := List.length_eq_zero_iff.1 (by omega)
    subst h0
    exact conv_none w a cap
  · subst ha
    exact run_convert_bytes_arg w 39 5 Tryd.underlying39 Tryd.underlying5 b 0 len cap ns hn hc 9 Tryd.underlying9

/-! ### Instructions, one against the other -/
theorem neq_instr (a b c d e : Int) (w : World) : (binOp .neq 23 (.agg #[.int .i64 a, .int .i64 b, .int .i64 c, .int .i64 d, .int .i64 e]) (.agg #[.int .i64 a, .int .i64 b, .int .i64 c, .int .i64 d, .int .i64 e])).run Tryd.prog w = .ok (.bool false) w := by
  have u3 := Tryd.underlying3
  have a3 := Tryd.isAgg3
  have z3 := Tryd.sizeOf3
  have hS : Tryd.prog.underlying 23 = some (.struct (Tryd.prog.fieldsOf 23)) := by kernel_rfl
  have hp : Tryd.prog.stoodInHeld 23 = false := by kernel_rfl
  rw [run_neq_struct, show (10000 : Nat) = 9999 + 1 from rfl, run_equalIn_agg w 9999 23 _ _ hS hp]
  simp only [Program.fieldsOf, Tryd.underlying23]
  go_simp
theorem eq_fault (a b : Int) (w : World) : (binOp .eql 41 (.agg #[.int .i64 a, .int .i64 b]) (.agg #[.int .i64 a, .int .i64 b])).run Tryd.prog w = .ok (.bool true) w := by
  have u3 := Tryd.underlying3
  have a3 := Tryd.isAgg3
  have z3 := Tryd.sizeOf3
  have u4 := Tryd.underlying24
  have a4 := Tryd.isAgg24
  have z4 := Tryd.sizeOf24
  have hS : Tryd.prog.underlying 41 = some (.struct (Tryd.prog.fieldsOf 41)) := by kernel_rfl
  have hp : Tryd.prog.stoodInHeld 41 = false := by kernel_rfl
  rw [run_eql_struct, show (10000 : Nat) = 9999 + 1 from rfl, run_equalIn_agg w 9999 41 _ _ hS hp]
  simp only [Program.fieldsOf, Tryd.underlying41]
  go_simp

/-! ### The copy -/
theorem infoIn : (Tryd.prog.info? 23).map (fun i => (i.zero, i.size, i.bytes)) = some (some (.agg #[.int .i64 0, .int .i64 0, .int .i64 0, .int .i64 0, .int .i64 0]), 5, 40) := by kernel_rfl
@[irreducible] def rowL (X : Nat → Nat → Int) (n : Nat) : List Value := (List.range (n * 5)).map fun q => Value.int .i64 (X (q / 5) (q % 5))
theorem rowL_len (X : Nat → Nat → Int) (n : Nat) : (rowL X n).length = n * 5 := by unfold rowL; simp
theorem rowL_at (X : Nat → Nat → Int) (n q : Nat) (h : q < n * 5) : (rowL X n)[q]? = some (.int .i64 (X (q / 5) (q % 5))) := by
  unfold rowL
  rw [List.getElem?_map, List.getElem?_range h]
  rfl
theorem rowL_one (X : Nat → Nat → Int) (n : Nat) : ∀ u ∈ rowL X n, u.oneCell' = true := by
  intro u hu
  unfold rowL at hu
  obtain ⟨q, _, rfl⟩ := List.mem_map.1 hu
  rfl
theorem ins_at {w : World} {b off n : Nat} {X : Nat → Nat → Int} (h : Ins w b off n X) (i j : Nat) (hi : i < n) (hj : j < 5) : w.cell? ⟨b, off + i * 5 + j, none⟩ = some (.int .i64 (X i j)) := by
  obtain ⟨h0, h1, h2, h3, h4⟩ := h i hi
  have : j = 0 ∨ j = 1 ∨ j = 2 ∨ j = 3 ∨ j = 4 := by omega
  rcases this with rfl | rfl | rfl | rfl | rfl
  · exact h0
  · exact h1
  · exact h2
  · exact h3
  · exact h4
theorem row_in {w : World} {b off n : Nat} {X : Nat → Nat → Int} (h : Ins w b off n X) : ∀ (j : Nat) (u : Value), (rowL X n)[j]? = some u → w.cell? ((⟨b, off, none⟩ : Addr).add j) = some u := by
  intro q u hu
  have hq : q < n * 5 := by
    rcases Nat.lt_or_ge q (n * 5) with h | h
    · exact h
    · rw [List.getElem?_eq_none (by rw [rowL_len]; exact h)] at hu
      cases hu
  rw [rowL_at X n q hq] at hu
  cases hu
  have hadd : (⟨b, off, none⟩ : Addr).add q = ⟨b, off + q / 5 * 5 + q % 5, none⟩ := by
    have e : off + q / 5 * 5 + q % 5 = off + q := by omega
    rw [e]
    unfold Addr.add
    split <;> simp_all
  rw [hadd]
  exact ins_at h (q / 5) (q % 5) (by omega) (by omega)
theorem ins_of_row {w : World} {base n : Nat} {v : Value} {X : Nat → Nat → Int} (h : w.ownsRow base 23 5 v n (rowL X n)) : ∃ a cap, v = .slice a n cap ∧ InsO w a n X := by
  have h0 := h
  rcases h.2 with ⟨rfl, hn⟩ | ⟨g, cap, cur, rfl, hg, hh, hle, hcap, hsz, htake⟩
  · have : n = 0 := by
      have := rowL_len X n
      rw [hn] at this
      simp at this
      omega
    subst this
    exact ⟨none, 0, rfl, .inl rfl⟩
  · refine ⟨_, cap, rfl, ?_⟩
    by_cases hn : n = 0
    · exact .inl hn
    · refine .inr ⟨g, 0, rfl, fun i hi => ?_, (h0.lt g rfl).2⟩
      have key : ∀ j, j < 5 → w.cell? ⟨g, 0 + i * 5 + j, none⟩ = some (.int .i64 (X i j)) := by
        intro j hj
        have e : 0 + i * 5 + j = i * 5 + j := by omega
        rw [e, h0.cellAt (i * 5 + j) (by omega), rowL_at X n _ (by omega)]
        rw [show (i * 5 + j) / 5 = i by omega, show (i * 5 + j) % 5 = j by omega]
      exact ⟨key 0 (by decide), key 1 (by decide), key 2 (by decide), key 3 (by decide), key 4 (by decide)⟩
theorem wp_copy {w : World} {ops : Array Oper} {rest : List Oper} {o : Oper} {ac : Act} {Q : Exit → Act → World → Prop} (hgd : o.guard = none) (s x : Operand)
    (ho : o.op = .call { callee := .builtin .append, args := #[s, x], argTypes := #[38, 38] })
    (base : Nat) (v : Value) (hs : ac.eval s = v) (hown : w.ownsRow base 23 5 v 0 [])
    (a : Option Addr) (n c : Nat) (X : Nat → Nat → Int) (hx : ac.eval x = .slice a n c) (hX : InsO w a n X) (hnil : a = none → n = 0 ∧ c = 0) (hr : n * 40 ≤ 140737488355328) (hbase : base ≤ w.heap.size)
    (h : ∀ a' cap' w', InsO w' a' n X → w.grownBy w' v.ownBlock → wpList Tryd.prog ops Q rest (ac.put o.dst (.slice a' n cap')) w') : wpList Tryd.prog ops Q (o :: rest) ac w := by
  obtain ⟨i0, hi, hz0, hz1, hz2⟩ := info_parts infoIn
  cases a with
  | none =>
    obtain ⟨rfl, rfl⟩ := hnil rfl
    obtain ⟨a', cap', hv, hI⟩ := ins_of_row (n := 0) (X := X) (v := v) (by rw [show rowL X 0 = [] by unfold rowL; rfl]; exact hown)
    subst hv
    exact wpList_append_own_none hgd s x 38 ho base 23 i0 5 Tryd.underlying38 hi _ 0 [] hs hown hx (h _ _ _ hI (World.grownBy.refl _ _))
  | some ad =>
    refine wpList_append_own w hgd s x 38 ho base 23 i0 _ 5 40 Tryd.underlying38 hi hz0 hz1 hz2 rfl (by decide) v 0 [] hs hown ad n c (rowL X n) hx (rowL_len X n) ?_ (rowL_one X n) (by unfold maxLen; omega) (by omega) hbase ?_
    · rcases hX with h0 | ⟨b, off, he, hX, _⟩
      · subst h0
        intro j u hu
        rw [List.getElem?_eq_none (by rw [rowL_len]; omega)] at hu
        cases hu
      · cases he
        exact row_in hX
    · intro v' w' hown' hg _
      rw [Nat.zero_add, List.nil_append] at hown'
      obtain ⟨a', cap', hv, hI⟩ := ins_of_row hown'
      subst hv
      exact h _ _ _ hI hg
set_option maxRecDepth 100000 in
set_option maxHeartbeats 4000000 in
theorem codes_walk (a : Option Addr) (n cap : Nat) (X : Nat → Nat → Int) (w : World) (hg : NmH w ∧ PwH w) (hX : InsO w a n X) (hbd : ∀ i j, i < n → j < 5 → -9223372036854775808 ≤ X i j ∧ X i j ≤ 9223372036854775807) (hnil : a = none → n = 0 ∧ cap = 0) (hr : n * 40 ≤ 140737488351232) :
    Calls Tryd.prog 5 #[.slice a n cap] w fun e w' => e = .returned (.bool true) ∧ Below w.heap.size w w' := by
  obtain ⟨hn, hp⟩ := hg
  have HN := Lib.hid hn
  have HP := Lib.hid hp
  have HX := Lib.hid hX
  have HNIL := Lib.hid hnil
  have HM := Lib.hid (show n ≤ maxLen by unfold maxLen; omega)
  have HB := Lib.hid hbd
  have HR := Lib.hid hr
  clear hn hp hX hnil hbd hr
  go_enter Tryd.func5, Tryd.ntmps5
  go_wp2_with (at_builtin; refine wp_copy rfl _ _ rfl w.heap.size (.slice (some ⟨w.heap.size, 0, none⟩) 0 0) rfl (World.ownsRow_made w #[] 0 (Nat.le_refl _) (by decide) rfl) a n cap X rfl (HX.out.next (below_new w _)) HNIL.out (by have := HR.out; omega) (by simp) ?_)
  intro a1 cap1 w1 hI1 hgrow
  have hB1 : Hid (Below w.heap.size w w1) := (below_new w _).grown hgrow (by simp) (fun k hk => by simp [Value.ownBlock] at hk; omega)
  have HI1 := Lib.hid hI1
  clear hI1 hgrow
  go_wp2_with fail
  refine (c_Code a1 n cap1 X _ HM.out HI1.out HB.out).mono ?_
  rintro e w2 ⟨v2, at2, c2, rfl, hc2, hb2⟩
  have HC2 := Lib.hid hc2
  have hB2 := Lib.hid (below_on hB1.out hb2 hB1.out.size)
  have HI2 := Lib.hid (HI1.out.next hb2)
  clear hb2 hc2 HI1
  go_wp2_with fail
  have hT5 := Lib.hid ((Two.new w2 at2 c2 41))
  refine (c_rCode a n cap X _ HM.out ((HX.out.next hB2.out).next (below_new w2 _)) HB.out).mono ?_
  rintro e w3 ⟨v3, at3, c3, rfl, hc3, hb3⟩
  obtain ⟨rfl, rfl, len, ns, ho2, ho3⟩ := code_same ((HC2.out.next (below_new w2 _)).next hb3) hc3
  have hB3 := Lib.hid (below_on (below_on hB2.out (below_new w2 (.cells #[.int .i64 at3, .int .i64 c3] 41)) hB2.out.size) hb3 (by have := hB2.out.size; simp; omega))
  have HI3 := Lib.hid ((HI2.out.next (below_new w2 (.cells #[.int .i64 at3, .int .i64 c3] 41))).next hb3)
  have HT3 := Lib.hid (hT5.out.next hb3 (by simp))
  obtain ⟨p2, q2, rfl, -, -⟩ := id ho2
  obtain ⟨p3, q3, rfl, -, -⟩ := id ho3
  have HO2 := Lib.hid ho2
  have HO3 := Lib.hid ho3
  have HS : Hid (w2.heap.size < w3.heap.size) := HT3.out.lt
  clear hb3 hc3 ho2 ho3 HI2 hT5 HC2
  go_wp2_with fail
  have hW : ∀ wS, wS = w3.alloc (.cells #[.int .i64 at3, .int .i64 c3] 41) → Two wS w2.heap.size at3 c3 ∧ Two wS w3.heap.size at3 c3 ∧ InsO wS a n X ∧ InsO wS a1 n X ∧ Own wS (.slice p2 len q2) len ns ∧ Own wS (.slice p3 len q3) len ns ∧ Below w.heap.size w wS := by
    rintro wS rfl
    exact ⟨HT3.out.alloc _, Two.new _ _ _ _, ((HX.out.next hB3.out).next (below_new _ _)), HI3.out.next (below_new _ _), HO2.out.next (below_new _ _), HO3.out.next (below_new _ _), hB3.out.alloc hB3.out.size _⟩
  have HW := Lib.hid hW
  clear hW HI3 HT3 HO2 HO3 HX
  generalize hwS : w3.alloc (.cells #[.int .i64 at3, .int .i64 c3] 41) = wS
  have HW2 := Lib.hid (HW.out wS hwS.symm)
  clear HW hwS
  generalize w2.heap.size = g5 at *
  generalize w3.heap.size = g7 at *
  have hneq := neq_instr
  go_loopw [24] (fun i wr => ∃ k : Nat, k ≤ n ∧ i = .int .i64 k ∧ Hid (Below wS.heap.size wS wr)) (fun i _ => n - (intOf i).toNat)
  case atStart => exact ⟨0, Nat.zero_le _, rfl, Below.refl _ _⟩
  case round =>
    obtain ⟨k, hk, rfl, hbr⟩ := hrel
    by_cases hlt : k < n
    · have HX1 := HW2.out.2.2.1.next hbr.out
      have HX2 := HW2.out.2.2.2.1.next hbr.out
      rcases HX1 with h0 | ⟨b, off, rfl, hX1, _⟩
      · omega
      · rcases HX2 with h0 | ⟨b', off', rfl, hX2, _⟩
        · omega
        · obtain ⟨x0, x1, x2, x3, x4⟩ := hX1 k hlt
          obtain ⟨y0, y1, y2, y3, y4⟩ := hX2 k hlt
          have hml : n ≤ 9223372036854775807 := HM.out
          clear hX1 hX2
          go_wp2_with fail
          go_quiet (fail)
          go_wp2_with fail
          go_roundw
          case rel => exact ⟨k + 1, by omega, by go_num, below_drewN hbr.out _⟩
          case measure => simp [intOf]; omega
    · have hge : decide (k < n) = false := by simp; omega
      clear hk hlt hneq
      have ⟨t0, t1, tf⟩ := HW2.out.1.next hbr.out HW2.out.1.lt
      have ⟨s0, s1, sf⟩ := HW2.out.2.1.next hbr.out HW2.out.2.1.lt
      have hcv2 := (HW2.out.2.2.2.2.1.next hbr.out).conv
      have hcv3 := (HW2.out.2.2.2.2.2.1.next hbr.out).conv
      have hef := eq_fault
      have hBr := Lib.hid (below_on HW2.out.2.2.2.2.2.2 hbr.out HW2.out.2.2.2.2.2.2.size)
      go_wp2_with fail
      refine (c_works _ (HN.out.next hBr.out rfl) (HP.out.next hBr.out rfl)).mono ?_
      rintro e w9 ⟨rfl, hb9⟩
      have hB9 := Lib.hid (below_on hBr.out hb9 hBr.out.size)
      clear hb9
      go_wp2_with fail
      go_ret
      exact ⟨rfl, hB9.out⟩
end Go.Proofs.YtcemghcfapblgaaDoor
