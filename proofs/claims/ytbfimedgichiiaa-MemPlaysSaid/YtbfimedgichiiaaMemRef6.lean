/-
  The document's memory: Fill.
-/
import Derived.Test.YtbfimedgichiiaaMemRef3
import Derived.Laws.AppendOwn
import Derived.Laws.AppendOwnNone
namespace Go.Proofs.Ytbfimedgichiiaa
set_option linter.unusedVariables false
set_option linter.unusedSimpArgs false
set_option maxRecDepth 100000
open Go.ChangeShapes Go.WideShapes Go.ChangeAt Go.RowKit

theorem c_rBytes (a : Int) (w : World) (h0 : 0 ≤ a) (h1 : a ≤ 4294967295) :
    Calls Try.prog 63 #[.int .u32 a] w fun e w' => e = .returned (.slice (some ⟨w.heap.size, 0, none⟩) 4 4) ∧ w' = w.alloc (.cells #[.int .u8 (a % 256), .int .u8 (a / 256 % 256), .int .u8 (a / 65536 % 256), .int .u8 (a / 16777216)] 5) := by
  go_enter Try.func63, Try.ntmps63
  go_wp2
  go_ret
  exact ⟨rfl, rfl⟩
/-- Bytes behind a store of the first n bytes of v at a place of row j. -/
def stR (c : Nat → Nat → Int) (j x n : Nat) (v : Int) : Nat → Nat → Int := fun i y => if i = j ∧ x ≤ y ∧ y < x + n then byOf v (y - x) else c i y
theorem stR_zero (c : Nat → Nat → Int) (j x : Nat) (v : Int) : stR c j x 0 v = c := by
  funext i y
  unfold stR
  rw [if_neg (by omega)]
/-- A row of bytes is written to. -/
theorem RN.store {w : World} {q gy gN nb : Nat} {R : Nat → Rg} {rn : Nat → Nat} {c : Nat → Nat → Int} {j x k : Nat} {v : Int} (h : RN w q gy gN nb R rn (stR c j x k v)) (hj : j < nb) (hx : ((x + k : Nat) : Int) < (R j).sz) (hv : 0 ≤ v ∧ v ≤ 4294967295)
    (h1 : rn j ≠ gy) (h2 : rn j ≠ gN) (h3 : ∀ i, i < nb → i ≠ j → rn i ≠ rn j) : RN (w.setCell ⟨rn j, x + k, none⟩ (.int .u8 (byOf v k))) q gy gN nb R rn (stR c j x (k + 1) v) := by
  obtain ⟨⟨aN, cN, k1, k2⟩, k3⟩ := h
  have far : ∀ b o, b ≠ rn j → (w.setCell ⟨rn j, x + k, none⟩ (.int .u8 (byOf v k))).cell? ⟨b, o, none⟩ = w.cell? ⟨b, o, none⟩ := fun b o hb => World.cell?_setCell_other _ _ _ _ (fun e => hb (by injection e with e; exact e.symm))
  refine ⟨⟨aN, cN, (far _ _ h1.symm).trans k1, k2⟩, fun i hi => ?_⟩
  obtain ⟨a, cap, l1, l2, l3, l4⟩ := k3 i hi
  refine ⟨a, cap, (far _ _ h2.symm).trans l1, l2, l3, fun y hy => ?_⟩
  obtain ⟨m1, m2⟩ := l4 y hy
  by_cases e : i = j
  · subst e
    by_cases ey : y = x + k
    · subst ey
      have : stR c i x (k + 1) v i (x + k) = byOf v k := by
        unfold stR
        rw [if_pos ⟨rfl, by omega, by omega⟩]
        congr 1
        omega
      rw [this, World.cell?_setCell_same _ _ _ m1]
      exact ⟨rfl, byOf_bd v hv.1 hv.2 k⟩
    · have : stR c i x (k + 1) v i y = stR c i x k v i y := by
        unfold stR
        by_cases e2 : i = i ∧ x ≤ y ∧ y < x + k
        · rw [if_pos e2, if_pos ⟨rfl, e2.2.1, by omega⟩]
        · rw [if_neg e2, if_neg (by omega)]
      rw [this, World.cell?_setCell_other _ _ _ _ (fun e => ey (by injection e with _ e; exact e.symm))]
      exact ⟨m1, m2⟩
  · have : stR c j x (k + 1) v i y = stR c j x k v i y := by
      unfold stR
      rw [if_neg (by omega), if_neg (by omega)]
    rw [this, far _ _ (h3 i hi e)]
    exact ⟨m1, m2⟩
set_option maxHeartbeats 4000000 in
theorem c_rStore (gy gl gN nb : Nat) (R : Nat → Rg) (rn : Nat → Nat) (c : Nat → Nat → Int) (a n v : Int) (w : World) (hL : RL w gy gl nb R) (hN : RN w 1 gy gN nb R rn c) (hnb : nb ≤ 16) (hok : okTo R nb = true) (a0 : 0 ≤ a) (a1 : a ≤ 4294967295) (v0 : 0 ≤ v) (v1 : v ≤ 4294967295)
    (hap : ∀ i, i < nb → rn i ≠ gy ∧ rn i ≠ gl ∧ rn i ≠ gN ∧ rn i < w.heap.size ∧ (∀ k, w.frozen? ⟨rn i, k, none⟩ = false) ∧ ∀ i', i' < nb → i' ≠ i → rn i' ≠ rn i) :
    Calls Try.prog 34 #[.pointer (some ⟨gy, 0, none⟩), .int .u32 a, .int .i64 n, .int .u32 v] w fun e w' => ∃ k, e = .returned (.int .i64 k) ∧
      ((k ≠ 0 ∧ Below w.heap.size w w' ∧ (AccNo nb R a n k ∨ k = 32 ∧ ∃ j, AccOk nb R a n j ∧ (R j).wr = false)) ∨
       (k = 0 ∧ ∃ j, AccOk nb R a n j ∧ (R j).wr = true ∧ RN w' 1 gy gN nb R rn (stR c j (a - (R j).fr).toNat n.toNat v) ∧ Fr (fun b => b = rn j) w w' ∧ ∀ o, w'.frozen? ⟨rn j, o, none⟩ = false)) := by
  have HN := Lib.hid hN
  have HOk := Lib.hid hok
  have HL := Lib.hid hL
  have HAp := Lib.hid hap
  clear hL hN hok hap
  go_enter Try.func34, Try.ntmps34
  go_wp2_with fail
  refine (c_rAccess gy gl nb R a n _ HL.out hnb HOk.out a0 a1).mono ?_
  rintro e w1 ⟨i, k, c0, rfl, hacc, hb1⟩
  have HB1 := Lib.hid hb1
  rcases hacc with ⟨rfl, j, hA, rfl, rfl⟩ | ⟨hne, hA⟩
  · have HA := Lib.hid hA
    have hj := hA.2.2.1
    obtain ⟨⟨aL, cL, h1, h2⟩, h3⟩ := HL.out.next hb1
    obtain rfl := h2 (by omega)
    obtain ⟨x0, x1, x2, x3, x4⟩ := h3 j hj
    rw [Nat.zero_add] at x0 x1 x2 x3 x4
    have hj0 : (0 : Int) ≤ (j : Int) := by omega
    have hj1 : (j : Int) < (nb : Int) := by omega
    have HN1 := Lib.hid (HN.out.next hb1)
    have hn := hA.1
    have hh := hold_of hA.2.2.2
    have hrg := rg_bd (okTo_rg HOk.out j hj)
    clear h3 hb1 hA x0 x1 x2 x4
    cases hwr : (R j).wr
    · have HWr := Lib.hid hwr
      rw [hwr] at x3
      clear hwr hh hrg
      go_wp2_with fail
      go_ret
      exact ⟨_, rfl, .inl ⟨by decide, HB1.out, .inr ⟨rfl, j, HA.out, HWr.out⟩⟩⟩
    · have HWr := Lib.hid hwr
      rw [hwr] at x3
      clear hwr
      go_wp2_with fail
      refine (c_rBytes v _ v0 v1).mono ?_
      rintro e w2 ⟨rfl, hw2⟩
      have hB2 : Below w1.heap.size w1 w2 := by rw [hw2]; exact below_new w1 _
      have HBy : Hid (∀ k : Nat, k < 4 → w2.cell? ⟨w1.heap.size, k, none⟩ = some (.int .u8 (byOf v k))) := by
        intro k hk
        rw [hw2]
        rcases k with _ | _ | _ | _ | k
        · simp [go_sem, byOf]
        · simp [go_sem, byOf]
        · simp [go_sem, byOf]
        · simp [go_sem, byOf]
        · omega
      obtain ⟨x, hx⟩ : ∃ x : Nat, a - (R j).fr = x := ⟨(a - (R j).fr).toNat, by omega⟩
      have hxt : (a - (R j).fr).toNat = x := by omega
      obtain ⟨m, hm⟩ : ∃ m : Nat, n = m := ⟨n.toNat, by omega⟩
      have hm4 : m ≤ 4 := by omega
      have hxm : ((x + m : Nat) : Int) ≤ (R j).sz := by omega
      have hb16 : (x : Int) + 4 ≤ 16777220 := by omega
      have HAj := Lib.hid (HAp.out j hj)
      have HN2 : Hid (RN w2 1 gy gN nb R rn (stR c j x 0 v)) := by rw [stR_zero]; exact HN1.out.next hB2
      have HXt := Lib.hid hxt
      have HF2 : Hid (Fr (fun b => b = rn j) w w2) := (Fr.of_below HB1.out).trans (Fr.of_below hB2)
      have HS2 : Hid (w1.heap.size < w2.heap.size ∧ w.heap.size ≤ w1.heap.size) := ⟨by rw [hw2]; simp, HB1.out.size⟩
      have HFz : Hid (∀ o, w2.frozen? ⟨rn j, o, none⟩ = false) := fun o => by
        have h1 := HAj.out.2.2.2.1
        have h2 := HAj.out.2.2.2.2.1 o
        have hb : Below w.heap.size w w2 := below_on HB1.out hB2 HB1.out.size
        exact (hb.frozen (p := ⟨rn j, o, none⟩) h1).trans h2
      rw [hx]
      subst hm
      clear hw2 hB2 hx hxt hrg hh hn x3
      generalize hgb : w1.heap.size = gb at HBy HS2 ⊢
      go_wp2_with fail
      go_loopw [13] (fun i wr => ∃ k : Nat, k ≤ m ∧ i = .int .i64 k ∧ Hid (RN wr 1 gy gN nb R rn (stR c j x k v)) ∧ Hid (Fr (fun b => b = rn j) w wr) ∧ Hid (Fr (fun b => b = rn j) w2 wr) ∧ Hid (∀ o, wr.frozen? ⟨rn j, o, none⟩ = false)) (fun i _ => m - (intOf i).toNat)
      case atStart => exact ⟨0, Nat.zero_le _, rfl, HN2, HF2, Fr.refl _ _, HFz⟩
      case round =>
        obtain ⟨k, hk, rfl, HNr, HFr, HF3, HFzr⟩ := hrel
        by_cases hlt : k < m
        · obtain ⟨⟨aN, cN, y1, y2⟩, y3⟩ := HNr.out
          obtain rfl := y2 (by omega)
          obtain ⟨ar, cap, z1, z2, z3, z4⟩ := y3 j hj
          obtain rfl := z3
          obtain ⟨o1, o2⟩ := z4 (x + k) (by omega)
          generalize stR c j x k v j (x + k) = old at o1
          have hgne : gb ≠ rn j := by have := HAj.out.2.2.2.1; have := HS2.out; omega
          have b1 : wr.cell? ⟨gb, k, none⟩ = some (.int .u8 (byOf v k)) := (World.cell?_of_block (a := ⟨gb, k, none⟩) (HF3.out.block gb HS2.out.1 hgne)).trans (HBy.out k (by omega))
          have hfz := HFzr.out (x + k)
          have hA := HAj.out
          obtain ⟨q1, q2, q3, q4, _, q6⟩ := hA
          have HSt : Hid (RN (wr.setCell ⟨rn j, x + k, none⟩ (.int .u8 (byOf v k))) 1 gy gN nb R rn (stR c j x (k + 1) v)) := RN.store HNr.out hj (by omega) ⟨v0, v1⟩ q1 q3 q6
          have HF4 : Hid (Fr (fun b => b = rn j) w (wr.setCell ⟨rn j, x + k, none⟩ (.int .u8 (byOf v k)))) := HFr.out.trans ⟨rfl, rfl, rfl, by simp [World.setCell], fun b hb hn => Below.heap_setCell wr ⟨rn j, x + k, none⟩ _ b (fun e => hn e)⟩
          have HF5 : Hid (Fr (fun b => b = rn j) w2 (wr.setCell ⟨rn j, x + k, none⟩ (.int .u8 (byOf v k)))) := HF3.out.trans ⟨rfl, rfl, rfl, by simp [World.setCell], fun b hb hn => Below.heap_setCell wr ⟨rn j, x + k, none⟩ _ b (fun e => hn e)⟩
          have HFz5 : Hid (∀ o, (wr.setCell ⟨rn j, x + k, none⟩ (.int .u8 (byOf v k))).frozen? ⟨rn j, o, none⟩ = false) := fun o => (World.frozen?_setCell _ _ _ _).trans (HFzr.out o)
          obtain ⟨z, hz⟩ : ∃ z : Nat, (R j).sz.toNat = z := ⟨_, rfl⟩
          rw [hz] at z1 z2
          have hxz : (x : Int) + (k : Int) < (z : Int) := by omega
          have hxz2 : x + k < z := by omega
          have hk0 : (0 : Int) ≤ (k : Int) := by omega
          have hk1 : (k : Int) < 4 := by omega
          have hkm : (k : Int) < (m : Int) := by omega
          have hx0 : (0 : Int) ≤ (x : Int) := by omega
          have ne1 : rn j ≠ gy := q1
          have ne2 : rn j ≠ gN := q3
          have ne3 : rn j ≠ gb := Ne.symm hgne
          obtain ⟨s, hs⟩ : ∃ s : Int, s = (x : Int) + (k : Int) := ⟨_, rfl⟩
          have hs0 : 0 ≤ s := by omega
          have hs1 : s < (z : Int) := by omega
          have hst : s.toNat = x + k := by omega
          have hsw : IntKind.i64.wrap ((x : Int) + (k : Int)) = s := by rw [← hs]; exact Go.IntWalk.i64_in _ (by omega)
          have HLt := Lib.hid (And.intro hlt hk)
          have HJ := Lib.hid hj
          have HXm := Lib.hid (And.intro hxm (And.intro hm4 hb16))
          have HS0 := Lib.hid hs
          clear y3 z4 q6 hz hxz hxz2 hx0 hlt hk hj hxm hm4 hb16 hs
          generalize hby : byOf v k = bv at b1 HSt HF4 HF5 HFz5
          go_wp2_with fail
          go_region_held3 (fun w' => w'.cell? ⟨gy, 1, none⟩ = some (.slice (some ⟨gN, 0, none⟩) nb cN) ∧ w'.cell? ⟨gN, j, none⟩ = some (.slice (some ⟨rn j, 0, none⟩) z cap) ∧ w'.cell? ⟨gb, k, none⟩ = some (.int .u8 bv))
            (first
              | exact ⟨y1, z1, b1⟩
              | exact ⟨(World.cell?_setCell_other _ _ _ _ (fun e => ne1 (by injection e))).trans y1, (World.cell?_setCell_other _ _ _ _ (fun e => ne2 (by injection e))).trans z1, (World.cell?_setCell_other _ _ _ _ (fun e => ne3 (by injection e))).trans b1⟩)
            (fail)
          go_wp2_with fail
          have hlt := HLt.out.1
          go_roundw
          case rel => first | exact ⟨k + 1, by omega, by go_num, HSt, HF4, HF5, HFz5⟩ | exact ⟨k + 1, by omega, by go_num, HSt.out.next (Below.refl _ _).drew, ⟨HF4.out.os, HF4.out.tape, HF4.out.output, HF4.out.size, HF4.out.block⟩, ⟨HF5.out.os, HF5.out.tape, HF5.out.output, HF5.out.size, HF5.out.block⟩, HFz5⟩
          case measure => simp [intOf]; omega
        · have hge : decide ((k : Int) < (m : Int)) = false := by simp; omega
          obtain rfl : k = m := by omega
          clear hlt hk
          go_wp2_with fail
          go_ret
          refine ⟨_, rfl, .inr ⟨rfl, j, HA.out, HWr.out, ?_, HFr.out, HFzr.out⟩⟩
          rw [HXt.out, show (k : Int).toNat = k by omega]
          exact HNr.out
  · have hne2 : (c0 == 0) = false := by simp [hne]
    have HA := Lib.hid hA
    have HNe := Lib.hid hne
    clear hA hb1 hne
    go_wp2_with fail
    go_ret
    exact ⟨_, rfl, .inl ⟨HNe.out, HB1.out, .inl HA.out⟩⟩
end Go.Proofs.Ytbfimedgichiiaa
namespace Go.Proofs.Ytbfimedgichiiaa
set_option linter.unusedVariables false
set_option linter.unusedSimpArgs false
set_option maxRecDepth 100000
open Go.ChangeShapes Go.WideShapes Go.ChangeAt Go.RowKit

theorem infoU8 : (Try.prog.info? 5).map (fun i => (i.zero, i.size, i.bytes)) = some (some (.int .u8 0), 1, 1) := by kernel_rfl
def u8V (f : Nat → Int) (n : Nat) : List Value := (List.range n).map fun y => .int .u8 (f y)
theorem u8V_len (f : Nat → Int) (n : Nat) : (u8V f n).length = n := by unfold u8V; simp
theorem u8V_at {f : Nat → Int} {n y : Nat} (h : y < n) : (u8V f n)[y]? = some (.int .u8 (f y)) := by
  unfold u8V
  rw [List.getElem?_map, List.getElem?_range h]
  rfl
theorem u8V_one (f : Nat → Int) (n : Nat) : ∀ u ∈ u8V f n, u.oneCell' = true := by
  intro u hu
  unfold u8V at hu
  rw [List.mem_map] at hu
  obtain ⟨y, _, rfl⟩ := hu
  rfl
/-- A copy of bytes: a row of the call's own. -/
theorem c_bBytes_all (a : Option Addr) (n cap : Nat) (f : Nat → Int) (w : World) (hn : n ≤ 140737488355328) (hA : a = none → n = 0 ∧ cap = 0) (hS : 0 < n → ∃ b off, a = some ⟨b, off, none⟩ ∧ ∀ y, y < n → w.cell? ⟨b, off + y, none⟩ = some (.int .u8 (f y))) :
    Calls Try.prog 39 #[.slice a n cap] w fun e w' => ∃ v, e = .returned v ∧ v ≠ .slice none 0 0 ∧ w'.ownsRow w.heap.size 5 1 v n (u8V f n) ∧ Below w.heap.size w w' := by
  obtain ⟨i0, hi, hz0, hz1, hz3⟩ := info_parts infoU8
  cases a with
  | none =>
    obtain ⟨rfl, rfl⟩ := hA rfl
    go_enter Try.func39, Try.ntmps39
    go_wp2_with (at_builtin; refine wpList_append_own_none rfl _ _ 37 rfl w.heap.size 5 i0 1 Try.underlying37 hi _ 0 [] rfl (World.ownsRow_made w #[] 0 (Nat.le_refl _) (by decide) rfl) rfl ?_)
    go_ret
    exact ⟨_, rfl, (fun h => by cases h), World.ownsRow_made w #[] 0 (Nat.le_refl _) (by decide) rfl, below_new w _⟩
  | some ad =>
    have hnews : ∀ (j : Nat) (u : Value), (u8V f n)[j]? = some u → (w.alloc (.cells #[] 5)).cell? (ad.add j) = some u := by
      intro j u hj
      have hjn : j < n := by have := (List.getElem?_eq_some_iff.1 hj).1; rw [u8V_len] at this; exact this
      obtain ⟨b, off, e, hc⟩ := hS (by omega)
      obtain rfl := Option.some.inj e
      rw [u8V_at hjn] at hj
      obtain rfl := Option.some.inj hj
      have e : (⟨b, off, none⟩ : Addr).add j = ⟨b, off + j, none⟩ := by unfold Addr.add; split <;> simp_all
      rw [e]
      exact ((below_new w _).cell (cell_lt (hc j hjn))).trans (hc j hjn)
    have HNews := Lib.hid hnews
    clear hS hA hnews
    go_enter Try.func39, Try.ntmps39
    go_wp2_with (at_builtin; refine wpList_append_own _ rfl _ _ 37 rfl w.heap.size 5 i0 (.int .u8 0) 1 1 Try.underlying37 hi hz0 hz1 hz3 rfl (by decide) _ 0 [] rfl (World.ownsRow_made w #[] 0 (Nat.le_refl _) (by decide) rfl) ad n cap (u8V f n) rfl ?c1 HNews.out (u8V_one f n) ?c3 ?c4 ?c5 ?_)
    case c1 => rw [u8V_len]; omega
    case c3 => unfold maxLen; omega
    case c4 => omega
    case c5 => simp
    intro v' w3 hown hgrow hnn
    have HNN : Hid (v' ≠ .slice none 0 0) := fun h => by first | exact hnn h | exact absurd (hnn.1 h).1 (by simp)
    have HB3 : Hid (Below w.heap.size w w3) := (below_new w (.cells #[] 5)).trans ⟨hgrow.os, hgrow.tape, hgrow.output, hgrow.size, fun b hb => hgrow.block b (Nat.lt_of_lt_of_le hb (by simp)) (fun e => by
      have e' : w.heap.size = b := Option.some.inj e.symm
      have hb' : b < w.heap.size := hb
      omega)⟩
    have HR : Hid (w3.ownsRow w.heap.size 5 1 v' n (u8V f n)) := by
      show World.ownsRow _ _ _ _ _ _ _
      simpa using hown
    clear hown hgrow hnn
    go_wp2_with fail
    go_ret
    exact ⟨_, rfl, HNN.out, HR.out, HB3.out⟩
theorem c_bBytes (a : Option Addr) (n cap : Nat) (f : Nat → Int) (w : World) (hn : n ≤ 16777216) (hA : a = none → n = 0 ∧ cap = 0) (hS : 0 < n → ∃ b off, a = some ⟨b, off, none⟩ ∧ ∀ y, y < n → w.cell? ⟨b, off + y, none⟩ = some (.int .u8 (f y))) :
    Calls Try.prog 39 #[.slice a n cap] w fun e w' => ∃ v, e = .returned v ∧ v ≠ .slice none 0 0 ∧ w'.ownsRow w.heap.size 5 1 v n (u8V f n) ∧ Below w.heap.size w w' := c_bBytes_all a n cap f w (by omega) hA hS
set_option maxHeartbeats 4000000 in
theorem c_rRead (gy gl gN nb : Nat) (R : Nat → Rg) (rn : Nat → Nat) (c : Nat → Nat → Int) (a n : Int) (w : World) (hL : RL w gy gl nb R) (hN : RN w 1 gy gN nb R rn c) (hnb : nb ≤ 16) (hok : okTo R nb = true) (a0 : 0 ≤ a) (a1 : a ≤ 4294967295) (n0 : -9223372036854775808 ≤ n) (n1 : n ≤ 9223372036854775807) :
    Calls Try.prog 37 #[.pointer (some ⟨gy, 0, none⟩), .int .u32 a, .int .i64 n] w fun e w' => ∃ v k, e = .returned (.tuple #[v, .int .i64 k]) ∧
      ((v = .slice none 0 0 ∧ ((n < 0 ∧ k = 1) ∨ (16777216 < n ∧ k = 3) ∨ (n = 0 ∧ k = 0) ∨ (0 < n ∧ n ≤ 16777216 ∧ (∀ j, j < nb → holdB (R j) a n = false) ∧ k = 30))) ∨
       (0 < n ∧ n ≤ 16777216 ∧ k = 0 ∧ ∃ j, j < nb ∧ holdB (R j) a n = true ∧ w'.ownsRow w.heap.size 5 1 v n.toNat (u8V (fun y => c j ((a - (R j).fr).toNat + y)) n.toNat))) ∧ Below w.heap.size w w' := by
  have HN := Lib.hid hN
  have HOk := Lib.hid hok
  have HL := Lib.hid hL
  clear hL hN hok
  by_cases h1 : n < 0
  · have d1 : decide (n < 0) = true := by simp [h1]
    go_enter Try.func37, Try.ntmps37
    go_wp2_with fail
    go_ret2
    exact ⟨_, _, rfl, .inl ⟨rfl, .inl ⟨h1, rfl⟩⟩, Below.refl _ _⟩
  · by_cases h2 : 16777216 < n
    · have d1 : decide (n < 0) = false := by simp; omega
      have d2 : decide (16777216 < n) = true := by simp [h2]
      have H2 := Lib.hid h2
      clear h1 h2
      go_enter Try.func37, Try.ntmps37
      go_wp2_with fail
      go_returns
      exact ⟨_, _, rfl, .inl ⟨rfl, .inr (.inl ⟨H2.out, rfl⟩)⟩, Below.refl _ _⟩
    · by_cases h3 : n = 0
      · subst h3
        go_enter Try.func37, Try.ntmps37
        go_wp2_with fail
        go_returns
        exact ⟨_, _, rfl, ⟨rfl, rfl⟩, Below.refl _ _⟩
      · obtain ⟨m, rfl⟩ : ∃ m : Nat, n = m := ⟨n.toNat, by omega⟩
        have hm0 : 0 < m := by omega
        have hm1 : m ≤ 16777216 := by omega
        have d1 : decide ((m : Int) < 0) = false := by simp
        have d2 : decide ((16777216 : Int) < (m : Int)) = false := by simp; omega
        have d3 : ((m : Int) == 0) = false := by simp; omega
        have HM : Hid ((0 : Int) < (m : Int) ∧ (m : Int) ≤ 16777216) := ⟨by omega, by omega⟩
        clear h1 h2 h3
        go_enter Try.func37, Try.ntmps37
        go_wp2_with fail
        refine (c_rIn gy gl nb R a m _ HL.out hnb HOk.out a0 a1 (by omega) (by omega)).mono ?_
        rintro e w1 ⟨i, k, rfl, hin, hb1⟩
        have HB1 := Lib.hid hb1
        rcases hin with ⟨j, hj, hh, rfl, rfl⟩ | ⟨hno, rfl, rfl⟩
        · have HH := Lib.hid (And.intro hj hh)
          have hh' := hold_of hh
          have hrg := rg_bd (okTo_rg HOk.out j hj)
          obtain ⟨⟨aN, cN, y1, y2⟩, y3⟩ := HN.out.next hb1
          obtain rfl := y2 (by omega)
          obtain ⟨ar, cap, z1, z2, z3, z4⟩ := y3 j hj
          obtain rfl := z3
          obtain ⟨x, hx⟩ : ∃ x : Nat, a - (R j).fr = x := ⟨(a - (R j).fr).toNat, by omega⟩
          have hxt : (a - (R j).fr).toNat = x := by omega
          obtain ⟨z, hz⟩ : ∃ z : Nat, (R j).sz.toNat = z := ⟨_, rfl⟩
          rw [hz] at z1 z2
          have hxm : x + m ≤ z := by omega
          have hz2 : z ≤ 16777216 := by omega
          have HC : Hid (∀ y, y < m → w1.cell? ⟨rn j, x + y, none⟩ = some (.int .u8 (c j (x + y)))) := fun y hy => (z4 (x + y) (by omega)).1
          have HXt := Lib.hid hxt
          have hjd : decide ((j : Int) < 0) = false := by simp
          have hj0 : (0 : Int) ≤ (j : Int) := by omega
          have hj1 : (j : Int) < (nb : Int) := by omega
          rw [hx]
          clear y3 z4 hh hh' hrg hx hxt hz hb1
          go_wp2_with fail
          refine (c_bBytes (some ⟨rn j, x, none⟩) m (cap - x) (fun y => c j (x + y)) _ hm1 (fun h => by cases h) (fun _ => ⟨rn j, x, rfl, fun y hy => HC.out y hy⟩)).mono ?_
          rintro e w2 ⟨v, rfl, _, hrow, hb2⟩
          have HB2 : Hid (Below w.heap.size w w2) := below_on HB1.out hb2 HB1.out.size
          have HRow : Hid (w2.ownsRow w.heap.size 5 1 v m (u8V (fun y => c j (x + y)) m)) := by
            show World.ownsRow _ _ _ _ _ _ _
            refine ⟨hrow.1, ?_⟩
            rcases hrow.2 with h | ⟨g, cp, cur, q1, q2, q3⟩
            · exact .inl h
            · exact .inr ⟨g, cp, cur, q1, Nat.le_trans HB1.out.size q2, q3⟩
          clear hrow hb2
          go_wp2_with fail
          go_returns
          refine ⟨_, _, rfl, .inr ⟨HM.out.1, HM.out.2, rfl, j, HH.out.1, HH.out.2, ?_⟩, HB2.out⟩
          rw [HXt.out, show (m : Int).toNat = m by omega]
          exact HRow.out
        · have HNo := Lib.hid hno
          clear hno hb1
          go_wp2_with fail
          go_ret2
          exact ⟨_, _, rfl, .inl ⟨rfl, .inr (.inr (.inr ⟨HM.out.1, HM.out.2, HNo.out, rfl⟩))⟩, HB1.out⟩
end Go.Proofs.Ytbfimedgichiiaa
namespace Go.Proofs.Ytbfimedgichiiaa
set_option linter.unusedVariables false
set_option linter.unusedSimpArgs false
set_option maxRecDepth 100000
open Go.ChangeShapes Go.WideShapes Go.ChangeAt Go.RowKit

/-- Bytes behind a fill of the first n bytes of v at a place of row j. -/
def stF (c : Nat → Nat → Int) (j x n : Nat) (v : Nat → Int) : Nat → Nat → Int := fun i y => if i = j ∧ x ≤ y ∧ y < x + n then v (y - x) else c i y
theorem stF_zero (c : Nat → Nat → Int) (j x : Nat) (v : Nat → Int) : stF c j x 0 v = c := by
  funext i y
  unfold stF
  rw [if_neg (by omega)]
/-- A row of bytes is written to. -/
theorem RN.put {w : World} {q gy gN nb : Nat} {R : Nat → Rg} {rn : Nat → Nat} {c : Nat → Nat → Int} {j x k : Nat} {v : Nat → Int} (h : RN w q gy gN nb R rn (stF c j x k v)) (hj : j < nb) (hx : ((x + k : Nat) : Int) < (R j).sz) (hv : 0 ≤ v k ∧ v k ≤ 255)
    (h1 : rn j ≠ gy) (h2 : rn j ≠ gN) (h3 : ∀ i, i < nb → i ≠ j → rn i ≠ rn j) : RN (w.setCell ⟨rn j, x + k, none⟩ (.int .u8 (v k))) q gy gN nb R rn (stF c j x (k + 1) v) := by
  obtain ⟨⟨aN, cN, k1, k2⟩, k3⟩ := h
  have far : ∀ b o, b ≠ rn j → (w.setCell ⟨rn j, x + k, none⟩ (.int .u8 (v k))).cell? ⟨b, o, none⟩ = w.cell? ⟨b, o, none⟩ := fun b o hb => World.cell?_setCell_other _ _ _ _ (fun e => hb (by injection e with e; exact e.symm))
  refine ⟨⟨aN, cN, (far _ _ h1.symm).trans k1, k2⟩, fun i hi => ?_⟩
  obtain ⟨a, cap, l1, l2, l3, l4⟩ := k3 i hi
  refine ⟨a, cap, (far _ _ h2.symm).trans l1, l2, l3, fun y hy => ?_⟩
  obtain ⟨m1, m2⟩ := l4 y hy
  by_cases e : i = j
  · subst e
    by_cases ey : y = x + k
    · subst ey
      have : stF c i x (k + 1) v i (x + k) = v k := by
        unfold stF
        rw [if_pos ⟨rfl, by omega, by omega⟩]
        congr 1
        omega
      rw [this, World.cell?_setCell_same _ _ _ m1]
      exact ⟨rfl, hv⟩
    · have : stF c i x (k + 1) v i y = stF c i x k v i y := by
        unfold stF
        by_cases e2 : i = i ∧ x ≤ y ∧ y < x + k
        · rw [if_pos e2, if_pos ⟨rfl, e2.2.1, by omega⟩]
        · rw [if_neg e2, if_neg (by omega)]
      rw [this, World.cell?_setCell_other _ _ _ _ (fun e => ey (by injection e with _ e; exact e.symm))]
      exact ⟨m1, m2⟩
  · have : stF c j x (k + 1) v i y = stF c j x k v i y := by
      unfold stF
      rw [if_neg (by omega), if_neg (by omega)]
    rw [this, far _ _ (h3 i hi e)]
    exact ⟨m1, m2⟩
set_option maxHeartbeats 4000000 in
theorem c_rFill (gy gl gN nb : Nat) (R : Nat → Rg) (rn : Nat → Nat) (c : Nat → Nat → Int) (a : Int) (sa : Option Addr) (m scap : Nat) (f : Nat → Int) (w : World) (hL : RL w gy gl nb R) (hN : RN w 1 gy gN nb R rn c) (hnb : nb ≤ 16) (hok : okTo R nb = true) (a0 : 0 ≤ a) (a1 : a ≤ 4294967295) (hm : m ≤ 9223372036854775807) (hmc : m ≤ scap)
    (hap : ∀ i, i < nb → rn i ≠ gy ∧ rn i ≠ gl ∧ rn i ≠ gN ∧ rn i < w.heap.size ∧ (∀ k, w.frozen? ⟨rn i, k, none⟩ = false) ∧ ∀ i', i' < nb → i' ≠ i → rn i' ≠ rn i)
    (hS : 0 < m → ∃ b off, sa = some ⟨b, off, none⟩ ∧ b < w.heap.size ∧ (∀ i, i < nb → b ≠ rn i) ∧ ∀ y, y < m → w.cell? ⟨b, off + y, none⟩ = some (.int .u8 (f y)) ∧ 0 ≤ f y ∧ f y ≤ 255) :
    Calls Try.prog 40 #[.pointer (some ⟨gy, 0, none⟩), .int .u32 a, .slice sa m scap] w fun e w' => ∃ k, e = .returned (.int .i64 k) ∧
      ((Below w.heap.size w w' ∧ ((16777216 < m ∧ k = 3) ∨ (m = 0 ∧ k = 0) ∨ (0 < m ∧ m ≤ 16777216 ∧ (∀ j, j < nb → holdB (R j) a m = false) ∧ k = 30))) ∨
       (0 < m ∧ m ≤ 16777216 ∧ k = 0 ∧ ∃ j, j < nb ∧ holdB (R j) a m = true ∧ RN w' 1 gy gN nb R rn (stF c j (a - (R j).fr).toNat m f) ∧ Fr (fun b => b = rn j) w w' ∧ ∀ o, w'.frozen? ⟨rn j, o, none⟩ = false)) := by
  have HN := Lib.hid hN
  have HOk := Lib.hid hok
  have HL := Lib.hid hL
  have HAp := Lib.hid hap
  have HS := Lib.hid hS
  clear hL hN hok hap hS
  by_cases h2 : 16777216 < m
  · have d2 : decide ((16777216 : Int) < (m : Int)) = true := by simp; omega
    have H2 := Lib.hid h2
    clear h2
    go_enter Try.func40, Try.ntmps40
    go_wp2_with fail
    go_ret
    exact ⟨_, rfl, .inl ⟨Below.refl _ _, .inl ⟨H2.out, rfl⟩⟩⟩
  · by_cases h3 : m = 0
    · subst h3
      go_enter Try.func40, Try.ntmps40
      go_wp2_with fail
      go_ret
      exact ⟨_, rfl, .inl ⟨Below.refl _ _, .inr (.inl ⟨trivial, rfl⟩)⟩⟩
    · have hm0 : 0 < m := by omega
      have hm1 : m ≤ 16777216 := by omega
      have d2 : decide ((16777216 : Int) < (m : Int)) = false := by simp; omega
      have d3 : ((m : Int) == 0) = false := by simp; omega
      have HM := Lib.hid (And.intro hm0 hm1)
      obtain ⟨sb, so, rfl, sb1, sb2, sb3⟩ := HS.out hm0
      have HSb := Lib.hid (And.intro sb1 (And.intro sb2 sb3))
      clear h2 h3 sb1 sb2 sb3
      go_enter Try.func40, Try.ntmps40
      go_wp2_with fail
      refine (c_rIn gy gl nb R a m _ HL.out hnb HOk.out a0 a1 (by omega) (by omega)).mono ?_
      rintro e w1 ⟨i, k, rfl, hin, hb1⟩
      have HB1 := Lib.hid hb1
      rcases hin with ⟨j, hj, hh, rfl, rfl⟩ | ⟨hno, rfl, rfl⟩
      · have HH := Lib.hid (And.intro hj hh)
        have hh' := hold_of hh
        have hrg := rg_bd (okTo_rg HOk.out j hj)
        have hj0 : (0 : Int) ≤ (j : Int) := by omega
        have hj1 : (j : Int) < (nb : Int) := by omega
        have hjd : decide ((j : Int) < 0) = false := by simp
        obtain ⟨x, hx⟩ : ∃ x : Nat, a - (R j).fr = x := ⟨(a - (R j).fr).toNat, by omega⟩
        have hxt : (a - (R j).fr).toNat = x := by omega
        have hxm : ((x + m : Nat) : Int) ≤ (R j).sz := by omega
        have hszb : (R j).sz ≤ 16777216 := by omega
        have HAj := Lib.hid (HAp.out j hj)
        have HN2 : Hid (RN w1 1 gy gN nb R rn (stF c j x 0 f)) := by rw [stF_zero]; exact HN.out.next hb1
        have HXt := Lib.hid hxt
        have HF2 : Hid (Fr (fun b => b = rn j) w w1) := Fr.of_below hb1
        have HFz : Hid (∀ o, w1.frozen? ⟨rn j, o, none⟩ = false) := fun o => (hb1.frozen (p := ⟨rn j, o, none⟩) HAj.out.2.2.2.1).trans (HAj.out.2.2.2.2.1 o)
        rw [hx]
        clear hb1 hx hxt hrg hh hh'
        go_wp2_with fail
        go_loopw [9] (fun i wr => ∃ k : Nat, k ≤ m ∧ i = .int .i64 k ∧ Hid (RN wr 1 gy gN nb R rn (stF c j x k f)) ∧ Hid (Fr (fun b => b = rn j) w wr) ∧ Hid (∀ o, wr.frozen? ⟨rn j, o, none⟩ = false)) (fun i _ => m - (intOf i).toNat)
        case atStart => exact ⟨0, Nat.zero_le _, rfl, HN2, HF2, HFz⟩
        case round =>
          obtain ⟨k, hk, rfl, HNr, HFr, HFzr⟩ := hrel
          by_cases hlt : k < m
          · obtain ⟨⟨aN, cN, y1, y2⟩, y3⟩ := HNr.out
            obtain rfl := y2 (by omega)
            obtain ⟨ar, cap, z1, z2, z3, z4⟩ := y3 j hj
            obtain rfl := z3
            obtain ⟨o1, o2⟩ := z4 (x + k) (by omega)
            generalize stF c j x k f j (x + k) = old at o1
            obtain ⟨s1, s2, s3⟩ := HSb.out
            have b1 : wr.cell? ⟨sb, so + k, none⟩ = some (.int .u8 (f k)) := (World.cell?_of_block (a := ⟨sb, so + k, none⟩) (HFr.out.block sb s1 (s2 j hj))).trans (s3 k hlt).1
            have hfz := HFzr.out (x + k)
            obtain ⟨q1, q2, q3, q4, _, q6⟩ := HAj.out
            have HSt : Hid (RN (wr.setCell ⟨rn j, x + k, none⟩ (.int .u8 (f k))) 1 gy gN nb R rn (stF c j x (k + 1) f)) := RN.put HNr.out hj (by omega) (s3 k hlt).2 q1 q3 q6
            have HF4 : Hid (Fr (fun b => b = rn j) w (wr.setCell ⟨rn j, x + k, none⟩ (.int .u8 (f k)))) := HFr.out.trans ⟨rfl, rfl, rfl, by simp [World.setCell], fun b hb hn => Below.heap_setCell wr ⟨rn j, x + k, none⟩ _ b (fun e => hn e)⟩
            have HFz5 : Hid (∀ o, (wr.setCell ⟨rn j, x + k, none⟩ (.int .u8 (f k))).frozen? ⟨rn j, o, none⟩ = false) := fun o => (World.frozen?_setCell _ _ _ _).trans (HFzr.out o)
            obtain ⟨z, hz⟩ : ∃ z : Nat, (R j).sz.toNat = z := ⟨_, rfl⟩
            rw [hz] at z1 z2
            have hk0 : (0 : Int) ≤ (k : Int) := by omega
            have hkm : (k : Int) < (m : Int) := by omega
            have ne1 : rn j ≠ gy := q1
            have ne2 : rn j ≠ gN := q3
            have ne3 : rn j ≠ sb := Ne.symm (s2 j hj)
            obtain ⟨s, hs⟩ : ∃ s : Int, s = (x : Int) + (k : Int) := ⟨_, rfl⟩
            have hs0 : 0 ≤ s := by omega
            have hs1 : s < (z : Int) := by omega
            have hst : s.toNat = x + k := by omega
            have hsw : IntKind.i64.wrap ((x : Int) + (k : Int)) = s := by rw [← hs]; exact Go.IntWalk.i64_in _ (by omega)
            have HLt := Lib.hid (And.intro hlt hk)
            have HXm := Lib.hid (And.intro hxm hszb)
            clear y3 z4 q6 hz hlt hk hxm hszb hs s1 s2 s3
            generalize hby : f k = bv at b1 HSt HF4 HFz5
            go_wp2_with fail
            go_region_held3 (fun w' => w'.cell? ⟨gy, 1, none⟩ = some (.slice (some ⟨gN, 0, none⟩) nb cN) ∧ w'.cell? ⟨gN, j, none⟩ = some (.slice (some ⟨rn j, 0, none⟩) z cap) ∧ w'.cell? ⟨sb, so + k, none⟩ = some (.int .u8 bv))
              (first
                | exact ⟨y1, z1, b1⟩
                | exact ⟨(World.cell?_setCell_other _ _ _ _ (fun e => ne1 (by injection e))).trans y1, (World.cell?_setCell_other _ _ _ _ (fun e => ne2 (by injection e))).trans z1, (World.cell?_setCell_other _ _ _ _ (fun e => ne3 (by injection e))).trans b1⟩)
              (fail)
            go_wp2_with fail
            have hlt := HLt.out.1
            go_roundw
            case rel => first | exact ⟨k + 1, by omega, by go_num, HSt, HF4, HFz5⟩ | exact ⟨k + 1, by omega, by go_num, HSt.out.next (Below.refl _ _).drew, ⟨HF4.out.os, HF4.out.tape, HF4.out.output, HF4.out.size, HF4.out.block⟩, HFz5⟩
            case measure => simp [intOf]; omega
          · have hge : decide ((k : Int) < (m : Int)) = false := by simp; omega
            obtain rfl : k = m := by omega
            clear hlt hk
            go_wp2_with fail
            go_ret
            refine ⟨_, rfl, .inr ⟨HM.out.1, HM.out.2, rfl, j, HH.out.1, HH.out.2, ?_, HFr.out, HFzr.out⟩⟩
            rw [HXt.out]
            exact HNr.out
      · have HNo := Lib.hid hno
        clear hno hb1
        go_wp2_with fail
        go_ret
        exact ⟨_, rfl, .inl ⟨HB1.out, .inr (.inr ⟨HM.out.1, HM.out.2, HNo.out, rfl⟩)⟩⟩
end Go.Proofs.Ytbfimedgichiiaa
