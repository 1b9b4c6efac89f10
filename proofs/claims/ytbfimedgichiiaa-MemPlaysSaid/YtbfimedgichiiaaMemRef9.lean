/-
  The document's help: the same bytes?
-/
import Derived.Test.YtbfimedgichiiaaMemRef6
import Derived.Test.YtbfimedgichiiaaMemMark
import Derived.Test.YtbfimedgichiiaaMemLeaf
import Derived.Laws.BytesArg
namespace Go.Proofs.Ytbfimedgichiiaa
set_option linter.unusedVariables false
set_option linter.unusedSimpArgs false
set_option maxRecDepth 100000
open Go.ChangeShapes Go.WideShapes Go.ChangeAt Go.RowKit

/-- A row of the call's own, as a slice. -/
theorem row_u8 {w : World} {base n : Nat} {v : Value} {f : Nat → Int} (h : w.ownsRow base 5 1 v n (u8V f n)) (hv : v ≠ .slice none 0 0) : ∃ g cap, v = .slice (some ⟨g, 0, none⟩) n cap ∧ n ≤ cap ∧ base ≤ g ∧ g < w.heap.size ∧ (∀ k, w.frozen? ⟨g, k, none⟩ = false) ∧ ∀ y, y < n → w.cell? ⟨g, y, none⟩ = some (.int .u8 (f y)) := by
  have h0 := h
  rcases h.2 with ⟨h1, _⟩ | ⟨g, cap, cur, rfl, hg, hh, hle, _⟩
  · exact absurd h1 hv
  · exact ⟨g, cap, rfl, hle, hg, (Array.getElem?_eq_some_iff.1 hh).1, fun k => h0.frozenAt k, fun y hy => by rw [h0.cellAt y (by omega), u8V_at hy]⟩
/-- A field's row is taken by another row. -/
theorem RN.take {w w2 : World} {q gy gW nb : Nat} {R : Nat → Rg} {rw' : Nat → Nat} {d : Nat → Nat → Int} {j g cap : Nat} {f : Nat → Int} (h : RN w q gy gW nb R rw' d) (hb : Below w.heap.size w w2) (hj : j < nb) (hgy : gy ≠ gW) (hrw : ∀ i, i < nb → rw' i ≠ gW) (hg : g ≠ gW) (hle : (R j).sz.toNat ≤ cap)
    (hc : ∀ y : Nat, (y : Int) < (R j).sz → w2.cell? ⟨g, y, none⟩ = some (.int .u8 (f y)) ∧ 0 ≤ f y ∧ f y ≤ 255) :
    RN (w2.setCell ⟨gW, j, none⟩ (.slice (some ⟨g, 0, none⟩) (R j).sz.toNat cap)) q gy gW nb R (ins rw' j g) (ins d j f) := by
  obtain ⟨⟨aN, cN, k1, k2⟩, k3⟩ := h.next hb
  have far : ∀ b o, b ≠ gW → (w2.setCell ⟨gW, j, none⟩ (.slice (some ⟨g, 0, none⟩) (R j).sz.toNat cap)).cell? ⟨b, o, none⟩ = w2.cell? ⟨b, o, none⟩ := fun b o hb => World.cell?_setCell_other _ _ _ _ (fun e => hb (by injection e with e; exact e.symm))
  refine ⟨⟨aN, cN, (far _ _ hgy).trans k1, k2⟩, fun i hi => ?_⟩
  obtain ⟨a, cp, l1, l2, l3, l4⟩ := k3 i hi
  by_cases e : i = j
  · subst e
    simp only [ins_at]
    exact ⟨_, cap, World.cell?_setCell_same _ _ _ l1, hle, rfl, fun y hy => ⟨(far _ _ hg).trans (hc y hy).1, (hc y hy).2⟩⟩
  · simp only [ins_off _ _ _ _ e]
    exact ⟨a, cp, (World.cell?_setCell_other _ _ _ _ (fun e' => e (by injection e' with _ e'; exact e'.symm))).trans l1, l2, l3, fun y hy => ⟨(far _ _ (hrw i hi)).trans (l4 y hy).1, (l4 y hy).2⟩⟩
theorem RN.fr {M : Nat → Prop} {w w' : World} {q gy gN nb : Nat} {R : Nat → Rg} {rn : Nat → Nat} {c : Nat → Nat → Int} (h : RN w q gy gN nb R rn c) (hf : Fr M w w') (h1 : ¬ M gy) (h2 : ¬ M gN) (h3 : ∀ i, i < nb → ¬ M (rn i)) : RN w' q gy gN nb R rn c := by
  have cel : ∀ {b o : Nat} {v : Value}, ¬ M b → w.cell? ⟨b, o, none⟩ = some v → w'.cell? ⟨b, o, none⟩ = some v := fun {b o v} hb hc => (World.cell?_of_block (a := ⟨b, o, none⟩) (hf.block b (cell_lt hc) hb)).trans hc
  obtain ⟨⟨aN, cN, k1, k2⟩, k3⟩ := h
  refine ⟨⟨aN, cN, cel h1 k1, k2⟩, fun i hi => ?_⟩
  obtain ⟨a, cap, l1, l2, l3, l4⟩ := k3 i hi
  exact ⟨a, cap, cel h2 l1, l2, l3, fun y hy => ⟨cel (h3 i hi) (l4 y hy).1, (l4 y hy).2⟩⟩
theorem fr_set (w : World) (b o : Nat) (v : Value) : Fr (fun x => x = b) w (w.setCell ⟨b, o, none⟩ v) := ⟨rfl, rfl, rfl, by simp [World.setCell], fun x hx hn => Below.heap_setCell w ⟨b, o, none⟩ v x (fun e => hn e)⟩
set_option maxHeartbeats 4000000 in
theorem c_rMark (gy gN gW nb : Nat) (R : Nat → Rg) (rn rw' : Nat → Nat) (c d : Nat → Nat → Int) (w : World) (hN : RN w 1 gy gN nb R rn c) (hW : RN w 2 gy gW nb R rw' d) (hnb : nb ≤ 16) (hok : okTo R nb = true) (hgW : 0 < nb → gW < w.heap.size ∧ gW ≠ gy ∧ gW ≠ gN ∧ ∀ k, w.frozen? ⟨gW, k, none⟩ = false)
    (hap : ∀ i, i < nb → rn i ≠ gW ∧ rw' i ≠ gW) :
    Calls Try.prog 43 #[.pointer (some ⟨gy, 0, none⟩)] w fun e w' => e = .returned (.tuple #[]) ∧ ∃ rz, RN w' 1 gy gN nb R rn c ∧ RN w' 2 gy gW nb R rz (mkT d c nb) ∧ (∀ i, i < nb → w.heap.size ≤ rz i ∧ rz i < w'.heap.size ∧ ∀ k, w'.frozen? ⟨rz i, k, none⟩ = false) ∧ Fr (fun b => b = gW) w w' ∧ ∀ o, 0 < nb → w'.frozen? ⟨gW, o, none⟩ = false := by
  have HN := Lib.hid hN
  have HW := Lib.hid hW
  have HOk := Lib.hid hok
  have HGW := Lib.hid hgW
  have HAp := Lib.hid hap
  obtain ⟨⟨aN0, cN0, hcn0, _⟩, _⟩ := hN
  have HCN := Lib.hid hcn0
  clear hW hok hgW hap
  go_enter Try.func43, Try.ntmps43
  go_wp2_with fail
  go_loopw [2] (fun i wr => ∃ k : Nat, k ≤ nb ∧ i = .int .i64 k ∧ Hid (RN wr 1 gy gN nb R rn c) ∧ Hid (Fr (fun b => b = gW) w wr) ∧ Hid (∀ o, 0 < nb → wr.frozen? ⟨gW, o, none⟩ = false) ∧
    Hid (∃ rz, RN wr 2 gy gW nb R rz (mkT d c k) ∧ (∀ i, i < nb → rz i ≠ gW) ∧ ∀ i, i < k → w.heap.size ≤ rz i ∧ rz i < wr.heap.size ∧ ∀ o, wr.frozen? ⟨rz i, o, none⟩ = false)) (fun i _ => nb - (intOf i).toNat)
  case atStart => exact ⟨0, Nat.zero_le _, rfl, HN, Fr.refl _ _, fun o h => (HGW.out h).2.2.2 o, rw', by rw [mkT_zero]; exact HW.out, fun i hi => (HAp.out i hi).2, fun i hi => by omega⟩
  case round =>
    obtain ⟨k, hk, rfl, HNr, HFr, HFz, HRz⟩ := hrel
    obtain ⟨⟨aN, cN, y1, y2⟩, y3⟩ := HNr.out
    by_cases hlt : k < nb
    · obtain rfl := y2 (by omega)
      obtain ⟨ar, cap, z1, z2, z3, z4⟩ := y3 k hlt
      obtain rfl := z3
      obtain ⟨rz, hrz, hrz2, hrz3⟩ := HRz.out
      have HRz2 := Lib.hid hrz
      obtain ⟨⟨aW, cW, u1, u2⟩, u3⟩ := hrz
      obtain ⟨_, _, u4, _⟩ := u3 k hlt
      obtain rfl := u2 (by omega)
      have hrg := rg_bd (okTo_rg HOk.out k hlt)
      obtain ⟨z, hz⟩ : ∃ z : Nat, (R k).sz.toNat = z := ⟨_, rfl⟩
      rw [hz] at z1 z2
      have hz2 : z ≤ 16777216 := by omega
      have HC : Hid (∀ y, y < z → wr.cell? ⟨rn k, 0 + y, none⟩ = some (.int .u8 (c k y))) := fun y hy => by rw [Nat.zero_add]; exact (z4 y (by omega)).1
      have hk0 : (0 : Int) ≤ (k : Int) := by omega
      have hk1 : (k : Int) < (nb : Int) := by omega
      have HZ := Lib.hid hz
      have hfw := HFz.out k (by omega)
      obtain ⟨gw1, gw2, gw3, _⟩ := HGW.out (by omega)
      have HGw : Hid (gW < w.heap.size) := gw1
      have ne1 : gW ≠ gy := gw2
      have ne2 : gW ≠ gN := gw3
      have HRz3 := Lib.hid hrz3
      have HRz4 := Lib.hid hrz2
      have HBd : Hid (∀ y : Nat, (y : Int) < (R k).sz → 0 ≤ c k y ∧ c k y ≤ 255) := fun y hy => (z4 y hy).2
      have hwl : gW < wr.heap.size := Nat.lt_of_lt_of_le gw1 HFr.out.size
      have HWl : Hid (gW < wr.heap.size ∧ w.heap.size ≤ wr.heap.size) := ⟨hwl, HFr.out.size⟩
      clear y3 z4 hrg hz u3 hrz3 hrz2 gw1 hwl
      go_wp2_with fail
      go_region_held3 (fun w' => w'.cell? ⟨gy, 1, none⟩ = some (.slice (some ⟨gN, 0, none⟩) nb cN) ∧ w'.cell? ⟨gy, 2, none⟩ = some (.slice (some ⟨gW, 0, none⟩) nb cW) ∧ w'.cell? ⟨gN, k, none⟩ = some (.slice (some ⟨rn k, 0, none⟩) z cap))
        (first
          | exact ⟨y1, u1, z1⟩
          | exact ⟨(HB2.out.cell (cell_lt y1)).trans y1, (HB2.out.cell (cell_lt u1)).trans u1, (HB2.out.cell (cell_lt z1)).trans z1⟩
          | exact ⟨(World.cell?_setCell_other _ _ _ _ (fun e => ne1 (by injection e))).trans ((HB2.out.cell (cell_lt y1)).trans y1), (World.cell?_setCell_other _ _ _ _ (fun e => ne1 (by injection e))).trans ((HB2.out.cell (cell_lt u1)).trans u1), (World.cell?_setCell_other _ _ _ _ (fun e => ne2 (by injection e))).trans ((HB2.out.cell (cell_lt z1)).trans z1)⟩)
        (first
          | (go_at_call 39
             refine (c_bBytes (some ⟨rn k, 0, none⟩) z cap (fun y => c k y) wr.drew hz2 (fun h => by cases h) (fun _ => ⟨rn k, 0, rfl, HC.out⟩)).mono ?_
             rintro e w2 ⟨v, rfl, hvn, hrow, hb2⟩
             obtain ⟨g, cp, rfl, hcp, hg1, hg2, hgf, hce⟩ := row_u8 hrow hvn
             have HB2 : Hid (Below wr.heap.size wr w2) := ((Below.refl _ _).drew).trans hb2
             have hold := (HB2.out.cell (cell_lt u4)).trans u4
             have hfw2 : w2.frozen? ⟨gW, k, none⟩ = false := (HB2.out.frozen (p := ⟨gW, k, none⟩) HWl.out.1).trans hfw))
      all_goals
        have hgW : g ≠ gW := by have h := HWl.out; have h2 : wr.heap.size ≤ g := hg1; omega
        have HNx : Hid (RN (w2.setCell ⟨gW, k, none⟩ (.slice (some ⟨g, 0, none⟩) z cp)) 1 gy gN nb R rn c) := RN.fr (HNr.out.next HB2.out) (fr_set w2 gW k _) (fun e => ne1 e.symm) (fun e => ne2 e.symm) (fun i hi e => (HAp.out i hi).1 e)
        have HWx : Hid (RN (w2.setCell ⟨gW, k, none⟩ (.slice (some ⟨g, 0, none⟩) z cp)) 2 gy gW nb R (ins rz k g) (mkT d c (k + 1))) := by
          have h := RN.take (f := c k) HRz2.out HB2.out hlt (fun e => ne1 e.symm) HRz4.out hgW (cap := cp) (by rw [HZ.out]; exact hcp) (fun y hy => ⟨hce y (by have := HZ.out; omega), HBd.out y hy⟩)
          rw [HZ.out, mkT_succ] at h
          exact h
        have HFx : Hid (Fr (fun b => b = gW) w (w2.setCell ⟨gW, k, none⟩ (.slice (some ⟨g, 0, none⟩) z cp))) := (HFr.out.trans (Fr.of_below HB2.out)).trans (fr_set w2 gW k _)
        have HFzx : Hid (∀ o, 0 < nb → (w2.setCell ⟨gW, k, none⟩ (.slice (some ⟨g, 0, none⟩) z cp)).frozen? ⟨gW, o, none⟩ = false) := fun o h => (World.frozen?_setCell _ _ _ _).trans ((HB2.out.frozen (p := ⟨gW, o, none⟩) HWl.out.1).trans (HFz.out o h))
        have HR1 : Hid (∀ i, i < nb → ins rz k g i ≠ gW) := fun i hi => by
          by_cases e : i = k
          · subst e; rw [ins_at]; exact hgW
          · rw [ins_off _ _ _ _ e]; exact HRz4.out i hi
        have HR2 : Hid (∀ i, i < k + 1 → w.heap.size ≤ ins rz k g i ∧ ins rz k g i < (w2.setCell ⟨gW, k, none⟩ (.slice (some ⟨g, 0, none⟩) z cp)).heap.size ∧ ∀ o, (w2.setCell ⟨gW, k, none⟩ (.slice (some ⟨g, 0, none⟩) z cp)).frozen? ⟨ins rz k g i, o, none⟩ = false) := fun i hi => by
          have hsz : (w2.setCell ⟨gW, k, none⟩ (.slice (some ⟨g, 0, none⟩) z cp)).heap.size = w2.heap.size := by simp [World.setCell]
          have hwr : wr.heap.size ≤ g := hg1
          have hl := HWl.out.2
          by_cases e : i = k
          · subst e
            rw [ins_at]
            exact ⟨by omega, by omega, fun o => (World.frozen?_setCell _ _ _ _).trans (hgf o)⟩
          · rw [ins_off _ _ _ _ e]
            obtain ⟨h1, h2, h3⟩ := HRz3.out i (by omega)
            have := HB2.out.size
            exact ⟨h1, by omega, fun o => (World.frozen?_setCell _ _ _ _).trans ((HB2.out.frozen (p := ⟨rz i, o, none⟩) h2).trans (h3 o))⟩
        clear hvn hrow hb2 hcp hg1 hg2 hgf hce hold hfw2 hgW
        go_wp2_with fail
        go_roundw
        case rel => exact ⟨k + 1, by omega, by go_num, HNx, HFx, HFzx, _, HWx.out, HR1.out, HR2.out⟩
        case measure => simp [intOf]; omega
    · have hge : decide ((k : Int) < (nb : Int)) = false := by simp; omega
      obtain rfl : k = nb := by omega
      clear hk hlt
      go_wp2_with fail
      go_end0
      obtain ⟨rz, hrz, _, hrz3⟩ := HRz.out
      exact ⟨rfl, rz, HNr.out, hrz, hrz3, HFr.out, HFz.out⟩
end Go.Proofs.Ytbfimedgichiiaa
namespace Go.Proofs.Ytbfimedgichiiaa
set_option linter.unusedVariables false
set_option linter.unusedSimpArgs false
set_option maxRecDepth 100000
open Go.ChangeShapes Go.WideShapes Go.ChangeAt Go.RowKit

theorem c_rName_none (w : World) :
    Calls Try.prog 27 #[.string ⟨#[]⟩] w fun e w' => e = .returned (.bool false) ∧ w = w' := by
  go_enter Try.func27, Try.ntmps27
  go_wp2
  go_returns
  exact ⟨rfl, rfl⟩
theorem c_rName_long (l : List UInt8) (w : World) (h : 31 < l.length) (hm : l.length ≤ maxLen) :
    Calls Try.prog 27 #[.string ⟨l.toArray⟩] w fun e w' => e = .returned (.bool false) ∧ w = w' := by
  have hd : decide ((31 : Int) < (l.length : Int)) = true := by simp; omega
  have he : l.isEmpty = false := by cases l with
    | nil => simp at h
    | cons => rfl
  unfold maxLen at hm
  clear h
  go_enter Try.func27, Try.ntmps27
  go_wp2
  go_returns
  exact ⟨rfl, rfl⟩
set_option maxRecDepth 100000 in
set_option maxHeartbeats 1000000 in
theorem c_rName_short (l : List UInt8) (w : World) (h0 : l ≠ []) (h : l.length ≤ 31) :
    Calls Try.prog 27 #[.string ⟨l.toArray⟩] w fun e w' => e = .returned (.bool (nameB l)) ∧ w = w' := by
  have hd : decide ((31 : Int) < (l.length : Int)) = false := by simp; omega
  have he : l.isEmpty = false := by cases l with
    | nil => exact absurd rfl h0
    | cons => rfl
  have hN : nameB l = (lowB (l[0]?.getD 0) && l.all namB) := by unfold nameB; simp [he, h]
  have HN := Lib.hid hN
  have H31 := Lib.hid h
  have hpos : 0 < l.length := List.length_pos_iff.2 h0
  obtain ⟨c0, hc0⟩ : ∃ c : Int, ((l[0]?.getD 0).toNat : Int) = c := ⟨_, rfl⟩
  have hb0 : ∀ h, (((ByteArray.mk l.toArray)[0]'h).toNat : Int) = c0 := fun h => (byte_at l 0 h).trans hc0
  have hcb : 0 ≤ c0 ∧ c0 ≤ 255 := by have := (l[0]?.getD 0).toNat_lt; omega
  obtain ⟨hcb0, hcb1⟩ := hcb
  have HC0 := Lib.hid hc0
  clear hN h0 hc0 h
  by_cases hlow : 97 ≤ c0 ∧ c0 ≤ 122
  · have HLow : Hid (lowB (l[0]?.getD 0) = true) := by
      have := HC0.out
      show _ = _
      unfold lowB
      simp
      omega
    have hd1 : decide (c0 < 97) = false := by simp; omega
    have hd2 : decide (122 < c0) = false := by simp; omega
    clear hlow
    go_enter Try.func27, Try.ntmps27
    go_wp2_with fail
    clear hb0 hd1 hd2 hd he
    go_loop [3] (fun i => ∃ k : Nat, k ≤ l.length ∧ i = .int .i64 k ∧ Hid (∀ c ∈ l.take k, namB c = true)) (fun i => l.length - (intOf i).toNat)
    case atStart => exact ⟨0, Nat.zero_le _, rfl, fun c hc => by simp at hc⟩
    case round =>
      obtain ⟨k, hk, rfl, HK⟩ := hrel
      by_cases hlt : k < l.length
      · obtain ⟨c, hc⟩ : ∃ c : Int, ((l[k]?.getD 0).toNat : Int) = c := ⟨_, rfl⟩
        have hby : ∀ h, (((ByteArray.mk l.toArray)[k]'h).toNat : Int) = c := fun h => (byte_at l k h).trans hc
        have hcb : 0 ≤ c ∧ c ≤ 255 := by have := (l[k]?.getD 0).toNat_lt; omega
        obtain ⟨hb0, hb1⟩ := hcb
        have HC := Lib.hid hc
        have HG : Hid (l[k]?.getD 0 = l[k]'hlt) := by show _ = _; rw [List.getElem?_eq_getElem hlt]; rfl
        have hml : l.length ≤ 31 := H31.out
        have HT : Hid (l.take (k + 1) = l.take k ++ [l[k]?.getD 0]) := by show _ = _; rw [List.take_add_one, List.getElem?_eq_getElem hlt]; rfl
        clear hc
        have hyes : namB (l[k]?.getD 0) = true → Hid (∀ c ∈ l.take (k + 1), namB c = true) := fun hy => by
          show ∀ _, _
          rw [HT.out]
          intro x hx
          rcases List.mem_append.1 hx with hx | hx
          · exact HK.out x hx
          · simp at hx
            subst hx
            exact hy
        have hno : namB (l[k]?.getD 0) = false → Hid (nameB l = false) := fun hy => by
          show _ = _
          rw [HN.out]
          have : l.all namB = false := by
            rw [List.all_eq_false]
            refine ⟨l[k]'hlt, List.getElem_mem hlt, ?_⟩
            rw [← HG.out, hy]
            simp
          rw [this, Bool.and_false]
        have HYES := Lib.hid hyes
        have HNO := Lib.hid hno
        clear hyes hno
        have hval : namB (l[k]?.getD 0) = (decide (97 ≤ c ∧ c ≤ 122) || decide (48 ≤ c ∧ c ≤ 57) || decide (c = 95)) := by
          have hcc := HC.out
          unfold namB lowB
          have e95 : (l[k]?.getD 0 = 95) ↔ c = 95 := by
            rw [← UInt8.toNat_inj]
            show _ = 95 ↔ _
            omega
          rw [Bool.eq_iff_iff]
          simp [e95]
          omega
        have HV := Lib.hid hval
        clear hval
        go_wp2_with fail
        all_goals
          first
          | (go_ret
             refine ⟨ret_b ?_, rfl⟩
             symm
             refine (HNO.out ?_).out
             rw [HV.out]
             simp only [Bool.not_eq_true', Bool.not_eq_false', decide_eq_false_iff_not, decide_eq_true_eq, bne_iff_ne, ne_eq, bne_eq_false_iff_eq, Bool.or_eq_false_iff] at *
             omega)
          | (go_round
             case rel =>
               refine ⟨k + 1, by omega, by go_num, HYES.out ?_⟩
               rw [HV.out]
               simp only [Bool.not_eq_true', Bool.not_eq_false', decide_eq_false_iff_not, decide_eq_true_eq, bne_iff_ne, ne_eq, bne_eq_false_iff_eq, Bool.or_eq_true] at *
               omega
             case measure => simp [intOf]; omega)
      · have hge : decide (k < l.length) = false := by simp; omega
        have HK2 := Lib.hid (show l.take k = l by rw [List.take_of_length_le (by omega)])
        clear hk hlt
        go_wp2
        go_ret
        refine ⟨ret_b ?_, rfl⟩
        rw [HN.out, HLow.out, Bool.true_and]
        symm
        rw [List.all_eq_true]
        have := HK.out
        rw [HK2.out] at this
        exact this
  · have HLow : Hid (nameB l = false) := by
      have := HC0.out
      show _ = _
      rw [HN.out]
      have : lowB (l[0]?.getD 0) = false := by
        unfold lowB
        simp
        omega
      rw [this, Bool.false_and]
    by_cases hl1 : c0 < 97
    · have hd1 : decide (c0 < 97) = true := by simp; omega
      clear hlow hl1
      go_enter Try.func27, Try.ntmps27
      go_wp2_with fail
      go_ret
      exact ⟨ret_b HLow.out.symm, rfl⟩
    · have hd1 : decide (c0 < 97) = false := by simp; omega
      have hd2 : decide (122 < c0) = true := by simp; omega
      clear hlow hl1
      go_enter Try.func27, Try.ntmps27
      go_wp2_with fail
      go_ret
      exact ⟨ret_b HLow.out.symm, rfl⟩
theorem c_rName (l : List UInt8) (w : World) (hm : l.length ≤ maxLen) :
    Calls Try.prog 27 #[.string ⟨l.toArray⟩] w fun e w' => e = .returned (.bool (nameB l)) ∧ w = w' := by
  by_cases h0 : l = []
  · subst h0
    have : nameB [] = false := by unfold nameB; rfl
    rw [this]
    exact c_rName_none w
  · by_cases h : l.length ≤ 31
    · exact c_rName_short l w h0 h
    · have : nameB l = false := by unfold nameB; simp; omega
      rw [this]
      exact c_rName_long l w (by omega) hm
end Go.Proofs.Ytbfimedgichiiaa
namespace Go.Proofs.Ytbfimedgichiiaa
set_option linter.unusedVariables false
set_option linter.unusedSimpArgs false
set_option maxRecDepth 100000
open Go.ChangeShapes Go.WideShapes Go.ChangeAt Go.RowKit

theorem conv_u0 (w : World) (a : Option Addr) (cap : Nat) : (convert 37 9 (.slice a 0 cap)).run Try.prog w = .ok (.string (strOfNums [])) w := by
  cases a with
  | none => exact run_convert_bytes_nil w 37 5 Try.underlying37 Try.underlying5 0 cap 9 Try.underlying9
  | some x =>
    rw [run_convert_bytes_string w 37 9 5 _ 0 cap Try.underlying37 Try.underlying5 Try.underlying9, run_bytesToString w x 0 cap [] (run_loadCells_list w x [] (fun j v hj => by simp at hj))]
    rfl
/-- Bytes that a slice holds, nil too. -/
def U8s (w : World) (a : Option Addr) (n : Nat) (f : Nat → Int) : Prop := n = 0 ∨ ∃ b off, a = some ⟨b, off, none⟩ ∧ ∀ y, y < n → w.cell? ⟨b, off + y, none⟩ = some (.int .u8 (f y))
theorem conv_u8 (w : World) (a : Option Addr) (n cap : Nat) (f : Nat → Int) (h : U8s w a n f) : (convert 37 9 (.slice a n cap)).run Try.prog w = .ok (.string (strOfNums ((List.range n).map f))) w := by
  rcases h with h0 | ⟨b, off, rfl, hc⟩
  · subst h0; exact conv_u0 w a cap
  · refine run_convert_bytes_arg w 37 5 Try.underlying37 Try.underlying5 b off n cap ((List.range n).map f) (by simp) (fun j hj => ?_) 9 Try.underlying9
    rw [hc j hj]
    simp [List.getD, List.getElem?_map, List.getElem?_range hj]
theorem c_SameBytes (a a2 : Option Addr) (n cap cap2 : Nat) (f : Nat → Int) (w : World) (h : U8s w a n f) (h2 : U8s w a2 n f) :
    Calls Try.prog 38 #[.slice a n cap, .slice a2 n cap2] w fun e w' => e = .returned (.bool true) ∧ w' = w := by
  have e1 := conv_u8 w a n cap f h
  have e2 := conv_u8 w a2 n cap2 f h2
  obtain ⟨s, hs⟩ : ∃ s, strOfNums ((List.range n).map f) = s := ⟨_, rfl⟩
  rw [hs] at e1 e2
  clear h h2 hs
  go_enter Try.func38, Try.ntmps38
  go_wp2_with fail
  go_ret
  exact ⟨rfl, rfl⟩
end Go.Proofs.Ytbfimedgichiiaa
