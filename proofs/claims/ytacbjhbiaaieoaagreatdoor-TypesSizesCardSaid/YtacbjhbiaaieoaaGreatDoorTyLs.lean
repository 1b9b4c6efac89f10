/-
  The contract of a function's parameters, in the code.
-/
import Derived.Test.YtacbjhbiaaieoaaGreatDoorTyPt
import Derived.Deep.LoopGhost
namespace Go.Proofs.YtacbjhbiaaieoaaGreatDoor
set_option linter.unusedVariables false
set_option linter.unusedSimpArgs false
set_option maxRecDepth 100000
open Go.RowKit

theorem PtX.start {b d N k : Nat} {w : World} (h : w.cell? ⟨b, 1, none⟩ = some (.int .i64 k)) : PtX b d N w k w := ⟨fun _ _ => rfl, h, fun _ => rfl, fun _ _ => rfl, fun _ => rfl, fun _ _ _ _ => rfl, Nat.le_refl _, rfl, rfl, rfl⟩
theorem PtX.trans {b d N j k : Nat} {w w1 w2 : World} (h : PtX b d N w j w1) (g : PtX b d N w1 k w2) : PtX b d N w k w2 :=
  ⟨fun i hi => (g.oth i hi).trans (h.oth i hi), g.pos, fun i => (g.frz i).trans (h.frz i), fun i hi => (g.doth i hi).trans (h.doth i hi), fun i => (g.dfrz i).trans (h.dfrz i), fun i h1 h2 h3 => (g.blk i h1 h2 h3).trans (h.blk i h1 h2 h3), Nat.le_trans h.size g.size, g.os.trans h.os, g.tape.trans h.tape, g.output.trans h.output⟩
theorem RdX.pt {b d N k : Nat} {w w2 : World} (h : RdX b w k w2) (hbd : b ≠ d) (hd : d < w.heap.size) (hN : N ≤ w.heap.size) : PtX b d N w k w2 := by
  have e := h.blk d (Ne.symm hbd) hd
  exact ⟨h.oth, h.pos, h.frz, fun i _ => cell_of_blk e i, fun i => frozen_of_blk e i, fun i h1 _ h3 => h.blk i h1 (by omega), h.size, h.os, h.tape, h.output⟩
theorem PartsAt.rd {b d N k : Nat} {L : List (Ty × Value)} {v : Value} {w w2 : World} (h : PartsAt N d L v w) (hX : RdX b w k w2) (hbd : b ≠ d) (hbN : b < N) : PartsAt N d L v w2 := by
  have hd : d < w.heap.size := World.block_lt_of_cell? w ⟨d, 4, none⟩ h.cell
  have e := hX.blk d (Ne.symm hbd) hd
  have hs := hX.size
  refine ⟨(cell_of_blk e 4).trans h.cell, own_far h.own (fun g hg hNg => hX.blk g (by omega) (h.own.lt g hg).2), fun p hp => (h.kids p hp).mono (fun i hi => ⟨hi.1, by have := hi.2.1; omega, hi.2.2⟩) (fun i hi => hX.blk i (by have := hi.1; omega) hi.2.1)⟩
theorem PtX.below {B b d N k : Nat} {w w2 : World} (h : PtX b d N w k w2) (hb : B ≤ b) (hd : B ≤ d) (hdN : d < N) : Below B w w2 := ⟨h.os, h.tape, h.output, h.size, fun i hi => h.blk i (by omega) (by omega) (by omega)⟩
theorem slc_of {w : World} {N : Nat} {T : TypeId} {z : Nat} {v : Value} {n : Nat} {xs : List Value} (h : w.ownsRow N T z v n xs) : ∃ a c, v = .slice a n c ∧ n ≤ c := by
  rcases h.2 with ⟨hv, hz⟩ | ⟨g, cap, cur, hv, _, _, h1, _⟩
  · exact ⟨none, 0, by rw [hv, hz], by omega⟩
  · exact ⟨_, cap, hv, h1⟩
def lsO (o : Option (Tys × List UInt8)) : Option (List Ty × List UInt8) := o.map fun q => (q.1.list, q.2)
/-- What list answers. -/
def LsR (N b d : Nat) (l : List UInt8) (k : Nat) (w : World) (o : Option (List Ty × List UInt8)) (e : Ending) (w' : World) : Prop :=
  (∃ ps y L' v', o = some (ps, y) ∧ L'.map Prod.fst = ps ∧ e = .returned (.bool true) ∧ PartsAt N d L' v' w' ∧ PtX b d N w (plc l y) w' ∧ k ≤ plc l y ∧ L'.length ≤ plc l y ∧ y <:+ l) ∨
  (o = none ∧ ∃ (j : Nat) (a : Option Addr) (n c : Nat), e = .returned (.bool false) ∧ k ≤ j ∧ j ≤ l.length ∧ w'.cell? ⟨d, 4, none⟩ = some (.slice a n c) ∧ PtX b d N w j w')
theorem head_drop2 {l y : List UInt8} {c : UInt8} (hs : y <:+ l) (h : y.head? = some c) : plc l (y.drop 1) = plc l y + 1 ∧ y.drop 1 <:+ l := by
  have e := head_drop h
  have hl := hs.length_le
  have h2 := congrArg List.length e
  rw [List.length_cons] at h2
  exact ⟨by unfold plc; omega, (List.drop_suffix 1 y).trans hs⟩
theorem rd_suf2 {l y : List UInt8} {k : Nat} {t : Ty} (h : rd (l.drop k) = some (t, y)) (hk : k ≤ l.length) : y <:+ l ∧ k < plc l y := by
  have e := rd_suf h
  have hs : y <:+ l.drop k := ⟨t.code, e.symm⟩
  have h1 := size_code t
  have h0 : 1 ≤ t.size := by cases t <;> (unfold Ty.size; omega)
  have h2 := congrArg List.length e
  rw [List.length_append, List.length_drop] at h2
  exact ⟨hs.trans (List.drop_suffix _ _), by unfold plc; omega⟩
theorem rdL_map {r y : List UInt8} {t : Ty} (h : rd r = some (t, y)) (A : List Ty) : (lsO (rdL r)).map (fun q => (A ++ q.1, q.2)) = if y.head? = some 44 then (lsO (rdL (y.drop 1))).map (fun q => ((A ++ [t]) ++ q.1, q.2)) else if y.head? = some 41 then some (A ++ [t], y.drop 1) else none := by
  rw [rdL_step, h]
  simp only [Option.bind_some]
  split
  · unfold lsO
    cases rdL (y.drop 1) with
    | none => rfl
    | some q =>
      show some (A ++ (t :: q.1.list), q.2) = some (A ++ [t] ++ q.1.list, q.2)
      simp
  · split <;> rfl
theorem rdL_nomap {r : List UInt8} (h : rd r = none) (A : List Ty) : (lsO (rdL r)).map (fun q => (A ++ q.1, q.2)) = none := by
  rw [rdL_step, h]
  rfl
set_option maxHeartbeats 4000000 in
theorem c_list (n : Nat) (hO : OneC n) (B b d N : Nat) (l : List UInt8) (k : Nat) (v : Value) (w : World) (hE : Env B w) (hB : B ≤ b) (hBd : B ≤ d) (hbN : b < N) (hdN : d < N) (hbd : b ≠ d) (hN : N ≤ w.heap.size) (hk : k ≤ l.length) (hl : l.length ≤ 65536) (hn : (l.drop k).length ≤ n)
    (h0 : w.cell? ⟨b, 0, none⟩ = some (.string ⟨l.toArray⟩)) (h1 : w.cell? ⟨b, 1, none⟩ = some (.int .i64 k)) (hf : w.frozen? ⟨b, 1, none⟩ = false) (hdf : w.frozen? ⟨d, 4, none⟩ = false) (hP : PartsAt N d [] v w) (hv : v = .slice none 0 0) :
    Calls Tryz.prog 105 #[.pointer (some ⟨b, 0, none⟩), .pointer (some ⟨d, 0, none⟩)] w fun e w' => LsR N b d l k w (lsO (parL (l.drop k))) e w' := by
  have HT := Lib.hid (fun (wr : World) (j : Nat) (c : UInt8) (hj : j ≤ l.length) (h : PtX b d N w j wr) => c_take b l c j wr hj hl ((h.oth 0 (by decide)).trans h0) h.pos ((h.frz 1).trans hf))
  have HPt := Lib.hid (fun (wr : World) (j : Nat) (L : List (Ty × Value)) (v : Value) (hkj : k ≤ j) (hj : j ≤ l.length) (h : PtX b d N w j wr) (hL : L.length ≤ j) (hP : PartsAt N d L v wr) => c_part n hO B b d N l j L v wr (hE.next (h.below hB hBd hdN)) hB hbN hdN hbd (Nat.le_trans hN h.size) hj hl (by rw [List.length_drop] at hn ⊢; omega) ((h.oth 0 (by decide)).trans h0) h.pos ((h.frz 1).trans hf) ((h.dfrz 4).trans hdf) (by omega) hP)
  have HX0 := Lib.hid (PtX.start (d := d) (N := N) h1)
  have HP0 := Lib.hid hP
  have HK := Lib.hid hk
  have hds : plc l (l.drop k) = k := plc_drop hk
  have hdl : l.drop k <:+ l := List.drop_suffix k l
  obtain ⟨o, ho⟩ : ∃ o, lsO (parL (l.drop k)) = o := ⟨_, rfl⟩
  have hPo : o = if (l.drop k).head? = some 40 then if ((l.drop k).drop 1).head? = some 41 then some ([], (l.drop k).drop 2) else lsO (rdL ((l.drop k).drop 1)) else none := by
    rw [← ho]
    unfold parL
    split
    · split <;> rfl
    · rfl
  rw [ho]
  clear ho hE hn h0 h1 hf hdf hP hO
  have HRP := Lib.hid (fun (w1 w2 : World) (j : Nat) (h : RdX b w1 j w2) (h1 : PtX b d N w j w1 ∨ ∃ j', PtX b d N w j' w1) => (h1.elim (fun g => g.trans (h.pt hbd (by have := g.size; omega) (Nat.le_trans hN g.size))) (fun ⟨_, g⟩ => g.trans (h.pt hbd (by have := g.size; omega) (Nat.le_trans hN g.size)))))
  by_cases hq : (l.drop k).head? = some 40
  · rw [if_pos hq] at hPo
    have hqb : ((l.drop k).head? == some 40) = true := by rw [beq_iff_eq]; exact hq
    have HT1 := Lib.hid (HT.out w k 40 hk HX0.out)
    rw [hqb, if_pos rfl] at HT1
    obtain ⟨hd1, hd1s⟩ := head_drop2 hdl hq
    rw [hds] at hd1
    have hk1 : k + 1 ≤ l.length := by rw [← hd1]; exact plc_le _ _
    have hdd : (l.drop k).drop 1 = l.drop (k + 1) := by rw [List.drop_drop]
    rw [hdd, show (l.drop k).drop 2 = (l.drop (k + 1)).drop 1 by rw [List.drop_drop, List.drop_drop]] at hPo
    rw [hdd] at hd1 hd1s
    clear hdd hq hqb
    go_enter Tryz.func105, Tryz.ntmps105
    go_wp2_with fail
    refine HT1.out.mono ?_
    rintro e w1 ⟨rfl, hw1⟩
    have HX1 : Hid (PtX b d N w (k + 1) w1) := HRP.out _ _ _ hw1.x (.inr ⟨k, HX0.out⟩)
    have HP1 : Hid (PartsAt N d [] v w1) := HP0.out.rd hw1.x hbd hbN
    clear hw1
    have HT2 := Lib.hid (HT.out w1 (k + 1) 41 hk1 HX1.out)
    by_cases hq2 : (l.drop (k + 1)).head? = some 41
    · rw [if_pos hq2] at hPo
      have hqb : ((l.drop (k + 1)).head? == some 41) = true := by rw [beq_iff_eq]; exact hq2
      rw [hqb, if_pos rfl] at HT2
      obtain ⟨hd2, hd2s⟩ := head_drop2 hd1s hq2
      rw [hd1] at hd2
      clear hq2 hqb
      go_wp2_with fail
      refine HT2.out.mono ?_
      rintro e w2 ⟨rfl, hw2⟩
      have HX2 : Hid (PtX b d N w (k + 1 + 1) w2) := HRP.out _ _ _ hw2.x (.inr ⟨_, HX1.out⟩)
      have HP2 : Hid (PartsAt N d [] v w2) := HP1.out.rd hw2.x hbd hbN
      clear hw2
      go_wp2_with fail
      go_ret
      exact .inl ⟨[], _, [], v, hPo, rfl, rfl, HP2.out, by rw [hd2]; exact HX2.out, by rw [hd2]; omega, Nat.zero_le _, hd2s⟩
    · rw [if_neg hq2] at hPo
      have hqb : ((l.drop (k + 1)).head? == some 41) = false := by rw [beq_eq_false_iff_ne]; exact hq2
      rw [hqb, if_neg (by simp)] at HT2
      clear hqb hq2
      go_wp2_with fail
      refine HT2.out.mono ?_
      rintro e w2 ⟨rfl, hw2⟩
      have HX2 : Hid (PtX b d N w (k + 1) w2) := HRP.out _ _ _ hw2.x (.inr ⟨_, HX1.out⟩)
      have HP2 : Hid (PartsAt N d [] v w2) := HP1.out.rd hw2.x hbd hbN
      clear hw2
      have HPo : Hid ((lsO (rdL (l.drop (k + 1)))).map (fun q => ([] ++ q.1, q.2)) = o) := by
        show _ = _
        rw [hPo]
        cases lsO (rdL (l.drop (k + 1))) <;> rfl
      clear hPo HT2 HT1 hds hdl hd1 hd1s
      go_wp2_with fail
      go_loopg [] (l.length - (k + 1)) (fun g wr => ∃ (j : Nat) (L : List (Ty × Value)) (v : Value), j + g = l.length ∧ k ≤ j ∧ L.length ≤ j ∧ Hid (PtX b d N w j wr) ∧ Hid (PartsAt N d L v wr) ∧ Hid ((lsO (rdL (l.drop j))).map (fun q => (L.map Prod.fst ++ q.1, q.2)) = o))
      case atStart => exact ⟨k + 1, [], v, by omega, by omega, by simp, HX2.out, HP2.out, HPo.out⟩
      case round =>
        obtain ⟨j, L, v, hjg, hkj, hLj, HX, HP, HR⟩ := hrel
        have hjl : j ≤ l.length := by omega
        have HC := Lib.hid (HPt.out wr j L v hkj hjl HX.out hLj HP.out)
        go_wp2_with fail
        refine HC.out.mono ?_
        rintro e w3 (⟨t, y, s, v', hr, rfl, hp3, hx3⟩ | ⟨hr, j', a, n', c, rfl, hj1, hj2, hc, hx3⟩)
        · have HX3 : Hid (PtX b d N w (plc l y) w3) := HX.out.trans hx3
          have HP3 := Lib.hid hp3
          obtain ⟨hys, hyk⟩ := rd_suf2 hr hjl
          have HR3 : Hid ((if y.head? = some 44 then (lsO (rdL (y.drop 1))).map (fun q => ((L.map Prod.fst ++ [t]) ++ q.1, q.2)) else if y.head? = some 41 then some (L.map Prod.fst ++ [t], y.drop 1) else none) = o) := by
            show _ = _
            rw [← rdL_map hr]
            exact HR.out
          have hyl := plc_le l y
          have hyd := drop_plc hys
          clear hr hp3 hx3
          have HT3 := Lib.hid (fun c => HT.out w3 (plc l y) c hyl HX3.out)
          rw [hyd] at HT3
          by_cases hq : y.head? = some 44
          · rw [if_pos hq] at HR3
            have HT4 := Lib.hid (HT3.out 44)
            rw [show (y.head? == some 44) = true by rw [beq_iff_eq]; exact hq, if_pos rfl] at HT4
            obtain ⟨hd3, hd3s⟩ := head_drop2 hys hq
            have hd4 := drop_plc hd3s
            rw [hd3] at hd4
            have hpl : plc l y + 1 ≤ l.length := by rw [← hd3]; exact plc_le _ _
            clear hq hyd
            go_wp2_with fail
            refine HT4.out.mono ?_
            rintro e w4 ⟨rfl, hw4⟩
            have HX4 : Hid (PtX b d N w (plc l y + 1) w4) := HRP.out _ _ _ hw4.x (.inr ⟨_, HX3.out⟩)
            have HP4 := Lib.hid (HP3.out.rd hw4.x hbd hbN)
            clear hw4
            go_wp2_with fail
            go_roundg (l.length - (plc l y + 1))
            case measure => omega
            case rel => exact ⟨plc l y + 1, L ++ [(t, s)], v', by omega, by omega, by rw [List.length_append]; simp; omega, HX4.out, HP4.out, by
              show _ = _
              rw [hd4, List.map_append]
              exact HR3.out⟩
          · rw [if_neg hq] at HR3
            have HT4 := Lib.hid (HT3.out 44)
            rw [show (y.head? == some 44) = false by rw [beq_eq_false_iff_ne]; exact hq, if_neg (by simp)] at HT4
            clear hq
            go_wp2_with fail
            refine HT4.out.mono ?_
            rintro e w4 ⟨rfl, hw4⟩
            have HX4 : Hid (PtX b d N w (plc l y) w4) := HRP.out _ _ _ hw4.x (.inl HX3.out)
            have HP4 := Lib.hid (HP3.out.rd hw4.x hbd hbN)
            clear hw4
            have HT5 := Lib.hid (HT.out w4 (plc l y) 41 hyl HX4.out)
            rw [hyd] at HT5
            by_cases hq2 : y.head? = some 41
            · rw [if_pos hq2] at HR3
              rw [show (y.head? == some 41) = true by rw [beq_iff_eq]; exact hq2, if_pos rfl] at HT5
              obtain ⟨hd3, hd3s⟩ := head_drop2 hys hq2
              clear hq2 hyd
              go_wp2_with fail
              refine HT5.out.mono ?_
              rintro e w5 ⟨rfl, hw5⟩
              have HX5 : Hid (PtX b d N w (plc l y + 1) w5) := HRP.out _ _ _ hw5.x (.inr ⟨_, HX4.out⟩)
              have HP5 := Lib.hid (HP4.out.rd hw5.x hbd hbN)
              clear hw5
              go_wp2_with fail
              go_ret
              exact .inl ⟨_, _, L ++ [(t, s)], v', HR3.out.symm, by rw [List.map_append]; rfl, rfl, HP5.out, by rw [hd3]; exact HX5.out, by rw [hd3]; omega, by rw [hd3, List.length_append]; simp; omega, hd3s⟩
            · rw [if_neg hq2] at HR3
              rw [show (y.head? == some 41) = false by rw [beq_eq_false_iff_ne]; exact hq2, if_neg (by simp)] at HT5
              clear hq2 hyd
              go_wp2_with fail
              refine HT5.out.mono ?_
              rintro e w5 ⟨rfl, hw5⟩
              have HX5 : Hid (PtX b d N w (plc l y) w5) := HRP.out _ _ _ hw5.x (.inl HX4.out)
              have HP5 := Lib.hid (HP4.out.rd hw5.x hbd hbN)
              clear hw5
              go_wp2_with fail
              go_ret
              obtain ⟨a, c, hv', _⟩ := slc_of HP5.out.own
              exact .inr ⟨HR3.out.symm, plc l y, a, _, c, rfl, by omega, hyl, by rw [← hv']; exact HP5.out.cell, HX5.out⟩
        · have HX3 : Hid (PtX b d N w j' w3) := HX.out.trans hx3
          have HR3 : Hid (none = o) := by
            show _ = _
            rw [← HR.out, rdL_nomap hr]
          have HC3 := Lib.hid hc
          clear hr hc hx3
          go_wp2_with fail
          go_ret
          exact .inr ⟨HR3.out.symm, j', a, n', c, rfl, by omega, hj2, HC3.out, HX3.out⟩
  · rw [if_neg hq] at hPo
    have hqb : ((l.drop k).head? == some 40) = false := by rw [beq_eq_false_iff_ne]; exact hq
    have HT1 := Lib.hid (HT.out w k 40 hk HX0.out)
    rw [hqb, if_neg (by simp)] at HT1
    clear hqb hq
    go_enter Tryz.func105, Tryz.ntmps105
    go_wp2_with fail
    refine HT1.out.mono ?_
    rintro e w1 ⟨rfl, hw1⟩
    have HX1 : Hid (PtX b d N w k w1) := HRP.out _ _ _ hw1.x (.inl HX0.out)
    have HP1 : Hid (PartsAt N d [] v w1) := HP0.out.rd hw1.x hbd hbN
    clear hw1
    go_wp2_with fail
    go_ret
    exact .inr ⟨hPo, k, none, 0, 0, rfl, Nat.le_refl _, hk, by rw [← hv]; exact HP1.out.cell, HX1.out⟩
end Go.Proofs.YtacbjhbiaaieoaaGreatDoor
