/-
  The contract of texts that are one token, in the code.
-/
import Derived.Test.YtbccabpcljkamaaDoorLexRd7
import Derived.Test.YtbccabpcljkamaaDoorLexBel
import Derived.Laws.AppendOwnNone
namespace Go.Proofs.YtbccabpcljkamaaDoor
set_option linter.unusedVariables false
set_option linter.unusedSimpArgs false
set_option maxRecDepth 100000
open Go.RowKit

theorem conv_any (w : World) (base : Nat) (v : Value) (n : Nat) (l : List UInt8) (hn : l.length = n) (h : w.ownsRow base 5 1 v n (Lib.byteCells l)) (h0 : l = [] → v = .slice none 0 0) :
    (convert 46 9 v).run Tryd.prog w = .ok (.string ⟨l.toArray⟩) w := by
  by_cases hl : l = []
  · rw [h0 hl, hl]
    exact run_convert_bytes_nil _ 46 5 Tryd.underlying46 Tryd.underlying5 0 0 9 Tryd.underlying9
  · exact conv_own w base v n l hn h hl
theorem LxX.grown {b k f : Nat} {w wr w2 : World} {o : Option Nat} (h : LxX b w k f wr) (hb : b < w.heap.size) (hg : wr.grownBy w2 o) (ho : ∀ g, o = some g → w.heap.size ≤ g) : LxX b w k f w2 := by
  have hbw : b < wr.heap.size := Nat.lt_of_lt_of_le hb h.size
  have keep : ∀ j, j < w.heap.size → w2.heap[j]? = wr.heap[j]? := fun j hj => hg.block j (Nat.lt_of_lt_of_le hj h.size) (fun e => by have := ho j e.symm; omega)
  have e := keep b hb
  exact ⟨fun i h1 h2 => (cell_of_blk e i).trans (h.oth i h1 h2), (cell_of_blk e 1).trans h.pos, (cell_of_blk e 2).trans h.frm, fun i => (frozen_of_blk e i).trans (h.frz i), fun j hj hs => (keep j hs).trans (h.blk j hj hs), Nat.le_trans h.size hg.size, hg.os.trans h.os, hg.tape.trans h.tape, hg.output.trans h.output⟩
theorem bytes_one (y : List UInt8) : ∀ u ∈ Lib.byteCells y, u.oneCell' = true := by
  intro u hu
  unfold Lib.byteCells at hu
  obtain ⟨c, _, rfl⟩ := List.mem_map.1 hu
  rfl
theorem own_block_ge {w : World} {base : Nat} {e : TypeId} {size : Nat} {v : Value} {n : Nat} {xs : List Value} (h : w.ownsRow base e size v n xs) : ∀ g, v.ownBlock = some g → base ≤ g := by
  intro g hg
  rcases h.2 with ⟨hv, _⟩ | ⟨g', cap', cur, hv, hg', _⟩
  · rw [hv] at hg; cases hg
  · rw [hv] at hg; cases hg; exact hg'
theorem c_sb34 (b : Nat) (l : List UInt8) (k : Nat) (w : World) (hk : k ≤ l.length) (h0 : w.cell? ⟨b, 0, none⟩ = some (.string ⟨l.toArray⟩)) (h1 : w.cell? ⟨b, 1, none⟩ = some (.int .i64 k)) :
    Calls Tryd.prog 48 #[.pointer (some ⟨b, 0, none⟩), .int .u8 34] w fun e w' => e = .returned (.bool ((l.drop k).head? == some 34)) ∧ ∃ n, w' = w.drewN n := c_seesByte b l 34 34 rfl k w hk h0 h1
set_option maxHeartbeats 4000000 in
theorem c_texts (B b : Nat) (l : List UInt8) (k : Nat) (w : World) (hE : Env B w) (hB : B ≤ b) (hbw : b < w.heap.size) (hlt : k < l.length) (hl : l.length ≤ 65536) (h0 : w.cell? ⟨b, 0, none⟩ = some (.string ⟨l.toArray⟩)) (h1 : w.cell? ⟨b, 1, none⟩ = some (.int .i64 k)) (h2 : w.cell? ⟨b, 2, none⟩ = some (.int .i64 k)) (hf : ∀ i, i < 4 → w.frozen? ⟨b, i, none⟩ = false) :
    Calls Tryd.prog 34 #[.pointer (some ⟨b, 0, none⟩)] w fun e w' => TkR b l k w (textsR (l.drop k) [] (l.drop k)) e w' := by
  have HX := Lib.hid (LxX.start h1 h2)
  have HBw := Lib.hid hbw
  have HA := Lib.hid (fun (j f : Nat) (wr : World) (h : LxX b w j f wr) => h.all h0 hf)
  have HEn := Lib.hid (fun (wr : World) (j f : Nat) (h : LxX b w j f wr) => hE.next (h.below hB hbw))
  have HPk : Hid (plc l (l.drop k) = k) := plc_drop l k (Nat.le_of_lt hlt)
  obtain ⟨F, hF⟩ : ∃ F, l.drop k = F := ⟨_, rfl⟩
  obtain ⟨o, ho⟩ : ∃ o, textsR F [] F = o := ⟨_, rfl⟩
  have HT0 : Hid (textsR F [] (l.drop k) = o) := by show _ = _; rw [hF]; exact ho
  rw [hF] at HPk ⊢
  rw [ho]
  clear hF ho h0 h1 hf h2 hE
  go_enter Tryd.func34, Tryd.ntmps34
  obtain ⟨g0, g1, g2, g3⟩ := HA.out _ _ _ HX.out
  go_wp2_with fail
  have HX1 := Lib.hid (HX.out.next HBw.out ((Below.refl w.heap.size w).alloc (Nat.le_refl _) (tOb 0 0 0 [])))
  have HN1 : Hid ((w.alloc (tOb 0 0 0 [])).heap[w.heap.size]? = some (tOb 0 0 0 [])) := heap_alloc_new w _
  clear g0 g1 g2 g3
  go_loopg [5] (l.length - k) (fun g v wr => ∃ (j : Nat) (acc : List UInt8), j + g = l.length ∧ k ≤ j ∧ acc.length ≤ 4096 ∧ Hid (LxX b w j j wr) ∧ Hid (wr.heap[w.heap.size]? = some (tOb 0 0 0 [])) ∧ Hid (wr.ownsRow (w.heap.size + 1) 5 1 v acc.length (Lib.byteCells acc)) ∧ Hid (acc = [] → v = .slice none 0 0) ∧ Hid (textsR F acc (l.drop j) = o))
  case atStart => exact ⟨k, [], by omega, Nat.le_refl _, Nat.zero_le _, HX1.out, HN1.out, ⟨rfl, .inl ⟨rfl, rfl⟩⟩, fun _ => rfl, HT0.out⟩
  case round =>
    obtain ⟨j, acc, hjg, hkj, hacc, HW, HN, HO, HZ, HT⟩ := hrel
    obtain ⟨g0, g1, g2, g3⟩ := HA.out _ _ _ HW.out
    have hjl : j ≤ l.length := by omega
    have HSb := Lib.hid (c_sb34 b l j wr hjl g0 g1)
    have HPj : Hid (plc l (l.drop j) = j) := plc_drop l j hjl
    obtain ⟨s, hs⟩ : ∃ s, l.drop j = s := ⟨_, rfl⟩
    rw [hs] at HSb HT HPj
    rw [textsR_step] at HT
    go_wp2_with fail
    by_cases h34 : s.head? = some 34
    · have hb34 : (s.head? == some 34) = true := by rw [h34]; rfl
      rw [hb34] at HSb
      rw [if_pos h34] at HT
      have hjlt : j < l.length := by
        rcases Nat.lt_or_ge j l.length with h | h
        · exact h
        · rw [← hs, List.drop_eq_nil_of_le h] at h34; cases h34
      obtain ⟨M, hM⟩ : ∃ M, 4096 - acc.length = M := ⟨_, rfl⟩
      have hMi : (4096 : Int) - (acc.length : Int) = (M : Int) := by omega
      have hd1 : s.drop 1 = l.drop (j + 1) := by rw [← hs, List.drop_drop]
      rw [hM, hd1] at HT
      obtain ⟨q, hq⟩ : ∃ q, pcsR 34 M [] (l.drop (j + 1)) = q := ⟨_, rfl⟩
      rw [hq] at HT
      have HP : Hid (∀ wr, LxX b w j j wr → Calls Tryd.prog 47 #[.pointer (some ⟨b, 0, none⟩), .int .u8 34, .int .i64 M] wr fun e w' => PsR b l wr q e w') := fun wr h => by
        obtain ⟨a0, a1, a2, a3⟩ := HA.out _ _ _ h
        have := c_pieces B b l 34 34 rfl M j wr (by omega) (HEn.out _ _ _ h) hB (Nat.lt_of_lt_of_le hbw h.size) hjlt hl a0 a1 (a3 1 (by decide))
        rw [hq] at this
        exact this
      have HQl : Hid (∀ y t, q = .ok y t → y.length ≤ M ∧ t <:+ l ∧ t.length < l.length - j) := fun y t h => by
        obtain ⟨s1, s2⟩ := pcsR_suf (hq.trans h)
        rw [List.length_drop] at s2
        exact ⟨pcsR_len (acc := []) (Nat.zero_le _) (hq.trans h), s1.trans (List.drop_suffix _ _), by omega⟩
      have HQb : Hid (∀ c, q = .bad c → c = 71 ∨ c = 72 ∨ c = 3) := fun c h => pcsR_bad (hq.trans h)
      have hMw : IntKind.i64.wrap ((4096 : Int) - (acc.length : Int)) = (M : Int) := by rw [hMi, IntKind.wrap_i64]; omega
      obtain ⟨ao, cap, hv⟩ : ∃ ao cap, u5 = .slice ao acc.length cap := by
        rcases HO.out.2 with ⟨hv, hz⟩ | ⟨g, cap, cur, hv, _⟩
        · exact ⟨none, 0, by rw [hv, hz]⟩
        · exact ⟨_, cap, hv⟩
      subst hv
      clear hs hd1 hq h34 hb34 g0 g1 g2 g3
      refine HSb.out.mono ?_
      rintro e w2 ⟨rfl, hn⟩
      have HW2 := Lib.hid (HW.out.draw hn)
      have HN2 : Hid (w2.heap[w.heap.size]? = some (tOb 0 0 0 [])) := by obtain ⟨n, rfl⟩ := hn; exact HN.out
      have HO2 : Hid (w2.ownsRow (w.heap.size + 1) 5 1 (.slice ao acc.length cap) acc.length (Lib.byteCells acc)) := by obtain ⟨n, rfl⟩ := hn; exact own_x HO.out (fun _ _ _ => rfl)
      clear hn
      go_wp2_with fail
      refine (HP.out _ HW2.out).mono ?_
      rintro e w3 (⟨y, t, v, hqe, rfl, hown, hx3⟩ | ⟨c, k', hqe, rfl, hx3⟩)
      · rw [hqe] at HT
        have HT3 : Hid ((if (blR t).2 then textsR F (acc ++ y) (blR t).1 else Tr.bad 71 (blR t).1) = o) := HT.out
        have HQy := Lib.hid (HQl.out y t hqe)
        have HX3 := Lib.hid (HW2.out.x hx3)
        have HN3 : Hid (w3.heap[w.heap.size]? = some (tOb 0 0 0 [])) := (hx3.blk _ (by have := HBw.out; omega) (Array.getElem?_eq_some_iff.1 HN2.out).1).trans HN2.out
        have HO3 : Hid (w3.ownsRow (w.heap.size + 1) 5 1 (.slice ao acc.length cap) acc.length (Lib.byteCells acc)) := own_x HO2.out (fun g hg hs => hx3.blk g (by have := HBw.out; omega) hs)
        have HS3 := Lib.hid (Array.getElem?_eq_some_iff.1 HN3.out).1
        obtain ⟨i0, hi, hz0, hz1, hz2⟩ := info_parts infoByte
        have hyM := HQy.out.1
        have HL : Hid ((Lib.byteCells acc).length = acc.length) := Lib.byteCells_length acc
        rcases hown.2 with ⟨hv, hz⟩ | ⟨g, cap2, cur, hv, hg, hh, r⟩
        · obtain rfl : y = [] := List.eq_nil_of_length_eq_zero hz
          subst hv
          clear HT hqe hown hx3 hz
          go_wp2_with (at_builtin; refine wpList_append_own_none rfl _ _ 46 rfl (w.heap.size + 1) 5 i0 1 Tryd.underlying46 hi _ acc.length (Lib.byteCells acc) rfl HO3.out rfl ?_)
          obtain ⟨v', hv'⟩ : ∃ v', (Value.slice ao acc.length cap) = v' := ⟨_, rfl⟩
          have HX4 := HX3
          have HN4 := HN3
          have HO4 : Hid (w3.ownsRow (w.heap.size + 1) 5 1 v' (acc ++ []).length (Lib.byteCells (acc ++ []))) := by rw [List.append_nil, ← hv']; exact HO3.out
          have HZ4 : Hid (acc ++ [] = [] → v' = .slice none 0 0) := by rw [List.append_nil, ← hv']; exact HZ.out
          rw [hv']
          generalize w3 = w4 at HX4 HN4 HO4 ⊢
          clear hv' HO3 HX3 HN3 HS3
          have HE4 := Lib.hid (HEn.out _ _ _ HX4.out)
          obtain ⟨g0, g1, g2, g3⟩ := HA.out _ _ _ HX4.out
          have HSk := Lib.hid (c_skip B b l (plc l t) j w4 HE4.out hB (Nat.lt_of_lt_of_le HBw.out HX4.out.size) (plc_le l t) hl g0 g1 g2 g3)
          rw [drop_plc HQy.out.2.1] at HSk
          have HQs := Lib.hid (blR_suf t)
          obtain ⟨R, hR⟩ : ∃ R, blR t = R := ⟨_, rfl⟩
          rw [hR] at HSk HT3 HQs
          obtain ⟨x, ok⟩ := R
          clear g0 g1 g2 g3 hR
          go_wp2_with fail
          refine HSk.out.mono ?_
          rintro e w5 ⟨rfl, hx5⟩
          have HX5 : Hid (LxX b w (plc l x) (plc l x) w5) := HX4.out.trans hx5
          have HN5 : Hid (w5.heap[w.heap.size]? = some (tOb 0 0 0 [])) := (hx5.blk _ (by have := HBw.out; omega) (Array.getElem?_eq_some_iff.1 HN4.out).1).trans HN4.out
          have HO5 : Hid (w5.ownsRow (w.heap.size + 1) 5 1 v' (acc ++ []).length (Lib.byteCells (acc ++ []))) := own_x HO4.out (fun g hg hs => hx5.blk g (by have := HBw.out; omega) hs)
          clear hx5
          cases ok
          · have Ho : Hid (Tr.bad 71 x = o) := HT3.out
            obtain ⟨n0, n1, n2, n3, n4⟩ := tob_cells HN5.out
            have nf := n4 0
            have nf1 := n4 1
            have nf2 := n4 2
            have nf3 := n4 3
            clear n4
            have hse : skE (x, false) = 71 := rfl
            rw [hse]
            go_wp2_with fail
            refine bodyPost_ret (v := .tuple #[tV 0 0 0 [], .int .i64 71]) (by simp [results, Tryd.results34, go_sem, n0, n1, n2, n3]) rfl ?_
            exact TkR.no Ho.out.symm rfl rfl (HX5.out.own4 _ _ _ _ (Nat.le_refl _) HBw.out)
          · have hse : skE (x, true) = 0 := rfl
            rw [hse]
            have HT5 : Hid (textsR F (acc ++ []) x = o) := HT3.out
            have HXs : Hid (x <:+ l) := HQs.out.trans HQy.out.2.1
            have HTx : Hid (textsR F (acc ++ []) (l.drop (plc l x)) = o) := by show _ = _; rw [drop_plc HXs.out]; exact HT5.out
            have hq1 := HQy.out.2.2
            have hq2 := HQs.out.length_le
            have hq3 := HXs.out.length_le
            have hq4 := HQy.out.1
            have hal : (acc ++ []).length ≤ 4096 := by rw [List.length_append]; omega
            go_wp2_with fail
            go_roundg (l.length - plc l x)
            case measure => unfold plc; omega
            case rel => exact ⟨plc l x, acc ++ [], by unfold plc; omega, by unfold plc; omega, hal, HX5.out, HN5.out, HO5.out, HZ4.out, HTx.out⟩
        · subst hv
          have hcl : ∀ (j' : Nat) (u : Value), (Lib.byteCells y)[j']? = some u → w3.cell? ((⟨g, 0, none⟩ : Addr).add j') = some u := fun j' u hj => by
            have := hown.cells (g := g) rfl j' u hj
            simpa [Addr.add] using this
          have HYl : Hid ((Lib.byteCells y).length = y.length * 1) := by show _ = _; rw [Lib.byteCells_length, Nat.mul_one]
          clear HT hqe hx3
          go_wp2_with (at_builtin; refine wpList_append_own _ rfl _ _ 46 rfl (w.heap.size + 1) 5 i0 (.int .u8 0) 1 1 Tryd.underlying46 hi hz0 hz1 hz2 rfl (by decide) _ acc.length (Lib.byteCells acc) rfl HO3.out ⟨g, 0, none⟩ y.length cap2 (Lib.byteCells y) rfl HYl.out hcl (bytes_one _) ?c3 ?c4 ?c5 ?_)
          case c3 => unfold maxLen; omega
          case c4 => omega
          case c5 => exact HS3.out
          intro v' w4 hown4 hgrow hiff
          have HX4 : Hid (LxX b w (plc l t) j w4) := HX3.out.grown HBw.out hgrow (fun g hg => by have := own_block_ge HO3.out g hg; omega)
          have HN4 : Hid (w4.heap[w.heap.size]? = some (tOb 0 0 0 [])) := (hgrow.block _ HS3.out (fun e => by have := own_block_ge HO3.out _ e.symm; omega)).trans HN3.out
          have HO4 : Hid (w4.ownsRow (w.heap.size + 1) 5 1 v' (acc ++ y).length (Lib.byteCells (acc ++ y))) := by
            show w4.ownsRow _ _ _ _ _ _
            rw [Lib.byteCells_append, List.length_append]
            exact hown4
          have HZ4 : Hid (acc ++ y = [] → v' = .slice none 0 0) := fun h => hiff.2 ⟨by have hz := HZ.out (List.append_eq_nil_iff.1 h).1; injection hz with a1 a2 a3; exact ⟨a1, (List.append_eq_nil_iff.1 h).1, a3⟩, by simp [(List.append_eq_nil_iff.1 h).2]⟩
          clear hown4 hgrow hiff hcl hown hh r
          have HE4 := Lib.hid (HEn.out _ _ _ HX4.out)
          obtain ⟨g0, g1, g2, g3⟩ := HA.out _ _ _ HX4.out
          have HSk := Lib.hid (c_skip B b l (plc l t) j w4 HE4.out hB (Nat.lt_of_lt_of_le HBw.out HX4.out.size) (plc_le l t) hl g0 g1 g2 g3)
          rw [drop_plc HQy.out.2.1] at HSk
          have HQs := Lib.hid (blR_suf t)
          obtain ⟨R, hR⟩ : ∃ R, blR t = R := ⟨_, rfl⟩
          rw [hR] at HSk HT3 HQs
          obtain ⟨x, ok⟩ := R
          clear g0 g1 g2 g3 hR
          go_wp2_with fail
          refine HSk.out.mono ?_
          rintro e w5 ⟨rfl, hx5⟩
          have HX5 : Hid (LxX b w (plc l x) (plc l x) w5) := HX4.out.trans hx5
          have HN5 : Hid (w5.heap[w.heap.size]? = some (tOb 0 0 0 [])) := (hx5.blk _ (by have := HBw.out; omega) (Array.getElem?_eq_some_iff.1 HN4.out).1).trans HN4.out
          have HO5 : Hid (w5.ownsRow (w.heap.size + 1) 5 1 v' (acc ++ y).length (Lib.byteCells (acc ++ y))) := own_x HO4.out (fun g hg hs => hx5.blk g (by have := HBw.out; omega) hs)
          clear hx5
          cases ok
          · have Ho : Hid (Tr.bad 71 x = o) := HT3.out
            obtain ⟨n0, n1, n2, n3, n4⟩ := tob_cells HN5.out
            have nf := n4 0
            have nf1 := n4 1
            have nf2 := n4 2
            have nf3 := n4 3
            clear n4
            have hse : skE (x, false) = 71 := rfl
            rw [hse]
            go_wp2_with fail
            refine bodyPost_ret (v := .tuple #[tV 0 0 0 [], .int .i64 71]) (by simp [results, Tryd.results34, go_sem, n0, n1, n2, n3]) rfl ?_
            exact TkR.no Ho.out.symm rfl rfl (HX5.out.own4 _ _ _ _ (Nat.le_refl _) HBw.out)
          · have hse : skE (x, true) = 0 := rfl
            rw [hse]
            have HT5 : Hid (textsR F (acc ++ y) x = o) := HT3.out
            have HXs : Hid (x <:+ l) := HQs.out.trans HQy.out.2.1
            have HTx : Hid (textsR F (acc ++ y) (l.drop (plc l x)) = o) := by show _ = _; rw [drop_plc HXs.out]; exact HT5.out
            have hq1 := HQy.out.2.2
            have hq2 := HQs.out.length_le
            have hq3 := HXs.out.length_le
            have hq4 := HQy.out.1
            have hal : (acc ++ y).length ≤ 4096 := by rw [List.length_append]; omega
            go_wp2_with fail
            go_roundg (l.length - plc l x)
            case measure => unfold plc; omega
            case rel => exact ⟨plc l x, acc ++ y, by unfold plc; omega, by unfold plc; omega, hal, HX5.out, HN5.out, HO5.out, HZ4.out, HTx.out⟩
      · rw [hqe] at HT
        have HT3 : Hid (Tr.bad c (if c = 3 then F else s) = o) := HT.out
        have HX3 := Lib.hid (HW2.out.x hx3)
        have HN3 : Hid (w3.heap[w.heap.size]? = some (tOb 0 0 0 [])) := (hx3.blk _ (by have := HBw.out; omega) (Array.getElem?_eq_some_iff.1 HN2.out).1).trans HN2.out
        have hcb := HQb.out c hqe
        obtain ⟨n0, n1, n2, n3, n4⟩ := tob_cells HN3.out
        have nf := n4 0
        have nf1 := n4 1
        have nf2 := n4 2
        have nf3 := n4 3
        obtain ⟨g0, g1, g2, g3⟩ := HA.out _ _ _ HX3.out
        have gf := g3 2 (by decide)
        have hbN : ¬ b = w.heap.size := by omega
        have hbN2 : ¬ w.heap.size = b := by omega
        clear HT hqe hx3 n4 g3
        by_cases hc3 : c = 3
        · subst hc3
          have Ho : Hid (Tr.bad 3 F = o) := by have := HT3.out; rw [if_pos rfl] at this; exact this
          go_wp2_with fail
          refine bodyPost_ret (v := .tuple #[tV 0 0 0 [], .int .i64 3]) (by simp [results, Tryd.results34, go_sem, n0, n1, n2, n3, hbN, hbN2]) rfl ?_
          exact TkR.no Ho.out.symm HPk.out rfl ((HX3.out.setf k).own4 _ _ _ _ (Nat.le_refl _) HBw.out)
        · have Ho : Hid (Tr.bad c s = o) := by have := HT3.out; rw [if_neg hc3] at this; exact this
          have hcn : (c == 3) = false := by rw [beq_eq_false_iff_ne]; exact hc3
          have hc0 : (c == 0) = false := by rcases hcb with rfl | rfl | rfl <;> rfl
          clear hcb hc3
          go_wp2_with fail
          refine bodyPost_ret (v := .tuple #[tV 0 0 0 [], .int .i64 c]) (by simp [results, Tryd.results34, go_sem, n0, n1, n2, n3]) rfl ?_
          exact TkR.no Ho.out.symm HPj.out rfl (HX3.out.own4 _ _ _ _ (Nat.le_refl _) HBw.out)
    · have hb34 : (s.head? == some 34) = false := by rw [beq_eq_false_iff_ne]; exact h34
      rw [hb34] at HSb
      rw [if_neg h34] at HT
      clear hs h34 hb34 g0 g1 g2 g3
      refine HSb.out.mono ?_
      rintro e w2 ⟨rfl, hn⟩
      have HW2 := Lib.hid (HW.out.draw hn)
      have HN2 : Hid (w2.heap[w.heap.size]? = some (tOb 0 0 0 [])) := by obtain ⟨n, rfl⟩ := hn; exact HN.out
      have HO2 : Hid (w2.ownsRow (w.heap.size + 1) 5 1 u5 acc.length (Lib.byteCells acc)) := by obtain ⟨n, rfl⟩ := hn; exact own_x HO.out (fun _ _ _ => rfl)
      have hcv := conv_any w2 (w.heap.size + 1) u5 acc.length acc rfl HO2.out HZ.out
      obtain ⟨n0, n1, n2, n3, n4⟩ := tob_cells HN2.out
      have nf := n4 0
      have nf1 := n4 1
      have nf2 := n4 2
      have nf3 := n4 3
      clear hn n4
      go_wp2_with fail
      refine bodyPost_ret (v := .tuple #[tV 4 k 0 acc, .int .i64 0]) (by simp [results, Tryd.results34, go_sem, n0, n1, n2, n3]) rfl ?_
      exact TkR.yes HT.out.symm HPj.out rfl (HW2.out.own4 _ _ _ _ (Nat.le_refl _) HBw.out)
end Go.Proofs.YtbccabpcljkamaaDoor
