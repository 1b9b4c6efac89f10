/-
  The contract of pieces up to a quote, in the code.
-/
import Derived.Test.YtbccabpcljkamaaDoorLexRd4
import Derived.Laws.OwnMore
namespace Go.Proofs.YtbccabpcljkamaaDoor
set_option linter.unusedVariables false
set_option linter.unusedSimpArgs false
set_option maxRecDepth 100000
open Go.RowKit

theorem own_x {w w' : World} {base : Nat} {e : TypeId} {size : Nat} {v : Value} {n : Nat} {xs : List Value} (h : w.ownsRow base e size v n xs) (hb : ∀ g, base ≤ g → g < w.heap.size → w'.heap[g]? = w.heap[g]?) : w'.ownsRow base e size v n xs := by
  have hlt := h.lt
  refine ⟨h.1, ?_⟩
  rcases h.2 with h2 | ⟨g, cap, cur, rfl, hg, hh, r⟩
  · exact .inl h2
  · exact .inr ⟨g, cap, cur, rfl, hg, (hb g hg (Array.getElem?_eq_some_iff.1 hh).1).trans hh, r⟩
theorem RdX.grown {b k : Nat} {w wr w2 : World} {o : Option Nat} (h : RdX b w k wr) (hb : b < w.heap.size) (hg : wr.grownBy w2 o) (ho : ∀ g, o = some g → w.heap.size ≤ g) : RdX b w k w2 := by
  have hbw : b < wr.heap.size := Nat.lt_of_lt_of_le hb h.size
  have keep : ∀ j, j < w.heap.size → w2.heap[j]? = wr.heap[j]? := fun j hj => hg.block j (Nat.lt_of_lt_of_le hj h.size) (fun e => by have := ho j e.symm; omega)
  have e := keep b hb
  exact ⟨fun i hi => (cell_of_blk e i).trans (h.oth i hi), (cell_of_blk e 1).trans h.pos, fun i => (frozen_of_blk e i).trans (h.frz i), fun j hj hs => (keep j hs).trans (h.blk j hj hs), Nat.le_trans h.size hg.size, hg.os.trans h.os, hg.tape.trans h.tape, hg.output.trans h.output⟩
theorem byte_new (w : World) (x : Value) (T : TypeId) : ∀ (j : Nat) (u : Value), [x][j]? = some u → (w.alloc (.cells #[x] T)).cell? ((⟨w.heap.size, 0, none⟩ : Addr).add j) = some u := by
  intro j u hu
  have hj : j = 0 := by
    have := (List.getElem?_eq_some_iff.1 hu).1
    simp at this
    omega
  subst hj
  simp at hu
  subst hu
  simp [Addr.add]
theorem byte_one (x : Int) : ∀ u ∈ [Value.int .u8 x], u.oneCell' = true := by
  intro u hu
  simp at hu
  subst hu
  rfl
/-- What pieces answer. -/
def PsR (b : Nat) (l : List UInt8) (w : World) (o : Pr) (e : Ending) (w' : World) : Prop :=
  (∃ y t v, o = .ok y t ∧ e = .returned (.tuple #[v, .int .i64 0]) ∧ w'.ownsRow w.heap.size 5 1 v y.length (Lib.byteCells y) ∧ RdX b w (plc l t) w') ∨ (∃ (c : Int) (k : Nat), o = .bad c ∧ e = .returned (.tuple #[.slice none 0 0, .int .i64 c]) ∧ RdX b w k w')
set_option maxHeartbeats 4000000 in
attribute [local irreducible] Go.wpQuiet in
theorem c_pieces (B b : Nat) (l : List UInt8) (q : UInt8) (qI : Int) (hq : (q.toNat : Int) = qI) (most k : Nat) (w : World) (hmost : most ≤ 65536) (hE : Env B w) (hB : B ≤ b) (hbw : b < w.heap.size) (hlt : k < l.length) (hl : l.length ≤ 65536) (h0 : w.cell? ⟨b, 0, none⟩ = some (.string ⟨l.toArray⟩)) (h1 : w.cell? ⟨b, 1, none⟩ = some (.int .i64 k)) (hf : w.frozen? ⟨b, 1, none⟩ = false) :
    Calls Tryd.prog 47 #[.pointer (some ⟨b, 0, none⟩), .int .u8 qI, .int .i64 most] w fun e w' => PsR b l w (pcsR q most [] (l.drop (k + 1))) e w' := by
  have HX := Lib.hid (RdX.start (b := b) h1)
  have HC := Lib.hid (fun (wr : World) (j : Nat) (h : RdX b w j wr) => h.all h0 hf)
  have HEn := Lib.hid (fun (wr : World) (j : Nat) (h : RdX b w j wr) => hE.next (h.below hB hbw))
  obtain ⟨R, hR⟩ : ∃ R, pcsR q most [] (l.drop (k + 1)) = R := ⟨_, rfl⟩
  rw [hR]
  have HX1 := Lib.hid HX.out.set1
  have hll : (l.length : Int) ≤ 65536 := by omega
  have hkl : (k : Int) < (l.length : Int) := by omega
  go_enter Tryd.func47, Tryd.ntmps47
  obtain ⟨ht2, hp2, hf2⟩ := HC.out w k HX.out
  go_wp2_with fail
  go_step3
  go_wp2_with fail
  go_step3
  go_wp2_with fail
  generalize w.setCell ⟨b, 1, none⟩ (.int .i64 ((k : Int) + 1)) = w1 at HX1 ⊢
  clear ht2 hp2 hf2
  go_loopg [8] (l.length - (k + 1)) (fun g v wr => ∃ (j : Nat) (acc : List UInt8), j + g = l.length ∧ k < j ∧ acc.length ≤ most ∧ Hid (RdX b w j wr) ∧ Hid (wr.ownsRow w.heap.size 5 1 v acc.length (Lib.byteCells acc)) ∧ Hid (pcsR q most acc (l.drop j) = R))
  case atStart => exact ⟨k + 1, [], by omega, by omega, Nat.zero_le _, HX1.out, ⟨rfl, .inl ⟨rfl, rfl⟩⟩, hR⟩
  case round =>
    obtain ⟨j, acc, hjg, hkj, hacc, HW, HO, HP⟩ := hrel
    have HHq := Lib.hid hq
    obtain ⟨g0, g1, g2⟩ := HC.out wr j HW.out
    have HOv := Lib.hid (c_isOver b 0 l j wr g0 g1)
    have HBw := Lib.hid hbw
    clear h0 h1 hf hE hR hq
    by_cases hjl : j < l.length
    · have hov : (j == l.length) = false := by simp; omega
      rw [hov] at HOv
      obtain ⟨c, hc⟩ : ∃ c, l[j]?.getD 0 = c := ⟨_, rfl⟩
      obtain ⟨t, ht⟩ : ∃ t, l.drop (j + 1) = t := ⟨_, rfl⟩
      have htl : t.length = l.length - (j + 1) := by rw [← ht, List.length_drop]
      have hd : l.drop j = c :: t := by
        rw [List.drop_eq_getElem_cons hjl, ht]
        rw [List.getElem?_eq_getElem hjl, Option.getD_some] at hc
        rw [hc]
      rw [hd, pcsR_cons] at HP
      have HPl : Hid (plc l t = j + 1) := by show _ = _; unfold plc; omega
      have HSe : Hid (∀ wr, RdX b w j wr → Calls Tryd.prog 42 #[.pointer (some ⟨b, 0, none⟩), .string ⟨#[10]⟩] wr fun e w' => e = .returned (.bool (c == 10)) ∧ ∃ n, w' = wr.drewN n) := fun wr h => by
        obtain ⟨a0, a1, a2⟩ := HC.out wr j h
        have h := c_sees b l [10] j wr (Nat.le_of_lt hjl) a0 a1
        have e : ([10] : List UInt8).isPrefixOf (l.drop j) = (c == 10) := by rw [hd, Bool.eq_iff_iff]; simp [List.isPrefixOf]; exact eq_comm
        rw [e] at h
        exact h
      have HSb : Hid (∀ wr, RdX b w j wr → Calls Tryd.prog 48 #[.pointer (some ⟨b, 0, none⟩), .int .u8 qI] wr fun e w' => e = .returned (.bool (c == q)) ∧ ∃ n, w' = wr.drewN n) := fun wr h => by
        obtain ⟨a0, a1, a2⟩ := HC.out wr j h
        have h := c_seesByte b l q qI HHq.out j wr (Nat.le_of_lt hjl) a0 a1
        have e : ((l.drop j).head? == some q) = (c == q) := by rw [hd]; rfl
        rw [e] at h
        exact h
      have HPc : Hid (∀ wr, RdX b w j wr → Calls Tryd.prog 58 #[.pointer (some ⟨b, 0, none⟩), .int .u8 qI] wr fun e w' => PcR b l wr (pieceP q (c :: t)) e w') := fun wr h => by
        obtain ⟨a0, a1, a2⟩ := HC.out wr j h
        have h := c_rpiece B b l q qI HHq.out j wr (HEn.out wr j h) hB (Nat.lt_of_lt_of_le hbw h.size) hjl hl a0 a1 a2
        rw [hd] at h
        exact h
      have HTd : Hid (t = l.drop (j + 1)) := ht.symm
      have HSf : Hid (∀ b' t', pieceP q (c :: t) = some (b', t') → t' <:+ l ∧ t'.length < l.length - j) := fun b' t' h => by
        obtain ⟨s1, s2⟩ := piece_suf h
        rw [← hd] at s1 s2
        exact ⟨s1.trans (List.drop_suffix _ _), by rw [List.length_drop] at s2; exact s2⟩
      clear ht hd hc
      go_wp2_with fail
      refine HOv.out.mono ?_
      rintro e w2 ⟨rfl, hn⟩
      have HW2 := Lib.hid (HW.out.draw hn)
      have HO2 : Hid (w2.ownsRow w.heap.size 5 1 u8 acc.length (Lib.byteCells acc)) := by obtain ⟨n, rfl⟩ := hn; exact own_x HO.out (fun _ _ _ => rfl)
      clear hn g0 g1 g2
      go_wp2_with fail
      cases h10 : c == 10
      · rw [h10] at HSe
        rw [if_neg (by simpa using h10)] at HP
        refine (HSe.out w2 HW2.out).mono ?_
        rintro e w3 ⟨rfl, hn⟩
        have HW3 := Lib.hid (HW2.out.draw hn)
        have HO3 : Hid (w3.ownsRow w.heap.size 5 1 u8 acc.length (Lib.byteCells acc)) := by obtain ⟨n, rfl⟩ := hn; exact own_x HO2.out (fun _ _ _ => rfl)
        clear hn
        go_wp2_with fail
        cases hcq : c == q
        · rw [hcq] at HSb
          rw [if_neg (by simpa using hcq)] at HP
          refine (HSb.out w3 HW3.out).mono ?_
          rintro e w4 ⟨rfl, hn⟩
          have HW4 := Lib.hid (HW3.out.draw hn)
          have HO4 : Hid (w4.ownsRow w.heap.size 5 1 u8 acc.length (Lib.byteCells acc)) := by obtain ⟨n, rfl⟩ := hn; exact own_x HO3.out (fun _ _ _ => rfl)
          clear hn
          go_wp2_with fail
          refine (HPc.out w4 HW4.out).mono ?_
          rintro e w5 (⟨c', t', ho, rfl, hx5⟩ | ⟨ho, x, k', rfl, hx5⟩)
          · rw [ho] at HP
            have HX5 := Lib.hid (HW4.out.trans hx5)
            have HO5 : Hid (w5.ownsRow w.heap.size 5 1 u8 acc.length (Lib.byteCells acc)) := own_x HO4.out (fun g hg hs => hx5.blk g (by have := HBw.out; omega) hs)
            have HSf2 := Lib.hid (HSf.out _ _ ho)
            clear ho hx5
            have HP2 : Hid ((if acc.length = most then Pr.bad 3 else pcsR q most (acc ++ [c']) t') = R) := HP.out
            clear HP
            obtain ⟨ao, cap, hu8⟩ : ∃ ao cap, u8 = .slice ao acc.length cap := by
              rcases HO5.out.2 with ⟨hv, hz⟩ | ⟨g, cap, cur, hv, _⟩
              · exact ⟨none, 0, by rw [hv, hz]⟩
              · exact ⟨_, cap, hv⟩
            subst hu8
            by_cases hm : acc.length = most
            · have hmb : ((acc.length : Int) == (most : Int)) = true := by simp; omega
              rw [if_pos hm] at HP2
              clear hm
              go_wp2_with fail
              rw [Exit.noGoto_ret]
              go_ret2
              exact .inr ⟨3, _, HP2.out.symm, rfl, HX5.out⟩
            · have hmb : ((acc.length : Int) == (most : Int)) = false := by simp; omega
              rw [if_neg hm] at HP2
              have hcl : acc.length < most := by omega
              clear hm
              obtain ⟨i0, hi, hz0, hz1, hz2⟩ := info_parts infoByte
              have HL : Hid ((Lib.byteCells acc).length = acc.length) := Lib.byteCells_length acc
              have HS5 := Lib.hid HX5.out.size
              go_wp2_with (at_builtin; refine wpList_append_own _ rfl _ _ 46 rfl w.heap.size 5 i0 (.int .u8 0) 1 1 Tryd.underlying46 hi hz0 hz1 hz2 rfl (by decide) _ acc.length (Lib.byteCells acc) rfl (HO5.out.alloc _) ⟨w5.heap.size, 0, none⟩ 1 1 [.int .u8 c'.toNat] rfl rfl (byte_new _ _ _) (byte_one _) ?c3 ?c4 ?c5 ?_)
              case c3 => unfold maxLen; omega
              case c4 => omega
              case c5 => have := HS5.out; simp; omega
              intro v' w6 hown hgrow _
              have HX6 : Hid (RdX b w (plc l t') w6) := by
                refine RdX.grown (HX5.out.next HBw.out ((Below.refl _ _).alloc (Nat.le_refl _) _)) HBw.out hgrow (fun g hg => ?_)
                rcases HO5.out.2 with ⟨hv, _⟩ | ⟨g', cap', cur, hv, hg', _⟩
                · rw [hv] at hg; cases hg
                · rw [hv] at hg; cases hg; exact hg'
              have HO6 : Hid (w6.ownsRow w.heap.size 5 1 v' (acc ++ [c']).length (Lib.byteCells (acc ++ [c']))) := by
                have e : Lib.byteCells (acc ++ [c']) = Lib.byteCells acc ++ [.int .u8 c'.toNat] := by rw [Lib.byteCells_append]; rfl
                show w6.ownsRow _ _ _ _ _ _
                rw [e]
                simpa using hown
              have HPx : Hid (pcsR q most (acc ++ [c']) (l.drop (plc l t')) = R) := by rw [drop_plc HSf2.out.1]; exact HP2.out
              obtain ⟨hs1, hs2⟩ := HSf2.out
              have hs3 := hs1.length_le
              clear hown hgrow hs1
              go_wp2_with fail
              go_roundg (l.length - plc l t')
              case measure => unfold plc; omega
              case rel => exact ⟨plc l t', acc ++ [c'], by unfold plc; omega, by unfold plc; omega, by simp; omega, HX6.out, HO6.out, HPx.out⟩
          · rw [ho] at HP
            have HX5 := Lib.hid (HW4.out.trans hx5)
            clear ho hx5
            go_wp2_with fail
            rw [Exit.noGoto_ret]
            go_ret2
            exact .inr ⟨72, _, HP.out.symm, rfl, HX5.out⟩
        · rw [hcq] at HSb
          rw [if_pos (by simpa using hcq)] at HP
          refine (HSb.out w3 HW3.out).mono ?_
          rintro e w4 ⟨rfl, hn⟩
          have HW4 := Lib.hid (HW3.out.draw hn)
          have HO4 : Hid (w4.ownsRow w.heap.size 5 1 u8 acc.length (Lib.byteCells acc)) := by obtain ⟨n, rfl⟩ := hn; exact own_x HO3.out (fun _ _ _ => rfl)
          obtain ⟨g0, g1, g2⟩ := HC.out w4 j HW4.out
          have HX5 := Lib.hid HW4.out.set1
          have hjl' : (j : Int) < (l.length : Int) := by omega
          clear hn
          go_wp2_with fail
          rw [Exit.noGoto_ret]
          go_ret2
          refine .inl ⟨acc, t, _, HP.out.symm, rfl, own_x HO4.out (fun g hg hs => Below.heap_setCell _ _ _ _ (show g ≠ b by have := HBw.out; omega)), ?_⟩
          rw [HPl.out]
          exact HX5.out
      · rw [h10] at HSe
        rw [if_pos (by simpa using h10)] at HP
        refine (HSe.out w2 HW2.out).mono ?_
        rintro e w3 ⟨rfl, hn⟩
        have HW3 := Lib.hid (HW2.out.draw hn)
        clear hn
        go_wp2_with fail
        rw [Exit.noGoto_ret]
        go_ret2
        exact .inr ⟨71, _, HP.out.symm, rfl, HW3.out⟩
    · have hov : (j == l.length) = true := by simp; omega
      rw [hov] at HOv
      have HN : Hid (R = .bad 71) := by
        have := HP.out
        rw [List.drop_eq_nil_of_le (by omega), pcsR_nil] at this
        exact this.symm
      go_wp2_with fail
      refine HOv.out.mono ?_
      rintro e w2 ⟨rfl, hn⟩
      have HW2 := Lib.hid (HW.out.draw hn)
      clear hn g0 g1 g2
      go_wp2_with fail
      rw [Exit.noGoto_ret]
      go_ret2
      exact .inr ⟨71, _, HN.out, rfl, HW2.out⟩
end Go.Proofs.YtbccabpcljkamaaDoor
