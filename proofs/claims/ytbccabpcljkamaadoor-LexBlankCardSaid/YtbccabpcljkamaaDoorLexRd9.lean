/-
  The contract of a token, in the code.
-/
import Derived.Test.YtbccabpcljkamaaDoorLexRd8
namespace Go.Proofs.YtbccabpcljkamaaDoor
set_option linter.unusedVariables false
set_option linter.unusedSimpArgs false
set_option maxRecDepth 100000
open Go.RowKit

theorem bad_pos {c : Int} (h : c = 71 ∨ c = 72 ∨ c = 3) : 0 < c := by omega
theorem textsN_bad (first : List UInt8) : ∀ (n : Nat) (j r : List UInt8) (c : Int) (y : List UInt8), textsN first n j r = .bad c y → 0 < c
  | 0, _, _, c, y, h => by unfold textsN at h; cases h; decide
  | n + 1, j, r, c, y, h => by
    unfold textsN at h
    split at h
    · split at h
      · rename_i e hp
        cases h
        exact bad_pos (pcsR_bad hp)
      · split at h
        · exact textsN_bad first n _ _ c y h
        · cases h; decide
    · cases h
theorem tok_bad {r y : List UInt8} {c : Int} (h : tokR r = .bad c y) : 0 < c := by
  unfold tokR at h
  split at h
  · unfold wordT at h
    split at h
    · cases h
    · split at h
      · cases h; decide
      · cases h
  · split at h
    · unfold numT at h
      split at h
      · cases h; decide
      · split at h
        · cases h; decide
        · cases h
    · split at h
      · unfold charT at h
        split at h
        · rename_i e hp; cases h; exact bad_pos (pcsR_bad hp)
        · split at h
          · cases h
          · cases h; decide
      · split at h
        · exact textsN_bad _ _ _ _ _ _ h
        · unfold markT at h
          split at h
          · cases h; decide
          · cases h
theorem tksN_bad : ∀ (n : Nat) (L : List Pt) (r : List UInt8) (c : Int) (y : List UInt8), tksN n L r = .bad c y → 0 < c
  | 0, _, _, c, y, h => by unfold tksN at h; cases h; decide
  | n + 1, L, r, c, y, h => by
    unfold tksN at h
    split at h
    · split at h
      · cases h
      · split at h
        · cases h; decide
        · split at h
          · rename_i ht; cases h; exact tok_bad ht
          · exact tksN_bad n _ _ c y h
    · cases h; decide
theorem tks_bad {L : List Pt} {r y : List UInt8} {c : Int} (h : tksR L r = .bad c y) : 0 < c := tksN_bad _ _ _ _ _ h
set_option maxHeartbeats 4000000 in
theorem c_ltoken (B b : Nat) (l : List UInt8) (k : Nat) (w : World) (hE : Env B w) (hB : B ≤ b) (hbw : b < w.heap.size) (hlt : k < l.length) (hl : l.length ≤ 65536) (h0 : w.cell? ⟨b, 0, none⟩ = some (.string ⟨l.toArray⟩)) (h1 : w.cell? ⟨b, 1, none⟩ = some (.int .i64 k)) (h2 : w.cell? ⟨b, 2, none⟩ = some (.int .i64 k)) (hf : ∀ i, i < 4 → w.frozen? ⟨b, i, none⟩ = false) :
    Calls Tryd.prog 19 #[.pointer (some ⟨b, 0, none⟩)] w fun e w' => TkR b l k w (tokR (l.drop k)) e w' := by
  have HX := Lib.hid (LxX.start h1 h2)
  have HBw := Lib.hid hbw
  have HA := Lib.hid (fun (wr : World) (h : LxX b w k k wr) => h.all h0 hf)
  have HEn := Lib.hid (fun (wr : World) (h : LxX b w k k wr) => hE.next (h.below hB hbw))
  have hk := Nat.le_of_lt hlt
  have HWo : Hid (∀ wr, LxX b w k k wr → Calls Tryd.prog 30 #[.pointer (some ⟨b, 0, none⟩)] wr fun e w' => TkR b l k wr (wordT (l.drop k)) e w') := fun wr h => by
    obtain ⟨g0, g1, g2, g3⟩ := HA.out wr h
    exact c_word b l k wr (Nat.lt_of_lt_of_le hbw h.size) hk hl g0 g1 g2 g3
  have HNu : Hid (∀ wr, LxX b w k k wr → Calls Tryd.prog 32 #[.pointer (some ⟨b, 0, none⟩)] wr fun e w' => TkR b l k wr (numT (l.drop k)) e w') := fun wr h => by
    obtain ⟨g0, g1, g2, g3⟩ := HA.out wr h
    exact c_lnumber B b l k wr (HEn.out wr h) hB (Nat.lt_of_lt_of_le hbw h.size) hk hl g0 g1 g2 g3
  have HCh : Hid (∀ wr, LxX b w k k wr → Calls Tryd.prog 33 #[.pointer (some ⟨b, 0, none⟩)] wr fun e w' => TkR b l k wr (charT (l.drop k)) e w') := fun wr h => by
    obtain ⟨g0, g1, g2, g3⟩ := HA.out wr h
    exact c_character B b l k wr (HEn.out wr h) hB (Nat.lt_of_lt_of_le hbw h.size) hlt hl g0 g1 g2 g3
  have HTx : Hid (∀ wr, LxX b w k k wr → Calls Tryd.prog 34 #[.pointer (some ⟨b, 0, none⟩)] wr fun e w' => TkR b l k wr (textsR (l.drop k) [] (l.drop k)) e w') := fun wr h => by
    obtain ⟨g0, g1, g2, g3⟩ := HA.out wr h
    exact c_texts B b l k wr (HEn.out wr h) hB (Nat.lt_of_lt_of_le hbw h.size) hlt hl g0 g1 g2 g3
  have HMa : Hid (∀ wr, LxX b w k k wr → Calls Tryd.prog 35 #[.pointer (some ⟨b, 0, none⟩)] wr fun e w' => TkR b l k wr (markT (l.drop k)) e w') := fun wr h => by
    obtain ⟨g0, g1, g2, g3⟩ := HA.out wr h
    exact c_mark B b l k wr (HEn.out wr h) hB (Nat.lt_of_lt_of_le hbw h.size) hlt hl g0 g1 g2 g3
  obtain ⟨o, ho⟩ : ∃ o, tokR (l.drop k) = o := ⟨_, rfl⟩
  rw [ho]
  unfold tokR at ho
  rw [show (l.drop k)[0]?.getD 0 = l[k]?.getD 0 by rw [List.getElem?_drop]; rfl] at ho
  obtain ⟨c, hc⟩ : ∃ c, l[k]?.getD 0 = c := ⟨_, rfl⟩
  obtain ⟨cI, hcI⟩ : ∃ cI : Int, (c.toNat : Int) = cI := ⟨_, rfl⟩
  have hby : ∀ h, (((ByteArray.mk l.toArray)[k]'h).toNat : Int) = cI := fun h => by rw [byte_at l k h, hc, hcI]
  have hcb : 0 ≤ cI ∧ cI ≤ 255 := by have := c.toNat_lt; omega
  obtain ⟨hc0, hc1⟩ := hcb
  rw [hc] at ho
  have hL8 : ltr8 c = ltrI cI := by show ltrI _ = _; rw [hcI]
  have hD8 : dig8 c = digI cI := by show digI _ = _; rw [hcI]
  rw [hL8, hD8] at ho
  have e39 : c = 39 ↔ cI = 39 := u8_eq hcI
  have e34 : c = 34 ↔ cI = 34 := u8_eq hcI
  have hj0 : (0 : Int) ≤ (k : Int) := by omega
  have hj1 : (k : Int) < (l.length : Int) := by omega
  have HLt : Hid (∀ w : World, Calls Tryd.prog 29 #[.int .u8 cI] w fun e w' => e = .returned (.bool (ltrI cI)) ∧ w' = w) := fun w => (c_isLetter cI w hc0 hc1).mono fun e w' h => ⟨h.1, h.2.symm⟩
  have HDg : Hid (∀ w : World, Calls Tryd.prog 31 #[.int .u8 cI] w fun e w' => e = .returned (.bool (digI cI)) ∧ w' = w) := fun w => (c_isDigit cI w hc0 hc1).mono fun e w' h => ⟨h.1, h.2.symm⟩
  clear hc hcI hL8 hD8 h0 h1 h2 hf hE hk
  have HX1 := Lib.hid (HX.out.next HBw.out ((Below.refl w.heap.size w).alloc (Nat.le_refl _) (tOb 0 0 0 [])))
  have HN1 : Hid ((w.alloc (tOb 0 0 0 [])).heap[w.heap.size]? = some (tOb 0 0 0 [])) := heap_alloc_new w _
  cases hL : ltrI cI
  · rw [hL] at ho HLt
    rw [if_neg (by simp)] at ho
    cases hD : digI cI
    · rw [hD] at ho HDg
      rw [if_neg (by simp)] at ho
      by_cases h39 : c = 39
      · rw [if_pos h39] at ho
        rw [ho] at HCh
        have hq := e39.1 h39
        have hq1 : (cI == 39) = true := by rw [beq_iff_eq]; exact hq
        clear ho h39 hq e39 e34
        obtain ⟨g0, g1, g2, g3⟩ := HA.out _ HX1.out
        go_enter Tryd.func19, Tryd.ntmps19
        go_wp2_with fail
        go_quiet (fail)
        have HX2 := Lib.hid (HX1.out.draw ⟨nq, rfl⟩)
        have HN2 : Hid (((w.alloc (tOb 0 0 0 [])).drewN nq).heap[w.heap.size]? = some (tOb 0 0 0 [])) := HN1.out
        generalize (w.alloc (tOb 0 0 0 [])).drewN nq = w2 at HX2 HN2 ⊢
        clear g0 g1 g2 g3 HX1 HN1
        go_wp2_with fail
        refine (HLt.out _).mono ?_
        rintro e wa ⟨rfl, rfl⟩
        go_wp2_with fail
        refine (HDg.out _).mono ?_
        rintro e wb ⟨rfl, rfl⟩
        go_wp2_with fail
        refine (HCh.out wb HX2.out).mono ?_
        rintro e w3 (⟨kd, n, x, r, f', ho, rfl, hx3⟩ | ⟨c', r, k', ho, rfl, hx3⟩)
        · have HX3 := Lib.hid (HX2.out.trans hx3)
          have HN3 : Hid (w3.heap[w.heap.size]? = some (tOb 0 0 0 [])) := (hx3.blk _ (by have := HBw.out; omega) (Array.getElem?_eq_some_iff.1 HN2.out).1).trans HN2.out
          obtain ⟨n0, n1, n2, n3, n4⟩ := tob_cells HN3.out
          have nf := n4 0
          have nf1 := n4 1
          have nf2 := n4 2
          have nf3 := n4 3
          have HoO := Lib.hid ho
          clear n4 hx3 ho
          go_wp2_with fail
          refine bodyPost_ret (v := .tuple #[tV kd k n x, .int .i64 0]) (by simp [results, Tryd.results19, go_sem, n0, n1, n2, n3]) rfl ?_
          exact TkR.yes HoO.out rfl rfl (HX3.out.own4 _ _ _ _ (Nat.le_refl _) HBw.out)
        · have HX3 := Lib.hid (HX2.out.trans hx3)
          have HN3 : Hid (w3.heap[w.heap.size]? = some (tOb 0 0 0 [])) := (hx3.blk _ (by have := HBw.out; omega) (Array.getElem?_eq_some_iff.1 HN2.out).1).trans HN2.out
          obtain ⟨n0, n1, n2, n3, n4⟩ := tob_cells HN3.out
          have nf := n4 0
          have nf1 := n4 1
          have nf2 := n4 2
          have nf3 := n4 3
          have HoO := Lib.hid ho
          clear n4 hx3 ho
          go_wp2_with fail
          refine bodyPost_ret (v := .tuple #[tV 0 0 0 [], .int .i64 c']) (by simp [results, Tryd.results19, go_sem, n0, n1, n2, n3]) rfl ?_
          exact TkR.no HoO.out rfl rfl (HX3.out.own4 _ _ _ _ (Nat.le_refl _) HBw.out)
      · rw [if_neg h39] at ho
        have hq1 : (cI == 39) = false := by rw [beq_eq_false_iff_ne]; exact fun h => h39 (e39.2 h)
        by_cases h34 : c = 34
        · rw [if_pos h34] at ho
          rw [ho] at HTx
          have hq2 : (cI == 34) = true := by rw [beq_iff_eq]; exact e34.1 h34
          clear ho h39 h34 e39 e34
          obtain ⟨g0, g1, g2, g3⟩ := HA.out _ HX1.out
          go_enter Tryd.func19, Tryd.ntmps19
          go_wp2_with fail
          go_quiet (fail)
          have HX2 := Lib.hid (HX1.out.draw ⟨nq, rfl⟩)
          have HN2 : Hid (((w.alloc (tOb 0 0 0 [])).drewN nq).heap[w.heap.size]? = some (tOb 0 0 0 [])) := HN1.out
          generalize (w.alloc (tOb 0 0 0 [])).drewN nq = w2 at HX2 HN2 ⊢
          clear g0 g1 g2 g3 HX1 HN1
          go_wp2_with fail
          refine (HLt.out _).mono ?_
          rintro e wa ⟨rfl, rfl⟩
          go_wp2_with fail
          refine (HDg.out _).mono ?_
          rintro e wb ⟨rfl, rfl⟩
          go_wp2_with fail
          refine (HTx.out wb HX2.out).mono ?_
          rintro e w3 (⟨kd, n, x, r, f', ho, rfl, hx3⟩ | ⟨c', r, k', ho, rfl, hx3⟩)
          · have HX3 := Lib.hid (HX2.out.trans hx3)
            have HN3 : Hid (w3.heap[w.heap.size]? = some (tOb 0 0 0 [])) := (hx3.blk _ (by have := HBw.out; omega) (Array.getElem?_eq_some_iff.1 HN2.out).1).trans HN2.out
            obtain ⟨n0, n1, n2, n3, n4⟩ := tob_cells HN3.out
            have nf := n4 0
            have nf1 := n4 1
            have nf2 := n4 2
            have nf3 := n4 3
            have HoO := Lib.hid ho
            clear n4 hx3 ho
            go_wp2_with fail
            refine bodyPost_ret (v := .tuple #[tV kd k n x, .int .i64 0]) (by simp [results, Tryd.results19, go_sem, n0, n1, n2, n3]) rfl ?_
            exact TkR.yes HoO.out rfl rfl (HX3.out.own4 _ _ _ _ (Nat.le_refl _) HBw.out)
          · have HX3 := Lib.hid (HX2.out.trans hx3)
            have HN3 : Hid (w3.heap[w.heap.size]? = some (tOb 0 0 0 [])) := (hx3.blk _ (by have := HBw.out; omega) (Array.getElem?_eq_some_iff.1 HN2.out).1).trans HN2.out
            obtain ⟨n0, n1, n2, n3, n4⟩ := tob_cells HN3.out
            have nf := n4 0
            have nf1 := n4 1
            have nf2 := n4 2
            have nf3 := n4 3
            have HoO := Lib.hid ho
            clear n4 hx3 ho
            go_wp2_with fail
            refine bodyPost_ret (v := .tuple #[tV 0 0 0 [], .int .i64 c']) (by simp [results, Tryd.results19, go_sem, n0, n1, n2, n3]) rfl ?_
            exact TkR.no HoO.out rfl rfl (HX3.out.own4 _ _ _ _ (Nat.le_refl _) HBw.out)
        · rw [if_neg h34] at ho
          rw [ho] at HMa
          have hq2 : (cI == 34) = false := by rw [beq_eq_false_iff_ne]; exact fun h => h34 (e34.2 h)
          clear ho h39 h34 e39 e34
          obtain ⟨g0, g1, g2, g3⟩ := HA.out _ HX1.out
          go_enter Tryd.func19, Tryd.ntmps19
          go_wp2_with fail
          go_quiet (fail)
          have HX2 := Lib.hid (HX1.out.draw ⟨nq, rfl⟩)
          have HN2 : Hid (((w.alloc (tOb 0 0 0 [])).drewN nq).heap[w.heap.size]? = some (tOb 0 0 0 [])) := HN1.out
          generalize (w.alloc (tOb 0 0 0 [])).drewN nq = w2 at HX2 HN2 ⊢
          clear g0 g1 g2 g3 HX1 HN1
          go_wp2_with fail
          refine (HLt.out _).mono ?_
          rintro e wa ⟨rfl, rfl⟩
          go_wp2_with fail
          refine (HDg.out _).mono ?_
          rintro e wb ⟨rfl, rfl⟩
          go_wp2_with fail
          refine (HMa.out wb HX2.out).mono ?_
          rintro e w3 (⟨kd, n, x, r, f', ho, rfl, hx3⟩ | ⟨c', r, k', ho, rfl, hx3⟩)
          · have HX3 := Lib.hid (HX2.out.trans hx3)
            have HN3 : Hid (w3.heap[w.heap.size]? = some (tOb 0 0 0 [])) := (hx3.blk _ (by have := HBw.out; omega) (Array.getElem?_eq_some_iff.1 HN2.out).1).trans HN2.out
            obtain ⟨n0, n1, n2, n3, n4⟩ := tob_cells HN3.out
            have nf := n4 0
            have nf1 := n4 1
            have nf2 := n4 2
            have nf3 := n4 3
            have HoO := Lib.hid ho
            clear n4 hx3 ho
            go_wp2_with fail
            refine bodyPost_ret (v := .tuple #[tV kd k n x, .int .i64 0]) (by simp [results, Tryd.results19, go_sem, n0, n1, n2, n3]) rfl ?_
            exact TkR.yes HoO.out rfl rfl (HX3.out.own4 _ _ _ _ (Nat.le_refl _) HBw.out)
          · have HX3 := Lib.hid (HX2.out.trans hx3)
            have HN3 : Hid (w3.heap[w.heap.size]? = some (tOb 0 0 0 [])) := (hx3.blk _ (by have := HBw.out; omega) (Array.getElem?_eq_some_iff.1 HN2.out).1).trans HN2.out
            obtain ⟨n0, n1, n2, n3, n4⟩ := tob_cells HN3.out
            have nf := n4 0
            have nf1 := n4 1
            have nf2 := n4 2
            have nf3 := n4 3
            have HoO := Lib.hid ho
            clear n4 hx3 ho
            go_wp2_with fail
            refine bodyPost_ret (v := .tuple #[tV 0 0 0 [], .int .i64 c']) (by simp [results, Tryd.results19, go_sem, n0, n1, n2, n3]) rfl ?_
            exact TkR.no HoO.out rfl rfl (HX3.out.own4 _ _ _ _ (Nat.le_refl _) HBw.out)
    · rw [hD] at ho HDg
      rw [if_pos rfl] at ho
      rw [ho] at HNu
      clear ho e39 e34
      obtain ⟨g0, g1, g2, g3⟩ := HA.out _ HX1.out
      go_enter Tryd.func19, Tryd.ntmps19
      go_wp2_with fail
      go_quiet (fail)
      have HX2 := Lib.hid (HX1.out.draw ⟨nq, rfl⟩)
      have HN2 : Hid (((w.alloc (tOb 0 0 0 [])).drewN nq).heap[w.heap.size]? = some (tOb 0 0 0 [])) := HN1.out
      generalize (w.alloc (tOb 0 0 0 [])).drewN nq = w2 at HX2 HN2 ⊢
      clear g0 g1 g2 g3 HX1 HN1
      go_wp2_with fail
      refine (HLt.out _).mono ?_
      rintro e wa ⟨rfl, rfl⟩
      go_wp2_with fail
      refine (HDg.out _).mono ?_
      rintro e wb ⟨rfl, rfl⟩
      go_wp2_with fail
      refine (HNu.out wb HX2.out).mono ?_
      rintro e w3 (⟨kd, n, x, r, f', ho, rfl, hx3⟩ | ⟨c', r, k', ho, rfl, hx3⟩)
      · have HX3 := Lib.hid (HX2.out.trans hx3)
        have HN3 : Hid (w3.heap[w.heap.size]? = some (tOb 0 0 0 [])) := (hx3.blk _ (by have := HBw.out; omega) (Array.getElem?_eq_some_iff.1 HN2.out).1).trans HN2.out
        obtain ⟨n0, n1, n2, n3, n4⟩ := tob_cells HN3.out
        have nf := n4 0
        have nf1 := n4 1
        have nf2 := n4 2
        have nf3 := n4 3
        have HoO := Lib.hid ho
        clear n4 hx3 ho
        go_wp2_with fail
        refine bodyPost_ret (v := .tuple #[tV kd k n x, .int .i64 0]) (by simp [results, Tryd.results19, go_sem, n0, n1, n2, n3]) rfl ?_
        exact TkR.yes HoO.out rfl rfl (HX3.out.own4 _ _ _ _ (Nat.le_refl _) HBw.out)
      · have HX3 := Lib.hid (HX2.out.trans hx3)
        have HN3 : Hid (w3.heap[w.heap.size]? = some (tOb 0 0 0 [])) := (hx3.blk _ (by have := HBw.out; omega) (Array.getElem?_eq_some_iff.1 HN2.out).1).trans HN2.out
        obtain ⟨n0, n1, n2, n3, n4⟩ := tob_cells HN3.out
        have nf := n4 0
        have nf1 := n4 1
        have nf2 := n4 2
        have nf3 := n4 3
        have HoO := Lib.hid ho
        clear n4 hx3 ho
        go_wp2_with fail
        refine bodyPost_ret (v := .tuple #[tV 0 0 0 [], .int .i64 c']) (by simp [results, Tryd.results19, go_sem, n0, n1, n2, n3]) rfl ?_
        exact TkR.no HoO.out rfl rfl (HX3.out.own4 _ _ _ _ (Nat.le_refl _) HBw.out)
  · rw [hL] at ho HLt
    rw [if_pos rfl] at ho
    rw [ho] at HWo
    clear ho e39 e34
    obtain ⟨g0, g1, g2, g3⟩ := HA.out _ HX1.out
    go_enter Tryd.func19, Tryd.ntmps19
    go_wp2_with fail
    go_quiet (fail)
    have HX2 := Lib.hid (HX1.out.draw ⟨nq, rfl⟩)
    have HN2 : Hid (((w.alloc (tOb 0 0 0 [])).drewN nq).heap[w.heap.size]? = some (tOb 0 0 0 [])) := HN1.out
    generalize (w.alloc (tOb 0 0 0 [])).drewN nq = w2 at HX2 HN2 ⊢
    clear g0 g1 g2 g3 HX1 HN1
    go_wp2_with fail
    refine (HLt.out _).mono ?_
    rintro e wa ⟨rfl, rfl⟩
    go_wp2_with fail
    refine (HWo.out wa HX2.out).mono ?_
    rintro e w3 (⟨kd, n, x, r, f', ho, rfl, hx3⟩ | ⟨c', r, k', ho, rfl, hx3⟩)
    · have HX3 := Lib.hid (HX2.out.trans hx3)
      have HN3 : Hid (w3.heap[w.heap.size]? = some (tOb 0 0 0 [])) := (hx3.blk _ (by have := HBw.out; omega) (Array.getElem?_eq_some_iff.1 HN2.out).1).trans HN2.out
      obtain ⟨n0, n1, n2, n3, n4⟩ := tob_cells HN3.out
      have nf := n4 0
      have nf1 := n4 1
      have nf2 := n4 2
      have nf3 := n4 3
      have HoO := Lib.hid ho
      clear n4 hx3 ho
      go_wp2_with fail
      refine bodyPost_ret (v := .tuple #[tV kd k n x, .int .i64 0]) (by simp [results, Tryd.results19, go_sem, n0, n1, n2, n3]) rfl ?_
      exact TkR.yes HoO.out rfl rfl (HX3.out.own4 _ _ _ _ (Nat.le_refl _) HBw.out)
    · have HX3 := Lib.hid (HX2.out.trans hx3)
      have HN3 : Hid (w3.heap[w.heap.size]? = some (tOb 0 0 0 [])) := (hx3.blk _ (by have := HBw.out; omega) (Array.getElem?_eq_some_iff.1 HN2.out).1).trans HN2.out
      obtain ⟨n0, n1, n2, n3, n4⟩ := tob_cells HN3.out
      have nf := n4 0
      have nf1 := n4 1
      have nf2 := n4 2
      have nf3 := n4 3
      have HoO := Lib.hid ho
      clear n4 hx3 ho
      go_wp2_with fail
      refine bodyPost_ret (v := .tuple #[tV 0 0 0 [], .int .i64 c']) (by simp [results, Tryd.results19, go_sem, n0, n1, n2, n3]) rfl ?_
      exact TkR.no HoO.out rfl rfl (HX3.out.own4 _ _ _ _ (Nat.le_refl _) HBw.out)
end Go.Proofs.YtbccabpcljkamaaDoor
