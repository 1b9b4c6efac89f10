/-
  The contracts of skipping, of a character and of a mark, in the code.
-/
import Derived.Test.YtbccabpcljkamaaDoorLexRd6
namespace Go.Proofs.YtbccabpcljkamaaDoor
set_option linter.unusedVariables false
set_option linter.unusedSimpArgs false
set_option maxRecDepth 100000
open Go.RowKit

theorem LxX.r {b k f : Nat} {w wr : World} (h : LxX b w k f wr) : RdX b wr k wr := RdX.start h.pos
/-- The error number of a skip. -/
def skE (x : List UInt8 × Bool) : Int := if x.2 then 0 else 71
set_option maxHeartbeats 4000000 in
theorem c_skip (B b : Nat) (l : List UInt8) (k f : Nat) (w : World) (hE : Env B w) (hB : B ≤ b) (hbw : b < w.heap.size) (hk : k ≤ l.length) (hl : l.length ≤ 65536) (h0 : w.cell? ⟨b, 0, none⟩ = some (.string ⟨l.toArray⟩)) (h1 : w.cell? ⟨b, 1, none⟩ = some (.int .i64 k)) (h2 : w.cell? ⟨b, 2, none⟩ = some (.int .i64 f)) (hf : ∀ i, i < 4 → w.frozen? ⟨b, i, none⟩ = false) :
    Calls Tryd.prog 17 #[.pointer (some ⟨b, 0, none⟩)] w fun e w' => e = .returned (.int .i64 (skE (blR (l.drop k)))) ∧ LxX b w (plc l (blR (l.drop k)).1) (plc l (blR (l.drop k)).1) w' := by
  obtain ⟨m, hm⟩ := hE.ml
  have hmb : 1 ≠ b := by have := hE.lt.1; omega
  have HBl := Lib.hid (c_blank b l m k w hk hl hm hmb h0 h1 (hf 1 (by decide)))
  have HX := Lib.hid (LxX.start h1 h2)
  have HF := Lib.hid hf
  obtain ⟨R, hR⟩ : ∃ R, blR (l.drop k) = R := ⟨_, rfl⟩
  rw [hR] at HBl ⊢
  obtain ⟨p, hp⟩ : ∃ p, plc l R.1 = p := ⟨_, rfl⟩
  rw [hp] at HBl ⊢
  obtain ⟨R1, R2⟩ := R
  clear hR hp hm h0 h1 h2 hf
  cases R2
  all_goals
    go_enter Tryd.func17, Tryd.ntmps17
    go_wp2_with fail
    refine HBl.out.mono ?_
    rintro e w2 ⟨rfl, hx⟩
    have HX2 := Lib.hid (HX.out.x hx.x)
    have g1 := HX2.out.pos
    have g2 := HX2.out.frm
    have gf : w2.frozen? ⟨b, 2, none⟩ = false := (HX2.out.frz 2).trans (HF.out 2 (by decide))
    clear hx
    go_wp2_with fail
    go_ret
    exact ⟨rfl, HX2.out.setf p⟩
theorem pcsN_bad (q : UInt8) (most : Nat) : ∀ (n : Nat) (acc r : List UInt8) (c : Int), pcsN q most n acc r = .bad c → c = 71 ∨ c = 72 ∨ c = 3
  | 0, _, _, c, h => by unfold pcsN at h; cases h; exact .inl rfl
  | n + 1, acc, [], c, h => by unfold pcsN at h; cases h; exact .inl rfl
  | n + 1, acc, x :: t, c, h => by
    unfold pcsN at h
    split at h
    · cases h; exact .inl rfl
    · split at h
      · cases h
      · split at h
        · cases h; exact .inr (.inl rfl)
        · split at h
          · cases h; exact .inr (.inr rfl)
          · exact pcsN_bad q most n _ _ c h
theorem pcsR_bad {q : UInt8} {most : Nat} {acc r : List UInt8} {c : Int} (h : pcsR q most acc r = .bad c) : c = 71 ∨ c = 72 ∨ c = 3 := pcsN_bad _ _ _ _ _ _ h
theorem i8_wrap (c : UInt8) : IntKind.i8.wrap (c.toNat : Int) = i8 c := by
  have : ∀ k : Fin 256, IntKind.i8.wrap ((k.val : Nat) : Int) = if k.val < 128 then ((k.val : Nat) : Int) else ((k.val : Nat) : Int) - 256 := by decide +kernel
  exact this ⟨c.toNat, c.toNat_lt⟩
theorem i8_bd (c : UInt8) : -128 ≤ i8 c ∧ i8 c ≤ 127 := by
  have h := c.toNat_lt
  unfold i8
  split <;> omega
set_option maxHeartbeats 4000000 in
theorem c_character (B b : Nat) (l : List UInt8) (k : Nat) (w : World) (hE : Env B w) (hB : B ≤ b) (hbw : b < w.heap.size) (hlt : k < l.length) (hl : l.length ≤ 65536) (h0 : w.cell? ⟨b, 0, none⟩ = some (.string ⟨l.toArray⟩)) (h1 : w.cell? ⟨b, 1, none⟩ = some (.int .i64 k)) (h2 : w.cell? ⟨b, 2, none⟩ = some (.int .i64 k)) (hf : ∀ i, i < 4 → w.frozen? ⟨b, i, none⟩ = false) :
    Calls Tryd.prog 33 #[.pointer (some ⟨b, 0, none⟩)] w fun e w' => TkR b l k w (charT (l.drop k)) e w' := by
  have HX := Lib.hid (LxX.start h1 h2)
  have HBw := Lib.hid hbw
  have HPk : Hid (plc l (l.drop k) = k) := plc_drop l k (Nat.le_of_lt hlt)
  have HP : Hid (∀ wr, LxX b w k k wr → Calls Tryd.prog 47 #[.pointer (some ⟨b, 0, none⟩), .int .u8 39, .int .i64 65536] wr fun e w' => PsR b l wr (pcsR 39 65536 [] (l.drop (k + 1))) e w') := fun wr h => by
    obtain ⟨g0, g1, g2, g3⟩ := h.all h0 hf
    exact c_pieces B b l 39 39 rfl 65536 k wr (by omega) (hE.next (h.below hB hbw)) hB (Nat.lt_of_lt_of_le hbw h.size) hlt hl g0 g1 (g3 1 (by decide))
  have ht : (l.drop k).drop 1 = l.drop (k + 1) := by rw [List.drop_drop]
  obtain ⟨r, hr⟩ : ∃ r, l.drop k = r := ⟨_, rfl⟩
  rw [hr] at HPk ht ⊢
  obtain ⟨o, ho⟩ : ∃ o, charT r = o := ⟨_, rfl⟩
  rw [ho]
  unfold charT at ho
  rw [ht] at ho
  obtain ⟨q, hq⟩ : ∃ q, pcsR 39 65536 [] (l.drop (k + 1)) = q := ⟨_, rfl⟩
  rw [hq] at HP ho
  have HQl : Hid (∀ y t, q = .ok y t → y.length ≤ 65536) := fun y t h => pcsR_len (acc := []) (Nat.zero_le _) (hq.trans h)
  have HQb : Hid (∀ c, q = .bad c → c = 71 ∨ c = 72 ∨ c = 3) := fun c h => pcsR_bad (hq.trans h)
  clear hr ht hq h0 h1 hf h2 hE
  go_enter Tryd.func33, Tryd.ntmps33
  go_wp2_with fail
  have HX1 := Lib.hid (HX.out.next HBw.out ((Below.refl w.heap.size w).alloc (Nat.le_refl _) (tOb 0 0 0 [])))
  have HN1 : Hid ((w.alloc (tOb 0 0 0 [])).heap[w.heap.size]? = some (tOb 0 0 0 [])) := heap_alloc_new w _
  refine (HP.out _ HX1.out).mono ?_
  rintro e w2 (⟨y, t, v, hqe, rfl, hown, hx2⟩ | ⟨c, k', hqe, rfl, hx2⟩)
  · have HX2 := Lib.hid (HX1.out.x hx2)
    have HN2 : Hid (w2.heap[w.heap.size]? = some (tOb 0 0 0 [])) := (hx2.blk _ (by have := HBw.out; omega) (by simp)).trans HN1.out
    obtain ⟨n0, n1, n2, n3, n4⟩ := tob_cells HN2.out
    have nf := n4 0
    have hc2 := HX2.out.frm
    rw [hqe] at ho
    have hyl := HQl.out y t hqe
    have ho2 : (if y.length = 1 then Tr.ok 3 (i8 (y[0]?.getD 0)) [] t else Tr.bad 72 r) = o := ho
    obtain ⟨ao, cap, hv⟩ : ∃ ao cap, v = .slice ao y.length cap := by
      rcases hown.2 with ⟨hv, hz⟩ | ⟨g, cap, cur, hv, _⟩
      · exact ⟨none, 0, by rw [hv, hz]⟩
      · exact ⟨_, cap, hv⟩
    by_cases hy1 : y.length = 1
    · rw [if_pos hy1] at ho2
      obtain ⟨d, rfl⟩ : ∃ d, y = [d] := by
        match y, hy1 with
        | [d], _ => exact ⟨d, rfl⟩
      obtain ⟨g, cap, rfl⟩ : ∃ g cap, v = .slice (some ⟨g, 0, none⟩) 1 cap := by
        rcases hown.2 with ⟨_, hz⟩ | ⟨g, cap, cur, hv, _⟩
        · cases hz
        · exact ⟨g, cap, hv⟩
      have hcell : w2.cell? ⟨g, 0, none⟩ = some (.int .u8 d.toNat) := by
        have := hown.cells (g := g) rfl 0 (.int .u8 d.toNat) rfl
        exact this
      have hgN : ¬ g = w.heap.size := by
        rcases hown.2 with ⟨hz, _⟩ | ⟨g', cap', cur, hv, hg', _⟩
        · cases hz
        · cases hv
          simp at hg'
          omega
      have Ho : Hid (Tr.ok 3 (i8 d) [] t = o) := ho2
      have hi8 := i8_wrap d
      obtain ⟨hib0, hib1⟩ := i8_bd d
      obtain ⟨iv, hiv⟩ : ∃ iv, i8 d = iv := ⟨_, rfl⟩
      rw [hiv] at Ho hi8 hib0 hib1
      clear ho ho2 hqe hown hx2 HX1 HN1 hv hy1 hyl hiv
      go_wp2_with fail
      go_region
      go_wp2_with fail
      refine bodyPost_ret (v := .tuple #[tV 3 k iv [], .int .i64 0]) (by simp [results, Tryd.results33, go_sem, n0, n1, n2, n3]) rfl ?_
      exact .inl ⟨3, iv, [], t, _, Ho.out.symm, rfl, (HX2.out.own4 _ _ _ _ (Nat.le_refl _) HBw.out).draw ⟨1, rfl⟩⟩
    · rw [if_neg hy1] at ho2
      have Ho := Lib.hid ho2
      subst hv
      have hne1 : ((y.length : Int) == 1) = false := by simp; omega
      clear ho ho2 hqe hown hx2 HX1 HN1 hy1
      go_wp2_with fail
      refine bodyPost_ret (v := .tuple #[tV 0 0 0 [], .int .i64 72]) (by simp [results, Tryd.results33, go_sem, n0, n1, n2, n3]) rfl ?_
      exact TkR.no Ho.out.symm HPk.out rfl (HX2.out.own4 _ _ _ _ (Nat.le_refl _) HBw.out)
  · have HX2 := Lib.hid (HX1.out.x hx2)
    have HN2 : Hid (w2.heap[w.heap.size]? = some (tOb 0 0 0 [])) := (hx2.blk _ (by have := HBw.out; omega) (by simp)).trans HN1.out
    obtain ⟨n0, n1, n2, n3, n4⟩ := tob_cells HN2.out
    have nf := n4 0
    rw [hqe] at ho
    have Ho : Hid (Tr.bad c r = o) := ho
    have hcb := HQb.out c hqe
    have hc0 : (c == 0) = false := by rcases hcb with rfl | rfl | rfl <;> rfl
    clear ho hqe hx2 HX1 HN1 hcb
    go_wp2_with fail
    refine bodyPost_ret (v := .tuple #[tV 0 0 0 [], .int .i64 c]) (by simp [results, Tryd.results33, go_sem, n0, n1, n2, n3]) rfl ?_
    exact TkR.no Ho.out.symm HPk.out rfl (HX2.out.own4 _ _ _ _ (Nat.le_refl _) HBw.out)
theorem TkR.yes {b f p f' : Nat} {l r x : List UInt8} {kd n : Int} {w w' : World} {o : Tr} {e : Ending} (ho : o = .ok kd n x r) (hp : plc l r = p) (he : e = .returned (.tuple #[tV kd f n x, .int .i64 0])) (h : LxX b w p f' w') : TkR b l f w o e w' :=
  .inl ⟨kd, n, x, r, f', ho, he, by rw [hp]; exact h⟩
theorem find_snoc (L : List (List UInt8)) (s : List UInt8) (p : List UInt8 → Bool) (h : L.find? p = none) : (L ++ [s]).find? p = if p s then some s else none := by
  rw [List.find?_append, h]
  simp [List.find?_cons]
  split <;> simp_all
theorem find_pre {L : List (List UInt8)} {k : Nat} {s : List UInt8} {p : List UInt8 → Bool} (hs : L[k]? = some s) (h : (L.take k).find? p = none) (hp : p s = true) : L.find? p = some s := by
  have e : L = L.take k ++ s :: L.drop (k + 1) := by
    have hk := (List.getElem?_eq_some_iff.1 hs).1
    conv => lhs; rw [← List.take_append_drop k L, List.drop_eq_getElem_cons hk]
    rw [List.getElem?_eq_getElem hk] at hs
    rw [Option.some.inj hs]
  rw [e, List.find?_append, h]
  simp [List.find?_cons, hp]
set_option maxHeartbeats 4000000 in
theorem c_mark (B b : Nat) (l : List UInt8) (k : Nat) (w : World) (hE : Env B w) (hB : B ≤ b) (hbw : b < w.heap.size) (hlt : k < l.length) (hl : l.length ≤ 65536) (h0 : w.cell? ⟨b, 0, none⟩ = some (.string ⟨l.toArray⟩)) (h1 : w.cell? ⟨b, 1, none⟩ = some (.int .i64 k)) (h2 : w.cell? ⟨b, 2, none⟩ = some (.int .i64 k)) (hf : ∀ i, i < 4 → w.frozen? ⟨b, i, none⟩ = false) :
    Calls Tryd.prog 35 #[.pointer (some ⟨b, 0, none⟩)] w fun e w' => TkR b l k w (markT (l.drop k)) e w' := by
  have HX := Lib.hid (LxX.start h1 h2)
  have HBw := Lib.hid hbw
  have HA := Lib.hid (fun (j f : Nat) (wr : World) (h : LxX b w j f wr) => h.all h0 hf)
  have HPk : Hid (plc l (l.drop k) = k) := plc_drop l k (Nat.le_of_lt hlt)
  have HS : Hid (∀ (s : List UInt8) (wr : World), LxX b w k k wr → Calls Tryd.prog 42 #[.pointer (some ⟨b, 0, none⟩), .string ⟨s.toArray⟩] wr fun e w' => e = .returned (.bool (s.isPrefixOf (l.drop k))) ∧ ∃ n, w' = wr.drewN n) := fun s wr h => by
    obtain ⟨g0, g1, g2, g3⟩ := h.all h0 hf
    exact c_sees b l s k wr (Nat.le_of_lt hlt) g0 g1
  obtain ⟨T, fr, hg⟩ := hE.mrk
  have hgb : 0 < w.heap.size := (Array.getElem?_eq_some_iff.1 hg).1
  have hrl : (l.drop k).length = l.length - k := List.length_drop
  obtain ⟨r, hr⟩ : ∃ r, l.drop k = r := ⟨_, rfl⟩
  rw [hr] at HPk HS hrl ⊢
  obtain ⟨o, ho⟩ : ∃ o, markT r = o := ⟨_, rfl⟩
  rw [ho]
  have HM : Hid (markT r = o) := ho
  have HIx := Lib.hid index_marks
  have hsz := sizeMk
  have HLn : Hid (markTab.length = 45) := by show _ = _; decide
  have HPf : Hid (∀ s : List UInt8, s.isPrefixOf r = true → s.length ≤ l.length - k) := fun s h => by
    have := (List.isPrefixOf_iff_prefix.1 h).length_le
    omega
  have hg1 : (w.alloc (tOb 0 0 0 [])).heap[0]? = some (.cells markA T fr) := by rw [Lib.alloc_old _ _ _ hgb]; exact hg
  clear hr ho h0 h1 hf h2 hE hg
  generalize markA = A at hg1 HIx hsz
  go_enter Tryd.func35, Tryd.ntmps35
  go_wp2_with (refine wpList_load_row rfl 68 _ rfl 0 rfl T A fr _ hg1 Tryd.underlying68 rfl (infoMk.trans (by rw [hsz])) ?_)
  have HX1 := Lib.hid (HX.out.next HBw.out ((Below.refl w.heap.size w).alloc (Nat.le_refl _) (tOb 0 0 0 [])))
  have HN1 : Hid ((w.alloc (tOb 0 0 0 [])).heap[w.heap.size]? = some (tOb 0 0 0 [])) := heap_alloc_new w _
  clear hg1
  go_wp2_with fail
  go_loopw [7] (fun i wr => ∃ j : Nat, j ≤ 45 ∧ i = .int .i64 j ∧ Hid (LxX b w k k wr) ∧ Hid (wr.heap[w.heap.size]? = some (tOb 0 0 0 [])) ∧ Hid ((markTab.take j).find? (fun m => m.isPrefixOf r) = none)) (fun i _ => 45 - (intOf i).toNat)
  case atStart => exact ⟨0, Nat.zero_le _, rfl, HX1.out, HN1.out, rfl⟩
  case round =>
    obtain ⟨j, hj, rfl, HXr, HNr, HK⟩ := hrel
    by_cases hlt : j < 45
    · obtain ⟨s, hs⟩ : ∃ s, markTab[j]? = some s := ⟨_, List.getElem?_eq_getElem (by rw [HLn.out]; exact hlt)⟩
      have hix := HIx.out j s hs hlt
      have HTk : Hid (markTab.take (j + 1) = markTab.take j ++ [s]) := by show _ = _; rw [List.take_add_one, hs]; rfl
      have HIn : Hid (markTab[j]? = some s) := hs
      have hk0 : (0 : Int) ≤ (j : Int) := by omega
      have hk1 : (j : Int) < 45 := by omega
      have HSr := Lib.hid (HS.out s wr HXr.out)
      clear hs
      go_wp2_with fail
      cases he : s.isPrefixOf r
      · rw [he] at HSr
        refine HSr.out.mono ?_
        rintro e w2 ⟨rfl, hn⟩
        have HX2 := Lib.hid (HXr.out.draw hn)
        have HN2 : Hid (w2.heap[w.heap.size]? = some (tOb 0 0 0 [])) := by obtain ⟨n, rfl⟩ := hn; exact HNr.out
        have HNx : Hid ((markTab.take (j + 1)).find? (fun m => m.isPrefixOf r) = none) := by
          show _ = _
          rw [HTk.out, find_snoc _ _ _ HK.out, he]
          rfl
        clear hn
        go_wp2_with fail
        go_roundw
        case rel => exact ⟨j + 1, by omega, by go_num, HX2.out, HN2.out, HNx.out⟩
        case measure => simp [intOf]; omega
      · rw [he] at HSr
        refine HSr.out.mono ?_
        rintro e w2 ⟨rfl, hn⟩
        have HX2 := Lib.hid (HXr.out.draw hn)
        have HN2 : Hid (w2.heap[w.heap.size]? = some (tOb 0 0 0 [])) := by obtain ⟨n, rfl⟩ := hn; exact HNr.out
        have Ho : Hid (Tr.ok 5 0 s (r.drop s.length) = o) := by
          have h := HM.out
          unfold markT at h
          rw [find_pre HIn.out HK.out he] at h
          exact h
        have hsl := HPf.out s he
        have HPl : Hid (plc l (r.drop s.length) = k + s.length) := by show _ = _; unfold plc; rw [List.length_drop]; omega
        have hks : (k : Int) + (s.length : Int) ≤ (l.length : Int) := by omega
        have hll : (l.length : Int) ≤ 65536 := by omega
        obtain ⟨g0, g1, g2, g3⟩ := HA.out _ _ _ HX2.out
        have gf := g3 1 (by decide)
        obtain ⟨n0, n1, n2, n3, n4⟩ := tob_cells HN2.out
        have nf := n4 0
        have nf1 := n4 1
        have nf2 := n4 2
        have nf3 := n4 3
        have hbN : ¬ b = w.heap.size := by omega
        have hbN2 : ¬ w.heap.size = b := by omega
        clear hn hsl g3 n4
        go_wp2_with fail
        have HXs : Hid (LxX b w (k + s.length) k (w2.setCell ⟨b, 1, none⟩ (.int .i64 ((k : Int) + (s.length : Int))))) := by
          have := HX2.out.x (HX2.out.r.set (k + s.length))
          show LxX _ _ _ _ _
          simpa using this
        refine bodyPost_ret (v := .tuple #[tV 5 k 0 s, .int .i64 0]) (by simp [results, Tryd.results35, go_sem, n0, n1, n2, n3, hbN, hbN2]) rfl ?_
        exact TkR.yes Ho.out.symm HPl.out rfl (HXs.out.own4 _ _ _ _ (Nat.le_refl _) HBw.out)
    · have hge : decide (j < 45) = false := by simp; omega
      have HN : Hid (Tr.bad 70 r = o) := by
        have h := HK.out
        rw [List.take_of_length_le (by rw [HLn.out]; omega)] at h
        have h2 := HM.out
        unfold markT at h2
        rw [h] at h2
        exact h2
      obtain rfl : j = 45 := by omega
      obtain ⟨n0, n1, n2, n3, n4⟩ := tob_cells HNr.out
      have nf := n4 0
      have nf1 := n4 1
      have nf2 := n4 2
      have nf3 := n4 3
      clear hj hlt n4
      go_wp2_with fail
      refine bodyPost_ret (v := .tuple #[tV 0 0 0 [], .int .i64 70]) (by simp [results, Tryd.results35, go_sem, n0, n1, n2, n3]) rfl ?_
      exact TkR.no HN.out.symm HPk.out rfl (HXr.out.own4 _ _ _ _ (Nat.le_refl _) HBw.out)
end Go.Proofs.YtbccabpcljkamaaDoor
