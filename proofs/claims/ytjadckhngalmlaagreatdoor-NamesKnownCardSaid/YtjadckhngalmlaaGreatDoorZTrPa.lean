/-
  The contracts of Check, takeAt, Parts, from and Sub, in the code.
-/
import Derived.Test.YtjadckhngalmlaaGreatDoorZTrFi
import Derived.Test.YtjadckhngalmlaaGreatDoorZTrDp
import Derived.Test.YtjadckhngalmlaaGreatDoorZTrLg
import Derived.Shelf.SlicesE.Clone
import Derived.Deep.Onto
namespace Go.Proofs.YtjadckhngalmlaaGreatDoor
set_option linter.unusedVariables false
set_option linter.unusedSimpArgs false
set_option maxRecDepth 100000
open Go.RowKit

theorem grow_psG {t : List NdT} {ps : List (List Nat)} (h : grow t = some ps) : ∃ (fr : List Nat), bgn t = some fr ∧ PsG t t.length ps fr ∧ fr.length = t.length ∧ ∀ (k b : Nat), (fr : List Nat)[k]? = some b → b ≤ k := by
  have ha : ∀ x ∈ t, hpB x.kind x.n = true := by
    unfold grow at h
    cases hg : grF t 0 [] [] with
    | none => rw [hg] at h; cases h
    | some r => exact fun x hx => (gr_all t 0 [] [] r (Nat.le_refl _) hg x hx).1
  rcases gr_begins t ha with ⟨h1, _⟩ | ⟨ps', fr, h1, h2, h3, h4, h5⟩
  · rw [h1] at h; cases h
  · rw [h] at h1
    cases h1
    exact ⟨fr, h2, h3, h4, h5⟩
theorem PsG.len {t : List NdT} {ps : List (List Nat)} {fr : List Nat} (h : PsG t t.length ps fr) (hl : t.length ≤ 4096) : ∀ p ∈ ps, p.length ≤ 4096 := fun p hp => by
  obtain ⟨j, hj⟩ := List.getElem?_of_mem hp
  have hlt := (List.getElem?_eq_some_iff.1 hj).1
  rw [h.1] at hlt
  obtain ⟨p', e1, e2, e3, e4, _⟩ := h.2 j t[j] hlt (List.getElem?_eq_getElem hlt)
  rw [hj] at e1
  cases e1
  omega
theorem PsG.all {t : List NdT} {ps : List (List Nat)} {fr : List Nat} (h : PsG t t.length ps fr) (hl : t.length ≤ 4096) : ∀ (j : Nat) (p : List Nat), ps[j]? = some p → p.length ≤ 4096 ∧ ∀ q ∈ p, q < j := fun j p hj => by
  refine ⟨h.len hl p (List.mem_of_getElem? hj), fun q hq => ?_⟩
  have hlt := (List.getElem?_eq_some_iff.1 hj).1
  rw [h.1] at hlt
  exact (h.wf.2 j t[j] p (List.getElem?_eq_getElem hlt) hj).2.2 q hq
/-- What take answers. -/
def TkT (t : List NdT) (a : Option Addr) (c : Nat) (w : World) (e : Ending) (w' : World) : Prop :=
  ((ckA wlB t = 0 ∧ t.length ≤ 4096 ∧ ∃ P ps, grow t = some ps ∧ e = .returned (.tuple #[gwV a t.length c P, .int .i64 0]) ∧ PtIn (fun b => w.heap.size ≤ b) ps P w' ∧ w.heap.size ≤ P) ∨ (ckA wlB t ≠ 0 ∧ e = .returned (.tuple #[.agg #[.slice none 0 0, .slice none 0 0], .int .i64 (ckA wlB t : Nat)]))) ∧ Below w.heap.size w w'
theorem ck_long {wl : NdT → Bool} {t : List NdT} (h : 4096 < t.length) : ckA wl t = 3 := by unfold ckA; rw [if_pos h]
theorem ck_bad {wl : NdT → Bool} {t : List NdT} (h : t.length ≤ 4096) (hg : goodB wl t = false) : ckA wl t = 90 := by unfold ckA; rw [if_neg (by omega), hg]; rfl
theorem ck_good {wl : NdT → Bool} {t : List NdT} (h : t.length ≤ 4096) (hg : goodB wl t = true) {d : Nat} (hd : deF t [] = [d]) : ckA wl t = if 48 < d then 3 else 0 := by unfold ckA; rw [if_neg (by omega), if_pos hg, hd]; rfl
abbrev zGr : Obj := .cells #[.slice none 0 0, .slice none 0 0] 119
set_option maxHeartbeats 8000000 in
theorem c_tkTree (B : Nat) (t : List NdT) (a : Option Addr) (c : Nat) (w : World) (hE : Env B w) (hB : B ≤ w.heap.size) (ho : ∀ x ∈ t, NdOk x) (hT : TrIn t a w) :
    Calls Tryz.prog 46 #[.slice a t.length c] w fun e w' => TkT t a c w e w' := by
  have HZ0 := Lib.hid (heap_alloc_at (w := w) zGr _ rfl)
  have HB0 := Lib.hid (below_o w zGr)
  by_cases hlong : 4096 < t.length
  · obtain ⟨N, hN⟩ : ∃ N, t.length = N := ⟨_, rfl⟩
    have HC := Lib.hid (ck_long (wl := wlB) hlong)
    rw [hN] at hlong
    have hd : decide ((4096 : Int) < (N : Int)) = true := by simp; omega
    rw [hN]
    clear hT hE ho hN
    go_enter Tryz.func46, Tryz.ntmps46
    go_wp2_with fail
    obtain ⟨p0, p1, _⟩ := two_cells HZ0.out
    refine bodyPost_ret (v := .tuple #[.agg #[.slice none 0 0, .slice none 0 0], .int .i64 3]) (by simp [results, Tryz.results46, go_sem, p0, p1]) rfl ?_
    exact ⟨.inr ⟨by rw [HC.out]; decide, by rw [HC.out]; rfl⟩, HB0.out⟩
  · have hl : t.length ≤ 4096 := by omega
    have HG := Lib.hid (c_grow t a c (w.alloc zGr) hl (hT.next (below_o w zGr)))
    obtain ⟨N, hN⟩ : ∃ N, t.length = N := ⟨_, rfl⟩
    have hd : decide ((4096 : Int) < (N : Int)) = false := by simp; omega
    have hs1 : (w.alloc zGr).heap.size = w.heap.size + 1 := by simp
    unfold GwR at HG
    rw [hN, hs1] at HG
    have HS1 := Lib.hid hs1
    have HN := Lib.hid hN
    rw [hN]
    cases hgr : grow t with
    | none =>
      have HC : Hid (ckA wlB t = 90) := ck_bad hl (by unfold goodB; rw [hgr])
      have HGR := Lib.hid hgr
      clear hT hE ho hN hgr hlong hl hs1
      go_enter Tryz.func46, Tryz.ntmps46
      go_wp2_with fail
      refine HG.out.mono ?_
      rintro e w1 ⟨hr, hb⟩
      obtain ⟨a0, n0, c0, a1, n1, c1, rfl⟩ : ∃ a0 n0 c0 a1 n1 c1, e = .returned (.tuple #[.agg #[.slice a0 n0 c0, .slice a1 n1 c1], .bool false]) := by
        rcases hr with ⟨ps, h1, _⟩ | ⟨_, h⟩
        · rw [HGR.out] at h1; cases h1
        · exact h
      have hbb := below_t HB0.out (by rw [HS1.out]; exact hb) HB0.out.size
      have hzz := blk_on HZ0.out (by rw [HS1.out]; exact hb)
      have hs0 : w.heap.size < w1.heap.size := (Array.getElem?_eq_some_iff.1 hzz).1
      obtain ⟨r0, r1, rf⟩ := two_cells hzz
      have rf0 := rf 0
      have rf1 := rf 1
      have HB1 := Lib.hid hbb
      have HZ1 := Lib.hid hzz
      clear hb hr rf hbb hzz
      go_wp2_with fail
      have hz8 := blk_on (two_put HZ1.out (.slice none 0 0) (.slice none 0 0)) (below_o _ (.cells #[.slice a0 n0 c0, .slice a1 n1 c1] 119))
      have hb8 := (two_below HB1.out (Nat.le_refl _) (.slice none 0 0) (.slice none 0 0)).alloc (by simpa using HB1.out.size) (.cells #[.slice a0 n0 c0, .slice a1 n1 c1] 119)
      generalize ((w1.setCell ⟨w.heap.size, 0, none⟩ (.slice none 0 0)).setCell ⟨w.heap.size, 1, none⟩ (.slice none 0 0)).alloc (.cells #[.slice a0 n0 c0, .slice a1 n1 c1] 119) = w9 at hz8 hb8 ⊢
      obtain ⟨p0, p1, _⟩ := two_cells hz8
      refine bodyPost_ret (v := .tuple #[.agg #[.slice none 0 0, .slice none 0 0], .int .i64 90]) (by simp [results, Tryz.results46, go_sem, p0, p1]) rfl ?_
      exact ⟨.inr ⟨by rw [HC.out]; decide, by rw [HC.out]; rfl⟩, hb8⟩
    | some ps =>
      obtain ⟨fr, hbg, hG, hfl, hfe⟩ := grow_psG hgr
      obtain ⟨hd1, hd2, d, hd3, hd4, hd5⟩ := deep_eq hgr
      have h0 : 0 < t.length := by
        rw [← hd2]
        exact List.length_pos_of_mem hd5
      have HAW := Lib.hid (fun W (hb : Below w.heap.size w W) => c_anyWrong B t ho a c (by omega) W (hE.next (hb.mono hB)) (Nat.le_trans hB hb.size) (hT.next hb) h0)
      have HFI := Lib.hid (fun P W (hb : Below w.heap.size w W) (hP : PtIn any_ ps P W) => c_fits t ps a c P W hl (hT.next hb) hP hG.wf (hG.len hl))
      have HDP := Lib.hid (fun P W (hP : PtIn any_ ps P W) => c_depths ps P W (by omega) hP (hG.all hl))
      have HMX := Lib.hid (fun D W (hI : IntIn any_ (dpF ps []) (some ⟨D, 0, none⟩) W) => c_max (dpF ps []) (some ⟨D, 0, none⟩) ps.length d any_ W hI hd5 hd4 (by omega))
      obtain ⟨aw, haw⟩ : ∃ aw, t.all wlB = aw := ⟨_, rfl⟩
      obtain ⟨fi, hfi⟩ : ∃ fi, (List.range t.length).all (fitB t ps) = fi := ⟨_, rfl⟩
      have HCk : Hid (ckA wlB t = if (aw && fi) = true then (if 48 < d then 3 else 0) else 90) := by
        by_cases hg : (aw && fi) = true
        · rw [if_pos hg]
          exact ck_good hl (by unfold goodB; rw [hgr]; show (t.all wlB && (List.range t.length).all (fitB t ps)) = true; rw [haw, hfi]; exact hg) hd3
        · rw [if_neg hg]
          exact ck_bad hl (by unfold goodB; rw [hgr]; show (t.all wlB && (List.range t.length).all (fitB t ps)) = false; rw [haw, hfi]; simpa using hg)
      rw [haw] at HAW
      rw [hfi] at HFI
      rw [hd2] at HMX
      rw [hd1] at HDP HMX
      rw [hN] at HAW HFI HDP HMX
      have HGR := Lib.hid hgr
      have HLN := Lib.hid hl
      clear hT hE ho hgr hlong hl hbg hG hfl hfe hd1 hd2 hd3 hd4 hd5 haw hfi h0 hN hs1
      go_enter Tryz.func46, Tryz.ntmps46
      go_wp2_with fail
      refine HG.out.mono ?_
      rintro e w1 ⟨hr, hb⟩
      obtain ⟨rfl, hPt⟩ : e = .returned (.tuple #[gwV a N c (w.heap.size + 1 + 1), .bool true]) ∧ PtIn (fun b => w.heap.size + 1 ≤ b) ps (w.heap.size + 1 + 1) w1 := by
        rcases hr with ⟨ps', h1, h2, h3⟩ | ⟨h1, _⟩
        · rw [HGR.out] at h1; cases h1; exact ⟨h2, h3⟩
        · rw [HGR.out] at h1; cases h1
      have hbb := below_t HB0.out (by rw [HS1.out]; exact hb) HB0.out.size
      have hzz := blk_on HZ0.out (by rw [HS1.out]; exact hb)
      have hs0 : w.heap.size < w1.heap.size := (Array.getElem?_eq_some_iff.1 hzz).1
      obtain ⟨r0, r1, rf⟩ := two_cells hzz
      have rf0 := rf 0
      have rf1 := rf 1
      have HB1 := Lib.hid hbb
      have HZ1 := Lib.hid hzz
      have HPt := Lib.hid hPt
      clear hb hr rf hbb hzz hPt HG
      go_wp2_with fail
      have hzg := heap_alloc_at (w := w1) (.cells #[.slice a N c, .slice (some ⟨w.heap.size + 1 + 1, 0, none⟩) N N] 119) _ rfl
      have hb2 := below_o w1 (.cells #[.slice a N c, .slice (some ⟨w.heap.size + 1 + 1, 0, none⟩) N N] 119)
      have HB2 := Lib.hid (below_t HB1.out hb2 HB1.out.size)
      have HZ2 := Lib.hid (blk_on HZ1.out hb2)
      have HPt2 := Lib.hid (HPt.out.next hb2)
      generalize w1.alloc (.cells #[.slice a N c, .slice (some ⟨w.heap.size + 1 + 1, 0, none⟩) N N] 119) = w2 at hzg hb2 HB2 HZ2 HPt2 ⊢
      have HG2 := Lib.hid hzg
      clear hb2 hzg r0 r1 rf0 rf1 hs0 HB1 HZ1 HPt
      generalize w1.heap.size = nG at HG2 ⊢
      refine (HAW.out _ HB2.out).mono ?_
      rintro e w3 ⟨rfl, hb⟩
      have hb3 := below_t HB2.out hb HB2.out.size
      have hz3 := blk_on HZ2.out hb
      have hg3 := blk_on HG2.out hb
      have HPt3 := Lib.hid (HPt2.out.next hb)
      have hs0 : w.heap.size < w3.heap.size := (Array.getElem?_eq_some_iff.1 hz3).1
      obtain ⟨r0, r1, rf⟩ := two_cells hz3
      have rf0 := rf 0
      have rf1 := rf 1
      obtain ⟨g0, g1, _⟩ := two_cells hg3
      have HB3 := Lib.hid hb3
      have HZ3 := Lib.hid hz3
      have HG3 := Lib.hid hg3
      clear hb rf hb3 hz3 hg3
      cases aw
      · have HC : Hid (ckA wlB t = 90) := HCk.out
        go_wp2_with fail
        have hz9 := two_put HZ3.out (.slice none 0 0) (.slice none 0 0)
        have hb9 := two_below HB3.out (Nat.le_refl _) (.slice none 0 0) (.slice none 0 0)
        generalize (w3.setCell ⟨w.heap.size, 0, none⟩ (.slice none 0 0)).setCell ⟨w.heap.size, 1, none⟩ (.slice none 0 0) = w9 at hz9 hb9 ⊢
        obtain ⟨p0, p1, _⟩ := two_cells hz9
        refine bodyPost_ret (v := .tuple #[.agg #[.slice none 0 0, .slice none 0 0], .int .i64 90]) (by simp [results, Tryz.results46, go_sem, p0, p1]) rfl ?_
        exact ⟨.inr ⟨by rw [HC.out]; decide, by rw [HC.out]; rfl⟩, hb9⟩
      · go_wp2_with fail
        refine (HFI.out _ _ HB3.out HPt3.out.any).mono ?_
        rintro e w4 ⟨rfl, hb⟩
        clear r0 r1 rf0 rf1 g0 g1 hs0
        have hb4 := below_t HB3.out hb HB3.out.size
        have hz4 := blk_on HZ3.out hb
        have hg4 := blk_on HG3.out hb
        have HPt4 := Lib.hid (HPt3.out.next hb)
        have hs0 : w.heap.size < w4.heap.size := (Array.getElem?_eq_some_iff.1 hz4).1
        obtain ⟨r0, r1, rf⟩ := two_cells hz4
        have rf0 := rf 0
        have rf1 := rf 1
        obtain ⟨g0, g1, _⟩ := two_cells hg4
        have HB4 := Lib.hid hb4
        have HZ4 := Lib.hid hz4
        have HG4 := Lib.hid hg4
        clear hb rf hb4 hz4 hg4
        cases fi
        · have HC : Hid (ckA wlB t = 90) := HCk.out
          go_wp2_with fail
          have hz9 := two_put HZ4.out (.slice none 0 0) (.slice none 0 0)
          have hb9 := two_below HB4.out (Nat.le_refl _) (.slice none 0 0) (.slice none 0 0)
          generalize (w4.setCell ⟨w.heap.size, 0, none⟩ (.slice none 0 0)).setCell ⟨w.heap.size, 1, none⟩ (.slice none 0 0) = w9 at hz9 hb9 ⊢
          obtain ⟨p0, p1, _⟩ := two_cells hz9
          refine bodyPost_ret (v := .tuple #[.agg #[.slice none 0 0, .slice none 0 0], .int .i64 90]) (by simp [results, Tryz.results46, go_sem, p0, p1]) rfl ?_
          exact ⟨.inr ⟨by rw [HC.out]; decide, by rw [HC.out]; rfl⟩, hb9⟩
        · go_wp2_with fail
          refine (HDP.out _ _ HPt4.out.any).mono ?_
          rintro e w5 ⟨⟨rfl, hInt, hlen⟩, hb⟩
          clear r0 r1 rf0 rf1 g0 g1 hs0
          have HInt := Lib.hid hInt
          clear hInt hlen
          have hb5 := below_t HB4.out hb HB4.out.size
          have hz5 := blk_on HZ4.out hb
          have hg5 := blk_on HG4.out hb
          have HPt5 := Lib.hid (HPt4.out.next hb)
          have hs0 : w.heap.size < w5.heap.size := (Array.getElem?_eq_some_iff.1 hz5).1
          obtain ⟨r0, r1, rf⟩ := two_cells hz5
          have rf0 := rf 0
          have rf1 := rf 1
          obtain ⟨g0, g1, _⟩ := two_cells hg5
          have HB5 := Lib.hid hb5
          have HZ5 := Lib.hid hz5
          have HG5 := Lib.hid hg5
          clear hb rf hb5 hz5 hg5
          go_wp2_with fail
          refine (HMX.out _ _ HInt.out).mono ?_
          rintro e w6 ⟨rfl, rfl⟩
          by_cases hd48 : 48 < d
          · have HC : Hid (ckA wlB t = 3) := by
              have h := HCk.out
              rw [if_pos hd48] at h
              exact h
            have hdd : decide ((48 : Int) < (d : Int)) = true := by simp; omega
            clear hd48
            go_wp2_with fail
            have hz9 := two_put HZ5.out (.slice none 0 0) (.slice none 0 0)
            have hb9 := two_below HB5.out (Nat.le_refl _) (.slice none 0 0) (.slice none 0 0)
            generalize (w6.setCell ⟨w.heap.size, 0, none⟩ (.slice none 0 0)).setCell ⟨w.heap.size, 1, none⟩ (.slice none 0 0) = w9 at hz9 hb9 ⊢
            obtain ⟨p0, p1, _⟩ := two_cells hz9
            refine bodyPost_ret (v := .tuple #[.agg #[.slice none 0 0, .slice none 0 0], .int .i64 3]) (by simp [results, Tryz.results46, go_sem, p0, p1]) rfl ?_
            exact ⟨.inr ⟨by rw [HC.out]; decide, by rw [HC.out]; rfl⟩, hb9⟩
          · have HC : Hid (ckA wlB t = 0) := by
              have h := HCk.out
              rw [if_neg hd48] at h
              exact h
            have hdd : decide ((48 : Int) < (d : Int)) = false := by simp; omega
            clear hd48
            go_wp2_with fail
            have hz9 := two_put HZ5.out (.slice a N c) (.slice (some ⟨w.heap.size + 1 + 1, 0, none⟩) N N)
            have hb9 := two_below HB5.out (Nat.le_refl _) (.slice a N c) (.slice (some ⟨w.heap.size + 1 + 1, 0, none⟩) N N)
            have hbl : ∀ j, j ≠ w.heap.size → ((w6.setCell ⟨w.heap.size, 0, none⟩ (.slice a N c)).setCell ⟨w.heap.size, 1, none⟩ (.slice (some ⟨w.heap.size + 1 + 1, 0, none⟩) N N)).heap[j]? = w6.heap[j]? := fun j hj => (Below.heap_setCell _ _ _ _ hj).trans (Below.heap_setCell _ _ _ _ hj)
            have hsz : ((w6.setCell ⟨w.heap.size, 0, none⟩ (.slice a N c)).setCell ⟨w.heap.size, 1, none⟩ (.slice (some ⟨w.heap.size + 1 + 1, 0, none⟩) N N)).heap.size = w6.heap.size := by simp
            generalize (w6.setCell ⟨w.heap.size, 0, none⟩ (.slice a N c)).setCell ⟨w.heap.size, 1, none⟩ (.slice (some ⟨w.heap.size + 1 + 1, 0, none⟩) N N) = w9 at hz9 hb9 hbl hsz ⊢
            obtain ⟨p0, p1, _⟩ := two_cells hz9
            refine bodyPost_ret (v := .tuple #[gwV a N c (w.heap.size + 1 + 1), .int .i64 0]) (by simp [results, Tryz.results46, go_sem, p0, p1]) rfl ?_
            exact ⟨.inl ⟨HC.out, HLN.out, _, ps, HGR.out, by rw [HN.out], HPt5.out.mono (by omega) (hbl _ (by omega)) (fun b hb _ => ⟨by omega, hbl _ (by omega)⟩), by omega⟩, hb9⟩
end Go.Proofs.YtjadckhngalmlaaGreatDoor
namespace Go.Proofs.YtjadckhngalmlaaGreatDoor
set_option linter.unusedVariables false
set_option linter.unusedSimpArgs false
set_option maxRecDepth 100000
open Go.RowKit

set_option maxHeartbeats 4000000 in
theorem c_tCheck (B : Nat) (t : List NdT) (a : Option Addr) (c : Nat) (w : World) (hE : Env B w) (hB : B ≤ w.heap.size) (ho : ∀ x ∈ t, NdOk x) (hT : TrIn t a w) :
    Calls Tryz.prog 85 #[.slice a t.length c] w fun e w' => e = .returned (.int .i64 (ckA wlB t : Nat)) ∧ Below w.heap.size w w' := by
  have HT := Lib.hid (c_tkTree B t a c w hE hB ho hT)
  obtain ⟨N, hN⟩ : ∃ N, t.length = N := ⟨_, rfl⟩
  unfold TkT at HT
  obtain ⟨ck, hck⟩ : ∃ ck : Int, ((ckA wlB t : Nat) : Int) = ck := ⟨_, rfl⟩
  rw [hck] at HT ⊢
  rw [hN] at HT ⊢
  have HC := Lib.hid hck
  clear hE ho hT hN hck
  go_enter Tryz.func85, Tryz.ntmps85
  go_wp2_with fail
  refine HT.out.mono ?_
  rintro e w1 ⟨hr, hb⟩
  obtain ⟨a0, n0, c0, a1, n1, c1, rfl⟩ : ∃ a0 n0 c0 a1 n1 c1, e = .returned (.tuple #[.agg #[.slice a0 n0 c0, .slice a1 n1 c1], .int .i64 ck]) := by
    rcases hr with ⟨h0, _, P, ps, _, h, _⟩ | ⟨_, h⟩
    · exact ⟨_, _, _, _, _, _, by rw [h, ← HC.out, h0]; rfl⟩
    · exact ⟨_, _, _, _, _, _, h⟩
  have HB := Lib.hid hb
  clear hr hb HT
  go_wp2_with fail
  go_ret
  exact ⟨rfl, HB.out.alloc HB.out.size _⟩
theorem infoN : (Tryz.prog.info? 47).map (fun i => (i.zero, i.size, i.bytes)) = some (some (.agg #[.int .i64 0, .int .i64 0, .int .i64 0, .int .i64 0, .string ⟨#[]⟩, .string ⟨#[]⟩]), 6, 64) := by kernel_rfl
/-- Nodes as cells, one behind the other. -/
def noCs (t : List NdT) : List Value := t.flatMap noC
theorem noCs_len (t : List NdT) : (noCs t).length = t.length * 6 := by
  unfold noCs
  induction t with
  | nil => rfl
  | cons x t ih => rw [List.flatMap_cons, List.length_append, ih, noC_len, List.length_cons]; omega
theorem noCs_at : ∀ (t : List NdT) (k : Nat) (x : NdT), t[k]? = some x → ∀ (i : Nat) (v : Value), (noC x)[i]? = some v → (noCs t)[k * 6 + i]? = some v
  | y :: t, 0, x, h, i, v, hi => by
    cases h
    show (noC y ++ noCs t)[0 * 6 + i]? = some v
    have := (List.getElem?_eq_some_iff.1 hi).1
    rw [List.getElem?_append_left (by omega), Nat.zero_mul, Nat.zero_add]
    exact hi
  | y :: t, k + 1, x, h, i, v, hi => by
    show (noC y ++ noCs t)[(k + 1) * 6 + i]? = some v
    rw [List.getElem?_append_right (by rw [noC_len]; omega), noC_len, show (k + 1) * 6 + i - 6 = k * 6 + i by omega]
    exact noCs_at t k x h i v hi
theorem noCs_of : ∀ (t : List NdT) (j : Nat) (u : Value), (noCs t)[j]? = some u → ∃ (k i : Nat) (x : NdT), j = k * 6 + i ∧ t[k]? = some x ∧ (noC x)[i]? = some u
  | [], j, u, h => by cases h
  | y :: t, j, u, h => by
    have h : (noC y ++ noCs t)[j]? = some u := h
    by_cases hj : j < 6
    · rw [List.getElem?_append_left (by rw [noC_len]; exact hj)] at h
      exact ⟨0, j, y, by omega, rfl, h⟩
    · rw [List.getElem?_append_right (by rw [noC_len]; omega), noC_len] at h
      obtain ⟨k, i, x, e1, e2, e3⟩ := noCs_of t (j - 6) u h
      exact ⟨k + 1, i, x, by omega, e2, e3⟩
theorem noCs_one (t : List NdT) : ∀ u ∈ noCs t, u.oneCell' = true := fun u hu => by
  unfold noCs at hu
  obtain ⟨x, _, hx⟩ := List.mem_flatMap.1 hu
  unfold noC at hx
  simp at hx
  rcases hx with rfl | rfl | rfl | rfl | rfl | rfl <;> rfl
theorem c_cloneN (t : List NdT) (b off c : Nat) (w : World) (hl : t.length ≤ 4096) (hT : TrIn t (some ⟨b, off, none⟩) w) :
    Calls Tryz.prog 18 #[.slice (some ⟨b, off, none⟩) t.length c] w fun e w' => (∃ v', e = .returned v' ∧ w'.ownsRow w.heap.size 47 6 v' t.length (noCs t)) ∧ Below w.heap.size w w' := by
  obtain ⟨i0, hi, hz0, hz1, hz2⟩ := info_parts infoN
  refine (AnyE.slices_Clone Tryz.laysSlE041_f18 i0 _ 6 64 hi hz0 hz1 hz2 rfl (by decide) (fun w => by kernel_rfl) b off t.length c (noCs t) w (noCs_len t) (by unfold maxLen; omega) (by omega) ?_ (noCs_one t)).mono fun e w' ⟨v', he, ho, _, hb⟩ => ⟨⟨v', he, ho⟩, hb⟩
  intro j u hj
  obtain ⟨k, i, x, rfl, hk, hi⟩ := noCs_of t j u hj
  obtain ⟨b', off', he, _, hx⟩ := hT (by have := (List.getElem?_eq_some_iff.1 hk).1; omega)
  cases he
  rw [← Nat.add_assoc]
  exact hx k x hk i u hi
end Go.Proofs.YtjadckhngalmlaaGreatDoor
