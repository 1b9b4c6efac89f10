/-
  Trees and numbers held against each other; a copy of a tree.
-/
import Derived.Test.YtiodghbhllfhlaaGreatDoorZTrDp
import Derived.Test.YtiodghbhllfhlaaGreatDoorZTrLg
import Derived.Shelf.SlicesE.Clone
import Derived.Deep.Onto
import Derived.Test.YtiodghbhllfhlaaGreatDoorZTyPaW
import Derived.Laws.StructEq
import Derived.Laws.AppendOwnNone
namespace Go.Proofs.YtiodghbhllfhlaaGreatDoor
set_option linter.unusedVariables false
set_option linter.unusedSimpArgs false
set_option maxRecDepth 100000
open Go.RowKit

theorem grow_psG {t : List NdT} {ps : List (List Nat)} (h : grow t = some ps) : ∃ (fr : List Nat), bgn t = some fr ∧ PsG t t.length ps fr ∧ fr.length = t.length ∧ ∀ (k b : Nat), (fr : List Nat)[k]? = some b → b ≤ k := by
  have ha : ∀ x ∈ t, hpB x.kind x.n = true := by
    unfold grow at h
    cases hg : grF t 0 [] [] with
    | none => rw [hg] at h; cases h
    | some r => exact fun x hx => (gr_all t 0 [] [] r (Nat.le_refl _) hg x hx).1
  rcases gr_begins t ha with ⟨h1, _⟩ | ⟨ps', fr, h1, h2, h3, h4, h5⟩
  · rw [h1] at h; cases h
  · rw [h] at h1
    cases h1
    exact ⟨fr, h2, h3, h4, h5⟩
theorem PsG.len {t : List NdT} {ps : List (List Nat)} {fr : List Nat} (h : PsG t t.length ps fr) (hl : t.length ≤ 4096) : ∀ p ∈ ps, p.length ≤ 4096 := fun p hp => by
  obtain ⟨j, hj⟩ := List.getElem?_of_mem hp
  have hlt := (List.getElem?_eq_some_iff.1 hj).1
  rw [h.1] at hlt
  obtain ⟨p', e1, e2, e3, e4, _⟩ := h.2 j t[j] hlt (List.getElem?_eq_getElem hlt)
  rw [hj] at e1
  cases e1
  omega
theorem PsG.all {t : List NdT} {ps : List (List Nat)} {fr : List Nat} (h : PsG t t.length ps fr) (hl : t.length ≤ 4096) : ∀ (j : Nat) (p : List Nat), ps[j]? = some p → p.length ≤ 4096 ∧ ∀ q ∈ p, q < j := fun j p hj => by
  refine ⟨h.len hl p (List.mem_of_getElem? hj), fun q hq => ?_⟩
  have hlt := (List.getElem?_eq_some_iff.1 hj).1
  rw [h.1] at hlt
  exact (h.wf.2 j t[j] p (List.getElem?_eq_getElem hlt) hj).2.2 q hq
/-- What take answers. -/
def TkT (t : List NdT) (a : Option Addr) (c : Nat) (w : World) (e : Ending) (w' : World) : Prop :=
  ((ckA wlB t = 0 ∧ t.length ≤ 4096 ∧ ∃ P ps, grow t = some ps ∧ e = .returned (.tuple #[gwV a t.length c P, .int .i64 0]) ∧ PtIn (fun b => w.heap.size ≤ b) ps P w' ∧ w.heap.size ≤ P) ∨ (ckA wlB t ≠ 0 ∧ e = .returned (.tuple #[.agg #[.slice none 0 0, .slice none 0 0], .int .i64 (ckA wlB t : Nat)]))) ∧ Below w.heap.size w w'
theorem ck_long {wl : NdT → Bool} {t : List NdT} (h : 4096 < t.length) : ckA wl t = 3 := by unfold ckA; rw [if_pos h]
theorem ck_bad {wl : NdT → Bool} {t : List NdT} (h : t.length ≤ 4096) (hg : goodB wl t = false) : ckA wl t = 90 := by unfold ckA; rw [if_neg (by omega), hg]; rfl
theorem ck_good {wl : NdT → Bool} {t : List NdT} (h : t.length ≤ 4096) (hg : goodB wl t = true) {d : Nat} (hd : deF t [] = [d]) : ckA wl t = if 48 < d then 3 else 0 := by unfold ckA; rw [if_neg (by omega), if_pos hg, hd]; rfl
abbrev zGr : Obj := .cells #[.slice none 0 0, .slice none 0 0] 52
set_option maxHeartbeats 8000000 in
theorem c_tkTree (B : Nat) (t : List NdT) (a : Option Addr) (c : Nat) (w : World) (hE : Env B w) (hB : B ≤ w.heap.size) (ho : ∀ x ∈ t, NdOk x) (hT : TrIn t a w) :
    Calls Tryz.prog 16 #[.slice a t.length c] w fun e w' => TkT t a c w e w' := by
  have HZ0 := Lib.hid (heap_alloc_at (w := w) zGr _ rfl)
  have HB0 := Lib.hid (below_o w zGr)
  by_cases hlong : 4096 < t.length
  · obtain ⟨N, hN⟩ : ∃ N, t.length = N := ⟨_, rfl⟩
    have HC := Lib.hid (ck_long (wl := wlB) hlong)
    rw [hN] at hlong
    have hd : decide ((4096 : Int) < (N : Int)) = true := by simp; omega
    rw [hN]
    clear hT hE ho hN
    go_enter Tryz.func16, Tryz.ntmps16
    go_wp2_with fail
    obtain ⟨p0, p1, _⟩ := two_cells HZ0.out
    refine bodyPost_ret (v := .tuple #[.agg #[.slice none 0 0, .slice none 0 0], .int .i64 3]) (by simp [results, Tryz.results16, go_sem, p0, p1]) rfl ?_
    exact ⟨.inr ⟨by rw [HC.out]; decide, by rw [HC.out]; rfl⟩, HB0.out⟩
  · have hl : t.length ≤ 4096 := by omega
    have HG := Lib.hid (c_grow t a c (w.alloc zGr) hl (hT.next (below_o w zGr)))
    obtain ⟨N, hN⟩ : ∃ N, t.length = N := ⟨_, rfl⟩
    have hd : decide ((4096 : Int) < (N : Int)) = false := by simp; omega
    have hs1 : (w.alloc zGr).heap.size = w.heap.size + 1 := by simp
    unfold GwR at HG
    rw [hN, hs1] at HG
    have HS1 := Lib.hid hs1
    have HN := Lib.hid hN
    rw [hN]
    cases hgr : grow t with
    | none =>
      have HC : Hid (ckA wlB t = 90) := ck_bad hl (by unfold goodB; rw [hgr])
      have HGR := Lib.hid hgr
      clear hT hE ho hN hgr hlong hl hs1
      go_enter Tryz.func16, Tryz.ntmps16
      go_wp2_with fail
      refine HG.out.mono ?_
      rintro e w1 ⟨hr, hb⟩
      obtain ⟨a0, n0, c0, a1, n1, c1, rfl⟩ : ∃ a0 n0 c0 a1 n1 c1, e = .returned (.tuple #[.agg #[.slice a0 n0 c0, .slice a1 n1 c1], .bool false]) := by
        rcases hr with ⟨ps, h1, _⟩ | ⟨_, h⟩
        · rw [HGR.out] at h1; cases h1
        · exact h
      have hbb := below_t HB0.out (by rw [HS1.out]; exact hb) HB0.out.size
      have hzz := blk_on HZ0.out (by rw [HS1.out]; exact hb)
      have hs0 : w.heap.size < w1.heap.size := (Array.getElem?_eq_some_iff.1 hzz).1
      obtain ⟨r0, r1, rf⟩ := two_cells hzz
      have rf0 := rf 0
      have rf1 := rf 1
      have HB1 := Lib.hid hbb
      have HZ1 := Lib.hid hzz
      clear hb hr rf hbb hzz
      go_wp2_with fail
      have hz8 := blk_on (two_put HZ1.out (.slice none 0 0) (.slice none 0 0)) (below_o _ (.cells #[.slice a0 n0 c0, .slice a1 n1 c1] 52))
      have hb8 := (two_below HB1.out (Nat.le_refl _) (.slice none 0 0) (.slice none 0 0)).alloc (by simpa using HB1.out.size) (.cells #[.slice a0 n0 c0, .slice a1 n1 c1] 52)
      generalize ((w1.setCell ⟨w.heap.size, 0, none⟩ (.slice none 0 0)).setCell ⟨w.heap.size, 1, none⟩ (.slice none 0 0)).alloc (.cells #[.slice a0 n0 c0, .slice a1 n1 c1] 52) = w9 at hz8 hb8 ⊢
      obtain ⟨p0, p1, _⟩ := two_cells hz8
      refine bodyPost_ret (v := .tuple #[.agg #[.slice none 0 0, .slice none 0 0], .int .i64 90]) (by simp [results, Tryz.results16, go_sem, p0, p1]) rfl ?_
      exact ⟨.inr ⟨by rw [HC.out]; decide, by rw [HC.out]; rfl⟩, hb8⟩
    | some ps =>
      obtain ⟨fr, hbg, hG, hfl, hfe⟩ := grow_psG hgr
      obtain ⟨hd1, hd2, d, hd3, hd4, hd5⟩ := deep_eq hgr
      have h0 : 0 < t.length := by
        rw [← hd2]
        exact List.length_pos_of_mem hd5
      have HAW := Lib.hid (fun W (hb : Below w.heap.size w W) => c_anyWrong B t ho a c (by omega) W (hE.next (hb.mono hB)) (Nat.le_trans hB hb.size) (hT.next hb) h0)
      have HFI := Lib.hid (fun P W (hb : Below w.heap.size w W) (hP : PtIn any_ ps P W) => c_fits t ps a c P W hl (hT.next hb) hP hG.wf (hG.len hl))
      have HDP := Lib.hid (fun P W (hP : PtIn any_ ps P W) => c_depths ps P W (by omega) hP (hG.all hl))
      have HMX := Lib.hid (fun D W (hI : IntIn any_ (dpF ps []) (some ⟨D, 0, none⟩) W) => c_max (dpF ps []) (some ⟨D, 0, none⟩) ps.length d any_ W hI hd5 hd4 (by omega))
      obtain ⟨aw, haw⟩ : ∃ aw, t.all wlB = aw := ⟨_, rfl⟩
      obtain ⟨fi, hfi⟩ : ∃ fi, (List.range t.length).all (fitB t ps) = fi := ⟨_, rfl⟩
      have HCk : Hid (ckA wlB t = if (aw && fi) = true then (if 48 < d then 3 else 0) else 90) := by
        by_cases hg : (aw && fi) = true
        · rw [if_pos hg]
          exact ck_good hl (by unfold goodB; rw [hgr]; show (t.all wlB && (List.range t.length).all (fitB t ps)) = true; rw [haw, hfi]; exact hg) hd3
        · rw [if_neg hg]
          exact ck_bad hl (by unfold goodB; rw [hgr]; show (t.all wlB && (List.range t.length).all (fitB t ps)) = false; rw [haw, hfi]; simpa using hg)
      rw [haw] at HAW
      rw [hfi] at HFI
      rw [hd2] at HMX
      rw [hd1] at HDP HMX
      rw [hN] at HAW HFI HDP HMX
      have HGR := Lib.hid hgr
      have HLN := Lib.hid hl
      clear hT hE ho hgr hlong hl hbg hG hfl hfe hd1 hd2 hd3 hd4 hd5 haw hfi h0 hN hs1
      go_enter Tryz.func16, Tryz.ntmps16
      go_wp2_with fail
      refine HG.out.mono ?_
      rintro e w1 ⟨hr, hb⟩
      obtain ⟨rfl, hPt⟩ : e = .returned (.tuple #[gwV a N c (w.heap.size + 1 + 1), .bool true]) ∧ PtIn (fun b => w.heap.size + 1 ≤ b) ps (w.heap.size + 1 + 1) w1 := by
        rcases hr with ⟨ps', h1, h2, h3⟩ | ⟨h1, _⟩
        · rw [HGR.out] at h1; cases h1; exact ⟨h2, h3⟩
        · rw [HGR.out] at h1; cases h1
      have hbb := below_t HB0.out (by rw [HS1.out]; exact hb) HB0.out.size
      have hzz := blk_on HZ0.out (by rw [HS1.out]; exact hb)
      have hs0 : w.heap.size < w1.heap.size := (Array.getElem?_eq_some_iff.1 hzz).1
      obtain ⟨r0, r1, rf⟩ := two_cells hzz
      have rf0 := rf 0
      have rf1 := rf 1
      have HB1 := Lib.hid hbb
      have HZ1 := Lib.hid hzz
      have HPt := Lib.hid hPt
      clear hb hr rf hbb hzz hPt HG
      go_wp2_with fail
      have hzg := heap_alloc_at (w := w1) (.cells #[.slice a N c, .slice (some ⟨w.heap.size + 1 + 1, 0, none⟩) N N] 52) _ rfl
      have hb2 := below_o w1 (.cells #[.slice a N c, .slice (some ⟨w.heap.size + 1 + 1, 0, none⟩) N N] 52)
      have HB2 := Lib.hid (below_t HB1.out hb2 HB1.out.size)
      have HZ2 := Lib.hid (blk_on HZ1.out hb2)
      have HPt2 := Lib.hid (HPt.out.next hb2)
      generalize w1.alloc (.cells #[.slice a N c, .slice (some ⟨w.heap.size + 1 + 1, 0, none⟩) N N] 52) = w2 at hzg hb2 HB2 HZ2 HPt2 ⊢
      have HG2 := Lib.hid hzg
      clear hb2 hzg r0 r1 rf0 rf1 hs0 HB1 HZ1 HPt
      generalize w1.heap.size = nG at HG2 ⊢
      refine (HAW.out _ HB2.out).mono ?_
      rintro e w3 ⟨rfl, hb⟩
      have hb3 := below_t HB2.out hb HB2.out.size
      have hz3 := blk_on HZ2.out hb
      have hg3 := blk_on HG2.out hb
      have HPt3 := Lib.hid (HPt2.out.next hb)
      have hs0 : w.heap.size < w3.heap.size := (Array.getElem?_eq_some_iff.1 hz3).1
      obtain ⟨r0, r1, rf⟩ := two_cells hz3
      have rf0 := rf 0
      have rf1 := rf 1
      obtain ⟨g0, g1, _⟩ := two_cells hg3
      have HB3 := Lib.hid hb3
      have HZ3 := Lib.hid hz3
      have HG3 := Lib.hid hg3
      clear hb rf hb3 hz3 hg3
      cases aw
      · have HC : Hid (ckA wlB t = 90) := HCk.out
        go_wp2_with fail
        have hz9 := two_put HZ3.out (.slice none 0 0) (.slice none 0 0)
        have hb9 := two_below HB3.out (Nat.le_refl _) (.slice none 0 0) (.slice none 0 0)
        generalize (w3.setCell ⟨w.heap.size, 0, none⟩ (.slice none 0 0)).setCell ⟨w.heap.size, 1, none⟩ (.slice none 0 0) = w9 at hz9 hb9 ⊢
        obtain ⟨p0, p1, _⟩ := two_cells hz9
        refine bodyPost_ret (v := .tuple #[.agg #[.slice none 0 0, .slice none 0 0], .int .i64 90]) (by simp [results, Tryz.results16, go_sem, p0, p1]) rfl ?_
        exact ⟨.inr ⟨by rw [HC.out]; decide, by rw [HC.out]; rfl⟩, hb9⟩
      · go_wp2_with fail
        refine (HFI.out _ _ HB3.out HPt3.out.any).mono ?_
        rintro e w4 ⟨rfl, hb⟩
        clear r0 r1 rf0 rf1 g0 g1 hs0
        have hb4 := below_t HB3.out hb HB3.out.size
        have hz4 := blk_on HZ3.out hb
        have hg4 := blk_on HG3.out hb
        have HPt4 := Lib.hid (HPt3.out.next hb)
        have hs0 : w.heap.size < w4.heap.size := (Array.getElem?_eq_some_iff.1 hz4).1
        obtain ⟨r0, r1, rf⟩ := two_cells hz4
        have rf0 := rf 0
        have rf1 := rf 1
        obtain ⟨g0, g1, _⟩ := two_cells hg4
        have HB4 := Lib.hid hb4
        have HZ4 := Lib.hid hz4
        have HG4 := Lib.hid hg4
        clear hb rf hb4 hz4 hg4
        cases fi
        · have HC : Hid (ckA wlB t = 90) := HCk.out
          go_wp2_with fail
          have hz9 := two_put HZ4.out (.slice none 0 0) (.slice none 0 0)
          have hb9 := two_below HB4.out (Nat.le_refl _) (.slice none 0 0) (.slice none 0 0)
          generalize (w4.setCell ⟨w.heap.size, 0, none⟩ (.slice none 0 0)).setCell ⟨w.heap.size, 1, none⟩ (.slice none 0 0) = w9 at hz9 hb9 ⊢
          obtain ⟨p0, p1, _⟩ := two_cells hz9
          refine bodyPost_ret (v := .tuple #[.agg #[.slice none 0 0, .slice none 0 0], .int .i64 90]) (by simp [results, Tryz.results16, go_sem, p0, p1]) rfl ?_
          exact ⟨.inr ⟨by rw [HC.out]; decide, by rw [HC.out]; rfl⟩, hb9⟩
        · go_wp2_with fail
          refine (HDP.out _ _ HPt4.out.any).mono ?_
          rintro e w5 ⟨⟨rfl, hInt, hlen⟩, hb⟩
          clear r0 r1 rf0 rf1 g0 g1 hs0
          have HInt := Lib.hid hInt
          clear hInt hlen
          have hb5 := below_t HB4.out hb HB4.out.size
          have hz5 := blk_on HZ4.out hb
          have hg5 := blk_on HG4.out hb
          have HPt5 := Lib.hid (HPt4.out.next hb)
          have hs0 : w.heap.size < w5.heap.size := (Array.getElem?_eq_some_iff.1 hz5).1
          obtain ⟨r0, r1, rf⟩ := two_cells hz5
          have rf0 := rf 0
          have rf1 := rf 1
          obtain ⟨g0, g1, _⟩ := two_cells hg5
          have HB5 := Lib.hid hb5
          have HZ5 := Lib.hid hz5
          have HG5 := Lib.hid hg5
          clear hb rf hb5 hz5 hg5
          go_wp2_with fail
          refine (HMX.out _ _ HInt.out).mono ?_
          rintro e w6 ⟨rfl, rfl⟩
          by_cases hd48 : 48 < d
          · have HC : Hid (ckA wlB t = 3) := by
              have h := HCk.out
              rw [if_pos hd48] at h
              exact h
            have hdd : decide ((48 : Int) < (d : Int)) = true := by simp; omega
            clear hd48
            go_wp2_with fail
            have hz9 := two_put HZ5.out (.slice none 0 0) (.slice none 0 0)
            have hb9 := two_below HB5.out (Nat.le_refl _) (.slice none 0 0) (.slice none 0 0)
            generalize (w6.setCell ⟨w.heap.size, 0, none⟩ (.slice none 0 0)).setCell ⟨w.heap.size, 1, none⟩ (.slice none 0 0) = w9 at hz9 hb9 ⊢
            obtain ⟨p0, p1, _⟩ := two_cells hz9
            refine bodyPost_ret (v := .tuple #[.agg #[.slice none 0 0, .slice none 0 0], .int .i64 3]) (by simp [results, Tryz.results16, go_sem, p0, p1]) rfl ?_
            exact ⟨.inr ⟨by rw [HC.out]; decide, by rw [HC.out]; rfl⟩, hb9⟩
          · have HC : Hid (ckA wlB t = 0) := by
              have h := HCk.out
              rw [if_neg hd48] at h
              exact h
            have hdd : decide ((48 : Int) < (d : Int)) = false := by simp; omega
            clear hd48
            go_wp2_with fail
            have hz9 := two_put HZ5.out (.slice a N c) (.slice (some ⟨w.heap.size + 1 + 1, 0, none⟩) N N)
            have hb9 := two_below HB5.out (Nat.le_refl _) (.slice a N c) (.slice (some ⟨w.heap.size + 1 + 1, 0, none⟩) N N)
            have hbl : ∀ j, j ≠ w.heap.size → ((w6.setCell ⟨w.heap.size, 0, none⟩ (.slice a N c)).setCell ⟨w.heap.size, 1, none⟩ (.slice (some ⟨w.heap.size + 1 + 1, 0, none⟩) N N)).heap[j]? = w6.heap[j]? := fun j hj => (Below.heap_setCell _ _ _ _ hj).trans (Below.heap_setCell _ _ _ _ hj)
            have hsz : ((w6.setCell ⟨w.heap.size, 0, none⟩ (.slice a N c)).setCell ⟨w.heap.size, 1, none⟩ (.slice (some ⟨w.heap.size + 1 + 1, 0, none⟩) N N)).heap.size = w6.heap.size := by simp
            generalize (w6.setCell ⟨w.heap.size, 0, none⟩ (.slice a N c)).setCell ⟨w.heap.size, 1, none⟩ (.slice (some ⟨w.heap.size + 1 + 1, 0, none⟩) N N) = w9 at hz9 hb9 hbl hsz ⊢
            obtain ⟨p0, p1, _⟩ := two_cells hz9
            refine bodyPost_ret (v := .tuple #[gwV a N c (w.heap.size + 1 + 1), .int .i64 0]) (by simp [results, Tryz.results16, go_sem, p0, p1]) rfl ?_
            exact ⟨.inl ⟨HC.out, HLN.out, _, ps, HGR.out, by rw [HN.out], HPt5.out.mono (by omega) (hbl _ (by omega)) (fun b hb _ => ⟨by omega, hbl _ (by omega)⟩), by omega⟩, hb9⟩
end Go.Proofs.YtiodghbhllfhlaaGreatDoor
namespace Go.Proofs.YtiodghbhllfhlaaGreatDoor
set_option linter.unusedVariables false
set_option linter.unusedSimpArgs false
set_option maxRecDepth 100000
open Go.RowKit

theorem ck_le (t : List NdT) : ckA wlB t = 0 ∨ ckA wlB t = 3 ∨ ckA wlB t = 90 := by
  unfold ckA
  (repeat' split) <;> simp
/-- What is wrong with a tree, or with a place in it; 0: nothing. -/
def erA (t : List NdT) (i : Int) : Nat := if ckA wlB t ≠ 0 then ckA wlB t else if 0 ≤ i ∧ i < (t.length : Int) then 0 else 1
theorem er_ck {t : List NdT} {i : Int} (h : ckA wlB t ≠ 0) : erA t i = ckA wlB t := by unfold erA; rw [if_pos h]
theorem er_in {t : List NdT} {i : Int} (h : ckA wlB t = 0) (h0 : 0 ≤ i) (h1 : i < (t.length : Int)) : erA t i = 0 := by unfold erA; rw [if_neg (by simp [h]), if_pos ⟨h0, h1⟩]
theorem er_out {t : List NdT} {i : Int} (h : ckA wlB t = 0) (h0 : ¬ (0 ≤ i ∧ i < (t.length : Int))) : erA t i = 1 := by unfold erA; rw [if_neg (by simp [h]), if_neg h0]
set_option maxHeartbeats 4000000 in
theorem c_tCheck (B : Nat) (t : List NdT) (a : Option Addr) (c : Nat) (w : World) (hE : Env B w) (hB : B ≤ w.heap.size) (ho : ∀ x ∈ t, NdOk x) (hT : TrIn t a w) :
    Calls Tryz.prog 5 #[.slice a t.length c] w fun e w' => e = .returned (.int .i64 (ckA wlB t : Nat)) ∧ Below w.heap.size w w' := by
  have HT := Lib.hid (c_tkTree B t a c w hE hB ho hT)
  obtain ⟨N, hN⟩ : ∃ N, t.length = N := ⟨_, rfl⟩
  unfold TkT at HT
  obtain ⟨ck, hck⟩ : ∃ ck : Int, ((ckA wlB t : Nat) : Int) = ck := ⟨_, rfl⟩
  rw [hck] at HT ⊢
  rw [hN] at HT ⊢
  have HC := Lib.hid hck
  clear hE ho hT hN hck
  go_enter Tryz.func5, Tryz.ntmps5
  go_wp2_with fail
  refine HT.out.mono ?_
  rintro e w1 ⟨hr, hb⟩
  obtain ⟨a0, n0, c0, a1, n1, c1, rfl⟩ : ∃ a0 n0 c0 a1 n1 c1, e = .returned (.tuple #[.agg #[.slice a0 n0 c0, .slice a1 n1 c1], .int .i64 ck]) := by
    rcases hr with ⟨h0, _, P, ps, _, h, _⟩ | ⟨_, h⟩
    · exact ⟨_, _, _, _, _, _, by rw [h, ← HC.out, h0]; rfl⟩
    · exact ⟨_, _, _, _, _, _, h⟩
  have HB := Lib.hid hb
  clear hr hb HT
  go_wp2_with fail
  go_ret
  exact ⟨rfl, HB.out.alloc HB.out.size _⟩
/-- What takeAt answers. -/
def TaT (t : List NdT) (a : Option Addr) (c : Nat) (i : Int) (w : World) (e : Ending) (w' : World) : Prop :=
  ((erA t i = 0 ∧ t.length ≤ 4096 ∧ ckA wlB t = 0 ∧ ∃ P ps k, i = ((k : Nat) : Int) ∧ k < t.length ∧ grow t = some ps ∧ e = .returned (.tuple #[gwV a t.length c P, .int .i64 0]) ∧ PtIn any_ ps P w') ∨ (erA t i ≠ 0 ∧ e = .returned (.tuple #[.agg #[.slice none 0 0, .slice none 0 0], .int .i64 (erA t i : Nat)]))) ∧ Below w.heap.size w w'
set_option maxHeartbeats 4000000 in
theorem c_takeAt (B : Nat) (t : List NdT) (a : Option Addr) (c : Nat) (i : Int) (w : World) (hE : Env B w) (hB : B ≤ w.heap.size) (ho : ∀ x ∈ t, NdOk x) (hT : TrIn t a w) :
    Calls Tryz.prog 17 #[.slice a t.length c, .int .i64 i] w fun e w' => TaT t a c i w e w' := by
  have HZ0 := Lib.hid (heap_alloc_at (w := w) zGr _ rfl)
  have HB0 := Lib.hid (below_o w zGr)
  have HT := Lib.hid (c_tkTree B t a c (w.alloc zGr) (hE.next ((below_o w zGr).mono hB)) (Nat.le_trans hB (below_o w zGr).size) ho (hT.next (below_o w zGr)))
  obtain ⟨N, hN⟩ : ∃ N, t.length = N := ⟨_, rfl⟩
  unfold TkT at HT
  have HN := Lib.hid hN
  rw [hN] at HT ⊢
  clear hE ho hT hN
  go_enter Tryz.func17, Tryz.ntmps17
  go_wp2_with fail
  refine HT.out.mono ?_
  rintro e w1 ⟨hr, hb⟩
  have hbb := below_t HB0.out hb HB0.out.size
  have hzz := blk_on HZ0.out hb
  have hs0 : w.heap.size < w1.heap.size := (Array.getElem?_eq_some_iff.1 hzz).1
  obtain ⟨r0, r1, rf⟩ := two_cells hzz
  have rf0 := rf 0
  have rf1 := rf 1
  have HB1 := Lib.hid hbb
  have HZ1 := Lib.hid hzz
  clear hb rf hbb hzz HT
  rcases hr with ⟨h0, hl, P, ps, hg, rfl, hPt, hPP⟩ | ⟨h0, rfl⟩
  · rw [← HN.out] at hl
    have HQ := Lib.hid (And.intro h0 (And.intro hl (And.intro hg (And.intro hPt hPP))))
    clear h0 hl hg hPt hPP
    by_cases hin : 0 ≤ i ∧ i < (N : Int)
    · obtain ⟨k, rfl⟩ : ∃ k : Nat, i = (k : Int) := ⟨i.toNat, by omega⟩
      have d1 : decide ((k : Int) < 0) = false := by simp
      have d2 : decide ((N : Int) ≤ (k : Int)) = false := by simp; omega
      have d3 : decide (N ≤ k) = false := by simp; omega
      have HER : Hid (erA t (k : Int) = 0) := er_in HQ.out.1 hin.1 (by rw [HN.out]; exact hin.2)
      have HKN : Hid (k < t.length) := by show k < t.length; rw [HN.out]; omega
      clear hin
      go_wp2_with fail
      have hz9 := blk_on (two_put HZ1.out (.slice a N c) (.slice (some ⟨P, 0, none⟩) N N)) (below_o _ (.cells #[.slice a N c, .slice (some ⟨P, 0, none⟩) N N] 52))
      have hb9 := (two_below HB1.out (Nat.le_refl _) (.slice a N c) (.slice (some ⟨P, 0, none⟩) N N)).alloc (by simpa using HB1.out.size) (.cells #[.slice a N c, .slice (some ⟨P, 0, none⟩) N N] 52)
      have hbl : ∀ j, j < w1.heap.size → j ≠ w.heap.size → (((w1.setCell ⟨w.heap.size, 0, none⟩ (.slice a N c)).setCell ⟨w.heap.size, 1, none⟩ (.slice (some ⟨P, 0, none⟩) N N)).alloc (.cells #[.slice a N c, .slice (some ⟨P, 0, none⟩) N N] 52)).heap[j]? = w1.heap[j]? := fun j hj hne => (Below.heap_alloc _ _ _ (by simpa using hj)).trans ((Below.heap_setCell _ _ _ _ hne).trans (Below.heap_setCell _ _ _ _ hne))
      have hsz : w1.heap.size ≤ (((w1.setCell ⟨w.heap.size, 0, none⟩ (.slice a N c)).setCell ⟨w.heap.size, 1, none⟩ (.slice (some ⟨P, 0, none⟩) N N)).alloc (.cells #[.slice a N c, .slice (some ⟨P, 0, none⟩) N N] 52)).heap.size := by simp
      generalize ((w1.setCell ⟨w.heap.size, 0, none⟩ (.slice a N c)).setCell ⟨w.heap.size, 1, none⟩ (.slice (some ⟨P, 0, none⟩) N N)).alloc (.cells #[.slice a N c, .slice (some ⟨P, 0, none⟩) N N] 52) = w9 at hz9 hb9 hbl hsz ⊢
      obtain ⟨p0, p1, _⟩ := two_cells hz9
      refine bodyPost_ret (v := .tuple #[gwV a N c P, .int .i64 0]) (by simp [results, Tryz.results17, go_sem, p0, p1]) rfl ?_
      refine ⟨.inl ⟨HER.out, HQ.out.2.1, HQ.out.1, P, ps, k, rfl, HKN.out, HQ.out.2.2.1, by rw [HN.out], ?_⟩, hb9⟩
      have h1 : w.heap.size + 1 ≤ P := by have := HQ.out.2.2.2.2; simpa using this
      exact HQ.out.2.2.2.1.mono hsz (hbl _ HQ.out.2.2.2.1.lt (by omega)) fun b hb hlt => ⟨trivial, hbl b hlt (by have : w.heap.size + 1 ≤ b := by simpa using hb
                                                                                                                 omega)⟩
    · have HER : Hid (erA t i = 1) := er_out HQ.out.1 (by rw [HN.out]; exact hin)
      by_cases hneg : i < 0
      · have d1 : decide (i < 0) = true := by simpa using hneg
        clear hin hneg
        go_wp2_with fail
        have hz9 := blk_on (two_put HZ1.out (.slice none 0 0) (.slice none 0 0)) (below_o _ (.cells #[.slice a N c, .slice (some ⟨P, 0, none⟩) N N] 52))
        have hb9 := (two_below HB1.out (Nat.le_refl _) (.slice none 0 0) (.slice none 0 0)).alloc (by simpa using HB1.out.size) (.cells #[.slice a N c, .slice (some ⟨P, 0, none⟩) N N] 52)
        generalize ((w1.setCell ⟨w.heap.size, 0, none⟩ (.slice none 0 0)).setCell ⟨w.heap.size, 1, none⟩ (.slice none 0 0)).alloc (.cells #[.slice a N c, .slice (some ⟨P, 0, none⟩) N N] 52) = w9 at hz9 hb9 ⊢
        obtain ⟨p0, p1, _⟩ := two_cells hz9
        refine bodyPost_ret (v := .tuple #[.agg #[.slice none 0 0, .slice none 0 0], .int .i64 1]) (by simp [results, Tryz.results17, go_sem, p0, p1]) rfl ?_
        exact ⟨.inr ⟨by rw [HER.out]; decide, by rw [HER.out]; rfl⟩, hb9⟩
      · have d1 : decide (i < 0) = false := by simpa using hneg
        have d2 : decide ((N : Int) ≤ i) = true := by simp; omega
        clear hin hneg
        go_wp2_with fail
        have hz9 := blk_on (two_put HZ1.out (.slice none 0 0) (.slice none 0 0)) (below_o _ (.cells #[.slice a N c, .slice (some ⟨P, 0, none⟩) N N] 52))
        have hb9 := (two_below HB1.out (Nat.le_refl _) (.slice none 0 0) (.slice none 0 0)).alloc (by simpa using HB1.out.size) (.cells #[.slice a N c, .slice (some ⟨P, 0, none⟩) N N] 52)
        generalize ((w1.setCell ⟨w.heap.size, 0, none⟩ (.slice none 0 0)).setCell ⟨w.heap.size, 1, none⟩ (.slice none 0 0)).alloc (.cells #[.slice a N c, .slice (some ⟨P, 0, none⟩) N N] 52) = w9 at hz9 hb9 ⊢
        obtain ⟨p0, p1, _⟩ := two_cells hz9
        refine bodyPost_ret (v := .tuple #[.agg #[.slice none 0 0, .slice none 0 0], .int .i64 1]) (by simp [results, Tryz.results17, go_sem, p0, p1]) rfl ?_
        exact ⟨.inr ⟨by rw [HER.out]; decide, by rw [HER.out]; rfl⟩, hb9⟩
  · have HER : Hid (erA t i = ckA wlB t) := er_ck h0
    have HC0 := Lib.hid h0
    obtain ⟨ck, hck⟩ : ∃ ck : Int, ((ckA wlB t : Nat) : Int) = ck := ⟨_, rfl⟩
    have hne : (ck == 0) = false := by rw [← hck]; simp; omega
    have HCK := Lib.hid hck
    rw [hck]
    clear h0 hck
    go_wp2_with fail
    have hz9 := blk_on (two_put HZ1.out (.slice none 0 0) (.slice none 0 0)) (below_o _ (.cells #[.slice none 0 0, .slice none 0 0] 52))
    have hb9 := (two_below HB1.out (Nat.le_refl _) (.slice none 0 0) (.slice none 0 0)).alloc (by simpa using HB1.out.size) (.cells #[.slice none 0 0, .slice none 0 0] 52)
    generalize ((w1.setCell ⟨w.heap.size, 0, none⟩ (.slice none 0 0)).setCell ⟨w.heap.size, 1, none⟩ (.slice none 0 0)).alloc (.cells #[.slice none 0 0, .slice none 0 0] 52) = w9 at hz9 hb9 ⊢
    obtain ⟨p0, p1, _⟩ := two_cells hz9
    refine bodyPost_ret (v := .tuple #[.agg #[.slice none 0 0, .slice none 0 0], .int .i64 ck]) (by simp [results, Tryz.results17, go_sem, p0, p1]) rfl ?_
    exact ⟨.inr ⟨by rw [HER.out]; exact HC0.out, by rw [HER.out, HCK.out]⟩, hb9⟩
/-- What Parts answers. -/
def PaT (t : List NdT) (i : Int) (w : World) (e : Ending) (w' : World) : Prop :=
  ((erA t i = 0 ∧ ∃ ps k p pa pc, i = ((k : Nat) : Int) ∧ k < t.length ∧ t.length ≤ 4096 ∧ grow t = some ps ∧ ps[k]? = some p ∧ e = .returned (.tuple #[.slice pa p.length pc, .int .i64 0]) ∧ IntIn any_ p pa w') ∨ (erA t i ≠ 0 ∧ e = .returned (.tuple #[.slice none 0 0, .int .i64 (erA t i : Nat)]))) ∧ Below w.heap.size w w'
set_option maxHeartbeats 4000000 in
theorem c_tParts (B : Nat) (t : List NdT) (a : Option Addr) (c : Nat) (i : Int) (w : World) (hE : Env B w) (hB : B ≤ w.heap.size) (ho : ∀ x ∈ t, NdOk x) (hT : TrIn t a w) :
    Calls Tryz.prog 6 #[.slice a t.length c, .int .i64 i] w fun e w' => PaT t i w e w' := by
  have HT := Lib.hid (c_takeAt B t a c i w hE hB ho hT)
  obtain ⟨N, hN⟩ : ∃ N, t.length = N := ⟨_, rfl⟩
  unfold TaT at HT
  have HN := Lib.hid hN
  rw [hN] at HT ⊢
  clear hE ho hT hN
  go_enter Tryz.func6, Tryz.ntmps6
  go_wp2_with fail
  refine HT.out.mono ?_
  rintro e w1 ⟨hr, hb⟩
  have HB1 := Lib.hid hb
  clear hb HT
  rcases hr with ⟨h0, hl, hck, P, ps, k, rfl, hk, hg, rfl, hPt⟩ | ⟨h0, rfl⟩
  · rw [← HN.out] at hl
    rw [← HN.out] at hk
    obtain ⟨fr, _, hG, _, _⟩ := grow_psG hg
    obtain ⟨p, hp⟩ : ∃ p, ps[k]? = some p := ⟨_, List.getElem?_eq_getElem (by rw [hG.1]; exact hk)⟩
    obtain ⟨pa, pc, z1, hpc, hpi⟩ := hPt.row k p hp
    have hPw := hPt.lt
    have hk0 : (0 : Int) ≤ (k : Int) := by omega
    have hkN : (k : Int) < (N : Int) := by have := HN.out; omega
    obtain ⟨ml, hml⟩ : ∃ ml, p.length = ml := ⟨_, rfl⟩
    rw [hml] at z1
    have HQ := Lib.hid (And.intro h0 (And.intro hk (And.intro hl (And.intro hg (And.intro hp (And.intro hml hpi))))))
    clear h0 hl hck hk hg hPt hG hp hpc hpi hml
    go_wp2_with fail
    go_ret2
    refine ⟨.inl ⟨HQ.out.1, ps, k, p, pa, pc, rfl, HQ.out.2.1, HQ.out.2.2.1, HQ.out.2.2.2.1, HQ.out.2.2.2.2.1, by rw [HQ.out.2.2.2.2.2.1]; rfl, HQ.out.2.2.2.2.2.2.next (below_o _ _)⟩, HB1.out.alloc HB1.out.size _⟩
  · have HC0 := Lib.hid h0
    obtain ⟨ck, hck⟩ : ∃ ck : Int, ((erA t i : Nat) : Int) = ck := ⟨_, rfl⟩
    have hne : (ck == 0) = false := by rw [← hck]; simp; omega
    have HCK := Lib.hid hck
    rw [hck]
    clear h0 hck
    go_wp2_with fail
    go_ret2
    exact ⟨.inr ⟨HC0.out, by rw [HCK.out]; rfl⟩, HB1.out.alloc HB1.out.size _⟩
set_option maxHeartbeats 4000000 in
theorem c_from (t : List NdT) (ps : List (List Nat)) (fr : List Nat) (P : Nat) (w : World) (hl : t.length ≤ 4096) (hG : PsG t t.length ps fr) (hP : PtIn any_ ps P w) (k F : Nat) (hk : k < t.length) (hF : fr[k]? = some F) :
    Calls Tryz.prog 19 #[.slice (some ⟨P, 0, none⟩) t.length t.length, .int .i64 k] w fun e w' => e = .returned (.int .i64 F) ∧ w' = w := by
  obtain ⟨N, hN⟩ : ∃ N, t.length = N := ⟨_, rfl⟩
  have HN := Lib.hid hN
  have HP := Lib.hid hP
  have HG := Lib.hid hG
  have HF := Lib.hid hF
  have hkN : k < N := by omega
  have HK := Lib.hid hkN
  rw [hN]
  clear hN hP hG hF hl hk hkN
  go_enter Tryz.func19, Tryz.ntmps19
  go_wp2_with fail
  go_loopg [1] k (fun m v1 wr => ∃ q : Nat, q ≤ m ∧ v1 = .int .i64 (q : Int) ∧ Hid (q < N ∧ fr[q]? = some F) ∧ wr = w)
  case atStart => exact ⟨k, Nat.le_refl _, rfl, ⟨HK.out, HF.out⟩, rfl⟩
  case round =>
    obtain ⟨q, hq, rfl, HH, rfl⟩ := hrel
    obtain ⟨hqN, hfq⟩ := HH.out
    obtain ⟨p, e1, e2, e3, e4, e5⟩ := HG.out.2 q (t[q]'(by rw [HN.out]; exact hqN)) (by rw [HN.out]; exact hqN) (List.getElem?_eq_getElem _)
    obtain ⟨pa, pc, z1, hpc, hpi⟩ := HP.out.row q p e1
    have hq0 : (0 : Int) ≤ (q : Int) := by omega
    have hqI : (q : Int) < (N : Int) := by omega
    obtain ⟨ml, hml⟩ : ∃ ml, p.length = ml := ⟨_, rfl⟩
    rw [hml] at z1
    by_cases h0 : ml = 0
    · subst h0
      have hpn : p[0]? = none := List.getElem?_eq_none (by omega)
      have := e5.hd0 hpn
      rw [hfq] at this
      obtain rfl : F = q := by simpa using this
      clear hpi e1 e2 e3 e4 e5 hml hpn hfq this HH
      go_wp2_with fail
      go_ret
      exact ⟨rfl, rfl⟩
    · obtain ⟨rb, ro, hpa, _, hrb, hri⟩ := hpi (by omega)
      subst hpa
      obtain ⟨r, hr⟩ : ∃ r, p[0]? = some r := ⟨_, List.getElem?_eq_getElem (by omega)⟩
      have z2 := hri 0 r hr
      rw [Nat.add_zero] at z2
      have hrq := e5.lt 0 r hr
      have hfr := e5.hd r hr
      rw [hfq] at hfr
      have HR : Hid (r < N ∧ fr[r]? = some F) := ⟨by omega, hfr.symm⟩
      have HM : Hid (r < gk) := by show r < gk; omega
      have hml0 : (0 : Int) < (ml : Int) := by omega
      have hml1 : 0 < ml := by omega
      have hdm : decide ((0 : Int) < (ml : Int)) = true := by simp; omega
      clear hri hr e1 e2 e3 e4 e5 hml hfq hfr HH hrb hpc h0 hrq
      go_wp2_with fail
      go_roundg r
      case measure => exact HM.out
      case rel => exact ⟨r, Nat.le_refl _, rfl, HR.out, rfl⟩
theorem infoN : (Tryz.prog.info? 41).map (fun i => (i.zero, i.size, i.bytes)) = some (some (.agg #[.int .i64 0, .int .i64 0, .int .i64 0, .int .i64 0, .string ⟨#[]⟩, .string ⟨#[]⟩]), 6, 64) := by kernel_rfl
/-- Nodes as cells, one behind the other. -/
def noCs (t : List NdT) : List Value := t.flatMap noC
theorem noCs_len (t : List NdT) : (noCs t).length = t.length * 6 := by
  unfold noCs
  induction t with
  | nil => rfl
  | cons x t ih => rw [List.flatMap_cons, List.length_append, ih, noC_len, List.length_cons]; omega
theorem noCs_at : ∀ (t : List NdT) (k : Nat) (x : NdT), t[k]? = some x → ∀ (i : Nat) (v : Value), (noC x)[i]? = some v → (noCs t)[k * 6 + i]? = some v
  | y :: t, 0, x, h, i, v, hi => by
    cases h
    show (noC y ++ noCs t)[0 * 6 + i]? = some v
    have := (List.getElem?_eq_some_iff.1 hi).1
    rw [List.getElem?_append_left (by omega), Nat.zero_mul, Nat.zero_add]
    exact hi
  | y :: t, k + 1, x, h, i, v, hi => by
    show (noC y ++ noCs t)[(k + 1) * 6 + i]? = some v
    rw [List.getElem?_append_right (by rw [noC_len]; omega), noC_len, show (k + 1) * 6 + i - 6 = k * 6 + i by omega]
    exact noCs_at t k x h i v hi
theorem noCs_of : ∀ (t : List NdT) (j : Nat) (u : Value), (noCs t)[j]? = some u → ∃ (k i : Nat) (x : NdT), j = k * 6 + i ∧ t[k]? = some x ∧ (noC x)[i]? = some u
  | [], j, u, h => by cases h
  | y :: t, j, u, h => by
    have h : (noC y ++ noCs t)[j]? = some u := h
    by_cases hj : j < 6
    · rw [List.getElem?_append_left (by rw [noC_len]; exact hj)] at h
      exact ⟨0, j, y, by omega, rfl, h⟩
    · rw [List.getElem?_append_right (by rw [noC_len]; omega), noC_len] at h
      obtain ⟨k, i, x, e1, e2, e3⟩ := noCs_of t (j - 6) u h
      exact ⟨k + 1, i, x, by omega, e2, e3⟩
theorem noCs_one (t : List NdT) : ∀ u ∈ noCs t, u.oneCell' = true := fun u hu => by
  unfold noCs at hu
  obtain ⟨x, _, hx⟩ := List.mem_flatMap.1 hu
  unfold noC at hx
  simp at hx
  rcases hx with rfl | rfl | rfl | rfl | rfl | rfl <;> rfl
/-- Nodes in a row of the call's own. -/
theorem tr_of_own {w : World} {base : Nat} {v : Value} {t : List NdT} (h : w.ownsRow base 41 6 v t.length (noCs t)) : ∃ a c, v = .slice a t.length c ∧ t.length ≤ c ∧ TrIn t a w := by
  have h' := h
  rcases h.2 with ⟨hv, hz⟩ | ⟨g, cap, cur, hv, hg, hh, hn, hcap, hsz, htake⟩
  · subst hv
    exact ⟨none, 0, by rw [hz], by omega, fun h0 => by omega⟩
  · subst hv
    refine ⟨_, cap, rfl, hn, fun _ => ⟨g, 0, rfl, (Array.getElem?_eq_some_iff.1 hh).1, fun k x hk i u hi => ?_⟩⟩
    have hx := h'.cells (g := g) rfl (k * 6 + i) _ (noCs_at t k x hk i u hi)
    have ea : (⟨g, 0, none⟩ : Addr).add (k * 6 + i) = ⟨g, 0 + k * 6 + i, none⟩ := by unfold Addr.add; split <;> simp_all
    rw [ea] at hx
    exact hx
theorem c_cloneN (t : List NdT) (b off c : Nat) (w : World) (hl : t.length ≤ 4096) (hT : TrIn t (some ⟨b, off, none⟩) w) :
    Calls Tryz.prog 18 #[.slice (some ⟨b, off, none⟩) t.length c] w fun e w' => (∃ v', e = .returned v' ∧ w'.ownsRow w.heap.size 41 6 v' t.length (noCs t)) ∧ Below w.heap.size w w' := by
  obtain ⟨i0, hi, hz0, hz1, hz2⟩ := info_parts infoN
  refine (AnyE.slices_Clone Tryz.laysSlE041_f18 i0 _ 6 64 hi hz0 hz1 hz2 rfl (by decide) (fun w => by kernel_rfl) b off t.length c (noCs t) w (noCs_len t) (by unfold maxLen; omega) (by omega) ?_ (noCs_one t)).mono fun e w' ⟨v', he, ho, _, hb⟩ => ⟨⟨v', he, ho⟩, hb⟩
  intro j u hj
  obtain ⟨k, i, x, rfl, hk, hi⟩ := noCs_of t j u hj
  obtain ⟨b', off', he, _, hx⟩ := hT (by have := (List.getElem?_eq_some_iff.1 hk).1; omega)
  cases he
  rw [← Nat.add_assoc]
  exact hx k x hk i u hi
/-- A part of a tree. -/
def subL (t : List NdT) (F k : Nat) : List NdT := (t.drop F).take (k + 1 - F)
theorem sub_len {t : List NdT} {F k : Nat} (hk : k < t.length) (hF : F ≤ k) : (subL t F k).length = k + 1 - F := by unfold subL; rw [List.length_take, List.length_drop]; omega
theorem sub_at {t : List NdT} {F k j : Nat} {x : NdT} (h : (subL t F k)[j]? = some x) : t[F + j]? = some x := by
  unfold subL at h
  have hj := (List.getElem?_eq_some_iff.1 h).1
  rw [List.length_take] at hj
  rw [List.getElem?_take_of_lt (by omega), List.getElem?_drop] at h
  exact h
theorem sub_in {t : List NdT} {F k b off : Nat} {w : World} (hF : F ≤ k) (h : TrIn t (some ⟨b, off, none⟩) w) (hk : k < t.length) : TrIn (subL t F k) (some ⟨b, off + F * 6, none⟩) w := fun h0 => by
  obtain ⟨b', off', he, hb, hx⟩ := h (by omega)
  cases he
  refine ⟨b, off + F * 6, rfl, hb, fun j x hj i v hi => ?_⟩
  have := hx (F + j) x (sub_at hj) i v hi
  rw [show off + F * 6 + j * 6 + i = off + (F + j) * 6 + i by omega]
  exact this
/-- What Sub answers. -/
def SuT (t : List NdT) (i : Int) (w : World) (e : Ending) (w' : World) : Prop :=
  ((erA t i = 0 ∧ ∃ ps fr k F v, i = ((k : Nat) : Int) ∧ k < t.length ∧ t.length ≤ 4096 ∧ grow t = some ps ∧ bgn t = some fr ∧ fr[k]? = some F ∧ F ≤ k ∧ e = .returned (.tuple #[v, .int .i64 0]) ∧ w'.ownsRow w.heap.size 41 6 v (subL t F k).length (noCs (subL t F k))) ∨ (erA t i ≠ 0 ∧ e = .returned (.tuple #[.slice none 0 0, .int .i64 (erA t i : Nat)]))) ∧ Below w.heap.size w w'
set_option maxHeartbeats 4000000 in
theorem c_tSub (B : Nat) (t : List NdT) (a : Option Addr) (c : Nat) (hc : t.length ≤ c) (i : Int) (w : World) (hE : Env B w) (hB : B ≤ w.heap.size) (ho : ∀ x ∈ t, NdOk x) (hT : TrIn t a w) :
    Calls Tryz.prog 7 #[.slice a t.length c, .int .i64 i] w fun e w' => SuT t i w e w' := by
  have HT := Lib.hid (c_takeAt B t a c i w hE hB ho hT)
  obtain ⟨N, hN⟩ : ∃ N, t.length = N := ⟨_, rfl⟩
  unfold TaT at HT
  have HN := Lib.hid hN
  have HTr := Lib.hid hT
  have hcN : N ≤ c := by omega
  rw [hN] at HT ⊢
  clear hE ho hT hN hc
  go_enter Tryz.func7, Tryz.ntmps7
  go_wp2_with fail
  refine HT.out.mono ?_
  rintro e w1 ⟨hr, hb⟩
  have HB1 := Lib.hid hb
  clear hb HT
  rcases hr with ⟨h0, hl, hck, P, ps, k, rfl, hk, hg, rfl, hPt⟩ | ⟨h0, rfl⟩
  · rw [← HN.out] at hl
    rw [← HN.out] at hk
    obtain ⟨fr, hbg, hG, hfl, hfe⟩ := grow_psG hg
    obtain ⟨F, hF⟩ : ∃ F, fr[k]? = some F := ⟨_, List.getElem?_eq_getElem (by rw [hfl]; exact hk)⟩
    have hFk := hfe k F hF
    obtain ⟨b, off, ha, hbw, _⟩ := HTr.out (by omega)
    subst ha
    have HFr := Lib.hid (fun W (hb : PtIn any_ ps P W) => c_from t ps fr P W hl hG hb k F hk hF)
    rw [HN.out] at HFr
    obtain ⟨m, hm⟩ : ∃ m, k + 1 - F = m := ⟨_, rfl⟩
    have hsl : (subL t F k).length = m := by rw [sub_len hk hFk, hm]
    have HCl := Lib.hid (fun W (hT : TrIn (subL t F k) (some ⟨b, off + F * 6, none⟩) W) => c_cloneN (subL t F k) b (off + F * 6) (c - F) W (by omega) hT)
    rw [hsl] at HCl
    have hk0 : (0 : Int) ≤ (k : Int) := by omega
    have hkN : (k : Int) < (N : Int) := by have := HN.out; omega
    have hwk : IntKind.i64.wrap ((k : Int) + 1) = ((k + 1 : Nat) : Int) := by rw [IntKind.wrap_i64]; omega
    have hFk1 : F ≤ k + 1 := by omega
    have hkc : k + 1 ≤ c := by have := HN.out; omega
    have hFc : (c = F) = False := by simp; have := HN.out; omega
    have hFc2 : ¬ c = F := by have := HN.out; omega
    have HQ := Lib.hid (And.intro h0 (And.intro hk (And.intro hl (And.intro hg (And.intro hbg (And.intro hF (And.intro hFk (And.intro hsl hPt))))))))
    have HM := Lib.hid hm
    clear h0 hl hck hk hg hPt hG hF hFk hsl hfl hfe hbg
    go_wp2_with fail
    refine (HFr.out _ (HQ.out.2.2.2.2.2.2.2.2.next (below_o _ _))).mono ?_
    rintro e w2 ⟨rfl, rfl⟩
    go_wp2_with fail
    refine (HCl.out _ (sub_in HQ.out.2.2.2.2.2.2.1 ((HTr.out.next HB1.out).next (below_o _ _)) HQ.out.2.1)).mono ?_
    rintro e w3 ⟨⟨v', rfl, hown⟩, hb⟩
    have HB3 := Lib.hid (below_t (HB1.out.alloc HB1.out.size _) hb (HB1.out.alloc HB1.out.size _).size)
    have HO := Lib.hid (hown.mono (HB1.out.alloc HB1.out.size _).size)
    clear hown hb
    go_wp2_with fail
    go_ret2
    exact ⟨.inl ⟨HQ.out.1, ps, fr, k, F, v', rfl, HQ.out.2.1, HQ.out.2.2.1, HQ.out.2.2.2.1, HQ.out.2.2.2.2.1, HQ.out.2.2.2.2.2.1, HQ.out.2.2.2.2.2.2.1, rfl, by rw [HQ.out.2.2.2.2.2.2.2.1]; exact HO.out⟩, HB3.out⟩
  · have HC0 := Lib.hid h0
    obtain ⟨ck, hck⟩ : ∃ ck : Int, ((erA t i : Nat) : Int) = ck := ⟨_, rfl⟩
    have hne : (ck == 0) = false := by rw [← hck]; simp; omega
    have HCK := Lib.hid hck
    rw [hck]
    clear h0 hck
    go_wp2_with fail
    go_ret2
    exact ⟨.inr ⟨HC0.out, by rw [HCK.out]; rfl⟩, HB1.out.alloc HB1.out.size _⟩
end Go.Proofs.YtiodghbhllfhlaaGreatDoor
namespace Go.Proofs.YtiodghbhllfhlaaGreatDoor
set_option linter.unusedVariables false
set_option linter.unusedSimpArgs false
set_option maxRecDepth 100000
open Go.RowKit

theorem eq_nod (k n a i : Int) (s t : ByteArray) (w : World) : (binOp .eql 41 (noV k n a i s t) (noV k n a i s t)).run Tryz.prog w = .ok (.bool true) w := by
  have u3 := Tryz.underlying3
  have a3 := Tryz.isAgg3
  have z3 := Tryz.sizeOf3
  have u9 := Tryz.underlying9
  have a9 := Tryz.isAgg9
  have z9 := Tryz.sizeOf9
  have u34 := Tryz.underlying39
  have a34 := Tryz.isAgg39
  have z34 := Tryz.sizeOf39
  have hS : Tryz.prog.underlying 41 = some (.struct (Tryz.prog.fieldsOf 41)) := by kernel_rfl
  have hp : Tryz.prog.stoodInHeld 41 = false := by kernel_rfl
  rw [run_eql_struct, show (10000 : Nat) = 9999 + 1 from rfl, run_equalIn_agg w 9999 41 _ _ hS hp]
  simp only [Program.fieldsOf, Tryz.underlying41]
  go_simp
theorem neq_nod (k n a i : Int) (s t : ByteArray) (w : World) : (binOp .neq 41 (noV k n a i s t) (noV k n a i s t)).run Tryz.prog w = .ok (.bool false) w := by
  have h := eq_nod k n a i s t w
  rw [run_eql_struct] at h
  rw [run_neq_struct]
  cases hc : (Op.equalIn 10000 41 (noV k n a i s t) (noV k n a i s t)).run Tryz.prog w with
  | ok r w2 =>
    rw [hc] at h
    simp only [Result.andThen_ok, Result.ok.injEq, Value.bool.injEq] at h ⊢
    exact ⟨by rw [h.1]; rfl, h.2⟩
  | halt r w2 =>
    rw [hc] at h
    cases h
set_option maxHeartbeats 2000000 in
theorem c_sameT (t : List NdT) (a a2 : Option Addr) (c c2 : Nat) (w : World) (hl : t.length ≤ 140737488355328) (hS : TrIn t a w) (hS2 : TrIn t a2 w) :
    Calls Tryz.prog 11 #[.slice a t.length c, .slice a2 t.length c2] w fun e w' => e = .returned (.bool true) ∧ ∃ n, w' = w.drewN n := by
  obtain ⟨N, hN⟩ : ∃ N, t.length = N := ⟨_, rfl⟩
  have HS := Lib.hid hS
  have HS2 := Lib.hid hS2
  have HN := Lib.hid hN
  have HL := Lib.hid hl
  rw [hN]
  clear hS hS2 hN hl
  have hneq := neq_nod
  go_enter Tryz.func11, Tryz.ntmps11
  go_wp2_with fail
  go_loopg [5] N (fun m v5 wr => ∃ q : Nat, q + m = N ∧ v5 = .int .i64 (q : Int) ∧ ∃ n, wr = w.drewN n)
  case atStart => exact ⟨0, by omega, rfl, 0, by simp [World.drewN_zero]⟩
  case round =>
    obtain ⟨q, hq, rfl, n, rfl⟩ := hrel
    by_cases hlt : q < N
    · have hd : decide ((q : Int) < (N : Int)) = true := by simp; omega
      obtain ⟨x, hxq⟩ : ∃ x, t[q]? = some x := ⟨_, List.getElem?_eq_getElem (by have := HN.out; omega)⟩
      obtain ⟨b, off, ha, _, hx⟩ := HS.out (by have := HN.out; omega)
      obtain ⟨b2, off2, ha2, _, hx2⟩ := HS2.out (by have := HN.out; omega)
      subst ha ha2
      have y0 := hx q x hxq 0 _ rfl
      have y1 := hx q x hxq 1 _ rfl
      have y2 := hx q x hxq 2 _ rfl
      have y3 := hx q x hxq 3 _ rfl
      have y4 := hx q x hxq 4 _ rfl
      have y5 := hx q x hxq 5 _ rfl
      have z0 := hx2 q x hxq 0 _ rfl
      have z1 := hx2 q x hxq 1 _ rfl
      have z2 := hx2 q x hxq 2 _ rfl
      have z3 := hx2 q x hxq 3 _ rfl
      have z4 := hx2 q x hxq 4 _ rfl
      have z5 := hx2 q x hxq 5 _ rfl
      rw [Nat.add_zero] at y0 z0
      have hq0 : (0 : Int) ≤ (q : Int) := by omega
      have hqN : (q : Int) < (N : Int) := by omega
      have hwq : IntKind.i64.wrap ((q : Int) + 1) = ((q + 1 : Nat) : Int) := by
        have h2 := HL.out
        have h1 := HN.out
        rw [IntKind.wrap_i64]
        omega
      have HM : Hid (N - (q + 1) < gk ∧ q + 1 + (N - (q + 1)) = N) := ⟨by omega, by omega⟩
      clear hx hx2 hxq
      go_wp2_with fail
      go_quiet (fail)
      go_wp2_with fail
      go_roundg (N - (q + 1))
      case measure => exact HM.out.1
      case rel => exact ⟨q + 1, HM.out.2, rfl, _, rfl⟩
    · have hd : decide ((q : Int) < (N : Int)) = false := by simp; omega
      go_wp2_with fail
      go_ret
      exact ⟨rfl, _, rfl⟩
set_option maxHeartbeats 2000000 in
theorem c_sameI (p : List Nat) (a a2 : Option Addr) (c c2 : Nat) (S S2 : Nat → Prop) (w : World) (hl : p.length ≤ 140737488355328) (hS : IntIn S p a w) (hS2 : IntIn S2 p a2 w) :
    Calls Tryz.prog 15 #[.slice a p.length c, .slice a2 p.length c2] w fun e w' => e = .returned (.bool true) ∧ ∃ n, w' = w.drewN n := by
  obtain ⟨N, hN⟩ : ∃ N, p.length = N := ⟨_, rfl⟩
  have HS := Lib.hid hS
  have HS2 := Lib.hid hS2
  have HN := Lib.hid hN
  have HL := Lib.hid hl
  rw [hN]
  clear hS hS2 hN hl
  go_enter Tryz.func15, Tryz.ntmps15
  go_wp2_with fail
  go_loopg [5] N (fun m v5 wr => ∃ q : Nat, q + m = N ∧ v5 = .int .i64 (q : Int) ∧ ∃ n, wr = w.drewN n)
  case atStart => exact ⟨0, by omega, rfl, 0, by simp [World.drewN_zero]⟩
  case round =>
    obtain ⟨q, hq, rfl, n, rfl⟩ := hrel
    by_cases hlt : q < N
    · have hd : decide ((q : Int) < (N : Int)) = true := by simp; omega
      obtain ⟨x, hxq⟩ : ∃ x, p[q]? = some x := ⟨_, List.getElem?_eq_getElem (by have := HN.out; omega)⟩
      obtain ⟨b, off, ha, _, _, hx⟩ := HS.out (by have := HN.out; omega)
      obtain ⟨b2, off2, ha2, _, _, hx2⟩ := HS2.out (by have := HN.out; omega)
      subst ha ha2
      have y0 := hx q x hxq
      have z0 := hx2 q x hxq
      have hq0 : (0 : Int) ≤ (q : Int) := by omega
      have hqN : (q : Int) < (N : Int) := by omega
      have hwq : IntKind.i64.wrap ((q : Int) + 1) = ((q + 1 : Nat) : Int) := by
        have h2 := HL.out
        have h1 := HN.out
        rw [IntKind.wrap_i64]
        omega
      have HM : Hid (N - (q + 1) < gk ∧ q + 1 + (N - (q + 1)) = N) := ⟨by omega, by omega⟩
      clear hx hx2 hxq
      go_wp2_with fail
      go_quiet (fail)
      go_wp2_with fail
      go_roundg (N - (q + 1))
      case measure => exact HM.out.1
      case rel => exact ⟨q + 1, HM.out.2, rfl, _, rfl⟩
    · have hd : decide ((q : Int) < (N : Int)) = false := by simp; omega
      go_wp2_with fail
      go_ret
      exact ⟨rfl, _, rfl⟩
theorem wp_copyN {w : World} {ops : Array Oper} {rest : List Oper} {o : Oper} {ac : Act} {Q : Exit → Act → World → Prop} (hgd : o.guard = none) (s x : Operand)
    (ho : o.op = .call { callee := .builtin .append, args := #[s, x], argTypes := #[23, 23] })
    (base : Nat) (v : Value) (hs : ac.eval s = v) (hown : w.ownsRow base 41 6 v 0 [])
    (a : Option Addr) (n c : Nat) (t : List NdT) (hn : t.length = n) (hx : ac.eval x = .slice a n c) (hX : TrIn t a w) (hnil : a = none → n = 0 ∧ c = 0) (hr : n * 64 ≤ 140737488355328) (hbase : base ≤ w.heap.size)
    (h : ∀ v' w', w'.ownsRow base 41 6 v' n (noCs t) → w.grownBy w' v.ownBlock → wpList Tryz.prog ops Q rest (ac.put o.dst v') w') : wpList Tryz.prog ops Q (o :: rest) ac w := by
  obtain ⟨i0, hi, hz0, hz1, hz2⟩ := info_parts infoN
  subst hn
  cases a with
  | none =>
    obtain ⟨h0, rfl⟩ := hnil rfl
    obtain rfl : t = [] := List.eq_nil_of_length_eq_zero h0
    exact wpList_append_own_none hgd s x 23 ho base 41 i0 6 Tryz.underlying23 hi _ 0 [] hs hown hx (h _ _ hown (World.grownBy.refl _ _))
  | some ad =>
    refine wpList_append_own w hgd s x 23 ho base 41 i0 _ 6 64 Tryz.underlying23 hi hz0 hz1 hz2 rfl (by decide) v 0 [] hs hown ad t.length c (noCs t) hx (noCs_len t) ?_ (noCs_one t) (by unfold maxLen; omega) (by omega) hbase ?_
    · intro j u hj
      obtain ⟨k, i, y, rfl, hk, hi⟩ := noCs_of t j u hj
      obtain ⟨b', off', he, _, hx'⟩ := hX (by have := (List.getElem?_eq_some_iff.1 hk).1; omega)
      cases he
      have ea : (⟨b', off', none⟩ : Addr).add (k * 6 + i) = ⟨b', off' + k * 6 + i, none⟩ := by unfold Addr.add; split <;> simp_all [Nat.add_assoc]
      rw [ea]
      exact hx' k y hk i u hi
    · intro v' w' hown' hg _
      rw [Nat.zero_add, List.nil_append] at hown'
      exact h _ _ hown' hg
set_option maxHeartbeats 2000000 in
theorem c_copyT (t : List NdT) (a : Option Addr) (c : Nat) (w : World) (hnil : a = none → t.length = 0 ∧ c = 0) (hr : t.length * 64 ≤ 140737488355328) (hT : TrIn t a w) :
    Calls Tryz.prog 27 #[.slice a t.length c] w fun e w' => (∃ v, e = .returned v ∧ w'.ownsRow w.heap.size 41 6 v t.length (noCs t)) ∧ Below w.heap.size w w' := by
  obtain ⟨N, hN⟩ : ∃ N, t.length = N := ⟨_, rfl⟩
  have HT := Lib.hid hT
  have HN := Lib.hid hN
  have HL := Lib.hid hr
  have HNl := Lib.hid hnil
  rw [hN] at HL HNl ⊢
  clear hT hN hr hnil
  go_enter Tryz.func27, Tryz.ntmps27
  go_wp2_with (at_builtin; refine wp_copyN rfl _ _ rfl w.heap.size _ rfl (World.ownsRow_made w #[] 0 (Nat.le_refl _) (Nat.zero_le _) (by simp)) a N c t HN.out rfl (HT.out.next (below_o _ _)) HNl.out HL.out (by simp) ?_)
  intro v' w' hown hg
  have HB : Hid (Below w.heap.size w w') := (below_o w _).grown hg (by simp) (fun k hk => by
    simp [Value.ownBlock] at hk
    omega)
  have HO := Lib.hid hown
  clear hown hg
  go_wp2_with fail
  go_ret
  exact ⟨⟨_, rfl, HO.out⟩, HB.out⟩
end Go.Proofs.YtiodghbhllfhlaaGreatDoor
