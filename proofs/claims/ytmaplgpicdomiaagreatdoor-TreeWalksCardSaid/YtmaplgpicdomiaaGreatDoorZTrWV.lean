/-
  The walk of the law: any tree is gone over and counted as the document says, again and again.
-/
import Derived.Test.YtmaplgpicdomiaaGreatDoorZTrWs
namespace Go.Proofs.YtmaplgpicdomiaaGreatDoor
set_option linter.unusedVariables false
set_option linter.unusedSimpArgs false
set_option maxRecDepth 100000
open Go.RowKit
attribute [local go_sem] Oper.semAt_some

theorem below_drewNW {B : Nat} {a w : World} (h : Below B a w) : ∀ n, Below B a (w.drewN n) := fun n => ⟨h.os, h.tape, h.output, h.size, h.block⟩
/-- What lies as it lay through the turns of the law. -/
structure Ls (w : World) (s6 : Nat) (ps : List (List Nat)) (P W8 sg N sc : Nat) (st : Int) (W : World) : Prop where
  below : Below w.heap.size w W
  pt : PtIn (fun b => s6 ≤ b) ps P W
  p6 : s6 ≤ P
  wb : W.heap[W8]? = some (.cells #[.slice (some ⟨sg, 0, none⟩) N sc] 46)
  sgl : sg < W.heap.size
  sgr : ∀ (k : Nat) (x : Nat × Nat), (wkA ps)[k]? = some x → W.cell? ⟨sg, k * 2, none⟩ = some (.int .i64 (x.1 : Int)) ∧ W.cell? ⟨sg, k * 2 + 1, none⟩ = some (.int .i64 (x.2 : Int))
  sg6 : s6 ≤ sg
  w86 : s6 ≤ W8
  stb : W.heap[w.heap.size]? = some (.cells #[.int .i64 st] 3)
  rb : W.heap[w.heap.size + 1]? = some (.cells #[.bool false] 4)
theorem Ls.next {w : World} {s6 : Nat} {ps : List (List Nat)} {P W8 sg N sc : Nat} {st : Int} {W W' : World} (h : Ls w s6 ps P W8 sg N sc st W) (hb : Below W.heap.size W W') : Ls w s6 ps P W8 sg N sc st W' :=
  ⟨below_t h.below hb h.below.size, h.pt.next hb, h.p6, blk_on h.wb hb, Nat.lt_of_lt_of_le h.sgl hb.size, fun k x hk => ⟨(blk_cell (hb.block sg h.sgl) _).trans (h.sgr k x hk).1, (blk_cell (hb.block sg h.sgl) _).trans (h.sgr k x hk).2⟩, h.sg6, h.w86, blk_on h.stb hb, blk_on h.rb hb⟩
theorem Ls.put {w : World} {s6 : Nat} {ps : List (List Nat)} {P W8 sg N sc : Nat} {st : Int} {W : World} (h : Ls w s6 ps P W8 sg N sc st W) {g : Nat} (h1 : w.heap.size + 2 ≤ g) (h2 : g < s6) (k : Nat) (u : Value) : Ls w s6 ps P W8 sg N sc st (W.setCell ⟨g, k, none⟩ u) := by
  have ho : ∀ j, j ≠ g → (W.setCell ⟨g, k, none⟩ u).heap[j]? = W.heap[j]? := fun j hj => Below.heap_setCell _ _ _ _ hj
  have hs : (W.setCell ⟨g, k, none⟩ u).heap.size = W.heap.size := by simp
  refine ⟨h.below.setCell (p := ⟨g, k, none⟩) (by show w.heap.size ≤ g; omega) u, h.pt.mono (by omega) (ho _ (by have := h.p6; omega)) (fun b hb _ => ⟨hb, ho _ (by have : s6 ≤ b := hb; omega)⟩), h.p6, (ho _ (by have := h.w86; omega)).trans h.wb, by rw [hs]; exact h.sgl, fun j x hj => ?_, h.sg6, h.w86, (ho _ (by omega)).trans h.stb, (ho _ (by omega)).trans h.rb⟩
  have := ho sg (by have := h.sg6; omega)
  exact ⟨(blk_cell this _).trans (h.sgr j x hj).1, (blk_cell this _).trans (h.sgr j x hj).2⟩
/-- What a round is handed, cut. -/
def cutN (N : Nat) (x : Nat × Nat) : Nat × Nat := (min x.1 (N - 1), x.2)
theorem cut_self {N : Nat} {T : List (Nat × Nat)} (h : ∀ x ∈ T, x.1 < N) : T.map (cutN N) = T := by
  conv => rhs; rw [← List.map_id T]
  refine List.map_congr_left fun x hx => ?_
  have := h x hx
  show (min x.1 (N - 1), x.2) = x
  rw [show min x.1 (N - 1) = x.1 by omega]
theorem cut_pre {N : Nat} {T pre : List (Nat × Nat)} (h : ∀ x ∈ T, x.1 < N) (hp : pre <+: T) : pre.map (cutN N) <+: T := by
  have := hp.map (cutN N)
  rw [cut_self h] at this
  exact this
theorem pre_snoc {T l : List (Nat × Nat)} {z : Nat × Nat} (hp : l <+: T) (hz : T[l.length]? = some z) (y : Nat × Nat) : (l ++ [y]) <+: T ↔ y = z := by
  obtain ⟨r, hr⟩ := hp
  rw [← hr, List.getElem?_append_right (Nat.le_refl _), Nat.sub_self] at hz
  cases r with
  | nil => cases hz
  | cons u r =>
    cases hz
    rw [← hr]
    constructor
    · rintro ⟨s, hs⟩
      rw [List.append_assoc] at hs
      have := List.append_cancel_left hs
      cases this
      rfl
    · rintro rfl
      exact ⟨r, by simp⟩
theorem eq_nil_nil (w : World) : Sem.run Tryz.prog (binOp .eql 43 .nilFunc .nilFunc) w = .ok (.bool true) w := by
  first | rfl | kernel_rfl | simp [binOp, go_sem]
theorem eq_fn_nil (f : Fn) (b l : Array Value) (w : World) : Sem.run Tryz.prog (binOp .eql 43 (.func f b l) .nilFunc) w = .ok (.bool false) w := by
  first | rfl | kernel_rfl | simp [binOp, go_sem]
set_option maxHeartbeats 8000000 in
theorem c_TreeWalks (B : Nat) (t : List NdT) (a : Option Addr) (c : Nat) (ks : List Int) (ka : Option Addr) (kc : Nat) (st : Int) (w : World) (hE : Env B w) (hB : B ≤ w.heap.size) (hnil : a = none → t.length = 0 ∧ c = 0) (hr : t.length * 64 ≤ 140737488355328) (ho : ∀ x ∈ t, NdOk x) (hT : TrIn t a w)
    (hnil2 : ka = none → ks.length = 0 ∧ kc = 0) (hr2 : ks.length * 8 ≤ 140737488355328) (hK : IzIn ks ka w) :
    Calls Tryz.prog 4 #[.slice a t.length c, .slice ka ks.length kc, .int .i64 st] w fun e w' => e = .returned (.bool true) ∧ Below w.heap.size w w' := by
  obtain ⟨N, hN⟩ : ∃ N, t.length = N := ⟨_, rfl⟩
  obtain ⟨kn, hkn⟩ : ∃ kn, ks.length = kn := ⟨_, rfl⟩
  obtain ⟨ck, hck⟩ : ∃ ck : Int, ((ckA wlB t : Nat) : Int) = ck := ⟨_, rfl⟩
  obtain ⟨rz, hrz⟩ : ∃ rz : Int, (if ckA wlB t = 0 then (cntA ks t : Int) else 0) = rz := ⟨_, rfl⟩
  have HCT : Hid (∀ W, Below w.heap.size w W → Calls Tryz.prog 5 #[.slice a N c] W fun e w' => (∃ v, e = .returned v ∧ w'.ownsRow W.heap.size 36 6 v N (noCs t)) ∧ Below W.heap.size W w') := fun W hb => by
    have h := c_copyT t a c W hnil hr (hT.next hb)
    rw [hN] at h
    exact h
  have HCI : Hid (∀ W, Below w.heap.size w W → Calls Tryz.prog 14 #[.slice ka kn kc] W fun e w' => (∃ v, e = .returned v ∧ w'.ownsRow W.heap.size 3 1 v kn (izC ks)) ∧ Below W.heap.size W w') := fun W hb => by
    have h := c_copyZ ks ka kc W hnil2 hr2 (hK.next hb)
    rw [hkn] at h
    exact h
  have HCo : Hid (∀ oa oc ia ic W, Below w.heap.size w W → TrIn t oa W → IzIn ks ia W → Calls Tryz.prog 15 #[.slice oa N oc, .slice ia kn ic] W fun e w' => e = .returned (.tuple #[.int .i64 rz, .int .i64 ck]) ∧ Below W.heap.size W w') := fun oa oc ia ic W hb hT2 hK2 => by
    have h := c_tCount B t oa oc ks ia ic W (hE.next (hb.mono hB)) (Nat.le_trans hB hb.size) ho hT2 (by omega) hK2
    rw [hN, hkn, hrz, hck] at h
    exact h
  have HRo : Hid (∀ W, Below w.heap.size w W → Calls Tryz.prog 16 #[.slice a N c, .slice ka kn kc] W fun e w' => e = .returned (.tuple #[.int .i64 rz, .int .i64 ck]) ∧ Below W.heap.size W w') := fun W hb => by
    have h := c_rCount t a c ks ka kc W ho (hT.next hb) (by omega) (hK.next hb)
    rw [hN, hkn, hrz, hck] at h
    exact h
  have HSI : Hid (∀ ia ic W, Below w.heap.size w W → IzIn ks ia W → Calls Tryz.prog 10 #[.slice ia kn ic, .slice ka kn kc] W fun e w' => e = .returned (.bool true) ∧ ∃ n, w' = W.drewN n) := fun ia ic W hb hi => by
    have h := c_sameZ ks ia ka ic kc W (by omega) hi (hK.next hb)
    rw [hkn] at h
    exact h
  have HWa : Hid (∀ oa oc W, Below w.heap.size w W → TrIn t oa W → Calls Tryz.prog 17 #[.slice oa N oc] W fun e w' => WaT t W e w') := fun oa oc W hb hT2 => by
    have h := c_tWalk B t oa oc W (hE.next (hb.mono hB)) (Nat.le_trans hB hb.size) ho hT2
    rw [hN] at h
    exact h
  have HRw : Hid (∀ W, Below w.heap.size w W → Calls Tryz.prog 18 #[.slice a N c] W fun e w' => RwT t W e w') := fun W hb => by
    have h := c_rWalk t a c W ho (hT.next hb)
    rw [hN] at h
    exact h
  have HN := Lib.hid hN
  have HKN := Lib.hid hkn
  have HCK := Lib.hid hck
  rw [hN, hkn]
  clear hE ho hT hN hnil hr hnil2 hr2 hK hkn hck hrz
  have hcc : (ck != ck) = false := by simp
  have henn := eq_nil_nil
  have hefn := eq_fn_nil
  have hrr : (rz != rz) = false := by simp
  refine callsIn_wide (n := 5) |>.1 ?_
  refine callsIn_of_wp_marks Tryz.func4 rfl trivial ?_ rfl
  simp only [Tryz.ntmps4, List.size_toArray, List.length_cons, List.length_nil, Nat.reduceAdd, Nat.reduceSub, Array.replicate_succ, Array.replicate_zero, List.push_toArray, List.append_toArray, List.nil_append, List.cons_append]
  gi_wp2
  have hb1 : Below w.heap.size w ((w.alloc (.cells #[.int .i64 st] 3)).alloc (.cells #[.bool false] 4)) := ((Below.refl _ w).alloc (Nat.le_refl _) _).alloc (by simp) _
  have hs1 : ((w.alloc (.cells #[.int .i64 st] 3)).alloc (.cells #[.bool false] 4)).heap.size = w.heap.size + 2 := by simp
  have hc0 : ((w.alloc (.cells #[.int .i64 st] 3)).alloc (.cells #[.bool false] 4)).heap[w.heap.size]? = some (.cells #[.int .i64 st] 3) := blk_on (heap_alloc_at (w := w) _ _ rfl) (below_o _ _)
  have hc1 : ((w.alloc (.cells #[.int .i64 st] 3)).alloc (.cells #[.bool false] 4)).heap[w.heap.size + 1]? = some (.cells #[.bool false] 4) := heap_alloc_at _ _ (by simp)
  generalize (w.alloc (.cells #[.int .i64 st] 3)).alloc (.cells #[.bool false] 4) = w1 at hb1 hs1 hc0 hc1 ⊢
  refine ⟨trivial, (callsIn_wide.2 (HCT.out w1 hb1)).mono ?_⟩
  rintro e w2 ⟨⟨v, rfl, hown⟩, hb⟩
  have hown' : w2.ownsRow w1.heap.size 36 6 v t.length (noCs t) := by rw [HN.out]; exact hown
  obtain ⟨oa, oc, hv, hoc, hoT⟩ := tr_of_own hown'
  rw [HN.out] at hv
  subst hv
  -- THE COPY's ROW
  obtain ⟨g, hxg⟩ : ∃ g, 0 < N → oa = some ⟨g, 0, none⟩ ∧ w1.heap.size ≤ g ∧ g < w2.heap.size ∧ ∃ cur, w2.heap[g]? = some (.cells cur 36) ∧ N * 6 ≤ cur.size := by
    rcases hown.2 with ⟨h1, h2⟩ | ⟨g, cap, cur, h1, h2, h3, h4, h5, h6, h7⟩
    · exact ⟨0, fun h => by omega⟩
    · cases h1
      exact ⟨g, fun _ => ⟨rfl, h2, (Array.getElem?_eq_some_iff.1 h3).1, cur, h3, by rw [h6]; omega⟩⟩
  have HB2 := Lib.hid (below_t hb1 hb hb1.size)
  have HC0 := Lib.hid (blk_on hc0 hb)
  have HC1 := Lib.hid (blk_on hc1 hb)
  have HS1 := Lib.hid hs1
  have HXG := Lib.hid hxg
  have HOT := Lib.hid hoT
  clear hb hown hown' hoc hoT hxg hb1 hs1 hc0 hc1 HCT
  gi_wp2
  refine ⟨trivial, (callsIn_wide.2 (HCI.out w2 HB2.out)).mono ?_⟩
  rintro e w3 ⟨⟨v, rfl, hown⟩, hb⟩
  have hown' : w3.ownsRow w2.heap.size 3 1 v ks.length (izC ks) := by rw [HKN.out]; exact hown
  obtain ⟨ia, ic, hv, hiI⟩ := iz_of_own hown'
  rw [HKN.out] at hv
  subst hv
  have HB3 := Lib.hid (below_t HB2.out hb HB2.out.size)
  have HB23 := Lib.hid hb
  have HI3 := Lib.hid hiI
  clear hb hown hown' hiI HCI
  gi_wp2
  refine ⟨trivial, (callsIn_wide.2 (HCo.out oa oc ia ic w3 HB3.out (HOT.out.next HB23.out) HI3.out)).mono ?_⟩
  rintro e w4 ⟨rfl, hb⟩
  have HB4 := Lib.hid (below_t HB3.out hb HB3.out.size)
  have HB24 := Lib.hid (below_t HB23.out hb HB23.out.size)
  have HI4 := Lib.hid (HI3.out.next hb)
  clear hb HCo HI3
  gi_wp2
  refine ⟨trivial, (callsIn_wide.2 (HRo.out w4 HB4.out)).mono ?_⟩
  rintro e w5 ⟨rfl, hb⟩
  have HB5 := Lib.hid (below_t HB4.out hb HB4.out.size)
  have HB25 := Lib.hid (below_t HB24.out hb HB24.out.size)
  have HI5 := Lib.hid (HI4.out.next hb)
  clear hb HRo HI4
  gi_wp2
  refine ⟨trivial, (callsIn_wide.2 (HSI.out ia ic w5 HB5.out HI5.out)).mono ?_⟩
  rintro e w6 ⟨rfl, n6, rfl⟩
  have HB6 := Lib.hid (below_drewNW HB5.out n6)
  have HB26 := Lib.hid (below_drewNW HB25.out n6)
  clear HI5 HSI
  generalize w5.drewN n6 = w6 at HB6 HB26 ⊢
  gi_wp2
  refine ⟨trivial, (callsIn_wide.2 (HWa.out oa oc w6 HB6.out (HOT.out.next HB26.out))).mono ?_⟩
  rintro e w7 ⟨hr7, hb⟩
  have HB7 := Lib.hid (below_t HB6.out hb HB6.out.size)
  have HB27 := Lib.hid (below_t HB26.out hb HB26.out.size)
  have HS67 := Lib.hid hb.size
  clear HWa
  have HB67 := Lib.hid hb
  clear hb
  rcases hr7 with ⟨h0, hl, P, ps, hg, rfl, hPt, hP⟩ | ⟨h0, rfl⟩
  · have hck0 : ck = 0 := by rw [← HCK.out, h0]; rfl
    subst hck0
    have HQ := Lib.hid (And.intro h0 (And.intro hl (And.intro hg (And.intro hPt hP))))
    rw [HN.out]
    clear h0 hl hg hPt hP
    gi_wp2
    refine ⟨trivial, (callsIn_wide.2 (HRw.out w7 HB7.out)).mono ?_⟩
    rintro e w8 ⟨hr8, hb⟩
    have HB8 := Lib.hid (below_t HB7.out hb HB7.out.size)
    have HB28 := Lib.hid (below_t HB27.out hb HB27.out.size)
    have HB78 := Lib.hid hb
    clear hb HRw
    obtain ⟨ps', v, hg', rfl, hown⟩ : ∃ ps' v, grow t = some ps' ∧ e = .returned (.tuple #[v, .int .i64 0]) ∧ w8.ownsRow w7.heap.size 50 2 v t.length (stC (wkA ps')) := by
      rcases hr8 with ⟨_, _, ps', v, h1, h2, h3⟩ | ⟨h, _⟩
      · exact ⟨ps', v, h1, h2, h3⟩
      · exact absurd HQ.out.1 h
    rw [HQ.out.2.2.1] at hg'
    cases hg'
    obtain ⟨hkps, hN0, hwl, hwm, _⟩ := KpsOk.of_grow HQ.out.2.2.1 HQ.out.2.1
    obtain ⟨sg, sc, hv, hsg, hsg7, hsx⟩ : ∃ sg sc, v = .slice (some ⟨sg, 0, none⟩) N sc ∧ sg < w8.heap.size ∧ w7.heap.size ≤ sg ∧ ∀ (k : Nat) (x : Nat × Nat), (wkA ps)[k]? = some x → w8.cell? ⟨sg, k * 2, none⟩ = some (.int .i64 (x.1 : Int)) ∧ w8.cell? ⟨sg, k * 2 + 1, none⟩ = some (.int .i64 (x.2 : Int)) := by
      have h' := hown
      rcases hown.2 with ⟨_, hz⟩ | ⟨g, cap, cur, hv, hg, hh, hn, hcap, hsz, htake⟩
      · omega
      · subst hv
        refine ⟨g, cap, by rw [HN.out], (Array.getElem?_eq_some_iff.1 hh).1, hg, fun k x hk => ?_⟩
        have h1 := stC_at _ k x hk
        have e1 := h'.cells (g := g) rfl _ _ h1.1
        have e2 := h'.cells (g := g) rfl _ _ h1.2
        have ea : ∀ j, (⟨g, 0, none⟩ : Addr).add j = ⟨g, j, none⟩ := fun j => by unfold Addr.add; split <;> simp_all
        rw [ea] at e1 e2
        exact ⟨e1, e2⟩
    subst hv
    rw [HN.out] at hkps hN0 hwl hwm
    have HP := Lib.hid (And.intro hkps (And.intro hN0 (And.intro hwl (And.intro hwm (And.intro hsg hsx)))))
    have hls : Ls w w6.heap.size ps P w8.heap.size sg N sc st (w8.alloc (.cells #[.slice (some ⟨sg, 0, none⟩) N sc] 46)) :=
      ⟨HB8.out.alloc HB8.out.size _, (HQ.out.2.2.2.1.next HB78.out).next (below_o _ _), HQ.out.2.2.2.2, heap_alloc_at _ _ rfl, Nat.lt_of_lt_of_le hsg (below_o _ _).size, fun k x hk => ⟨(blk_cell ((below_o w8 _).block sg hsg) _).trans (hsx k x hk).1, (blk_cell ((below_o w8 _).block sg hsg) _).trans (hsx k x hk).2⟩, Nat.le_trans HS67.out hsg7, Nat.le_trans HS67.out HB78.out.size, blk_on (blk_on HC0.out HB28.out) (below_o _ _), blk_on (blk_on HC1.out HB28.out) (below_o _ _)⟩
    obtain ⟨hoa, hg1, hg2, hcur⟩ := HXG.out hN0
    subst hoa
    have hw8 := below_o w8 (.cells #[.slice (some ⟨sg, 0, none⟩) N sc] 46)
    have hown9 : (∃ cur, (w8.alloc (.cells #[.slice (some ⟨sg, 0, none⟩) N sc] 46)).heap[g]? = some (.cells cur 36) ∧ N * 6 ≤ cur.size) ∧ ∀ (k : Nat) (x : NdT), t[k]? = some x → (w8.alloc (.cells #[.slice (some ⟨sg, 0, none⟩) N sc] 46)).cell? ⟨g, k * 6 + 3, none⟩ = some (.int .i64 x.int) := by
      obtain ⟨cur, h1, h2⟩ := hcur
      refine ⟨⟨cur, blk_on (blk_on h1 HB28.out) hw8, h2⟩, fun k x hk => ?_⟩
      obtain ⟨b, off, he, hb, hx⟩ := ((HOT.out.next HB28.out).next hw8) (by rw [HN.out]; exact hN0)
      cases he
      have := hx k x hk 3 _ rfl
      rw [Nat.zero_add] at this
      exact this
    have HG : Hid (w.heap.size + 2 ≤ g ∧ g < w6.heap.size) := ⟨by have := HS1.out; omega, by have := HB26.out.size; omega⟩
    clear hr8 hown hkps hN0 hwl hwm hsg hsx hg1 hg2 hcur hsg7
    gi_wp2
    have hs9 : (w8.alloc (.cells #[.slice (some ⟨sg, 0, none⟩) N sc] 46)).heap.size = w8.heap.size + 1 := by simp
    generalize w8.alloc (.cells #[.slice (some ⟨sg, 0, none⟩) N sc] 46) = w9 at hls hown9 hw8 hs9 ⊢
    have hb9 := below_o w9 (.cells #[.int .i64 0] 3)
    have hTT := heap_alloc_at (w := w9) (.cells #[.int .i64 0] 3) _ rfl
    have hLS := hls.next hb9
    have hOW : (∃ cur, (w9.alloc (.cells #[.int .i64 0] 3)).heap[g]? = some (.cells cur 36) ∧ N * 6 ≤ cur.size) ∧ ∀ (k : Nat) (x : NdT), t[k]? = some x → (w9.alloc (.cells #[.int .i64 0] 3)).cell? ⟨g, k * 6 + 3, none⟩ = some (.int .i64 x.int) := by
      obtain ⟨⟨cur, h1, h2⟩, h3⟩ := hown9
      exact ⟨⟨cur, blk_on h1 hb9, h2⟩, fun k x hk => (blk_cell (hb9.block g (Array.getElem?_eq_some_iff.1 h1).1) _).trans (h3 k x hk)⟩
    rw [hs9] at hTT
    clear hls hown9 hw8
    generalize w9.alloc (.cells #[.int .i64 0] 3) = wa at hb9 hTT hLS hOW ⊢
    clear hb9 hs9
    obtain ⟨TB, hTBe⟩ : ∃ n, w8.heap.size + 1 = n := ⟨_, rfl⟩
    have HTB := Lib.hid hTBe
    rw [hTBe] at hTT ⊢
    clear hTBe
    have HGT : Hid (g < TB) := by have := HTB.out; have := HG.out; have := hLS.w86; show g < TB; omega
    refine wpIn_loop_rounds 3 ?_
    have hct : wa.cell? ⟨TB, 0, none⟩ = some (.int .i64 0) := by rw [Lib.cell_of_heap hTT]; rfl
    have hTL : TB < wa.heap.size := (Array.getElem?_eq_some_iff.1 hTT).1
    have HLS := Lib.hid hLS
    have HTT := Lib.hid hTT
    have HOW := Lib.hid hOW
    have HTL := Lib.hid hTL
    rw [roundsIn_succ]
    gi_wp2
    have hLS := HLS.out
    have hTT := HTT.out
    obtain ⟨NB, hNB⟩ : ∃ n, wa.heap.size = n := ⟨_, rfl⟩
    have hsR : w.heap.size + 1 < wa.heap.size := (Array.getElem?_eq_some_iff.1 hLS.rb).1
    have hPB : PtB wa.heap.size ps P wa := ⟨hLS.pt.lt, hLS.pt.mono (Nat.le_refl _) rfl fun b _ hlt => ⟨hlt, rfl⟩⟩
    have hbn := below_o wa (.cells #[.int .i64 0] 3)
    have hnn := heap_alloc_at (w := wa) (.cells #[.int .i64 0] 3) _ rfl
    have hsn : (wa.alloc (.cells #[.int .i64 0] 3)).heap.size = wa.heap.size + 1 := by simp
    generalize wa.alloc (.cells #[.int .i64 0] 3) = wn at hbn hnn hsn ⊢
    rw [hNB] at hbn hnn hsn hPB hTL hsR ⊢
    have hgo := all_goes Fence.wide rfl trivial trivial rfl 4 NB N P ps HP.out.1 HP.out.2.1 wn (by omega) (hPB.below hbn)
    refine range_bound rfl rfl (gf := 30) (bd := .slice (some ⟨P, 0, none⟩) N N) rfl trivial (enters_of Tryz.func30 (by kernel_rfl) rfl) (n₀ := NB) (by omega) hgo (fun x => rfl)
      (fun pre W => ((W.cell? ⟨NB, 0, none⟩ = some (.int .i64 (pre.length : Nat)) ∧ W.frozen? ⟨NB, 0, none⟩ = false) ∧ Below NB wa W) ∧ pre.map (cutN N) <+: wkA ps)
      (fun c pre W => (c = .ret ∧ ¬ pre.map (cutN N) <+: wkA ps) ∨ (c = .exit 2 ∧ Below NB wa W ∧ W.cell? ⟨NB, 0, none⟩ = some (.int .i64 (pre.length : Nat))))
      ?hI ?hIx ?h0 _ (by
        intro l x W K hK
        gi_wp2
        exact hK) (by
        rintro l pre x W ⟨⟨⟨hc, hf⟩, hBW⟩, hpp⟩ hlen
        obtain ⟨q, hq⟩ : ∃ q, pre.length = q := ⟨_, rfl⟩
        have hqN : q < N := by have h1 := HP.out.2.2.1; omega
        obtain ⟨z, hz⟩ : ∃ z, (wkA ps)[q]? = some z := ⟨_, List.getElem?_eq_getElem (by have h1 := HP.out.2.2.1; omega)⟩
        have hsn := pre_snoc hpp (z := z) (by rw [List.length_map, hq]; exact hz) (cutN N x)
        have hmap : (pre ++ [x]).map (cutN N) = pre.map (cutN N) ++ [cutN N x] := by rw [List.map_append]; rfl
        have hBW' : Below wa.heap.size wa W := by rw [hNB]; exact hBW
        have hlw := hLS.next hBW'
        have z0 : W.cell? ⟨w8.heap.size, 0, none⟩ = some (.slice (some ⟨sg, 0, none⟩) N sc) := by rw [Lib.cell_of_heap hlw.wb]; rfl
        have z1 := (hlw.sgr q z hz).1
        have z2 := (hlw.sgr q z hz).2
        have z3 : W.cell? ⟨TB, 0, none⟩ = some (.int .i64 0) := by rw [Lib.cell_of_heap (blk_on hTT hBW')]; rfl
        have z4 : W.cell? ⟨w.heap.size, 0, none⟩ = some (.int .i64 st) := by rw [Lib.cell_of_heap hlw.stb]; rfl
        have z5 : W.cell? ⟨w.heap.size + 1, 0, none⟩ = some (.bool false) := by rw [Lib.cell_of_heap hlw.rb]; rfl
        have z6 : W.frozen? ⟨w.heap.size + 1, 0, none⟩ = false := Lib.frozen_of_heap hlw.rb 0
        have hn1 : w.heap.size ≠ NB := by omega
        have hn2 : TB ≠ NB := by omega
        obtain ⟨ai, hai⟩ : ∃ ai, min x.1 (N - 1) = ai := ⟨_, rfl⟩
        have hcut : cutN N x = (ai, x.2) := by unfold cutN; rw [hai]
        rw [hcut] at hsn hmap
        rw [hq] at hc
        have HSN := Lib.hid (And.intro hsn (And.intro hmap (And.intro hpp hq)))
        have HBW := Lib.hid hBW
        have hq0 : (0 : Int) ≤ (q : Int) := by omega
        have hqN2 : (q : Int) < (N : Int) := by omega
        have hdg : decide ((N : Int) ≤ (q : Int)) = false := by simp; omega
        have hwq : IntKind.i64.wrap ((q : Int) + 1) = ((q + 1 : Nat) : Int) := by have := HQ.out.2.1; have := HN.out; rw [IntKind.wrap_i64]; omega
        obtain ⟨zi, hzi⟩ : ∃ zi, z.1 = zi := ⟨_, rfl⟩
        obtain ⟨zd, hzd⟩ : ∃ zd, z.2 = zd := ⟨_, rfl⟩
        have hzz : z = (zi, zd) := by rw [← hzi, ← hzd]
        rw [hzi] at z1
        rw [hzd] at z2
        obtain ⟨xd, hxd⟩ : ∃ xd, x.2 = xd := ⟨_, rfl⟩
        rw [hxd] at HSN
        rw [hzz] at HSN
        rw [hai, hxd]
        clear hsn hmap hpp hq hBW hz hlw hai hcut hzi hzd hzz hqN hxd
        clear hBW'
        by_cases c1 : ai = zi
        · by_cases c2 : xd = zd
          · subst c1 c2
            by_cases c3 : ((q : Int) + 1) = st
            · have d3 : (((q : Int) + 1) == st) = true := by simpa using c3
              clear c3
              gi_wp2
              exact ⟨(KeepsOthers.setCell _ _ _).from _, .inr ⟨rfl, HBW.out.setCell (p := ⟨NB, 0, none⟩) (Nat.le_refl _) _, by rw [List.length_append, HSN.out.2.2.2]; exact World.cell?_setCell_same' _ _ _ (by rw [hc]; rfl)⟩⟩
            · have d3 : (((q : Int) + 1) == st) = false := by simpa using c3
              clear c3
              gi_wp2
              exact ⟨(KeepsOthers.setCell _ _ _).from _, (Below.refl NB W).setCell (p := ⟨NB, 0, none⟩) (Nat.le_refl _) _, ⟨⟨by rw [List.length_append, HSN.out.2.2.2]; exact World.cell?_setCell_same' _ _ _ (by rw [hc]; rfl), (World.frozen?_setCell _ _ _ _).trans hf⟩, HBW.out.setCell (p := ⟨NB, 0, none⟩) (Nat.le_refl _) _⟩, by rw [HSN.out.2.1]; exact HSN.out.1.2 (by first | rfl | trivial)⟩
          · have d1 : ((xd : Int) == (zd : Int)) = false := by simp; omega
            have d2 : ((xd : Int) != (zd : Int)) = true := by simp [bne, d1]
            have HC2 := Lib.hid c2
            subst c1
            gi_wp2
            exact ⟨(KeepsOthers.setCell _ _ _).from _, .inl ⟨rfl, by rw [HSN.out.2.1]; exact fun h => HC2.out (by have := HSN.out.1.1 h; simpa using this)⟩⟩
        · have d1 : ((ai : Int) == (zi : Int)) = false := by simp; omega
          have d2 : ((ai : Int) != (zi : Int)) = true := by simp [bne, d1]
          have HC1 := Lib.hid c1
          gi_wp2
          exact ⟨(KeepsOthers.setCell _ _ _).from _, .inl ⟨rfl, by rw [HSN.out.2.1]; exact fun h => HC1.out (by have := HSN.out.1.1 h; simp at this; exact this.1)⟩⟩) ?done ?stop
    case hI => exact OwnFrom.and (OwnFrom.and (Own.from (fun s A B row hs hg hr => ⟨cell_kept hs.1 hg hr, (frozen_kept hs.1 hg hr).trans hs.2⟩) _) (ownFrom_below (by omega) (by omega))) (ownFrom_pure _ _)
    case hIx =>
      intro c s A B row hs hg hr
      rcases hs with h | ⟨h1, h3, h4⟩
      · exact .inl h
      · exact .inr ⟨h1, ownFrom_below (β := Unit) (n₀ := NB) (B := wn.heap.size) (w₀ := wa) (by omega) (by omega) () A B row h3 hg hr, cell_kept h4 hg (fun r e => (hr r e).2)⟩
    case h0 => exact ⟨⟨⟨by rw [Lib.cell_of_heap hnn]; rfl, Lib.frozen_of_heap hnn 0⟩, hbn⟩, List.nil_prefix⟩
    case done =>
      rintro D ys W hD rfl ⟨⟨⟨hc, hf⟩, hBW⟩, _⟩ hK
      rw [HP.out.2.2.1] at hc
      clear hf
      have hBW' : Below wa.heap.size wa W := by rw [hNB]; exact hBW
      have HLS2 := Lib.hid (hLS.next hBW')
      have HTT2 := Lib.hid (blk_on hTT hBW')
      have HOW2 : Hid ((∃ cur, W.heap[g]? = some (.cells cur 36) ∧ N * 6 ≤ cur.size) ∧ ∀ (k : Nat) (x : NdT), t[k]? = some x → W.cell? ⟨g, k * 6 + 3, none⟩ = some (.int .i64 x.int)) := by
        obtain ⟨⟨cur, h1, h2⟩, h3⟩ := HOW.out
        exact ⟨⟨cur, blk_on h1 hBW', h2⟩, fun k x hk => (blk_cell (hBW'.block g (Array.getElem?_eq_some_iff.1 h1).1) _).trans (h3 k x hk)⟩
      have HK := Lib.hid hK
      have z3 : W.cell? ⟨TB, 0, none⟩ = some (.int .i64 0) := by rw [Lib.cell_of_heap HTT2.out]; rfl
      have z0 : W.cell? ⟨w8.heap.size, 0, none⟩ = some (.slice (some ⟨sg, 0, none⟩) N sc) := by rw [Lib.cell_of_heap HLS2.out.wb]; rfl
      have HNE : Hid (g ≠ D ∧ g ≠ TB ∧ TB < W.heap.size) := ⟨by have := HGT.out; omega, by have := HGT.out; omega, (Array.getElem?_eq_some_iff.1 HTT2.out).1⟩
      have HDw : Hid (w.heap.size ≤ D) := by have := hLS.below.size; show w.heap.size ≤ D; omega
      clear hBW hBW' hK hgo hPB hbn hnn hsn hD
      gi_wp2
      gi_loopw [19] (fun v wr => ∃ k : Nat, k ≤ N ∧ v = .int .i64 (k : Int) ∧ Hid (Ls w w6.heap.size ps P w8.heap.size sg N sc st wr ∧ wr.heap[TB]? = some (.cells #[.int .i64 0] 3) ∧ (∃ cur, wr.heap[g]? = some (.cells cur 36) ∧ N * 6 ≤ cur.size) ∧ (∀ (j : Nat) (x : NdT), k ≤ j → t[j]? = some x → wr.cell? ⟨g, j * 6 + 3, none⟩ = some (.int .i64 x.int)) ∧ wr.heap[D]? = some (.deferred (some [])))) (fun v _ => N - (intOf v).toNat)
      case atStart => exact ⟨0, Nat.zero_le _, rfl, HLS2.out, HTT2.out, HOW2.out.1, fun j x _ hj => HOW2.out.2 j x hj, HK.out⟩
      case round =>
        obtain ⟨k, hkN, rfl, HH⟩ := hrel
        have y0 : wr.cell? ⟨TB, 0, none⟩ = some (.int .i64 0) := by rw [Lib.cell_of_heap HH.out.2.1]; rfl
        have y1 : wr.frozen? ⟨TB, 0, none⟩ = false := Lib.frozen_of_heap HH.out.2.1 0
        have hTr : TB < wr.heap.size := (Array.getElem?_eq_some_iff.1 HH.out.2.1).1
        by_cases hlt : k < N
        · obtain ⟨x, hx⟩ : ∃ x, t[k]? = some x := ⟨_, List.getElem?_eq_getElem (by rw [HN.out]; exact hlt)⟩
          have y2 := HH.out.2.2.2.1 k x (Nat.le_refl _) hx
          obtain ⟨cur, hcur, hcs⟩ := HH.out.2.2.1
          have y3 : wr.frozen? ⟨g, k * 6 + 3, none⟩ = false := Lib.frozen_of_heap hcur _
          have dk : decide ((k : Int) < (N : Int)) = true := by simp; omega
          have hk0 : (0 : Int) ≤ (k : Int) := by omega
          have hkN2 : (k : Int) < (N : Int) := by omega
          have hwk : IntKind.i64.wrap ((k : Int) + 1) = ((k + 1 : Nat) : Int) := by have := HQ.out.2.1; have := HN.out; rw [IntKind.wrap_i64]; omega
          have HCu := Lib.hid (And.intro hcur hcs)
          have HMi : Hid (N - (k + 1) < N - k ∧ k + 1 ≤ N) := ⟨by omega, by omega⟩
          clear hx hcur hcs
          gi_wp2
          go_roundw
          case rel =>
            refine ⟨k + 1, HMi.out.2, rfl, HH.out.1.put HG.out.1 HG.out.2 _ _, (Below.heap_setCell _ _ _ _ (fun e => HNE.out.2.1 e.symm)).trans HH.out.2.1, ⟨_, heap_setCell_same _ g _ _ _ _ HCu.out.1, by simpa using HCu.out.2⟩, fun j x hj hx => ?_, (Below.heap_setCell _ _ _ _ (fun e => HNE.out.1 e.symm)).trans HH.out.2.2.2.2⟩
            rw [World.cell?_setCell_other _ _ _ _ (by intro e; injection e with _ e2; omega)]
            exact HH.out.2.2.2.1 j x (by omega) hx
          case measure => simp [intOf]; exact HMi.out.1
        · have dk : decide ((k : Int) < (N : Int)) = false := by simp; omega
          obtain ⟨cs, hcs⟩ : ∃ n, wr.heap.size = n := ⟨_, rfl⟩
          gi_wp2
          have hbr := below_o wr (.cells #[.int .i64 1] 3)
          have hTT := heap_alloc_at (w := wr) (.cells #[.int .i64 1] 3) _ rfl
          have hLS := HH.out.1.next hbr
          have HK0 := Lib.hid (blk_on HH.out.2.2.2.2 hbr)
          have HGT : Hid (g < cs) := by have := HNE.out; have := HGT.out; show g < cs; omega
          rw [hcs] at hTT
          generalize wr.alloc (.cells #[.int .i64 1] 3) = wb at hbr hTT hLS HK0 ⊢
          clear hbr hcs HH y0 y1 hTr dk hct z0 z3
          obtain ⟨D0, hD0⟩ : ∃ n, D = n := ⟨_, rfl⟩
          have HDw0 := HDw
          rw [hD0] at HK0 HDw0 ⊢
          clear hD0 HNE HK HOW2 HTT2 HLS2 HDw
          have hct : wb.cell? ⟨cs, 0, none⟩ = some (.int .i64 1) := by rw [Lib.cell_of_heap hTT]; rfl
          have hTL : cs < wb.heap.size := (Array.getElem?_eq_some_iff.1 hTT).1
          have HLS := Lib.hid hLS
          have HTT := Lib.hid hTT
          have HTL := Lib.hid hTL
          rw [roundsIn_succ]
          gi_wp2
          have hLS := HLS.out
          have hTT := HTT.out
          obtain ⟨NB, hNB⟩ : ∃ n, wb.heap.size = n := ⟨_, rfl⟩
          have hsR : w.heap.size + 1 < wb.heap.size := (Array.getElem?_eq_some_iff.1 hLS.rb).1
          have hPB : PtB wb.heap.size ps P wb := ⟨hLS.pt.lt, hLS.pt.mono (Nat.le_refl _) rfl fun b _ hlt => ⟨hlt, rfl⟩⟩
          have hbn := below_o wb (.cells #[.int .i64 0] 3)
          have hnn := heap_alloc_at (w := wb) (.cells #[.int .i64 0] 3) _ rfl
          have hsn : (wb.alloc (.cells #[.int .i64 0] 3)).heap.size = wb.heap.size + 1 := by simp
          generalize wb.alloc (.cells #[.int .i64 0] 3) = wn at hbn hnn hsn ⊢
          rw [hNB] at hbn hnn hsn hPB hTL hsR ⊢
          have hgo := all_goes Fence.wide rfl trivial trivial rfl 4 NB N P ps HP.out.1 HP.out.2.1 wn (by omega) (hPB.below hbn)
          refine range_bound rfl rfl (gf := 30) (bd := .slice (some ⟨P, 0, none⟩) N N) rfl trivial (enters_of Tryz.func30 (by kernel_rfl) rfl) (n₀ := NB) (by omega) hgo (fun x => rfl)
            (fun pre W => ((W.cell? ⟨NB, 0, none⟩ = some (.int .i64 (pre.length : Nat)) ∧ W.frozen? ⟨NB, 0, none⟩ = false) ∧ Below NB wb W) ∧ pre.map (cutN N) <+: wkA ps)
            (fun c pre W => (c = .ret ∧ ¬ pre.map (cutN N) <+: wkA ps) )
            ?hI_a ?hIx_a ?h0_a _ (by
              intro l x W K hK
              gi_wp2
              exact hK) (by
              rintro l pre x W ⟨⟨⟨hc, hf⟩, hBW⟩, hpp⟩ hlen
              obtain ⟨q, hq⟩ : ∃ q, pre.length = q := ⟨_, rfl⟩
              have hqN : q < N := by have h1 := HP.out.2.2.1; omega
              obtain ⟨z, hz⟩ : ∃ z, (wkA ps)[q]? = some z := ⟨_, List.getElem?_eq_getElem (by have h1 := HP.out.2.2.1; omega)⟩
              have hsn := pre_snoc hpp (z := z) (by rw [List.length_map, hq]; exact hz) (cutN N x)
              have hmap : (pre ++ [x]).map (cutN N) = pre.map (cutN N) ++ [cutN N x] := by rw [List.map_append]; rfl
              have hBW' : Below wb.heap.size wb W := by rw [hNB]; exact hBW
              have hlw := hLS.next hBW'
              have z0 : W.cell? ⟨w8.heap.size, 0, none⟩ = some (.slice (some ⟨sg, 0, none⟩) N sc) := by rw [Lib.cell_of_heap hlw.wb]; rfl
              have z1 := (hlw.sgr q z hz).1
              have z2 := (hlw.sgr q z hz).2
              have z3 : W.cell? ⟨cs, 0, none⟩ = some (.int .i64 1) := by rw [Lib.cell_of_heap (blk_on hTT hBW')]; rfl
              have z4 : W.cell? ⟨w.heap.size, 0, none⟩ = some (.int .i64 st) := by rw [Lib.cell_of_heap hlw.stb]; rfl
              have z5 : W.cell? ⟨w.heap.size + 1, 0, none⟩ = some (.bool false) := by rw [Lib.cell_of_heap hlw.rb]; rfl
              have z6 : W.frozen? ⟨w.heap.size + 1, 0, none⟩ = false := Lib.frozen_of_heap hlw.rb 0
              have hn1 : w.heap.size ≠ NB := by omega
              have hn2 : cs ≠ NB := by omega
              obtain ⟨ai, hai⟩ : ∃ ai, min x.1 (N - 1) = ai := ⟨_, rfl⟩
              have hcut : cutN N x = (ai, x.2) := by unfold cutN; rw [hai]
              rw [hcut] at hsn hmap
              rw [hq] at hc
              have HSN := Lib.hid (And.intro hsn (And.intro hmap (And.intro hpp hq)))
              have HBW := Lib.hid hBW
              have hq0 : (0 : Int) ≤ (q : Int) := by omega
              have hqN2 : (q : Int) < (N : Int) := by omega
              have hdg : decide ((N : Int) ≤ (q : Int)) = false := by simp; omega
              have hwq : IntKind.i64.wrap ((q : Int) + 1) = ((q + 1 : Nat) : Int) := by have := HQ.out.2.1; have := HN.out; rw [IntKind.wrap_i64]; omega
              obtain ⟨zi, hzi⟩ : ∃ zi, z.1 = zi := ⟨_, rfl⟩
              obtain ⟨zd, hzd⟩ : ∃ zd, z.2 = zd := ⟨_, rfl⟩
              have hzz : z = (zi, zd) := by rw [← hzi, ← hzd]
              rw [hzi] at z1
              rw [hzd] at z2
              obtain ⟨xd, hxd⟩ : ∃ xd, x.2 = xd := ⟨_, rfl⟩
              rw [hxd] at HSN
              rw [hzz] at HSN
              rw [hai, hxd]
              clear hsn hmap hpp hq hBW hz hlw hai hcut hzi hzd hzz hqN hxd
              clear hBW'
              by_cases c1 : ai = zi
              · by_cases c2 : xd = zd
                · subst c1 c2
                  gi_wp2
                  exact ⟨(KeepsOthers.setCell _ _ _).from _, (Below.refl NB W).setCell (p := ⟨NB, 0, none⟩) (Nat.le_refl _) _, ⟨⟨by rw [List.length_append, HSN.out.2.2.2]; exact World.cell?_setCell_same' _ _ _ (by rw [hc]; rfl), (World.frozen?_setCell _ _ _ _).trans hf⟩, HBW.out.setCell (p := ⟨NB, 0, none⟩) (Nat.le_refl _) _⟩, by rw [HSN.out.2.1]; exact HSN.out.1.2 (by first | rfl | trivial)⟩
                · have d1 : ((xd : Int) == (zd : Int)) = false := by simp; omega
                  have d2 : ((xd : Int) != (zd : Int)) = true := by simp [bne, d1]
                  have HC2 := Lib.hid c2
                  subst c1
                  gi_wp2
                  exact ⟨(KeepsOthers.setCell _ _ _).from _, ⟨rfl, by rw [HSN.out.2.1]; exact fun h => HC2.out (by have := HSN.out.1.1 h; simpa using this)⟩⟩
              · have d1 : ((ai : Int) == (zi : Int)) = false := by simp; omega
                have d2 : ((ai : Int) != (zi : Int)) = true := by simp [bne, d1]
                have HC1 := Lib.hid c1
                gi_wp2
                exact ⟨(KeepsOthers.setCell _ _ _).from _, ⟨rfl, by rw [HSN.out.2.1]; exact fun h => HC1.out (by have := HSN.out.1.1 h; simp at this; exact this.1)⟩⟩) ?done_a ?stop_a
          case hI_a => exact OwnFrom.and (OwnFrom.and (Own.from (fun s A B row hs hg hr => ⟨cell_kept hs.1 hg hr, (frozen_kept hs.1 hg hr).trans hs.2⟩) _) (ownFrom_below (by omega) (by omega))) (ownFrom_pure _ _)
          case hIx_a => exact fun c s A B row hs hg hr => hs
          case h0_a => exact ⟨⟨⟨by rw [Lib.cell_of_heap hnn]; rfl, Lib.frozen_of_heap hnn 0⟩, hbn⟩, List.nil_prefix⟩
          case done_a =>
            rintro D ys W hD rfl ⟨⟨⟨hc, hf⟩, hBW⟩, _⟩ hK
            rw [HP.out.2.2.1] at hc
            clear hf
            have hBW' : Below wb.heap.size wb W := by rw [hNB]; exact hBW
            have HLS2 := Lib.hid (hLS.next hBW')
            have HTT2 := Lib.hid (blk_on hTT hBW')
            have HK := Lib.hid hK
            have HBW1 := Lib.hid hBW'
            have z3 : W.cell? ⟨cs, 0, none⟩ = some (.int .i64 1) := by rw [Lib.cell_of_heap HTT2.out]; rfl
            have z0 : W.cell? ⟨w8.heap.size, 0, none⟩ = some (.slice (some ⟨sg, 0, none⟩) N sc) := by rw [Lib.cell_of_heap HLS2.out.wb]; rfl
            have HNE : Hid (g ≠ D ∧ g ≠ cs ∧ cs < W.heap.size) := ⟨by have := HGT.out; omega, by have := HGT.out; omega, (Array.getElem?_eq_some_iff.1 HTT2.out).1⟩
            have HDw : Hid (w.heap.size ≤ D) := by have := hLS.below.size; show w.heap.size ≤ D; omega
            have HDD : Hid (D0 ≠ D) := by have := (Array.getElem?_eq_some_iff.1 HK0.out).1; show D0 ≠ D; omega
            clear hBW hBW' hK hgo hPB hbn hnn hsn hD
            gi_wp2
            gi_loopw [19] (fun v wr => ∃ k : Nat, k ≤ N ∧ v = .int .i64 (k : Int) ∧ Hid (Ls w w6.heap.size ps P w8.heap.size sg N sc st wr ∧ wr.heap[cs]? = some (.cells #[.int .i64 1] 3) ∧ wr.heap[D0]? = some (.deferred (some [])) ∧ wr.heap[D]? = some (.deferred (some [])))) (fun v _ => N - (intOf v).toNat)
            case atStart => exact ⟨0, Nat.zero_le _, rfl, HLS2.out, HTT2.out, blk_on HK0.out HBW1.out, HK.out⟩
            case round =>
              obtain ⟨k, hkN, rfl, HH⟩ := hrel
              have y0 : wr.cell? ⟨cs, 0, none⟩ = some (.int .i64 1) := by rw [Lib.cell_of_heap HH.out.2.1]; rfl
              have y1 : wr.frozen? ⟨cs, 0, none⟩ = false := Lib.frozen_of_heap HH.out.2.1 0
              have hTr : cs < wr.heap.size := (Array.getElem?_eq_some_iff.1 HH.out.2.1).1
              obtain ⟨ct, hct2⟩ : ∃ n, wr.heap.size = n := ⟨_, rfl⟩
              gi_wp2
              have hbr := below_o wr (.cells #[.int .i64 2] 3)
              have hT2 := heap_alloc_at (w := wr) (.cells #[.int .i64 2] 3) _ rfl
              have hLS := HH.out.1.next hbr
              have hK1 := blk_on HH.out.2.2.2 hbr
              have hK0 := blk_on HH.out.2.2.1 hbr
              rw [hct2] at hT2
              generalize wr.alloc (.cells #[.int .i64 2] 3) = wc at hbr hT2 hLS hK1 hK0 ⊢
              clear hbr hct2 HH y0 y1 hTr
              have x0 : wc.cell? ⟨ct, 0, none⟩ = some (.int .i64 2) := by rw [Lib.cell_of_heap hT2]; rfl
              have x1 : ct < wc.heap.size := (Array.getElem?_eq_some_iff.1 hT2).1
              have x2 : wc.cell? ⟨w.heap.size + 1, 0, none⟩ = some (.bool false) := by rw [Lib.cell_of_heap hLS.rb]; rfl
              have x3 : wc.frozen? ⟨w.heap.size + 1, 0, none⟩ = false := Lib.frozen_of_heap hLS.rb 0
              have HLS3 := Lib.hid hLS
              have n1 : D ≠ w.heap.size + 1 := fun e => by
                have h := hLS.rb
                rw [← e, hK1] at h
                cases h
              have n0 : D0 ≠ w.heap.size + 1 := fun e => by
                have h := hLS.rb
                rw [← e, hK0] at h
                cases h
              have HK3 := Lib.hid (And.intro hK1 (And.intro hK0 (And.intro n1 n0)))
              clear hK1 hK0 n1 n0 hLS
              rw [roundsIn_succ]
              gi_wp2
              have hK1 : (wc.setCell ⟨w.heap.size + 1, 0, none⟩ (.bool true)).heap[D]? = some (.deferred (some [])) := (Below.heap_setCell _ _ _ _ HK3.out.2.2.1).trans HK3.out.1
              have hK0 : (wc.setCell ⟨w.heap.size + 1, 0, none⟩ (.bool true)).heap[D0]? = some (.deferred (some [])) := (Below.heap_setCell _ _ _ _ HK3.out.2.2.2).trans HK3.out.2.1
              have hR := heap_setCell_same wc (w.heap.size + 1) 0 _ _ (.bool true) HLS3.out.rb
              have hbe := HLS3.out.below.setCell (p := ⟨w.heap.size + 1, 0, none⟩) (by show w.heap.size ≤ w.heap.size + 1; omega) (.bool true)
              generalize wc.setCell ⟨w.heap.size + 1, 0, none⟩ (.bool true) = wd at hK1 hK0 hR hbe ⊢
              refine ⟨by simp, .inl ⟨_, _, rfl, run_takeDeferred hK1, ?_⟩⟩
              have hK0' : (wd.putObj D (.deferred none)).heap[D0]? = some (.deferred (some [])) := (World.putObj_heap_other HDD.out).trans hK0
              refine ⟨by simp, .inl ⟨_, _, rfl, run_takeDeferred hK0', ?_⟩⟩
              have hcell : ((wd.putObj D (.deferred none)).putObj D0 (.deferred none)).cell? ⟨w.heap.size + 1, 0, none⟩ = some (.bool true) := by
                rw [Lib.cell_of_heap (((World.putObj_heap_other (fun e => HK3.out.2.2.2 e.symm)).trans (World.putObj_heap_other (fun e => HK3.out.2.2.1 e.symm))).trans hR)]
                rfl
              refine ⟨.bool true, by simp [results, Tryz.results4, go_sem, hcell], rfl, (hbe.trans (belowK_b (w := w) (Nat.le_refl _) wd D _ _ HDw.out hK1 rfl rfl)).trans (belowK_b (w := w) (Nat.le_refl _) _ D0 _ _ HDw0.out hK0' rfl rfl)⟩
          case stop_a =>
            rintro D cc pre W hD hpre ⟨rfl, h⟩ hK
            exact absurd (cut_pre HP.out.2.2.2.1 hpre) h
          
    case stop =>
      rintro D cc pre W hD hpre (⟨rfl, h⟩ | ⟨rfl, hBW, hc⟩) hK
      · exact absurd (cut_pre HP.out.2.2.2.1 hpre) h
      · clear hpre
        have hBW' : Below wa.heap.size wa W := by rw [hNB]; exact hBW
        have HLS2 := Lib.hid (hLS.next hBW')
        have HTT2 := Lib.hid (blk_on hTT hBW')
        have HOW2 : Hid ((∃ cur, W.heap[g]? = some (.cells cur 36) ∧ N * 6 ≤ cur.size) ∧ ∀ (k : Nat) (x : NdT), t[k]? = some x → W.cell? ⟨g, k * 6 + 3, none⟩ = some (.int .i64 x.int)) := by
          obtain ⟨⟨cur, h1, h2⟩, h3⟩ := HOW.out
          exact ⟨⟨cur, blk_on h1 hBW', h2⟩, fun k x hk => (blk_cell (hBW'.block g (Array.getElem?_eq_some_iff.1 h1).1) _).trans (h3 k x hk)⟩
        have HK := Lib.hid hK
        have z3 : W.cell? ⟨TB, 0, none⟩ = some (.int .i64 0) := by rw [Lib.cell_of_heap HTT2.out]; rfl
        have z0 : W.cell? ⟨w8.heap.size, 0, none⟩ = some (.slice (some ⟨sg, 0, none⟩) N sc) := by rw [Lib.cell_of_heap HLS2.out.wb]; rfl
        have HNE : Hid (g ≠ D ∧ g ≠ TB ∧ TB < W.heap.size) := ⟨by have := HGT.out; omega, by have := HGT.out; omega, (Array.getElem?_eq_some_iff.1 HTT2.out).1⟩
        have HDw : Hid (w.heap.size ≤ D) := by have := hLS.below.size; show w.heap.size ≤ D; omega
        clear hBW hBW' hK hgo hPB hbn hnn hsn hD
        gi_wp2
        gi_loopw [19] (fun v wr => ∃ k : Nat, k ≤ N ∧ v = .int .i64 (k : Int) ∧ Hid (Ls w w6.heap.size ps P w8.heap.size sg N sc st wr ∧ wr.heap[TB]? = some (.cells #[.int .i64 0] 3) ∧ (∃ cur, wr.heap[g]? = some (.cells cur 36) ∧ N * 6 ≤ cur.size) ∧ (∀ (j : Nat) (x : NdT), k ≤ j → t[j]? = some x → wr.cell? ⟨g, j * 6 + 3, none⟩ = some (.int .i64 x.int)) ∧ wr.heap[D]? = some (.deferred (some [])))) (fun v _ => N - (intOf v).toNat)
        case atStart => exact ⟨0, Nat.zero_le _, rfl, HLS2.out, HTT2.out, HOW2.out.1, fun j x _ hj => HOW2.out.2 j x hj, HK.out⟩
        case round =>
          obtain ⟨k, hkN, rfl, HH⟩ := hrel
          have y0 : wr.cell? ⟨TB, 0, none⟩ = some (.int .i64 0) := by rw [Lib.cell_of_heap HH.out.2.1]; rfl
          have y1 : wr.frozen? ⟨TB, 0, none⟩ = false := Lib.frozen_of_heap HH.out.2.1 0
          have hTr : TB < wr.heap.size := (Array.getElem?_eq_some_iff.1 HH.out.2.1).1
          by_cases hlt : k < N
          · obtain ⟨x, hx⟩ : ∃ x, t[k]? = some x := ⟨_, List.getElem?_eq_getElem (by rw [HN.out]; exact hlt)⟩
            have y2 := HH.out.2.2.2.1 k x (Nat.le_refl _) hx
            obtain ⟨cur, hcur, hcs⟩ := HH.out.2.2.1
            have y3 : wr.frozen? ⟨g, k * 6 + 3, none⟩ = false := Lib.frozen_of_heap hcur _
            have dk : decide ((k : Int) < (N : Int)) = true := by simp; omega
            have hk0 : (0 : Int) ≤ (k : Int) := by omega
            have hkN2 : (k : Int) < (N : Int) := by omega
            have hwk : IntKind.i64.wrap ((k : Int) + 1) = ((k + 1 : Nat) : Int) := by have := HQ.out.2.1; have := HN.out; rw [IntKind.wrap_i64]; omega
            have HCu := Lib.hid (And.intro hcur hcs)
            have HMi : Hid (N - (k + 1) < N - k ∧ k + 1 ≤ N) := ⟨by omega, by omega⟩
            clear hx hcur hcs
            gi_wp2
            go_roundw
            case rel =>
              refine ⟨k + 1, HMi.out.2, rfl, HH.out.1.put HG.out.1 HG.out.2 _ _, (Below.heap_setCell _ _ _ _ (fun e => HNE.out.2.1 e.symm)).trans HH.out.2.1, ⟨_, heap_setCell_same _ g _ _ _ _ HCu.out.1, by simpa using HCu.out.2⟩, fun j x hj hx => ?_, (Below.heap_setCell _ _ _ _ (fun e => HNE.out.1 e.symm)).trans HH.out.2.2.2.2⟩
              rw [World.cell?_setCell_other _ _ _ _ (by intro e; injection e with _ e2; omega)]
              exact HH.out.2.2.2.1 j x (by omega) hx
            case measure => simp [intOf]; exact HMi.out.1
          · have dk : decide ((k : Int) < (N : Int)) = false := by simp; omega
            obtain ⟨cs, hcs⟩ : ∃ n, wr.heap.size = n := ⟨_, rfl⟩
            gi_wp2
            have hbr := below_o wr (.cells #[.int .i64 1] 3)
            have hTT := heap_alloc_at (w := wr) (.cells #[.int .i64 1] 3) _ rfl
            have hLS := HH.out.1.next hbr
            have HK0 := Lib.hid (blk_on HH.out.2.2.2.2 hbr)
            have HGT : Hid (g < cs) := by have := HNE.out; have := HGT.out; show g < cs; omega
            rw [hcs] at hTT
            generalize wr.alloc (.cells #[.int .i64 1] 3) = wb at hbr hTT hLS HK0 ⊢
            clear hbr hcs HH y0 y1 hTr dk hct z0 z3
            obtain ⟨D0, hD0⟩ : ∃ n, D = n := ⟨_, rfl⟩
            have HDw0 := HDw
            rw [hD0] at HK0 HDw0 ⊢
            clear hD0 HNE HK HOW2 HTT2 HLS2 HDw
            have hct : wb.cell? ⟨cs, 0, none⟩ = some (.int .i64 1) := by rw [Lib.cell_of_heap hTT]; rfl
            have hTL : cs < wb.heap.size := (Array.getElem?_eq_some_iff.1 hTT).1
            have HLS := Lib.hid hLS
            have HTT := Lib.hid hTT
            have HTL := Lib.hid hTL
            rw [roundsIn_succ]
            gi_wp2
            have hLS := HLS.out
            have hTT := HTT.out
            obtain ⟨NB, hNB⟩ : ∃ n, wb.heap.size = n := ⟨_, rfl⟩
            have hsR : w.heap.size + 1 < wb.heap.size := (Array.getElem?_eq_some_iff.1 hLS.rb).1
            have hPB : PtB wb.heap.size ps P wb := ⟨hLS.pt.lt, hLS.pt.mono (Nat.le_refl _) rfl fun b _ hlt => ⟨hlt, rfl⟩⟩
            have hbn := below_o wb (.cells #[.int .i64 0] 3)
            have hnn := heap_alloc_at (w := wb) (.cells #[.int .i64 0] 3) _ rfl
            have hsn : (wb.alloc (.cells #[.int .i64 0] 3)).heap.size = wb.heap.size + 1 := by simp
            generalize wb.alloc (.cells #[.int .i64 0] 3) = wn at hbn hnn hsn ⊢
            rw [hNB] at hbn hnn hsn hPB hTL hsR ⊢
            have hgo := all_goes Fence.wide rfl trivial trivial rfl 4 NB N P ps HP.out.1 HP.out.2.1 wn (by omega) (hPB.below hbn)
            refine range_bound rfl rfl (gf := 30) (bd := .slice (some ⟨P, 0, none⟩) N N) rfl trivial (enters_of Tryz.func30 (by kernel_rfl) rfl) (n₀ := NB) (by omega) hgo (fun x => rfl)
              (fun pre W => ((W.cell? ⟨NB, 0, none⟩ = some (.int .i64 (pre.length : Nat)) ∧ W.frozen? ⟨NB, 0, none⟩ = false) ∧ Below NB wb W) ∧ pre.map (cutN N) <+: wkA ps)
              (fun c pre W => (c = .ret ∧ ¬ pre.map (cutN N) <+: wkA ps) )
              ?hI_b ?hIx_b ?h0_b _ (by
                intro l x W K hK
                gi_wp2
                exact hK) (by
                rintro l pre x W ⟨⟨⟨hc, hf⟩, hBW⟩, hpp⟩ hlen
                obtain ⟨q, hq⟩ : ∃ q, pre.length = q := ⟨_, rfl⟩
                have hqN : q < N := by have h1 := HP.out.2.2.1; omega
                obtain ⟨z, hz⟩ : ∃ z, (wkA ps)[q]? = some z := ⟨_, List.getElem?_eq_getElem (by have h1 := HP.out.2.2.1; omega)⟩
                have hsn := pre_snoc hpp (z := z) (by rw [List.length_map, hq]; exact hz) (cutN N x)
                have hmap : (pre ++ [x]).map (cutN N) = pre.map (cutN N) ++ [cutN N x] := by rw [List.map_append]; rfl
                have hBW' : Below wb.heap.size wb W := by rw [hNB]; exact hBW
                have hlw := hLS.next hBW'
                have z0 : W.cell? ⟨w8.heap.size, 0, none⟩ = some (.slice (some ⟨sg, 0, none⟩) N sc) := by rw [Lib.cell_of_heap hlw.wb]; rfl
                have z1 := (hlw.sgr q z hz).1
                have z2 := (hlw.sgr q z hz).2
                have z3 : W.cell? ⟨cs, 0, none⟩ = some (.int .i64 1) := by rw [Lib.cell_of_heap (blk_on hTT hBW')]; rfl
                have z4 : W.cell? ⟨w.heap.size, 0, none⟩ = some (.int .i64 st) := by rw [Lib.cell_of_heap hlw.stb]; rfl
                have z5 : W.cell? ⟨w.heap.size + 1, 0, none⟩ = some (.bool false) := by rw [Lib.cell_of_heap hlw.rb]; rfl
                have z6 : W.frozen? ⟨w.heap.size + 1, 0, none⟩ = false := Lib.frozen_of_heap hlw.rb 0
                have hn1 : w.heap.size ≠ NB := by omega
                have hn2 : cs ≠ NB := by omega
                obtain ⟨ai, hai⟩ : ∃ ai, min x.1 (N - 1) = ai := ⟨_, rfl⟩
                have hcut : cutN N x = (ai, x.2) := by unfold cutN; rw [hai]
                rw [hcut] at hsn hmap
                rw [hq] at hc
                have HSN := Lib.hid (And.intro hsn (And.intro hmap (And.intro hpp hq)))
                have HBW := Lib.hid hBW
                have hq0 : (0 : Int) ≤ (q : Int) := by omega
                have hqN2 : (q : Int) < (N : Int) := by omega
                have hdg : decide ((N : Int) ≤ (q : Int)) = false := by simp; omega
                have hwq : IntKind.i64.wrap ((q : Int) + 1) = ((q + 1 : Nat) : Int) := by have := HQ.out.2.1; have := HN.out; rw [IntKind.wrap_i64]; omega
                obtain ⟨zi, hzi⟩ : ∃ zi, z.1 = zi := ⟨_, rfl⟩
                obtain ⟨zd, hzd⟩ : ∃ zd, z.2 = zd := ⟨_, rfl⟩
                have hzz : z = (zi, zd) := by rw [← hzi, ← hzd]
                rw [hzi] at z1
                rw [hzd] at z2
                obtain ⟨xd, hxd⟩ : ∃ xd, x.2 = xd := ⟨_, rfl⟩
                rw [hxd] at HSN
                rw [hzz] at HSN
                rw [hai, hxd]
                clear hsn hmap hpp hq hBW hz hlw hai hcut hzi hzd hzz hqN hxd
                clear hBW'
                by_cases c1 : ai = zi
                · by_cases c2 : xd = zd
                  · subst c1 c2
                    gi_wp2
                    exact ⟨(KeepsOthers.setCell _ _ _).from _, (Below.refl NB W).setCell (p := ⟨NB, 0, none⟩) (Nat.le_refl _) _, ⟨⟨by rw [List.length_append, HSN.out.2.2.2]; exact World.cell?_setCell_same' _ _ _ (by rw [hc]; rfl), (World.frozen?_setCell _ _ _ _).trans hf⟩, HBW.out.setCell (p := ⟨NB, 0, none⟩) (Nat.le_refl _) _⟩, by rw [HSN.out.2.1]; exact HSN.out.1.2 (by first | rfl | trivial)⟩
                  · have d1 : ((xd : Int) == (zd : Int)) = false := by simp; omega
                    have d2 : ((xd : Int) != (zd : Int)) = true := by simp [bne, d1]
                    have HC2 := Lib.hid c2
                    subst c1
                    gi_wp2
                    exact ⟨(KeepsOthers.setCell _ _ _).from _, ⟨rfl, by rw [HSN.out.2.1]; exact fun h => HC2.out (by have := HSN.out.1.1 h; simpa using this)⟩⟩
                · have d1 : ((ai : Int) == (zi : Int)) = false := by simp; omega
                  have d2 : ((ai : Int) != (zi : Int)) = true := by simp [bne, d1]
                  have HC1 := Lib.hid c1
                  gi_wp2
                  exact ⟨(KeepsOthers.setCell _ _ _).from _, ⟨rfl, by rw [HSN.out.2.1]; exact fun h => HC1.out (by have := HSN.out.1.1 h; simp at this; exact this.1)⟩⟩) ?done_b ?stop_b
            case hI_b => exact OwnFrom.and (OwnFrom.and (Own.from (fun s A B row hs hg hr => ⟨cell_kept hs.1 hg hr, (frozen_kept hs.1 hg hr).trans hs.2⟩) _) (ownFrom_below (by omega) (by omega))) (ownFrom_pure _ _)
            case hIx_b => exact fun c s A B row hs hg hr => hs
            case h0_b => exact ⟨⟨⟨by rw [Lib.cell_of_heap hnn]; rfl, Lib.frozen_of_heap hnn 0⟩, hbn⟩, List.nil_prefix⟩
            case done_b =>
              rintro D ys W hD rfl ⟨⟨⟨hc, hf⟩, hBW⟩, _⟩ hK
              rw [HP.out.2.2.1] at hc
              clear hf
              have hBW' : Below wb.heap.size wb W := by rw [hNB]; exact hBW
              have HLS2 := Lib.hid (hLS.next hBW')
              have HTT2 := Lib.hid (blk_on hTT hBW')
              have HK := Lib.hid hK
              have HBW1 := Lib.hid hBW'
              have z3 : W.cell? ⟨cs, 0, none⟩ = some (.int .i64 1) := by rw [Lib.cell_of_heap HTT2.out]; rfl
              have z0 : W.cell? ⟨w8.heap.size, 0, none⟩ = some (.slice (some ⟨sg, 0, none⟩) N sc) := by rw [Lib.cell_of_heap HLS2.out.wb]; rfl
              have HNE : Hid (g ≠ D ∧ g ≠ cs ∧ cs < W.heap.size) := ⟨by have := HGT.out; omega, by have := HGT.out; omega, (Array.getElem?_eq_some_iff.1 HTT2.out).1⟩
              have HDw : Hid (w.heap.size ≤ D) := by have := hLS.below.size; show w.heap.size ≤ D; omega
              have HDD : Hid (D0 ≠ D) := by have := (Array.getElem?_eq_some_iff.1 HK0.out).1; show D0 ≠ D; omega
              clear hBW hBW' hK hgo hPB hbn hnn hsn hD
              gi_wp2
              gi_loopw [19] (fun v wr => ∃ k : Nat, k ≤ N ∧ v = .int .i64 (k : Int) ∧ Hid (Ls w w6.heap.size ps P w8.heap.size sg N sc st wr ∧ wr.heap[cs]? = some (.cells #[.int .i64 1] 3) ∧ wr.heap[D0]? = some (.deferred (some [])) ∧ wr.heap[D]? = some (.deferred (some [])))) (fun v _ => N - (intOf v).toNat)
              case atStart => exact ⟨0, Nat.zero_le _, rfl, HLS2.out, HTT2.out, blk_on HK0.out HBW1.out, HK.out⟩
              case round =>
                obtain ⟨k, hkN, rfl, HH⟩ := hrel
                have y0 : wr.cell? ⟨cs, 0, none⟩ = some (.int .i64 1) := by rw [Lib.cell_of_heap HH.out.2.1]; rfl
                have y1 : wr.frozen? ⟨cs, 0, none⟩ = false := Lib.frozen_of_heap HH.out.2.1 0
                have hTr : cs < wr.heap.size := (Array.getElem?_eq_some_iff.1 HH.out.2.1).1
                obtain ⟨ct, hct2⟩ : ∃ n, wr.heap.size = n := ⟨_, rfl⟩
                gi_wp2
                have hbr := below_o wr (.cells #[.int .i64 2] 3)
                have hT2 := heap_alloc_at (w := wr) (.cells #[.int .i64 2] 3) _ rfl
                have hLS := HH.out.1.next hbr
                have hK1 := blk_on HH.out.2.2.2 hbr
                have hK0 := blk_on HH.out.2.2.1 hbr
                rw [hct2] at hT2
                generalize wr.alloc (.cells #[.int .i64 2] 3) = wc at hbr hT2 hLS hK1 hK0 ⊢
                clear hbr hct2 HH y0 y1 hTr
                have x0 : wc.cell? ⟨ct, 0, none⟩ = some (.int .i64 2) := by rw [Lib.cell_of_heap hT2]; rfl
                have x1 : ct < wc.heap.size := (Array.getElem?_eq_some_iff.1 hT2).1
                have x2 : wc.cell? ⟨w.heap.size + 1, 0, none⟩ = some (.bool false) := by rw [Lib.cell_of_heap hLS.rb]; rfl
                have x3 : wc.frozen? ⟨w.heap.size + 1, 0, none⟩ = false := Lib.frozen_of_heap hLS.rb 0
                have HLS3 := Lib.hid hLS
                have n1 : D ≠ w.heap.size + 1 := fun e => by
                  have h := hLS.rb
                  rw [← e, hK1] at h
                  cases h
                have n0 : D0 ≠ w.heap.size + 1 := fun e => by
                  have h := hLS.rb
                  rw [← e, hK0] at h
                  cases h
                have HK3 := Lib.hid (And.intro hK1 (And.intro hK0 (And.intro n1 n0)))
                clear hK1 hK0 n1 n0 hLS
                rw [roundsIn_succ]
                gi_wp2
                have hK1 : (wc.setCell ⟨w.heap.size + 1, 0, none⟩ (.bool true)).heap[D]? = some (.deferred (some [])) := (Below.heap_setCell _ _ _ _ HK3.out.2.2.1).trans HK3.out.1
                have hK0 : (wc.setCell ⟨w.heap.size + 1, 0, none⟩ (.bool true)).heap[D0]? = some (.deferred (some [])) := (Below.heap_setCell _ _ _ _ HK3.out.2.2.2).trans HK3.out.2.1
                have hR := heap_setCell_same wc (w.heap.size + 1) 0 _ _ (.bool true) HLS3.out.rb
                have hbe := HLS3.out.below.setCell (p := ⟨w.heap.size + 1, 0, none⟩) (by show w.heap.size ≤ w.heap.size + 1; omega) (.bool true)
                generalize wc.setCell ⟨w.heap.size + 1, 0, none⟩ (.bool true) = wd at hK1 hK0 hR hbe ⊢
                refine ⟨by simp, .inl ⟨_, _, rfl, run_takeDeferred hK1, ?_⟩⟩
                have hK0' : (wd.putObj D (.deferred none)).heap[D0]? = some (.deferred (some [])) := (World.putObj_heap_other HDD.out).trans hK0
                refine ⟨by simp, .inl ⟨_, _, rfl, run_takeDeferred hK0', ?_⟩⟩
                have hcell : ((wd.putObj D (.deferred none)).putObj D0 (.deferred none)).cell? ⟨w.heap.size + 1, 0, none⟩ = some (.bool true) := by
                  rw [Lib.cell_of_heap (((World.putObj_heap_other (fun e => HK3.out.2.2.2 e.symm)).trans (World.putObj_heap_other (fun e => HK3.out.2.2.1 e.symm))).trans hR)]
                  rfl
                refine ⟨.bool true, by simp [results, Tryz.results4, go_sem, hcell], rfl, (hbe.trans (belowK_b (w := w) (Nat.le_refl _) wd D _ _ HDw.out hK1 rfl rfl)).trans (belowK_b (w := w) (Nat.le_refl _) _ D0 _ _ HDw0.out hK0' rfl rfl)⟩
            case stop_b =>
              rintro D cc pre W hD hpre ⟨rfl, h⟩ hK
              exact absurd (cut_pre HP.out.2.2.2.1 hpre) h
            
  · have HC := Lib.hid h0
    have hck0 : (ck == 0) = false := by have := HCK.out; simp; omega
    have hck1 : (ck != 0) = true := by simp [bne, hck0]
    rw [HCK.out]
    clear h0
    gi_wp2
    refine ⟨trivial, (callsIn_wide.2 (HRw.out w7 HB7.out)).mono ?_⟩
    rintro e w8 ⟨hr8, hb⟩
    have HB8 := Lib.hid (below_t HB7.out hb HB7.out.size)
    have HC1' := Lib.hid (blk_on (blk_on HC1.out HB27.out) hb)
    clear hb HRw
    obtain rfl : e = .returned (.tuple #[.slice none 0 0, .int .i64 ck]) := by
      rcases hr8 with ⟨h, _⟩ | ⟨_, h⟩
      · exact absurd h HC.out
      · rw [h, HCK.out]
    clear hr8
    have hc1 := HC1'.out
    have hcr : w8.cell? ⟨w.heap.size + 1, 0, none⟩ = some (.bool false) := by rw [Lib.cell_of_heap hc1]; rfl
    have hfr : w8.frozen? ⟨w.heap.size + 1, 0, none⟩ = false := Lib.frozen_of_heap hc1 0
    have hlt8 : w.heap.size + 1 < w8.heap.size := (Array.getElem?_eq_some_iff.1 hc1).1
    clear hc1
    gi_wp2
    have hx := blk_on (heap_setCell_same w8 (w.heap.size + 1) 0 _ _ (.bool true) HC1'.out) (below_o _ (.cells #[.slice none 0 0] 46))
    have hbb : Below w.heap.size w ((w8.setCell ⟨w.heap.size + 1, 0, none⟩ (.bool true)).alloc (.cells #[.slice none 0 0] 46)) := (HB8.out.setCell (p := ⟨w.heap.size + 1, 0, none⟩) (by show w.heap.size ≤ w.heap.size + 1; omega) _).alloc (by simpa using HB8.out.size) _
    generalize (w8.setCell ⟨w.heap.size + 1, 0, none⟩ (.bool true)).alloc (.cells #[.slice none 0 0] 46) = w9 at hx hbb ⊢
    have hcell : w9.cell? ⟨w.heap.size + 1, 0, none⟩ = some (.bool true) := by rw [Lib.cell_of_heap hx]; rfl
    refine ⟨.bool true, by simp [results, Tryz.results4, go_sem, hcell], rfl, hbb⟩
end Go.Proofs.YtmaplgpicdomiaaGreatDoor
