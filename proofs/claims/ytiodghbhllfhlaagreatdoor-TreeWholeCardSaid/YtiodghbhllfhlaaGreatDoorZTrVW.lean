/-
  The walk of the law: a tree is its last node put behind its parts, and going over it tells each place once, behind its whole.
-/
import Derived.Test.YtiodghbhllfhlaaGreatDoorZTrVj
import Derived.Sort.CutIn
namespace Go.Proofs.YtiodghbhllfhlaaGreatDoor
set_option linter.unusedVariables false
set_option linter.unusedSimpArgs false
set_option maxRecDepth 100000
open Go.RowKit
attribute [local go_sem] Oper.semAt_some

theorem eq_fn_nilV (f : Fn) (b l : Array Value) (w : World) : Sem.run Tryz.prog (binOp .eql 34 (.func f b l) .nilFunc) w = .ok (.bool false) w := by
  first | rfl | kernel_rfl | simp [binOp, go_sem]
theorem infoZ : (Tryz.prog.info? 3).map (fun i => (i.zero, i.size, i.bytes)) = some (some (.int .i64 0), 1, 8) := by kernel_rfl
theorem sb_pos {t : List NdT} {fr p : List Nat} (hfl : fr.length = t.length) (hfe : ∀ (k b : Nat), (fr : List Nat)[k]? = some b → b ≤ k) (hp : ∀ q ∈ p, q < t.length) : ∀ s ∈ sbL t fr p, 0 < s.length := fun s hs => by
  unfold sbL at hs
  obtain ⟨q, hq, rfl⟩ := List.mem_map.1 hs
  have hqt := hp q hq
  have hF : fr[q]? = some (fr[q]'(by omega)) := List.getElem?_eq_getElem (by omega)
  rw [List.getD_eq_getElem?_getD, hF]
  show 0 < (subL t (fr[q]'(by omega)) q).length
  have := hfe q _ hF
  rw [sub_len hqt this]
  omega
theorem sn_made (N : Nat) : madeCells #[.int .i64 0] N = snC (snL N []) := by
  apply Array.ext_getElem?
  intro i
  have ht : (snC (snL N []))[i]? = (nuC (snL N []))[i]? := by unfold snC; simp
  rw [ht]
  by_cases hi : i < N
  · have h3 : (nuC (snL N []))[i]? = some (Value.int .i64 0) := nuC_at (q := 0) (by show (List.replicate N 0)[i]? = some 0; rw [List.getElem?_replicate, if_pos hi])
    rw [h3]
    simp [madeCells, Nat.mod_one, hi]
  · rw [List.getElem?_eq_none (by rw [nuC_len, snL_len]; omega)]
    simp [madeCells]
    omega
theorem dpL_len (l : List (Nat × Nat)) : (dpL l).length ≤ l.length := by
  have : ∀ (l : List (Nat × Nat)) (s : List Nat), (l.foldl dpS s).length ≤ s.length + l.length := by
    intro l
    induction l with
    | nil => intro s; simp
    | cons x l ih =>
      intro s
      rw [List.foldl_cons]
      refine Nat.le_trans (ih _) ?_
      unfold dpS
      rw [List.length_append, List.length_take, List.length_singleton, List.length_cons]
      omega
  have h := this l []
  simpa [dpL] using h
theorem sb_mem {t : List NdT} {fr p : List Nat} {s : List NdT} (h : s ∈ sbL t fr p) : ∀ y ∈ s, y ∈ t := fun y hy => by
  unfold sbL at h
  obtain ⟨q, _, rfl⟩ := List.mem_map.1 h
  unfold subL at hy
  exact List.mem_of_mem_drop (List.mem_of_mem_take hy)
theorem fin_def {w w' : World} {b0 : Bool} {D : Nat} (hc : w'.heap[w.heap.size + 1]? = some (.cells #[.bool b0] 4)) (hK : w'.heap[D]? = some (.deferred (some []))) (hD : w.heap.size + 1 < D) (hb : Below w.heap.size w w') :
    (w'.setCell ⟨w.heap.size + 1, 0, none⟩ (.bool true)).heap[D]? = some (.deferred (some [])) ∧ ((w'.setCell ⟨w.heap.size + 1, 0, none⟩ (.bool true)).putObj D (.deferred none)).cell? ⟨w.heap.size + 1, 0, none⟩ = some (.bool true) ∧ Below w.heap.size w ((w'.setCell ⟨w.heap.size + 1, 0, none⟩ (.bool true)).putObj D (.deferred none)) := by
  have h1 : (w'.setCell ⟨w.heap.size + 1, 0, none⟩ (.bool true)).heap[D]? = some (.deferred (some [])) := (Below.heap_setCell _ _ _ _ (by show D ≠ w.heap.size + 1; omega)).trans hK
  have h2 := heap_setCell_same w' (w.heap.size + 1) 0 _ _ (.bool true) hc
  have h3 := hb.setCell (p := ⟨w.heap.size + 1, 0, none⟩) (by show w.heap.size ≤ w.heap.size + 1; omega) (.bool true)
  refine ⟨h1, ?_, h3.grown (grownBy_putObj' _ D _) h3.size (fun k e => by cases e; omega)⟩
  rw [Lib.cell_of_heap ((World.putObj_heap_other (by omega)).trans h2)]
  rfl
/-- Left in no other way than by its end. -/
def nrm (Q : Exit → Act → World → Prop) : Exit → Act → World → Prop
  | .normal, a, w => Q .normal a w
  | _, _, _ => False
theorem wp_nrm {P : Program} {c : Code} {Q : Exit → Act → World → Prop} {a : Act} {w : World} (h : c.wp P (nrm Q) a w) : c.wp P Q a w :=
  Code.wp_mono (fun e a w h => by cases e <;> first | exact h | exact h.elim) h
set_option maxHeartbeats 8000000 in
theorem c_TreeWhole (B : Nat) (t : List NdT) (a : Option Addr) (c : Nat) (w : World) (hE : Env B w) (hB : B ≤ w.heap.size) (hc : t.length ≤ c) (ho : ∀ x ∈ t, NdOk x) (hT : TrIn t a w) :
    Calls Tryz.prog 3 #[.slice a t.length c] w fun e w' => e = .returned (.bool true) ∧ Below w.heap.size w w' := by
  obtain ⟨N, hN⟩ : ∃ N, t.length = N := ⟨_, rfl⟩
  have HWo : Hid (∀ W, Below w.heap.size w W → Calls Tryz.prog 4 #[] W fun e w' => e = .returned (.bool true) ∧ Below W.heap.size W w') := fun W hb => c_works B W (hE.next (hb.mono hB)) (Nat.le_trans hB hb.size)
  have HCt : Hid (∀ W, Below w.heap.size w W → Calls Tryz.prog 5 #[.slice a N c] W fun e w' => e = .returned (.int .i64 (ckA wlB t : Nat)) ∧ Below W.heap.size W w') := fun W hb => by
    have h := c_tCheck B t a c W (hE.next (hb.mono hB)) (Nat.le_trans hB hb.size) ho (hT.next hb)
    rw [hN] at h
    exact h
  have HEn : Hid (Env B w ∧ B ≤ w.heap.size ∧ (∀ x ∈ t, NdOk x) ∧ TrIn t a w ∧ t.length ≤ c) := ⟨hE, hB, ho, hT, hc⟩
  have HN := Lib.hid hN
  rw [hN]
  clear hE hB ho hT hc hN
  refine callsIn_wide (n := 5) |>.1 ?_
  refine callsIn_of_wp_marks Tryz.func3 rfl trivial ?_ rfl
  refine wpIn_wide.2 ?_
  simp only [Tryz.ntmps3, List.size_toArray, List.length_cons, List.length_nil, Nat.reduceAdd, Nat.reduceSub, Array.replicate_succ, Array.replicate_zero, List.push_toArray, List.append_toArray, List.nil_append, List.cons_append]
  go_wp2_with fail
  have hb1 : Below w.heap.size w ((w.alloc (.cells #[.slice a N c] 23)).alloc (.cells #[.bool false] 4)) := ((Below.refl _ w).alloc (Nat.le_refl _) _).alloc (by simp) _
  have hc0 : ((w.alloc (.cells #[.slice a N c] 23)).alloc (.cells #[.bool false] 4)).heap[w.heap.size]? = some (.cells #[.slice a N c] 23) := blk_on (heap_alloc_at (w := w) _ _ rfl) (below_o _ _)
  have hc1 : ((w.alloc (.cells #[.slice a N c] 23)).alloc (.cells #[.bool false] 4)).heap[w.heap.size + 1]? = some (.cells #[.bool false] 4) := heap_alloc_at _ _ (by simp)
  generalize (w.alloc (.cells #[.slice a N c] 23)).alloc (.cells #[.bool false] 4) = w1 at hb1 hc0 hc1 ⊢
  refine (calls_hid (HWo.out w1 hb1)).mono ?_
  intro e w2 hh
  obtain ⟨rfl, hb⟩ := hh.out
  have HB2 := Lib.hid (below_t hb1 hb hb1.size)
  have HC0 := Lib.hid (blk_on hc0 hb)
  have HC1 := Lib.hid (blk_on hc1 hb)
  clear hh hb hb1 hc0 hc1 HWo
  have z0 : w2.cell? ⟨w.heap.size, 0, none⟩ = some (.slice a N c) := by rw [Lib.cell_of_heap HC0.out]; rfl
  obtain ⟨zr, zf, zl⟩ := bool_cell HC1.out
  by_cases h400 : 400 < N
  · have hd : decide ((400 : Int) < (N : Int)) = true := by simp; omega
    go_wp2_with fail
    obtain ⟨f1, f2⟩ := fin_true HC1.out HB2.out
    exact ⟨.bool true, by simp [results, Tryz.results3, go_sem, f1], rfl, f2⟩
  have hd : decide ((400 : Int) < (N : Int)) = false := by simp; omega
  go_wp2_with fail
  refine (calls_hid (HCt.out w2 HB2.out)).mono ?_
  intro e w3 hh
  obtain ⟨rfl, hb⟩ := hh.out
  have HB3 := Lib.hid (below_t HB2.out hb HB2.out.size)
  have HC0 := Lib.hid (blk_on HC0.out hb)
  have HC1 := Lib.hid (blk_on HC1.out hb)
  clear hh hb z0 zr zf zl HCt HB2 hd
  have z0 : w3.cell? ⟨w.heap.size, 0, none⟩ = some (.slice a N c) := by rw [Lib.cell_of_heap HC0.out]; rfl
  obtain ⟨zr, zf, zl⟩ := bool_cell HC1.out
  by_cases hck : ckA wlB t = 0
  case neg =>
    obtain ⟨ck, hck'⟩ : ∃ ck : Int, ((ckA wlB t : Nat) : Int) = ck := ⟨_, rfl⟩
    have hne : (ck != 0) = true := by rw [← hck']; simp; omega
    rw [hck']
    go_wp2_with fail
    obtain ⟨f1, f2⟩ := fin_true HC1.out HB3.out
    exact ⟨.bool true, by simp [results, Tryz.results3, go_sem, f1], rfl, f2⟩
  rw [hck]
  go_wp2_with fail
  -- A RIGHT TREE
  obtain ⟨hl4, ps, hg⟩ := ck_grow hck
  obtain ⟨fr, p, x, hbg, hG, hfl, hfe, h0, hpN, hx, hxn, hplt, hwh⟩ := whole_eq hg
  have hN1 : ((N : Int) - 1) = ((N - 1 : Nat) : Int) := by have := HN.out; omega
  have HPa := Lib.hid (c_PartsK B t ps hck hg a c (t.length - 1) p (by omega) hpN w3 (HEn.out.1.next (HB3.out.mono HEn.out.2.1)) (Nat.le_trans HEn.out.2.1 HB3.out.size) HEn.out.2.2.1 (HEn.out.2.2.2.1.next HB3.out))
  rw [HN.out, ← hN1] at HPa
  refine (calls_hid HPa.out).mono ?_
  intro e w4 hh
  obtain ⟨pa, pc, rfl, hpi, hb⟩ := hh.out
  have HB4 := Lib.hid (below_t HB3.out hb HB3.out.size)
  have HC0 := Lib.hid (blk_on HC0.out hb)
  have HC1 := Lib.hid (blk_on HC1.out hb)
  have HPI := Lib.hid hpi
  clear hh hb z0 zr zf zl HPa HB3 hpi
  obtain ⟨k, hk⟩ : ∃ k, p.length = k := ⟨_, rfl⟩
  have HPl := Lib.hid hk
  rw [hk] at hxn ⊢
  go_wp2_with fail
  have hmx : Tryz.prog.follows .mixedOrders = true := by kernel_rfl
  have hk4 : k ≤ 4096 := by have h1 := (hG.all hl4 _ _ hpN).1; have h2 := HPl.out; omega
  have HG := Lib.hid (And.intro hck (And.intro hl4 (And.intro hg (And.intro hbg (And.intro hG (And.intro hfl (And.intro hfe (And.intro h0 (And.intro hpN (And.intro hx (And.intro hxn (And.intro hplt hwh))))))))))))
  have HN1 := Lib.hid hN1
  clear hck hl4 hg hbg hG hfl hfe h0 hpN hx hxn hplt hwh hN1 h400
  have hSb0 : SbI (sbL t fr p) w4.heap.size (.slice (some ⟨w4.heap.size, 0, none⟩) 0 0) 0 (w4.alloc (.cells #[] 23)) := ⟨[], World.ownsRow_made w4 #[] 0 (Nat.le_refl _) (Nat.zero_le _) (by simp), fun j t hj => by omega⟩
  have hb45 : Below w4.heap.size w4 (w4.alloc (.cells #[] 23)) := below_o _ _
  have hs5 : (w4.alloc (.cells #[] 23)).heap.size = w4.heap.size + 1 := by simp
  generalize w4.alloc (.cells #[] 23) = w5 at hSb0 hb45 hs5 ⊢
  go_loopw [5, 6] (fun v5 v6 wr => ∃ i : Nat, i ≤ k ∧ v6 = .int .i64 (i : Int) ∧ Hid (SbI (sbL t fr p) w4.heap.size v5 i wr ∧ Below w4.heap.size w4 wr)) (fun _ v6 _ => k - (intOf v6).toNat)
  case atStart => exact ⟨0, Nat.zero_le _, rfl, hSb0, hb45⟩
  case round =>
    obtain ⟨i, hik, rfl, HH⟩ := hrel
    have hbw : Below w.heap.size w wr := below_t HB4.out HH.out.2 HB4.out.size
    have hc0 := blk_on HC0.out HH.out.2
    have hc1 := blk_on HC1.out HH.out.2
    have z0 : wr.cell? ⟨w.heap.size, 0, none⟩ = some (.slice a N c) := by rw [Lib.cell_of_heap hc0]; rfl
    by_cases hlt : i < k
    · have hd : decide ((i : Int) < (k : Int)) = true := by simp; omega
      obtain ⟨hck, hl4, hg, hbg, hG, hfl, hfe, h0, hpN, hx, hxn, hplt, hwh⟩ := HG.out
      obtain ⟨q, hq⟩ : ∃ q, p[i]? = some q := ⟨p[i]'(by rw [HPl.out]; exact hlt), List.getElem?_eq_getElem (by rw [HPl.out]; exact hlt)⟩
      obtain ⟨rb, ro, hpa, _, hrb, hri⟩ := (HPI.out.next HH.out.2) (by rw [HPl.out]; omega)
      subst hpa
      have y0 := hri i q hq
      have hqN := hplt q (List.mem_of_getElem? hq)
      obtain ⟨F, hF⟩ : ∃ F, fr[q]? = some F := ⟨fr[q]'(by omega), List.getElem?_eq_getElem (by omega)⟩
      have HSu := Lib.hid (fun W (hb : Below wr.heap.size wr W) => c_SubK B t fr hck hbg a c q F HEn.out.2.2.2.2 (by omega) hF W (HEn.out.1.next ((below_t hbw hb hbw.size).mono HEn.out.2.1)) (Nat.le_trans HEn.out.2.1 (below_t hbw hb hbw.size).size) HEn.out.2.2.1 (HEn.out.2.2.2.1.next (below_t hbw hb hbw.size)))
      rw [HN.out] at HSu
      obtain ⟨sl, hsl⟩ : ∃ sl, (subL t F q).length = sl := ⟨_, rfl⟩
      rw [hsl] at HSu
      have hi0 : (0 : Int) ≤ (i : Int) := by omega
      have hiI : (i : Int) < (k : Int) := by omega
      have hw1 : IntKind.i64.wrap ((i : Int) + 1) = ((i + 1 : Nat) : Int) := by rw [IntKind.wrap_i64]; omega
      have HQ := Lib.hid (And.intro (sb_at (t := t) hq hF) (And.intro hsl hbw))
      have HMi : Hid (k - (i + 1) < k - i ∧ i + 1 ≤ k) := ⟨by omega, by omega⟩
      have HBW := Lib.hid hbw
      have HCC := Lib.hid (And.intro hc0 hc1)
      clear hck hl4 hg hbg hG hfl hfe h0 hpN hx hxn hplt hwh hq hF hsl hqN hri hlt hbw hc0 hc1
      go_wp2_with fail
      refine wp_nrm ?_
      go_region_law (first
        | (go_simp; go_at_call 7; refine (calls_hid (HSu.out _ (Below.refl wr.heap.size wr).drew)).mono ?_; intro e w6 hh; obtain ⟨sa, sc, rfl, hsT, hsb, hb⟩ := hh.out; have H6 := Lib.hid (And.intro hsT (And.intro hsb hb)); clear hh hsT hsb hb))
      all_goals simp only [nrm]
      all_goals
        have hb6 : Below wr.heap.size wr w6 := ⟨H6.out.2.2.os, H6.out.2.2.tape, H6.out.2.2.output, H6.out.2.2.size, H6.out.2.2.block⟩
        have HB6 := Lib.hid hb6
        have HNe : Hid (NeB u5 sa w6) := HH.out.1.ne H6.out.2.1
        clear hb6
        go_wp2_with (at_builtin; refine wp_sub rfl _ _ rfl (sbL t fr p) w4.heap.size u5 rfl i ((HH.out.1.next HB6.out).next (below_o w6 _)) (subL t F q) HQ.out.1 sa sc w6.heap.size sl HQ.out.2.1 rfl (heap_alloc_at _ _ rfl) (H6.out.1.next (below_o w6 _)) (fun b off e => ⟨(HNe.out b off e).1, Nat.lt_of_lt_of_le (HNe.out b off e).2 (below_o w6 _).size⟩) ?a1 ?a2 ?_)
        case a1 => omega
        case a2 => exact Nat.le_trans HH.out.2.size (Nat.le_trans HB6.out.size (below_o w6 _).size)
        intro v7 w7 hS7 hb7
        have H7 : Hid (SbI (sbL t fr p) w4.heap.size v7 (i + 1) w7 ∧ Below w4.heap.size w4 w7) := ⟨hS7, ((HH.out.2.trans (HB6.out.mono HH.out.2.size)).alloc (Nat.le_trans HH.out.2.size HB6.out.size) _).trans hb7⟩
        clear hS7 hb7
        go_wp2_with fail
        go_roundw
        case rel => exact ⟨i + 1, HMi.out.2, rfl, H7.out⟩
        case measure => simp [intOf]; exact HMi.out.1
    · have hik2 : i = k := by omega
      rw [hik2] at HH ⊢
      have hd : decide ((k : Int) < (k : Int)) = false := by simp
      have HBW := Lib.hid hbw
      have HCC := Lib.hid (And.intro hc0 hc1)
      clear hik2 hlt hik hbw hc0 hc1
      go_wp2_with fail
      -- THE PARTS ARE THERE
      have hSl : (sbL t fr p).length = k := by rw [sb_len, HPl.out]
      obtain ⟨va, vc, hv5, hLi⟩ := SbI.li (S := sbL t fr p) (base := w4.heap.size) (v := u5) (w := wr) (by rw [hSl]; exact HH.out.1) (by
        obtain ⟨hck, hl4, hg, hbg, hG, hfl, hfe, h0, hpN, hx, hxn, hplt, hwh⟩ := HG.out
        exact sb_pos hfl hfe (fun q hq => by have := hplt q hq; omega))
      rw [hSl] at hv5
      subst hv5
      have HLi := Lib.hid hLi
      have HSl := Lib.hid hSl
      have HWa := Lib.hid (c_tWalk B t a c wr (HEn.out.1.next (HBW.out.mono HEn.out.2.1)) (Nat.le_trans HEn.out.2.1 HBW.out.size) HEn.out.2.2.1 (HEn.out.2.2.2.1.next HBW.out))
      rw [HN.out] at HWa
      clear hLi hSl
      refine (calls_hid HWa.out).mono ?_
      intro e w6 hh
      obtain ⟨hr6, hb⟩ := hh.out
      obtain ⟨P, ps', hg', rfl, hPt, hP⟩ : ∃ P ps', grow t = some ps' ∧ e = .returned (.tuple #[.func (.func 20) #[.slice (some ⟨P, 0, none⟩) N N] #[], .int .i64 0]) ∧ PtIn (fun b => wr.heap.size ≤ b) ps' P w6 ∧ wr.heap.size ≤ P := by
        rcases hr6 with ⟨_, _, P, ps', h1, h2, h3, h4⟩ | ⟨h, _⟩
        · exact ⟨P, ps', h1, by rw [h2, HN.out], h3, h4⟩
        · exact absurd HG.out.1 h
      obtain rfl : ps = ps' := by have h1 := HG.out.2.2.1; rw [h1] at hg'; exact Option.some.inj hg'
      have HB6 := Lib.hid (below_t HBW.out hb HBW.out.size)
      have HB46 := Lib.hid (HH.out.2.trans (hb.mono HH.out.2.size))
      have HCC6 := Lib.hid (And.intro (blk_on HCC.out.1 hb) (blk_on HCC.out.2 hb))
      have HLi6 := Lib.hid (HLi.out.next hb)
      have HPt := Lib.hid (And.intro hPt hP)
      have hefn := eq_fn_nilV
      have z0 : w6.cell? ⟨w.heap.size, 0, none⟩ = some (.slice a N c) := by rw [Lib.cell_of_heap HCC6.out.1]; rfl
      have hmk : ∀ w' : World, (Instr.makeSlice 27 (.int .i64 (N : Int)) (.int .i64 (N : Int))).run Tryz.prog w' = .ok (.slice (some ⟨w'.heap.size, 0, none⟩) N N) (w'.alloc (.cells (madeCells #[.int .i64 0] N) 3)) := fun w' => run_make_row' 27 3 (.int .i64 0) 8 Tryz.underlying27 infoZ rfl .i64 .i64 N (by have h1 := HG.out.2.1; have h2 := HN.out; omega) (by have h1 := HG.out.2.1; have h2 := HN.out; omega) w'
      clear hh hr6 hb hg' hPt hP HWa HLi HCC HBW
      go_wp2_with fail
      -- THE LOOP
      have hL0 : LpJ w6.heap.size w6 (snL N []) (dpL []) ((((w6.alloc (.cells (madeCells #[.int .i64 0] N) 3)).alloc (.cells #[.slice (some ⟨w6.heap.size, 0, none⟩) N N] 27)).alloc (.cells #[] 3)).alloc (.cells #[.slice (some ⟨w6.heap.size + 1 + 1, 0, none⟩) 0 0] 27)) := by
        have h1 := heap_alloc_at (w := w6) (.cells (madeCells #[.int .i64 0] N) 3) _ rfl
        have h2 := heap_alloc_at (w := w6.alloc (.cells (madeCells #[.int .i64 0] N) 3)) (.cells #[.slice (some ⟨w6.heap.size, 0, none⟩) N N] 27) (w6.heap.size + 1) (by simp)
        have h3 := World.ownsRow_made ((w6.alloc (.cells (madeCells #[.int .i64 0] N) 3)).alloc (.cells #[.slice (some ⟨w6.heap.size, 0, none⟩) N N] 27)) (base := w6.heap.size + 2) (e := 3) (size := 1) #[] 0 (by simp) (Nat.zero_le _) (by simp)
        have h4 := heap_alloc_at (w := ((w6.alloc (.cells (madeCells #[.int .i64 0] N) 3)).alloc (.cells #[.slice (some ⟨w6.heap.size, 0, none⟩) N N] 27)).alloc (.cells #[] 3)) (.cells #[.slice (some ⟨w6.heap.size + 1 + 1, 0, none⟩) 0 0] 27) (w6.heap.size + 3) (by simp)
        have e2 : ((w6.alloc (.cells (madeCells #[.int .i64 0] N) 3)).alloc (.cells #[.slice (some ⟨w6.heap.size, 0, none⟩) N N] 27)).heap.size = w6.heap.size + 1 + 1 := by simp
        rw [e2] at h3
        rw [sn_made] at h1 h2 h3 h4 ⊢
        refine ⟨((below_o _ _).alloc (by simp) _ |>.alloc (by simp; omega) _ |>.alloc (by simp; omega) _), blk_on (blk_on (blk_on h1 (below_o _ _)) (below_o _ _)) (below_o _ _), ?_, _, h4, ?_⟩
        · rw [snL_len]
          exact blk_on (blk_on h2 (below_o _ _)) (below_o _ _)
        · have h5 := own_on h3 (below_o _ (.cells #[.slice (some ⟨w6.heap.size + 1 + 1, 0, none⟩) 0 0] 27))
          exact h5
      have hs0 : ((((w6.alloc (.cells (madeCells #[.int .i64 0] N) 3)).alloc (.cells #[.slice (some ⟨w6.heap.size, 0, none⟩) N N] 27)).alloc (.cells #[] 3)).alloc (.cells #[.slice (some ⟨w6.heap.size + 1 + 1, 0, none⟩) 0 0] 27)).heap.size = w6.heap.size + 4 := by simp
      generalize (((w6.alloc (.cells (madeCells #[.int .i64 0] N) 3)).alloc (.cells #[.slice (some ⟨w6.heap.size, 0, none⟩) N N] 27)).alloc (.cells #[] 3)).alloc (.cells #[.slice (some ⟨w6.heap.size + 1 + 1, 0, none⟩) 0 0] 27) = W0 at hL0 hs0 ⊢
      obtain ⟨hkps, hN0, _⟩ := KpsOk.of_grow HG.out.2.2.1 HG.out.2.1
      rw [HN.out] at hkps hN0
      have hPB : PtB w6.heap.size ps P W0 := ⟨HPt.out.1.lt, HPt.out.1.mono (by omega) (hL0.bel.block P HPt.out.1.lt) fun b _ hlt => ⟨hlt, hL0.bel.block b hlt⟩⟩
      have hgo := all_nx Fence.wide rfl trivial trivial rfl 4 w6.heap.size N P ps hkps hN0 W0 (by omega) hPB
      have HS0 := Lib.hid hs0
      refine (wpIn_wide (n := 5)).1 ?_
      refine range_nx rfl rfl (gf := 20) (bd := .slice (some ⟨P, 0, none⟩) N N) rfl trivial (enters_of Tryz.func20 (by kernel_rfl) rfl) (n₀ := w6.heap.size) (by omega) hgo (fun x => rfl)
        (fun pre W => LpJ w6.heap.size w6 (snL N pre) (dpL pre) W) (fun _ _ _ => False) (LpJ.own N (by omega)) (fun _ _ _ _ _ hs _ _ => hs) hL0 _ (by
          intro l x W K hK
          gi_wp2
          exact hK) ?body ?done ?stop
      case body =>
        rintro l pre ⟨ai, d⟩ W hJ hnx
        obtain ⟨hok1, _⟩ := wkA_ok HG.out.2.2.1 HG.out.2.1
        obtain ⟨hat, hd4, hsn, hd1, hd2, hd3⟩ := hok1 pre (ai, d) hnx
        rw [HN.out] at hat hsn
        have hat : ai < N := hat
        have hd4 : d ≤ 4097 := hd4
        have hd1 : 1 ≤ d := hd1
        have hd2 : d ≤ (dpL pre).length + 1 := hd2
        have hc0 := (hJ.bel.block w.heap.size (Array.getElem?_eq_some_iff.1 HCC6.out.1).1).trans HCC6.out.1
        have z0 : W.cell? ⟨w.heap.size, 0, none⟩ = some (.slice a N c) := by rw [Lib.cell_of_heap hc0]; rfl
        obtain ⟨y0, yf⟩ := hJ.seen hsn
        have y0 : W.cell? ⟨w6.heap.size, ai, none⟩ = some (.int .i64 0) := y0
        have yf : W.frozen? ⟨w6.heap.size, ai, none⟩ = false := yf
        have y1 : W.cell? ⟨w6.heap.size + 1, 0, none⟩ = some (.slice (some ⟨w6.heap.size, 0, none⟩) N N) := by
          have h := hJ.sc
          rw [snL_len] at h
          rw [Lib.cell_of_heap h]
          rfl
        obtain ⟨da, dc, hdc, hdl, hdn, hdi, hdo⟩ := hJ.deeps
        obtain ⟨dl, hdl'⟩ : ∃ dl, (dpL pre).length = dl := ⟨_, rfl⟩
        rw [hdl'] at hdc hdl hdo hd2
        have y2 : W.cell? ⟨w6.heap.size + 1 + 1 + 1, 0, none⟩ = some (.slice da dl dc) := by rw [Lib.cell_of_heap (b := w6.heap.size + 1 + 1 + 1) hdc]; rfl
        have yf2 : W.frozen? ⟨w6.heap.size + 1 + 1 + 1, 0, none⟩ = false := Lib.frozen_of_heap (b := w6.heap.size + 1 + 1 + 1) hdc 0
        have hn3 : w6.heap.size + 1 + 1 + 1 < W.heap.size := (Array.getElem?_eq_some_iff.1 hdc).1
        have hai0 : (0 : Int) ≤ (ai : Int) := by omega
        have haiN : (ai : Int) < (N : Int) := by omega
        have hdl4 : dl ≤ 4096 := by
          rw [← hdl']
          exact Nat.le_trans (dpL_len pre) (by
            obtain ⟨rr, hrr⟩ := hnx
            have h1 := congrArg List.length hrr
            rw [List.length_append, List.length_append] at h1
            have h2 := (KpsOk.of_grow HG.out.2.2.1 HG.out.2.1).2.2.1
            have h3 := HG.out.2.1
            omega)
        obtain ⟨e, he⟩ : ∃ e, d = e + 1 := ⟨d - 1, by omega⟩
        have t6 : IntKind.i64.wrap ((d : Int) - 1) = (e : Int) := by rw [IntKind.wrap_i64]; omega
        have t7 : (0 : Int) ≤ (e : Int) := by omega
        have t8 : (e : Int) ≤ (dc : Int) := by omega
        have hown1 : (W.setCell ⟨w6.heap.size, ai, none⟩ (.int .i64 (d : Int))).ownsRow (w6.heap.size + 2) 3 1 (.slice da e dc) e (nuC ((dpL pre).take e)) := (hdo e (by omega)).kept (row := some w6.heap.size) ⟨rfl, rfl, rfl, by simp [World.setCell], fun k _ hk => Below.heap_setCell _ _ _ _ (fun e => hk (by simp [e]))⟩ (.inr fun e2 => by have := ((hdo e (by omega)).lt _ e2).1; omega)
        have HOw := Lib.hid hown1
        have HE : Hid (d = e + 1 ∧ e ≤ (dpL pre).length ∧ e ≤ 4096) := ⟨he, by omega, by omega⟩
        obtain ⟨i0, hi0, hz0, hz1, hz2⟩ := info_parts infoZ
        have t1 : decide ((ai : Int) < 0) = false := by simp
        have t2 : decide ((N : Int) ≤ (ai : Int)) = false := by simp; omega
        have t2' : decide (N ≤ ai) = false := by simp; omega
        have t3 : decide ((d : Int) < 1) = false := by simp; omega
        have t4 : IntKind.i64.wrap ((dl : Int) + 1) = (dl : Int) + 1 := by rw [IntKind.wrap_i64]; omega
        have t5 : decide ((dl : Int) + 1 < (d : Int)) = false := by simp; omega
        have HJ := Lib.hid hJ
        have HX := Lib.hid (And.intro hnx (And.intro hsn (And.intro hd3 (And.intro hdl (And.intro hdn (And.intro hdi (And.intro hdo (And.intro hdl' hdc))))))))
        clear hok1 hnx hsn hd3 hdl hdn hdi hdo hdl' hdc hc0 hJ hown1 he
        gi_wp2_with (gi_at_builtin; refine wpListIn_append_own _ rfl _ _ 27 rfl (w6.heap.size + 2) 3 i0 (.int .i64 0) 1 8 Tryz.underlying27 hi0 hz0 hz1 hz2 rfl (by decide) (.slice da e dc) e _ rfl (HOw.out.alloc _) ⟨W.heap.size, 0, none⟩ 1 1 [.int .i64 (ai : Int)] rfl rfl ?c1 ?c2 ?c3 ?c4 ?c5 ?_)
        case c2 => rfl
        case c3 => have := HE.out.2.2; unfold maxLen; omega
        case c4 => have := HE.out.2.2; omega
        case c5 => omega
        intro v7 w7 hown7 hg7 hv7
        clear hv7
        obtain ⟨g7, cap7, rfl⟩ : ∃ g cap, v7 = .slice (some ⟨g, 0, none⟩) (e + 1) cap := by
          rcases hown7.2 with ⟨_, h0⟩ | ⟨g, cap, cur, hv, _⟩
          · omega
          · exact ⟨g, cap, hv⟩
        have hob : ∀ g, (Value.slice da e dc).ownBlock = some g → w6.heap.size + 2 ≤ g ∧ ∃ c fz, ((W.setCell ⟨w6.heap.size, ai, none⟩ (.int .i64 (d : Int))).alloc (.cells #[.int .i64 (ai : Int)] 3)).heap[g]? = some (.cells c 3 fz) := fun g hg => ⟨(HOw.out.lt g hg).1, Lib.ownsRow_kind (HOw.out.alloc _) g hg⟩
        have hJ8 := LpJ.put (v := .slice da e dc) (HJ.out.set ai d) (below_o _ (.cells #[.int .i64 (ai : Int)] 3)) hob hg7 hown7 HE.out.2.1
        have hblk : w7.heap[w6.heap.size + 1 + 1 + 1]? = some (.cells #[.slice da dl dc] 27) := by
          have h0 := HX.out.2.2.2.2.2.2.2.2
          have h1 : ((W.setCell ⟨w6.heap.size, ai, none⟩ (.int .i64 (d : Int))).alloc (.cells #[.int .i64 (ai : Int)] 3)).heap[w6.heap.size + 1 + 1 + 1]? = some (.cells #[.slice da dl dc] 27) :=
            (Below.heap_alloc _ _ _ (by simpa using hn3)).trans ((Below.heap_setCell _ _ _ _ (by show w6.heap.size + 1 + 1 + 1 ≠ w6.heap.size; omega)).trans h0)
          exact (hg7.block _ (Array.getElem?_eq_some_iff.1 h1).1 (fun e2 => by
            obtain ⟨_, c', fz, hk⟩ := hob _ e2.symm
            rw [h1] at hk
            cases hk)).trans h1
        have hkp : KeepsOthers W (w7.setCell ⟨w6.heap.size + 1 + 1 + 1, 0, none⟩ (.slice (some ⟨g7, 0, none⟩) (e + 1) cap7)) := (((KeepsOthers.setCell W _ _).trans (KeepsOthers.alloc _ _)).trans (keeps_own (HOw.out.alloc _) hg7)).trans (KeepsOthers.setCell _ _ _)
        have hbl : Below w6.heap.size W (w7.setCell ⟨w6.heap.size + 1 + 1 + 1, 0, none⟩ (.slice (some ⟨g7, 0, none⟩) (e + 1) cap7)) := ((((Below.refl w6.heap.size W).setCell (p := ⟨w6.heap.size, ai, none⟩) (Nat.le_refl _) _).alloc (by simp; omega) _).grown hg7 (by simp; omega) (fun k hk => by have := (hob k hk).1; omega)).setCell (p := ⟨w6.heap.size + 1 + 1 + 1, 0, none⟩) (by show w6.heap.size ≤ w6.heap.size + 1 + 1 + 1; omega) _
        have y7 : w7.cell? ⟨w6.heap.size + 1 + 1 + 1, 0, none⟩ = some (.slice da dl dc) := by rw [Lib.cell_of_heap hblk]; rfl
        have yf7 : w7.frozen? ⟨w6.heap.size + 1 + 1 + 1, 0, none⟩ = false := Lib.frozen_of_heap hblk 0
        have HK8 := Lib.hid (And.intro hkp hbl)
        have HJ8 : Hid (LpJ w6.heap.size w6 (snL N (pre ++ [(ai, d)])) (dpL (pre ++ [(ai, d)])) (w7.setCell ⟨w6.heap.size + 1 + 1 + 1, 0, none⟩ (.slice (some ⟨g7, 0, none⟩) (e + 1) cap7))) := by
          show LpJ _ _ _ _ _
          rw [snL_snoc, dpL_snoc]
          have h1 : dpS (dpL pre) (ai, d) = (dpL pre).take e ++ [ai] := by unfold dpS; rw [show (ai, d).2 - 1 = e by show d - 1 = e; have := HE.out.1; omega]
          rw [h1]
          exact hJ8
        clear hob hJ8 hblk hkp hbl hown7 hg7 z0 y0 yf y1 y2 yf2
        by_cases h2 : e = 0
        · have t9 : decide ((1 : Int) < (d : Int)) = false := by have := HE.out.1; simp; omega
          clear h2
          gi_wp2
          exact ⟨HK8.out.1.from _, HK8.out.2, HJ8.out⟩
        have t9 : decide ((1 : Int) < (d : Int)) = true := by have := HE.out.1; simp; omega
        obtain ⟨q, p', hq1, hq2, hq3⟩ := HX.out.2.2.1 (by show 2 ≤ d; have := HE.out.1; omega)
        have hq1 : (dpL pre)[d - 2]? = some q := hq1
        have hq3 : ai ∈ p' := hq3
        have t10 : IntKind.i64.wrap ((d : Int) - 2) = ((e - 1 : Nat) : Int) := by have := HE.out.1; rw [IntKind.wrap_i64]; omega
        have HQ := Lib.hid (And.intro hq1 (And.intro hq2 (And.intro hq3 h2)))
        clear hq1 hq2 hq3 h2
        gi_wp2
        generalize w7.setCell ⟨w6.heap.size + 1 + 1 + 1, 0, none⟩ (.slice (some ⟨g7, 0, none⟩) (e + 1) cap7) = w8 at HK8 HJ8 ⊢
        have hb68 : Below w6.heap.size w6 w8 := HJ8.out.bel
        have hbw8 : Below w.heap.size w w8 := below_t HB6.out hb68 HB6.out.size
        have z0 : w8.cell? ⟨w.heap.size, 0, none⟩ = some (.slice a N c) := by rw [Lib.cell_of_heap ((hb68.block w.heap.size (Array.getElem?_eq_some_iff.1 HCC6.out.1).1).trans HCC6.out.1)]; rfl
        obtain ⟨da8, dc8, hdc8, hdl8, _, hdi8, _⟩ := HJ8.out.deeps
        have hlen8 : (dpL (pre ++ [(ai, d)])).length = e + 1 := by
          rw [dpL_snoc]
          unfold dpS
          have h1 := HE.out.1
          have h2 := HE.out.2.1
          rw [List.length_append, List.length_take, List.length_singleton]
          show min (d - 1) (dpL pre).length + 1 = e + 1
          omega
        have hat8 : (dpL (pre ++ [(ai, d)]))[e - 1]? = some q := by
          rw [dpL_snoc]
          unfold dpS
          have h1 := HE.out.1
          have h2 := HE.out.2.1
          have h3 := HQ.out.2.2.2
          have h4 := HQ.out.1
          rw [List.getElem?_append_left (by rw [List.length_take]; show e - 1 < min (d - 1) _; omega), List.getElem?_take_of_lt (by show e - 1 < d - 1; omega), show e - 1 = d - 2 by omega]
          exact h4
        obtain ⟨rb, ro, hda8, _, hrb, hri⟩ := hdi8 (by rw [hlen8]; omega)
        subst hda8
        rw [hlen8] at hdc8 hdl8
        have y2 : w8.cell? ⟨w6.heap.size + 1 + 1 + 1, 0, none⟩ = some (.slice (some ⟨rb, ro, none⟩) (e + 1) dc8) := by rw [Lib.cell_of_heap (b := w6.heap.size + 1 + 1 + 1) hdc8]; rfl
        have y3 := hri (e - 1) q hat8
        have hqN : q < t.length := by
          have h1 := (KpsOk.of_grow HG.out.2.2.1 HG.out.2.1).1.1
          have h2 := (List.getElem?_eq_some_iff.1 HQ.out.2.1).1
          omega
        have t11 : (0 : Int) ≤ ((e - 1 : Nat) : Int) := by omega
        have t12 : ((e - 1 : Nat) : Int) < ((e + 1 : Nat) : Int) := by omega
        have HPq := Lib.hid (fun Wx (hb : Below w8.heap.size w8 Wx) => c_PartsK B t ps HG.out.1 HG.out.2.2.1 a c q p' hqN HQ.out.2.1 Wx (HEn.out.1.next ((below_t hbw8 hb hbw8.size).mono HEn.out.2.1)) (Nat.le_trans HEn.out.2.1 (below_t hbw8 hb hbw8.size).size) HEn.out.2.2.1 (HEn.out.2.2.2.1.next (below_t hbw8 hb hbw8.size)))
        obtain ⟨pl, hpl⟩ : ∃ pl, p'.length = pl := ⟨_, rfl⟩
        rw [HN.out, hpl] at HPq
        have HPL := Lib.hid hpl
        clear hb68 hbw8 hdc8 hdl8 hdi8 hlen8 hat8 hrb hri hqN hpl
        have HK8' := Lib.hid (And.intro HK8.out.1 HK8.out.2)
        gi_cut [14, 15] from 400 (fun v14 v15 wc => ∃ pa9 pc9, v14 = .slice pa9 pl pc9 ∧ v15 = .int .i64 0 ∧ Hid (IntIn any_ p' pa9 wc ∧ Below w8.heap.size w8 wc))
        case first =>
          rename_i J' K'' hJ' hK''
          gi_region_with_o (refine ⟨trivial, ?_⟩; gi_at_call 6; refine (CallsIn.inRound l (callsIn_wide.2 (calls_hid (HPq.out _ (Below.refl w8.heap.size w8).drew)))).mono ?_; intro e9 w9 hh; obtain ⟨pa9, pc9, rfl, hpi9, hb9⟩ := hh.out; have H9 := Lib.hid (And.intro hpi9 hb9); clear hh hpi9 hb9)
          all_goals
            refine hK'' _ _ (Met.intro (hJ' _ _ ?_))
            (repeat apply Exists.intro)
            exact ⟨⟨pa9, pc9, rfl, rfl, H9.out.1, below_undrew H9.out.2⟩, rfl⟩
        case rest =>
          obtain ⟨pa9, pc9, rfl, rfl, H9⟩ := hcut
          have HHas := Lib.hid (c_bHas p' pa9 pc9 ai any_ wc (by
            have h1 := HG.out.2.2.2.2.1
            exact (h1.all HG.out.2.1 _ _ HQ.out.2.1).1) H9.out.1 HQ.out.2.2.1)
          rw [HPL.out] at HHas
          gi_wp2
          refine ⟨trivial, (CallsIn.inRound l (callsIn_wide.2 (calls_hid HHas.out))).mono ?_⟩
          intro e10 w10 hh
          obtain ⟨rfl, rfl⟩ := hh.out
          gi_wp2
          exact ⟨(HK8.out.1.trans (keeps_below H9.out.2)).from _, HK8.out.2.trans (H9.out.2.mono HJ8.out.bel.size), HJ8.out.next H9.out.2⟩
      case done =>
        rintro D ys W hD rfl hJ hK
        obtain ⟨_, hok2⟩ := wkA_ok HG.out.2.2.1 HG.out.2.1
        rw [HN.out] at hok2
        have hc0 := (hJ.bel.block w.heap.size (Array.getElem?_eq_some_iff.1 HCC6.out.1).1).trans HCC6.out.1
        have z0 : W.cell? ⟨w.heap.size, 0, none⟩ = some (.slice a N c) := by rw [Lib.cell_of_heap hc0]; rfl
        have y1 : W.cell? ⟨w6.heap.size + 1, 0, none⟩ = some (.slice (some ⟨w6.heap.size, 0, none⟩) N N) := by
          have h := hJ.sc
          rw [snL_len] at h
          rw [Lib.cell_of_heap h]
          rfl
        have hbW : Below w.heap.size w W := below_t HB6.out hJ.bel HB6.out.size
        have hc1 := (hJ.bel.block (w.heap.size + 1) (Array.getElem?_eq_some_iff.1 HCC6.out.2).1).trans HCC6.out.2
        have hD1 : w.heap.size + 1 < D := by have h1 := (Array.getElem?_eq_some_iff.1 HCC6.out.2).1; have h2 := HS0.out; omega
        have HJ := Lib.hid hJ
        have HK := Lib.hid (And.intro hK (And.intro hD1 (And.intro hbW (And.intro hc1 hc0))))
        have HO2 := Lib.hid hok2
        have hLW := HLi6.out.next (w' := W)
        have HLW : Hid (LiT (sbL t fr p) va W) := fun i s hi => by
          obtain ⟨R, off, ta, tc, h1, h2, h3, h4, h5⟩ := HLi6.out i s hi
          refine ⟨R, off, ta, tc, h1, Nat.lt_of_lt_of_le h2 hJ.bel.size, (hJ.bel.cell (p := ⟨R, off + i, none⟩) h2).trans h3, h4, ?_⟩
          exact h5.next hJ.bel
        clear hok2 hc0 hJ hK hD hbW hc1 hD1 hLW
        go_wp2_with fail
        go_loopg [16] N (fun m v16 wr => ∃ i : Nat, i + m = N ∧ v16 = .int .i64 (i : Int) ∧ wr = W)
        case atStart => exact ⟨0, by omega, rfl, rfl⟩
        case round =>
          obtain ⟨i, hi, rfl, hww⟩ := hrel
          have hww := hww.symm
          subst hww
          by_cases hlt : i < N
          · have hd : decide ((i : Int) < (N : Int)) = true := by simp; omega
            obtain ⟨dd, hdd⟩ := HO2.out i hlt
            obtain ⟨y0, _⟩ := HJ.out.seen hdd
            have hne : (((dd + 1 : Nat) : Int) == 0) = false := by simp; omega
            obtain ⟨dz, hdz⟩ : ∃ dz : Int, ((dd + 1 : Nat) : Int) = dz := ⟨_, rfl⟩
            rw [hdz] at y0 hne
            have hi0 : (0 : Int) ≤ (i : Int) := by omega
            have hiN : (i : Int) < (N : Int) := by omega
            have hw1 : IntKind.i64.wrap ((i : Int) + 1) = ((i + 1 : Nat) : Int) := by have h1 := HG.out.2.1; have h2 := HN.out; rw [IntKind.wrap_i64]; omega
            have HMs : Hid (N - (i + 1) < gk ∧ i + 1 + (N - (i + 1)) = N) := ⟨by omega, by omega⟩
            clear hlt hi hdd hdz
            go_wp2_with fail
            go_roundg (N - (i + 1))
            case measure => exact HMs.out.1
            case rel => exact ⟨i + 1, HMs.out.2, rfl, rfl⟩
          · have hiN : i = N := by omega
            rw [hiN]
            have hd : decide ((N : Int) < (N : Int)) = false := by simp
            clear hlt hi hiN
            go_wp2_with fail
            go_loopg [17] k (fun m v17 wr => ∃ i : Nat, i + m = k ∧ v17 = .int .i64 (i : Int) ∧ Hid (Below W.heap.size W wr ∧ ∀ j s, j < i → (sbL t fr p)[j]? = some s → ckA wlB s = 0))
            case atStart => exact ⟨0, by omega, rfl, Below.refl _ _, fun j s hj => by omega⟩
            case round =>
              obtain ⟨i, hi, rfl, HH2⟩ := hrel
              have hbw : Below w.heap.size w wr := below_t HK.out.2.2.1 HH2.out.1 HK.out.2.2.1.size
              have hK1 : wr.heap[D]? = some (.deferred (some [])) := blk_on HK.out.1 HH2.out.1
              have hc0 := blk_on HK.out.2.2.2.2 HH2.out.1
              have hc1 := blk_on HK.out.2.2.2.1 HH2.out.1
              have hSl := HSl.out
              obtain ⟨zr, zf, zl⟩ := bool_cell hc1
              have HR := Lib.hid (And.intro hbw (And.intro hK1 (And.intro hc0 hc1)))
              clear hbw hK1 hc0 hc1
              by_cases hlt : i < k
              · have hd : decide ((i : Int) < (k : Int)) = true := by simp; omega
                obtain ⟨s, hs⟩ : ∃ s, (sbL t fr p)[i]? = some s := ⟨(sbL t fr p)[i]'(by omega), List.getElem?_eq_getElem (by omega)⟩
                obtain ⟨R, off, ta, tc, hva, hR, hcl, hs0, hTs⟩ := (HLW.out.next HH2.out.1) i s hs
                subst hva
                have HCs := Lib.hid (c_tCheck B s ta tc wr (HEn.out.1.next (HR.out.1.mono HEn.out.2.1)) (Nat.le_trans HEn.out.2.1 HR.out.1.size) (fun y hy => HEn.out.2.2.1 y (sb_mem (List.mem_of_getElem? hs) y hy)) hTs)
                obtain ⟨sl, hsl⟩ : ∃ sl, s.length = sl := ⟨_, rfl⟩
                rw [hsl] at hcl HCs
                have hi0 : (0 : Int) ≤ (i : Int) := by omega
                have hiI : (i : Int) < (k : Int) := by omega
                have hw1 : IntKind.i64.wrap ((i : Int) + 1) = ((i + 1 : Nat) : Int) := by rw [IntKind.wrap_i64]; omega
                have HMs : Hid (k - (i + 1) < gk ∧ i + 1 + (k - (i + 1)) = k) := ⟨by omega, by omega⟩
                have HSx := Lib.hid hs
                clear hs hs0 hTs hsl hlt hi hSl
                by_cases hcs : ckA wlB s = 0
                · rw [hcs] at HCs
                  go_wp2_with (go_at_call 5; refine (calls_hid HCs.out).mono ?_)
                  intro e9 w9 hh
                  obtain ⟨rfl, hb9⟩ := hh.out
                  have H9 := Lib.hid hb9
                  clear hh hb9
                  go_wp2_with fail
                  go_roundg (k - (i + 1))
                  case measure => exact HMs.out.1
                  case rel =>
                    refine ⟨i + 1, HMs.out.2, rfl, below_t HH2.out.1 H9.out HH2.out.1.size, fun j s' hj hs' => ?_⟩
                    by_cases hji : j < i
                    · exact HH2.out.2 j s' hji hs'
                    · obtain rfl : j = i := by omega
                      rw [HSx.out] at hs'
                      cases hs'
                      exact hcs
                · obtain ⟨cz, hcz⟩ : ∃ cz : Int, ((ckA wlB s : Nat) : Int) = cz := ⟨_, rfl⟩
                  have hne : (cz == 0) = false := by rw [← hcz]; simp; omega
                  have hne2 : (cz != 0) = true := by simp [bne, hne]
                  rw [hcz] at HCs
                  clear hcs hcz
                  go_wp2_with (go_at_call 5; refine (calls_hid HCs.out).mono ?_)
                  intro e9 w9 hh
                  obtain ⟨rfl, hb9⟩ := hh.out
                  obtain ⟨f1, f2, f3⟩ := fin_def (blk_on HR.out.2.2.2 hb9) (blk_on HR.out.2.1 hb9) HK.out.2.1 (below_t HR.out.1 hb9 HR.out.1.size)
                  obtain ⟨zr9, zf9, zl9⟩ := bool_cell (blk_on HR.out.2.2.2 hb9)
                  have HF := Lib.hid (And.intro f1 (And.intro f2 f3))
                  clear hh hb9 f1 f2 f3
                  go_wp2_with fail
                  refine ⟨by simp, .inl ⟨_, _, rfl, run_takeDeferred HF.out.1, ?_⟩⟩
                  have hcell := HF.out.2.1
                  exact ⟨.bool true, by simp [results, Tryz.results3, go_sem, hcell], rfl, HF.out.2.2⟩
              · have hik : i = k := by omega
                rw [hik] at HH2 ⊢
                have hd : decide ((k : Int) < (k : Int)) = false := by simp
                clear hlt hi hik
                have hSl := HSl.out
                have z0 : wr.cell? ⟨w.heap.size, 0, none⟩ = some (.slice a N c) := by rw [Lib.cell_of_heap HR.out.2.2.1]; rfl
                obtain ⟨hck, hl4, hg, hbg, hG, hfl, hfe, h0, hpN, hx, hxn, hplt, hwh⟩ := HG.out
                obtain ⟨g, off, ha, hgw, hxx⟩ := (HEn.out.2.2.2.1.next HR.out.1) h0
                subst ha
                have hx2 : t[N - 1]? = some x := by rw [← HN.out]; exact hx
                obtain ⟨xk, xn, xa, xi, xs, xt⟩ := x
                have y0 := hxx _ _ hx2 0 _ rfl
                have y1 := hxx _ _ hx2 1 _ rfl
                have y2 := hxx _ _ hx2 2 _ rfl
                have y3 := hxx _ _ hx2 3 _ rfl
                have y4 := hxx _ _ hx2 4 _ rfl
                have y5 := hxx _ _ hx2 5 _ rfl
                rw [Nat.add_zero] at y0
                have hx3 : ((sbL t fr p).length : Int) = xn := by rw [hSl]; exact hxn.symm
                have hfl2 : (sbL t fr p).flatten.length + 1 = N := by
                  have h1 := congrArg List.length hwh
                  rw [List.length_append, HN.out] at h1
                  exact h1
                have hN4 : N ≤ 4096 := by rw [← HN.out]; exact hl4
                have HBd := Lib.hid (fun Wx (hb : Below wr.heap.size wr Wx) => c_tBuild B (sbL t fr p) xk xn xa xi xs xt va vc Wx (HEn.out.1.next ((below_t HR.out.1 hb HR.out.1.size).mono HEn.out.2.1)) (Nat.le_trans HEn.out.2.1 (below_t HR.out.1 hb HR.out.1.size).size) (by omega) (by omega)
                  (fun s hs => by
                    obtain ⟨j, hj⟩ := List.getElem?_of_mem hs
                    exact ⟨HH2.out.2 j s (by have := (List.getElem?_eq_some_iff.1 hj).1; omega) hj, fun y hy => HEn.out.2.2.1 y (sb_mem hs y hy)⟩)
                  (by rw [hx3, hwh]; exact hck) (by rw [hx3, hwh]; exact HEn.out.2.2.1) ((HLW.out.next HH2.out.1).next hb))
                rw [hx3, hwh, hfl2, hSl] at HBd
                have hi0 : (0 : Int) ≤ ((N - 1 : Nat) : Int) := by omega
                have hiN : ((N - 1 : Nat) : Int) < (N : Int) := by omega
                have hN1 := HN1.out
                have hw1 : IntKind.i64.wrap ((N : Int) - 1) = ((N - 1 : Nat) : Int) := by rw [IntKind.wrap_i64]; omega
                have hgw2 : g < wr.heap.size := hgw
                have HT := Lib.hid HEn.out.2.2.2.1
                clear hck hl4 hg hbg hG hfl hfe h0 hpN hx hxn hplt hwh hxx hx2 hx3 hfl2 hSl hgw
                have hc0' := HR.out.2.2.1
                go_wp2_with (go_at_call 10; refine (calls_hid (HBd.out _ (Below.refl _ _))).mono ?_)
                intro e9 w9 hh
                obtain ⟨ba, ⟨bc, rfl⟩, hbT, hb9⟩ := hh.out
                have HSm := Lib.hid (fun Wx (hb : Below w9.heap.size w9 Wx) => c_sameT t ba (some ⟨g, off, none⟩) bc c Wx (by have := HN.out; omega) (hbT.next hb) (HT.out.next (below_t (below_t HR.out.1 hb9 HR.out.1.size) hb (below_t HR.out.1 hb9 HR.out.1.size).size)))
                rw [HN.out] at HSm
                have z0 : w9.cell? ⟨w.heap.size, 0, none⟩ = some (.slice (some ⟨g, off, none⟩) N c) := by rw [Lib.cell_of_heap (blk_on HR.out.2.2.1 hb9)]; rfl
                obtain ⟨zr9, zf9, zl9⟩ := bool_cell (blk_on HR.out.2.2.2 hb9)
                have H9 := Lib.hid (And.intro (below_t HR.out.1 hb9 HR.out.1.size) (And.intro (blk_on HR.out.2.1 hb9) (blk_on HR.out.2.2.2 hb9)))
                clear hh hbT hb9 hc0'
                go_wp2_with (go_at_call 11; refine (calls_hid (HSm.out w9 (Below.refl _ _))).mono ?_)
                intro e10 w10 hh
                obtain ⟨rfl, nn, hw10⟩ := hh.out
                have hb10 : Below w9.heap.size w9 w10 := by rw [hw10]; exact _root_.Go.below_drewN (Below.refl _ _) nn
                obtain ⟨f1, f2, f3⟩ := fin_def (blk_on H9.out.2.2 hb10) (blk_on H9.out.2.1 hb10) HK.out.2.1 (below_t H9.out.1 hb10 H9.out.1.size)
                obtain ⟨zr10, zf10, zl10⟩ := bool_cell (blk_on H9.out.2.2 hb10)
                have HF := Lib.hid (And.intro f1 (And.intro f2 f3))
                clear hh hw10 hb10 f1 f2 f3
                go_wp2_with fail
                refine ⟨by simp, .inl ⟨_, _, rfl, run_takeDeferred HF.out.1, ?_⟩⟩
                have hcell := HF.out.2.1
                exact ⟨.bool true, by simp [results, Tryz.results3, go_sem, hcell], rfl, HF.out.2.2⟩
      case stop =>
        rintro D cc pre W hD _ h _
        exact h.elim
end Go.Proofs.YtiodghbhllfhlaaGreatDoor
