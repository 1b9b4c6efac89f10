/-
  File, in the code.
-/
import Derived.Test.YtjadckhngalmlaaGreatDoorZNmRd
import Derived.Test.YtjadckhngalmlaaGreatDoorZNmPl
namespace Go.Proofs.YtjadckhngalmlaaGreatDoor
set_option linter.unusedVariables false
set_option linter.unusedSimpArgs false
set_option maxRecDepth 100000
open Go.RowKit

theorem infoBd : (Tryz.prog.info? 49).map (fun i => (i.zero, i.size, i.bytes)) = some (some (.agg #[.int .i64 0, .int .i64 0, .string ByteArray.empty]), 3, 32) := by kernel_rfl
theorem bdCs_len (l : List BdP) : (bdCs l).length = l.length * 3 := by
  induction l with
  | nil => rfl
  | cons x l ih =>
    show (bdC x ++ bdCs l).length = _
    rw [List.length_append, ih, List.length_cons, show (bdC x).length = 3 from rfl]
    omega
theorem bdCs_snoc (l : List BdP) (x : BdP) : bdCs (l ++ [x]) = bdCs l ++ bdC x := by unfold bdCs; simp
theorem bdC_one (x : BdP) : ∀ u ∈ bdC x, u.oneCell' = true := by
  intro u hu
  simp only [bdC, List.mem_cons, List.not_mem_nil, or_false] at hu
  rcases hu with rfl | rfl | rfl <;> rfl
/-- A row's cells. -/
theorem own_cell {w : World} {base : Nat} {e : TypeId} {size : Nat} {a : Option Addr} {n c : Nat} {xs : List Value} (h : w.ownsRow base e size (.slice a n c) n xs) (h0 : 0 < n) : ∃ g, a = some ⟨g, 0, none⟩ ∧ g < w.heap.size ∧ n ≤ c ∧ ∀ (i : Nat) (u : Value), xs[i]? = some u → w.cell? ⟨g, i, none⟩ = some u := by
  rcases h.2 with ⟨_, h1⟩ | ⟨g, cap, cur, h1, h2, h3, h4, h5, h6, h7⟩
  · omega
  · injection h1 with h1 _ h8
    subst h1 h8
    refine ⟨g, rfl, (Array.getElem?_eq_some_iff.1 h3).1, h4, fun i u hi => ?_⟩
    have h9 := h.cells (g := g) rfl i u hi
    have ea : (⟨g, 0, none⟩ : Addr).add i = ⟨g, 0 + i, none⟩ := by unfold Addr.add; split <;> simp_all
    rw [ea, Nat.zero_add] at h9
    exact h9
theorem usC_at {l : List (List UInt8)} {k : Nat} {nm : List UInt8} (h : l[k]? = some nm) : (usC l)[k]? = some (nmS nm) := by unfold usC; rw [List.getElem?_map, h]; rfl
set_option maxHeartbeats 4000000 in
theorem c_fBindings {w0 : World} {Fb : Nat} {f : FlP} {p : Option Addr} {L : List ScM} {ov fv : Value} {css : List (List Value)} {K : Nat} (hn : ∀ nm ∈ f.order, nm.length ≤ 9223372036854775807) (ho : f.order.length ≤ 1000000) (w : World) (h : FlM w0 Fb f p L ov fv css K w) :
    Calls Tryz.prog 19 #[.pointer (some ⟨Fb, 0, none⟩)] w fun e w' => (∃ v, e = .returned v ∧ w'.ownsRow w.heap.size 49 3 v f.order.length (bdCs (f.order.map f.find))) ∧ Below w.heap.size w w' := by
  have HF := Lib.hid (fun w' (hb : Below w.heap.size w w') => h.next hb)
  have HC := Lib.hid (fun nm (hm : nm ∈ f.order) w' (hb : Below w.heap.size w w') => c_fName nm (hn nm hm) w' (h.next hb))
  obtain ⟨i0, hi, hz0, hz1, hz2⟩ := info_parts infoBd
  obtain ⟨oa, oc, hov⟩ := own_slice h.oo
  subst hov
  obtain ⟨N, hN⟩ : ∃ N, f.order.length = N := ⟨_, rfl⟩
  have HL := Lib.hid (And.intro hN ho)
  obtain ⟨z0, z1, z2, z3, zf⟩ := cells4 h.blk
  have hl := (Array.getElem?_eq_some_iff.1 h.blk).1
  rw [hN] at z2 ⊢
  clear h hn ho hN zf
  go_enter Tryz.func19, Tryz.ntmps19
  go_wp2_with fail
  go_loopg [3, 11] N (fun g v3 v11 wr => ∃ (q : Nat) (ao : Option Addr) (co : Nat), q + g = N ∧ v11 = .int .i64 (q : Int) ∧ v3 = .slice ao q co ∧ Hid (Below w.heap.size w wr ∧ wr.ownsRow w.heap.size 49 3 (.slice ao q co) q (bdCs ((f.order.take q).map f.find))))
  case atStart => exact ⟨0, none, 0, by omega, rfl, rfl, Lib.hid ⟨Below.refl _ _, World.ownsRow_nil _ _ _ _⟩⟩
  case round =>
    obtain ⟨q, va, vc, hq, rfl, rfl, HI⟩ := hrel
    by_cases hlt : q < N
    · have hd : decide ((q : Int) < (N : Int)) = true := by simp; omega
      obtain ⟨nm, hnm⟩ : ∃ nm, f.order[q]? = some nm := ⟨_, List.getElem?_eq_getElem (by have := HL.out; omega)⟩
      have HNm := Lib.hid hnm
      obtain ⟨og, hoa, hogl, hNc, hcell⟩ := own_cell (HF.out wr HI.out.1).oo (by have := HL.out; omega)
      subst hoa
      have c0 := hcell q _ (usC_at hnm)
      have hq0 : (0 : Int) ≤ (q : Int) := by omega
      have hqN : (q : Int) < (N : Int) := by omega
      clear hcell hnm
      go_wp2_with fail
      refine (HC.out nm (List.mem_of_getElem? HNm.out) wr HI.out.1).mono ?_
      rintro e w1 ⟨rfl, hb⟩
      obtain ⟨b, hbv⟩ : ∃ b, f.find nm = b := ⟨_, rfl⟩
      have HBv := Lib.hid hbv
      have HB1 := Lib.hid (below_t HI.out.1 hb HI.out.1.size)
      have HA := Lib.hid (below_t HB1.out (below_o w1 (.cells #[.int .i64 b.kind, .int .i64 (b.idx : Int), .string ⟨b.type.toArray⟩] 49)) HB1.out.size)
      have HOr : Hid ((w1.alloc (.cells #[.int .i64 b.kind, .int .i64 (b.idx : Int), .string ⟨b.type.toArray⟩] 49)).ownsRow w.heap.size 49 3 (.slice va q vc) q (bdCs ((f.order.take q).map f.find))) := own_on (own_on HI.out.2 hb) (below_o _ _)
      rw [hbv]
      unfold bdV
      clear hb hbv hd c0 hogl hNc
      go_wp2_with (at_builtin; refine wpList_append_lies _ rfl _ _ 29 rfl w.heap.size 49 i0 (.agg #[.int .i64 0, .int .i64 0, .string ByteArray.empty]) 3 32 Tryz.underlying29 hi hz0 hz1 hz2 rfl (by decide) (.slice va q vc) q (bdCs ((f.order.take q).map f.find)) rfl (by exact HOr.out) ⟨w1.heap.size, 0, none⟩ 1 1 (bdC b) rfl rfl ?cc1 ?cc2 (by decide) ?cc3 ?cc4 ?cc5 (w1.heap.size + 1) ?cc6 ?_)
      case cc1 =>
        intro j u hj
        exact World.news_of_block (heap_alloc_new w1 (.cells #[.int .i64 b.kind, .int .i64 (b.idx : Int), .string ⟨b.type.toArray⟩] 49)) j u (by simpa [bdC] using hj)
      case cc2 => exact bdC_one b
      case cc3 => have := HL.out; unfold maxLen; omega
      case cc4 => have := HL.out; omega
      case cc5 => exact HA.out.size
      case cc6 => simp
      intro g6 cap6 w6 hown6 hgrow6 hat6 hlt6
      have HO6 : Hid (Below w.heap.size w w6 ∧ w6.ownsRow w.heap.size 49 3 (.slice (some ⟨g6, 0, none⟩) (q + 1) cap6) (q + 1) (bdCs ((f.order.take (q + 1)).map f.find))) := by
        refine ⟨HA.out.grown hgrow6 HA.out.size (fun k hk => (HOr.out.lt k hk).1), ?_⟩
        rw [List.take_add_one, HNm.out, List.map_append, show ((some nm).toList.map f.find) = [b] by simp [HBv.out], bdCs_snoc, List.map_take]
        exact hown6
      clear hown6 hgrow6 hat6
      have hwq : wrap64 ((q : Int) + 1) = ((q + 1 : Nat) : Int) := by have := HL.out; unfold wrap64; omega
      go_wp2_with fail
      go_roundg (N - (q + 1))
      case measure => omega
      case rel => exact ⟨q + 1, _, _, by omega, by rw [hwq], rfl, HO6⟩
    · have hd : decide ((q : Int) < (N : Int)) = false := by simp; omega
      have hqN : q = N := by omega
      subst hqN
      go_wp2_with fail
      go_ret
      refine ⟨⟨_, rfl, ?_⟩, HI.out.1⟩
      have := HI.out.2
      rw [List.take_of_length_le (by have := HL.out; omega)] at this
      exact this
end Go.Proofs.YtjadckhngalmlaaGreatDoor
namespace Go.Proofs.YtjadckhngalmlaaGreatDoor
set_option linter.unusedVariables false
set_option linter.unusedSimpArgs false
set_option maxRecDepth 100000
open Go.RowKit

/-- What File answers. -/
def FiT (u : UnP) (w : World) (e : Ending) (w' : World) : Prop :=
  (((rdA u).1.2 = 0 ∧ ∃ bv ov, e = .returned (.tuple #[bv, ov, faV 0 0]) ∧ w'.ownsRow w.heap.size 49 3 bv (rdA u).2.order.length (bdCs ((rdA u).2.order.map (rdA u).2.find)) ∧ w'.ownsRow w.heap.size 9 1 ov (rdA u).2.order.length (usC (rdA u).2.order)) ∨ ((rdA u).1.2 ≠ 0 ∧ e = .returned (.tuple #[.slice none 0 0, .slice none 0 0, faV (rdA u).1.1 ((rdA u).1.2 : Nat)]))) ∧ Below w.heap.size w w'
theorem own_base {w : World} {base base' : Nat} {e : TypeId} {size : Nat} {v : Value} {n : Nat} {xs : List Value} (h : w.ownsRow base e size v n xs) (hb : base' ≤ base) : w.ownsRow base' e size v n xs := by
  refine ⟨h.1, ?_⟩
  rcases h.2 with h1 | ⟨g, cap, cur, h1, h2, h3⟩
  · exact .inl h1
  · exact .inr ⟨g, cap, cur, h1, Nat.le_trans hb h2, h3⟩
set_option maxHeartbeats 4000000 in
theorem c_File (B : Nat) (u : UnP) (p : UnS) (hU : UnOk u) (w : World) (hE : Env B w) (hB : B ≤ w.heap.size) (hI : UnIn u p w) :
    Calls Tryz.prog 9 #[unV u p] w fun e w' => FiT u w e w' := by
  have HC := Lib.hid (fun w' (hb : Below w.heap.size w w') => c_read B u p hU w' (hE.next (hb.mono hB)) (Nat.le_trans hB hb.size) (hI.next hb))
  have HO := Lib.hid (fun (h : (rdA u).1.2 = 0) => And.intro ((rdA_of h).1.names hU) (rdA_of h).2)
  unfold FiT
  unfold RdT at HC
  obtain ⟨ra, hra⟩ : ∃ ra, rdA u = ra := ⟨_, rfl⟩
  rw [hra] at HC HO ⊢
  obtain ⟨S, G, F⟩ := u
  obtain ⟨sa, sc, ga, gc, fa, fc⟩ := p
  obtain ⟨⟨gat, ge⟩, f⟩ := ra
  simp only [unV] at HC HO ⊢
  clear hE hB hI hU hra
  go_enter Tryz.func9, Tryz.ntmps9
  go_wp2_with fail
  have hb0 : Below w.heap.size w ((w.alloc (.cells #[.slice sa S.length sc, .slice ga G.length gc, .slice fa F.length fc] 26)).alloc (.cells #[.int .i64 0, .int .i64 0] 32)) := below_t (below_o _ _) (below_o _ _) (by simp)
  refine (HC.out _ hb0).mono ?_
  rintro e w1 ⟨hrd, hb⟩
  have HB1 := Lib.hid (below_t hb0 hb hb0.size)
  have HZ1 := Lib.hid (blk_on (heap_alloc_at (w := w.alloc (.cells #[.slice sa S.length sc, .slice ga G.length gc, .slice fa F.length fc] 26)) _ (w.heap.size + 1) (by simp)) hb)
  clear hb hb0
  obtain ⟨RB, hRB⟩ : ∃ RB, w.heap.size + 1 = RB := ⟨_, rfl⟩
  have HUR := Lib.hid hRB
  have HZ1' : Hid (w1.heap[RB]? = some (.cells #[.int .i64 0, .int .i64 0] 32)) := by rw [← hRB]; exact HZ1.out
  rw [hRB]
  clear hRB HZ1
  obtain ⟨z0, z1, zf⟩ := two_cells HZ1'.out
  have zf0 := zf 0
  have zf1 := zf 1
  have hzl := (Array.getElem?_eq_some_iff.1 HZ1'.out).1
  clear zf
  rcases hrd with ⟨rfl, Fb, p, L, ov, fv, css, K, rfl, hF, hK⟩ | ⟨hne, rfl⟩
  · have HZ2 := Lib.hid (And.intro hF hK)
    have HLw := Lib.hid (HO.out rfl)
    obtain ⟨y0, y1, y2, y3, _⟩ := cells4 hF.blk
    have hyl := (Array.getElem?_eq_some_iff.1 hF.blk).1
    have HCb : Hid (∀ W, Below w1.heap.size w1 W → Calls Tryz.prog 19 #[.pointer (some ⟨Fb, 0, none⟩)] W fun e w' => (∃ v, e = .returned v ∧ w'.ownsRow W.heap.size 49 3 v f.order.length (bdCs (f.order.map f.find))) ∧ Below W.heap.size W w') :=
      fun W hW => c_fBindings HLw.out.1 (by have := HLw.out.2.1; omega) W (hF.next hW)
    clear hF hK HC HO
    go_wp2_with fail
    obtain ⟨w2, hw2⟩ : ∃ w2, w1.alloc (.cells #[.int .i64 0, .int .i64 0] 32) = w2 := ⟨_, rfl⟩
    have HB2 : Hid (Below w1.heap.size w1 w2) := by rw [← hw2]; exact below_o _ _
    rw [hw2]
    obtain ⟨FZ, hFZ⟩ : ∃ FZ, w1.heap.size = FZ := ⟨_, rfl⟩
    have HFZ := Lib.hid hFZ
    rw [hFZ]
    clear hw2 hFZ z0 z1 zf0 zf1 hzl y0 y1 y2 y3 hyl
    have hb1 := HB2.out.drew
    have hF3 := HZ2.out.1.next hb1
    have hz3 := blk_on HZ1'.out hb1
    obtain ⟨z0, z1, zf⟩ := two_cells hz3
    have zf0 := zf 0
    have zf1 := zf 1
    have hzl := (Array.getElem?_eq_some_iff.1 hz3).1
    obtain ⟨y0, y1, y2, y3, _⟩ := cells4 hF3.blk
    have hyl := (Array.getElem?_eq_some_iff.1 hF3.blk).1
    have HW3 := Lib.hid (And.intro hb1 (And.intro hF3 hz3))
    clear hb1 hF3 hz3 zf
    go_region_law (first | (go_simp; go_at_call 19; refine (HCb.out _ HW3.out.1).mono ?_; rintro e w4 ⟨⟨bv, rfl, hbv⟩, hb4⟩; have HB4 := Lib.hid (And.intro hbv hb4); have y2' := (hb4.cell hyl).trans y2; have hzl' := Nat.lt_of_lt_of_le hzl hb4.size; have z0' := (hb4.cell hzl).trans z0; have z1' := (hb4.cell hzl).trans z1; have zf0' := (hb4.frozen hzl).trans zf0; have zf1' := (hb4.frozen hzl).trans zf1; clear hbv hb4))
    all_goals
      go_wp2_with fail
      have hbx := below_t HW3.out.1 HB4.out.2 HW3.out.1.size
      have hzx := blk_on HZ1'.out hbx
      have hbw := below_t HB1.out hbx HB1.out.size
      have hz9 := two_put hzx (.int .i64 0) (.int .i64 0)
      have hb9 := two_below hbw (show w.heap.size ≤ RB by have := HUR.out; omega) (.int .i64 0) (.int .i64 0)
      have hx1 := heap_setCell_same w4 RB 0 _ _ (.int .i64 0) hzx
      have ho9 := nm_set (nm_set (own_base (HZ2.out.1.next hbx).oo (show w.heap.size ≤ _ by simp; omega)) hzx (by decide) 0 (.int .i64 0)) hx1 (by decide) 1 (.int .i64 0)
      have hv9 := nm_set (nm_set (own_base HB4.out.1 (show w.heap.size ≤ w2.drew.heap.size from Nat.le_trans HB1.out.size HW3.out.1.size)) hzx (by decide) 0 (.int .i64 0)) hx1 (by decide) 1 (.int .i64 0)
      clear hx1
      generalize (w4.setCell ⟨RB, 0, none⟩ (.int .i64 0)).setCell ⟨RB, 1, none⟩ (.int .i64 0) = w9 at hz9 hb9 ho9 hv9 ⊢
      obtain ⟨p0, p1, _⟩ := two_cells hz9
      refine bodyPost_ret (v := .tuple #[bv, ov, faV 0 0]) (by simp [results, Tryz.results9, go_sem, p0, p1]) rfl ?_
      exact ⟨⟨_, _, rfl, hv9, ho9⟩, hb9⟩
  · obtain ⟨gei, hgei⟩ : ∃ x : Int, ((ge : Nat) : Int) = x := ⟨_, rfl⟩
    have HGe := Lib.hid (And.intro hgei hne)
    have hne2 : (gei != 0) = true := by simp; omega
    rw [hgei]
    clear hne hgei
    go_wp2_with fail
    have hz9 := blk_on (two_put HZ1'.out (.int .i64 gat) (.int .i64 gei)) ((below_o _ (.cells #[.int .i64 gat, .int .i64 gei] 32)).drew)
    have hb9 := ((two_below HB1.out (show w.heap.size ≤ RB by have := HUR.out; omega) (.int .i64 gat) (.int .i64 gei)).alloc (by simpa using HB1.out.size) (.cells #[.int .i64 gat, .int .i64 gei] 32)).drew
    go_region
    all_goals
      go_wp2_with fail
      generalize (((w1.setCell ⟨RB, 0, none⟩ (.int .i64 gat)).setCell ⟨RB, 1, none⟩ (.int .i64 gei)).alloc (.cells #[.int .i64 gat, .int .i64 gei] 32)).drew = w9 at hz9 hb9 ⊢
      obtain ⟨p0, p1, _⟩ := two_cells hz9
      refine bodyPost_ret (v := .tuple #[.slice none 0 0, .slice none 0 0, faV gat gei]) (by simp [results, Tryz.results9, go_sem, p0, p1]) rfl ?_
      exact ⟨.inr ⟨HGe.out.2, by rw [HGe.out.1]⟩, hb9⟩
end Go.Proofs.YtjadckhngalmlaaGreatDoor
