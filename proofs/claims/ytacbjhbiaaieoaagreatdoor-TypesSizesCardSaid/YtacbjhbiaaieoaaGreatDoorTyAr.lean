/-
  The contract of what stands around a name, in the code.
-/
import Derived.Test.YtacbjhbiaaieoaaGreatDoorTyLr
import Derived.Test.YtacbjhbiaaieoaaGreatDoorTyDe
import Derived.Laws.AppendOwn
namespace Go.Proofs.YtacbjhbiaaieoaaGreatDoor
set_option linter.unusedVariables false
set_option linter.unusedSimpArgs false
set_option maxRecDepth 100000
open Go.RowKit

theorem nw2 (w : World) (a b : Obj) : ((w.alloc a).alloc b).heap[w.heap.size + 1]? = some b := by
  have h := heap_alloc_new (w.alloc a) b
  rw [show (w.alloc a).heap.size = w.heap.size + 1 by simp] at h
  exact h
theorem nw3 (w : World) (a b c : Obj) : (((w.alloc a).alloc b).alloc c).heap[w.heap.size + 2]? = some c := by
  have h := heap_alloc_new ((w.alloc a).alloc b) c
  rw [show ((w.alloc a).alloc b).heap.size = w.heap.size + 2 by simp] at h
  exact h
theorem nd_nV (t : Ty) (a : Option Addr) (n c : Nat) : ndV t (.slice a n c) = nV t.letter.toNat ⟨t.code.toArray⟩ t.count ⟨t.tag.toArray⟩ a n c := rfl
/-- What around answers: a row of its own, of nodes that were there. -/
def ArR (S : Nat → Prop) (t : Ty) (w : World) (e : Ending) (w' : World) : Prop :=
  ∃ (L : List (Ty × Value)) (v : Value) (a : Option Addr) (n c : Nat), e = .returned (.tuple #[v, ndV (spn t).2 (.slice a n c)]) ∧ L.map Prod.fst = (spn t).1 ∧ w'.ownsRow w.heap.size 68 5 v L.length (ndCs L) ∧ (∀ p ∈ L, Nd S w p.1 p.2) ∧ Nd S w (spn t).2 (.slice a n c) ∧ Below w.heap.size w w'
/-- While it goes inward. -/
structure ArI (S : Nat → Prop) (t : Ty) (w : World) (L : List (Ty × Value)) (v : Value) (u : Ty) (a : Option Addr) (n c : Nat) (wr : World) : Prop where
  blk : wr.heap[w.heap.size]? = some (.cells #[.int .u8 u.letter.toNat, .string ⟨u.code.toArray⟩, .int .i64 u.count, .string ⟨u.tag.toArray⟩, .slice a n c] 68)
  res : wr.heap[w.heap.size + 1]? = some zOb
  own : wr.ownsRow (w.heap.size + 2) 68 5 v L.length (ndCs L)
  kids : ∀ p ∈ L, Nd S w p.1 p.2
  node : Nd S w u (.slice a n c)
  lst : L.map Prod.fst ++ (spn u).1 = (spn t).1
  bas : (spn u).2 = (spn t).2
  bel : Below w.heap.size w wr
theorem l5_one (x : Int) (y : ByteArray) (z : Int) (nm : ByteArray) (a : Option Addr) (n c : Nat) : ∀ u ∈ [Value.int .u8 x, .string y, .int .i64 z, .string nm, .slice a n c], u.oneCell' = true := by
  intro u hu
  simp only [List.mem_cons, List.not_mem_nil, or_false] at hu
  rcases hu with rfl | rfl | rfl | rfl | rfl <;> rfl
theorem own_formA {w : World} {N : Nat} {T : TypeId} {z : Nat} {v : Value} {n : Nat} {xs : List Value} (h : w.ownsRow N T z v (n + 1) xs) : ∃ g cap, v = .slice (some ⟨g, 0, none⟩) (n + 1) cap ∧ N ≤ g ∧ n + 1 ≤ cap ∧ g < w.heap.size := by
  rcases h.2 with ⟨_, hz⟩ | ⟨g, cap, cur, hv, hb, hg, h1, _⟩
  · omega
  · exact ⟨g, cap, hv, hb, h1, (Array.getElem?_eq_some_iff.1 hg).1⟩
theorem stp_drew {g : Nat} {w w' : World} (h : Stp g w w') : Stp g w w'.drew := ⟨h.blk, h.frz, h.size, h.os, h.tape, h.output⟩
theorem five_set {w : World} {g : Nat} {a0 a1 a2 a3 a4 : Value} {T : TypeId} (h : w.heap[g]? = some (.cells #[a0, a1, a2, a3, a4] T)) (c0 c1 c2 c3 c4 : Value) :
    (((((w.setCell ⟨g, 0, none⟩ c0).setCell ⟨g, 1, none⟩ c1).setCell ⟨g, 2, none⟩ c2).setCell ⟨g, 3, none⟩ c3).setCell ⟨g, 4, none⟩ c4).heap[g]? = some (.cells #[c0, c1, c2, c3, c4] T) :=
  heap_setCell_same _ g 4 _ _ c4 (heap_setCell_same _ g 3 _ _ c3 (heap_setCell_same _ g 2 _ _ c2 (heap_setCell_same _ g 1 _ _ c1 (heap_setCell_same w g 0 _ _ c0 h))))
theorem own_low {w : World} {N : Nat} {T : TypeId} {z : Nat} {v : Value} {n : Nat} {xs : List Value} (h : w.ownsRow (N + 2) T z v n xs) : w.ownsRow N T z v n xs := by
  refine ⟨h.1, ?_⟩
  rcases h.2 with hn | ⟨g, cap, cur, hv, hb, rest⟩
  · exact .inl hn
  · exact .inr ⟨g, cap, cur, hv, by omega, rest⟩
set_option maxHeartbeats 4000000 in
theorem c_around (S : Nat → Prop) (t : Ty) (s : Value) (w : World) (hS : ∀ j, S j → j < w.heap.size) (hN : Nd S w t s) (hs : t.code.length ≤ 65536) :
    Calls Tryz.prog 88 #[ndV t s] w fun e w' => ArR S t w e w' := by
  obtain ⟨a0, c0, rfl, _⟩ := hN.sl
  have HS := Lib.hid hS
  obtain ⟨i0, hi, hz0, hz1, hz2⟩ := info_parts infoNode
  have HI : Hid (ArI S t w [] (.slice none 0 0) t a0 t.parts.length c0 ((w.alloc (.cells #[.int .u8 t.letter.toNat, .string ⟨t.code.toArray⟩, .int .i64 t.count, .string ⟨t.tag.toArray⟩, .slice a0 t.parts.length c0] 68)).alloc zOb)) :=
    ⟨(Below.heap_alloc _ _ _ (by simp)).trans (heap_alloc_new w _), nw2 w _ _, World.ownsRow_nil _ _ _ _, (fun p hp => by cases hp), hN, rfl, rfl, (below_a w _).alloc (by simp) _⟩
  rw [nd_nV]
  go_enter Tryz.func88, Tryz.ntmps88
  go_wp2_with fail
  have HT := Lib.hid (size_code t)
  have HL6 := Lib.hid hs
  have HPl := Lib.hid (parts_le)
  go_loopg [4] t.size (fun g lv wr => ∃ (L : List (Ty × Value)) (u : Ty) (a : Option Addr) (n c : Nat) (ao : Option Addr) (co : Nat), L.length + u.size ≤ t.size ∧ u.size = g ∧ n = u.parts.length ∧ lv = .slice ao L.length co ∧ Hid (ArI S t w L lv u a n c wr))
  case atStart => exact ⟨[], t, a0, _, c0, none, 0, by simp, rfl, rfl, rfl, HI.out⟩
  case round =>
    obtain ⟨L, u, a, n, c, ao, co, hsz, hg, hn, rfl, HR⟩ := hrel
    obtain ⟨n0, n1, n2, n3, n4, nf⟩ := five_cells HR.out.blk
    by_cases hp : u.parts = []
    · have hn0 : n = 0 := by rw [hn, hp]; rfl
      subst hn0
      obtain ⟨r0, r1, r2, r3, r4, rf⟩ := five_cells HR.out.res
      have rf0 := rf 0
      have rf1 := rf 1
      have rf2 := rf 2
      have rf3 := rf 3
      have rf4 := rf 4
      have HSp := Lib.hid (spn_nil hp)
      clear nf rf hp hn
      go_wp2_with fail
      go_region
      all_goals
        go_wp2_with fail
        refine bodyPost_ret (v := .tuple #[.slice ao L.length co, .agg #[.int .u8 u.letter.toNat, .string ⟨u.code.toArray⟩, .int .i64 u.count, .string ⟨u.tag.toArray⟩, .slice a 0 c]]) (by simp [results, Tryz.results88, go_sem, r0, r1, r2, r3, r4]) rfl ?_
        have hst0 := Stp.five0 (w.heap.size + 1) wr (.int .u8 u.letter.toNat) (.string ⟨u.code.toArray⟩) (.int .i64 u.count) (.string ⟨u.tag.toArray⟩) (.slice a 0 c)
        have hst : Stp (w.heap.size + 1) wr _ := stp_drew hst0
        have hN0 := HR.out.node
        have hL := HR.out.lst
        have hB := HR.out.bas
        rw [HSp.out] at hL hB
        rw [List.append_nil] at hL
        refine ⟨L, .slice ao L.length co, a, 0, c, ?_, hL, ?_, HR.out.kids, ?_, below_stp HR.out.bel hst (by omega)⟩
        · rw [← hB]
          rfl
        · exact own_far (own_low HR.out.own) (fun g hg hNg => hst.blk g (by have := (HR.out.own.lt g hg).1; omega))
        · rw [← hB]
          exact hN0
    · obtain ⟨A, u', hA, hsp, hlt⟩ := spn_cons hp
      have hn1 : n = A.length + 1 := by rw [hn, hA]; simp
      have hpos : (0 : Int) < (n : Int) := by omega
      have hus := HT.out
      have HA := Lib.hid hA
      have HSp := Lib.hid hsp
      have hwn : w.heap.size < wr.heap.size := World.block_lt_of_cell? wr ⟨w.heap.size, 0, none⟩ n0
      have HIn := Lib.hid (fun w' (hb : Below w.heap.size w w') => c_inner S u (.slice a n c) w' (Nd.mono HR.out.node (fun j hj => hj) (fun j hj => hb.block j (HS.out j hj))) A u' hA (by have := HL6.out; have := HT.out; have := HPl.out u; rw [hA] at this; simp at this; omega))
      have hmL : L.length + 1 ≤ 65536 := by have := HL6.out; have := HT.out; have h0 : 1 ≤ u'.size := (by cases u' <;> (unfold Ty.size; omega)); omega
      clear hp nf hA hsp hn hn1
      go_wp2_with (at_builtin; refine wpList_append_own _ rfl _ _ 66 rfl (w.heap.size + 2) 68 i0 (.agg #[.int .u8 0, .string ByteArray.empty, .int .i64 0, .string ByteArray.empty, .slice none 0 0]) 5 72 Tryz.underlying66 hi hz0 hz1 hz2 rfl (by decide) (.slice ao L.length co) L.length (ndCs L) rfl (HR.out.own.alloc _) ⟨wr.heap.size, 0, none⟩ 1 1 [.int .u8 u.letter.toNat, .string ⟨u.code.toArray⟩, .int .i64 u.count, .string ⟨u.tag.toArray⟩, .slice a n c] rfl rfl ?cc1 ?cc2 ?cc3 ?cc4 ?cc5 ?_)
      case cc1 => exact World.news_of_block (heap_alloc_new wr (.cells #[.int .u8 u.letter.toNat, .string ⟨u.code.toArray⟩, .int .i64 u.count, .string ⟨u.tag.toArray⟩, .slice a n c] 68))
      case cc2 => exact l5_one _ _ _ _ _ _ _
      case cc3 => unfold maxLen; omega
      case cc4 => omega
      case cc5 => have := HR.out.bel.size; have := (Array.getElem?_eq_some_iff.1 HR.out.res).1; simp; omega
      intro v1 wd hown hgrow _
      obtain ⟨gl, cap, rfl, hgN, hcap, hglt⟩ := own_formA (n := L.length) hown
      have HOw := Lib.hid hown
      have hrw : ∀ j, (Value.slice ao L.length co).ownBlock = some j → w.heap.size + 2 ≤ j := fun j hj => (HR.out.own.lt j hj).1
      have hk : ∀ j, j < wr.heap.size → j < w.heap.size + 2 → wd.heap[j]? = wr.heap[j]? := fun j hj hj2 => (hgrow.block j (by simp; omega) (fun e => by have := hrw j e.symm; omega)).trans (Below.heap_alloc _ _ _ hj)
      have HBd : Hid (Below w.heap.size w wd) := (HR.out.bel.alloc HR.out.bel.size _).grown hgrow (by have := HR.out.bel.size; simp; omega) (fun j hj => by have := hrw j hj; omega)
      have HNd : Hid (wd.heap[w.heap.size]? = _) := (hk _ hwn (by omega)).trans HR.out.blk
      have HZd : Hid (wd.heap[w.heap.size + 1]? = some zOb) := (hk _ (Array.getElem?_eq_some_iff.1 HR.out.res).1 (by omega)).trans HR.out.res
      clear hown hgrow hrw hk n0 n1 n2 n3 n4 hwn
      obtain ⟨n0, n1, n2, n3, n4, nf⟩ := five_cells HNd.out
      clear nf
      go_wp2_with fail
      refine (HIn.out _ HBd.out).mono ?_
      rintro e w5 ⟨⟨a', n', c', rfl, hn5⟩, hb⟩
      have HB5 := Lib.hid (below_on HBd.out hb HBd.out.size)
      have HN5 := Lib.hid (blk_next HNd.out hb)
      have HZ5 := Lib.hid (blk_next HZd.out hb)
      have HO5 := Lib.hid (own_far HOw.out (fun g hg _ => hb.block g (HOw.out.lt g hg).2))
      have hn5b : Nd S w u' (.slice a' n' c') := Nd.mono hn5 (fun j hj => hj) (fun j hj => (HBd.out.block j (HS.out j hj)).symm)
      have hn6 : n' = u'.parts.length := by
        obtain ⟨a6, c6, h6, _⟩ := hn5b.sl
        cases h6
        rfl
      have HN6 := Lib.hid hn5b
      clear hb hn5 hn5b n0 n1 n2 n3 n4 HIn HBd HNd HZd HOw
      obtain ⟨n0, n1, n2, n3, n4, nf⟩ := five_cells HN5.out
      have nf0 := nf 0
      have nf1 := nf 1
      have nf2 := nf 2
      have nf3 := nf 3
      have nf4 := nf 4
      clear nf
      rw [nd_nV]
      have hn7 := Lib.hid hn6
      clear hn6
      go_wp2_with fail
      have hst := Stp.five0 w.heap.size w5 (.int .u8 u'.letter.toNat) (.string ⟨u'.code.toArray⟩) (.int .i64 u'.count) (.string ⟨u'.tag.toArray⟩) (.slice a' n' c')
      have hfs := five_set HN5.out (.int .u8 u'.letter.toNat) (.string ⟨u'.code.toArray⟩) (.int .i64 u'.count) (.string ⟨u'.tag.toArray⟩) (.slice a' n' c')
      have hls := HR.out.lst
      have hbs := HR.out.bas
      rw [HSp.out] at hls hbs
      have HNew : Hid (ArI S t w (L ++ [(u, .slice a n c)]) (.slice (some ⟨gl, 0, none⟩) (L.length + 1) cap) u' a' n' c' _) :=
        ⟨hfs, (hst.blk _ (by omega)).trans HZ5.out, by
          rw [ndCs_snoc, List.length_append]
          exact own_far HO5.out (fun g hg hNg => hst.blk g (by omega)), fun p hp => by
          rcases List.mem_append.1 hp with h | h
          · exact HR.out.kids p h
          · rw [List.mem_singleton] at h
            rw [h]
            exact HR.out.node, HN6.out, by rw [← hls, List.map_append]; simp, hbs, below_stp HB5.out hst (Nat.le_refl _)⟩
      clear hst hfs hls hbs n0 n1 n2 n3 n4 nf0 nf1 nf2 nf3 nf4
      go_roundg u'.size
      case measure => omega
      case rel => exact ⟨L ++ [(u, .slice a n c)], u', a', n', c', some ⟨gl, 0, none⟩, cap, by rw [List.length_append]; simp; omega, rfl, hn7.out, by rw [List.length_append]; rfl, HNew⟩
end Go.Proofs.YtacbjhbiaaieoaaGreatDoor
