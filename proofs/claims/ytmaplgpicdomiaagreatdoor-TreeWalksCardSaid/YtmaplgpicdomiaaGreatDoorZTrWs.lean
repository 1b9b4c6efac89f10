/-
  Copies of whole numbers, held against each other; a copy of a row of numbers.
-/
import Derived.Test.YtmaplgpicdomiaaGreatDoorZTrWu
import Derived.Test.YtmaplgpicdomiaaGreatDoorZTrRq
namespace Go.Proofs.YtmaplgpicdomiaaGreatDoor
set_option linter.unusedVariables false
set_option linter.unusedSimpArgs false
set_option maxRecDepth 100000
open Go.RowKit

/-- What Walk answers. -/
def WaT (t : List NdT) (w : World) (e : Ending) (w' : World) : Prop :=
  ((ckA wlB t = 0 ∧ t.length ≤ 4096 ∧ ∃ P ps, grow t = some ps ∧ e = .returned (.tuple #[.func (.func 30) #[.slice (some ⟨P, 0, none⟩) t.length t.length] #[], .int .i64 0]) ∧ PtIn (fun b => w.heap.size ≤ b) ps P w' ∧ w.heap.size ≤ P) ∨ (ckA wlB t ≠ 0 ∧ e = .returned (.tuple #[.nilFunc, .int .i64 (ckA wlB t : Nat)]))) ∧ Below w.heap.size w w'
set_option maxHeartbeats 4000000 in
theorem c_tWalk (B : Nat) (t : List NdT) (a : Option Addr) (c : Nat) (w : World) (hE : Env B w) (hB : B ≤ w.heap.size) (ho : ∀ x ∈ t, NdOk x) (hT : TrIn t a w) :
    Calls Tryz.prog 17 #[.slice a t.length c] w fun e w' => WaT t w e w' := by
  have HT := Lib.hid (c_tkTree B t a c w hE hB ho hT)
  obtain ⟨N, hN⟩ : ∃ N, t.length = N := ⟨_, rfl⟩
  unfold TkT at HT
  have HN := Lib.hid hN
  rw [hN] at HT ⊢
  clear hE ho hT hN
  go_enter Tryz.func17, Tryz.ntmps17
  go_wp2_with fail
  refine HT.out.mono ?_
  rintro e w1 ⟨hr, hb⟩
  have HB1 := Lib.hid hb
  clear hb HT
  rcases hr with ⟨h0, hl, P, ps, hg, rfl, hPt, hP⟩ | ⟨h0, rfl⟩
  · have HQ := Lib.hid (And.intro h0 (And.intro hl (And.intro hg (And.intro hPt hP))))
    clear h0 hl hg hPt hP
    go_wp2_with fail
    go_ret2
    exact ⟨.inl ⟨HQ.out.1, by rw [HN.out]; exact HQ.out.2.1, P, ps, HQ.out.2.2.1, by rw [HN.out]; rfl, HQ.out.2.2.2.1.next (below_o _ _), HQ.out.2.2.2.2⟩, HB1.out.alloc HB1.out.size _⟩
  · have HC0 := Lib.hid h0
    obtain ⟨ck, hck⟩ : ∃ ck : Int, ((ckA wlB t : Nat) : Int) = ck := ⟨_, rfl⟩
    have hne : (ck == 0) = false := by rw [← hck]; simp; omega
    have HCK := Lib.hid hck
    rw [hck]
    clear h0 hck
    go_wp2_with fail
    go_ret2
    exact ⟨.inr ⟨HC0.out, by rw [HCK.out]; rfl⟩, HB1.out.alloc HB1.out.size _⟩
end Go.Proofs.YtmaplgpicdomiaaGreatDoor

namespace Go.Proofs.YtmaplgpicdomiaaGreatDoor
set_option linter.unusedVariables false
set_option linter.unusedSimpArgs false
set_option maxRecDepth 100000
open Go.RowKit
attribute [local go_sem] Oper.semAt_some

/-- Whole numbers lie in a row. -/
def IzIn (p : List Int) (a : Option Addr) (w : World) : Prop := 0 < p.length → ∃ b off, a = some ⟨b, off, none⟩ ∧ b < w.heap.size ∧ ∀ (k : Nat) (q : Int), p[k]? = some q → w.cell? ⟨b, off + k, none⟩ = some (.int .i64 q)
theorem IzIn.next {p : List Int} {a : Option Addr} {w w' : World} (h : IzIn p a w) (hb : Below w.heap.size w w') : IzIn p a w' := fun h0 => by
  obtain ⟨b, off, h1, h2, h3⟩ := h h0
  exact ⟨b, off, h1, Nat.lt_of_lt_of_le h2 hb.size, fun k q hk => (blk_cell (hb.block b h2) _).trans (h3 k q hk)⟩
theorem c_conI (ks : List Int) (a : Option Addr) (c : Nat) (x : Int) (w : World) (hl : ks.length ≤ 9223372036854775807) (h : IzIn ks a w) :
    Calls Tryz.prog 28 #[.slice a ks.length c, .int .i64 x] w fun e w' => e = .returned (.bool (ks.contains x)) ∧ w' = w := by
  by_cases h0 : ks.length = 0
  · obtain rfl : ks = [] := List.length_eq_zero_iff.1 h0
    exact (Any.slices_Contains_int_empty Tryz.lays107 a c x w)
  · obtain ⟨b, off, rfl, _, hx⟩ := h (by omega)
    refine (Any.slices_Contains_int Tryz.lays107 b off ks.length c ks x w (Nat.le_refl _) hl ?_).mono fun e w' ⟨he, hw⟩ => ⟨by rw [he, List.take_length], hw⟩
    intro j hj
    rw [hx j ks[j] (List.getElem?_eq_getElem hj), List.getD_eq_getElem?_getD, List.getElem?_eq_getElem hj]
    rfl
/-- Is the node at a place of one of the kinds (of any, where none is named)? -/
def kdB (ks : List Int) (t : List NdT) (j : Nat) : Bool := (ks.length == 0) || ks.contains ((t[j]?.map NdT.kind).getD 0)
def ctA (ks : List Int) (t : List NdT) (l : List (Nat × Nat)) : Nat := l.countP fun x => kdB ks t (min x.1 (t.length - 1))
theorem ct_snoc (ks : List Int) (t : List NdT) (l : List (Nat × Nat)) (x : Nat × Nat) : ctA ks t (l ++ [x]) = ctA ks t l + if kdB ks t (min x.1 (t.length - 1)) then 1 else 0 := by
  unfold ctA
  rw [List.countP_append, List.countP_singleton]
theorem ct_le (ks : List Int) (t : List NdT) (l : List (Nat × Nat)) : ctA ks t l ≤ l.length := List.countP_le_length
/-- How many nodes are of the kinds, in order. -/
def cntA (ks : List Int) (t : List NdT) : Nat := (List.range t.length).countP (kdB ks t)
theorem KpsOk.of_grow {t : List NdT} {ps : List (List Nat)} (h : grow t = some ps) (hl : t.length ≤ 4096) : KpsOk ps t.length ∧ 0 < t.length ∧ (wkA ps).length = t.length ∧ (∀ x ∈ wkA ps, x.1 < t.length) ∧ ∀ ks, ctA ks t (wkA ps) = cntA ks t := by
  obtain ⟨fr, hbg, hG, hfl, hfe⟩ := grow_psG h
  obtain ⟨h0, hr⟩ := grow_root h hbg
  have hk : KpsOk ps t.length := ⟨hG.1, hl, hG.all hl⟩
  have hwc := fun P => wk_count hG hfl hfe P (t.length - 1 + 1) (t.length - 1) 1 0 (by omega) (by omega) hr
  have hwA : wkA ps = wk ps (t.length - 1 + 1) (t.length - 1) 1 := by unfold wkA; rw [hG.1]
  rw [show t.length - 1 + 1 = t.length by omega] at hwc hwA
  have hlen : (wkA ps).length = t.length := by
    have h1 := hwc (fun _ => true)
    rw [List.countP_true, cnR_zero_len] at h1
    rw [hwA]
    exact h1
  have hmem : ∀ x ∈ wkA ps, x.1 < t.length := by
    have h1 := hwc (fun j => decide (j < t.length))
    have h2 : cnR (fun j => decide (j < t.length)) 0 t.length = t.length := by
      unfold cnR
      rw [List.countP_eq_length.2, List.length_range', Nat.sub_zero]
      intro j hj
      rw [List.mem_range'_1] at hj
      simpa using hj.2
    rw [h2, ← hwA] at h1
    have h3 := List.countP_eq_length.1 (h1.trans hlen.symm)
    intro x hx
    simpa using h3 x hx
  refine ⟨hk, h0, hlen, hmem, fun ks => ?_⟩
  have h1 := hwc (kdB ks t)
  rw [← hwA] at h1
  unfold ctA cntA
  have h2 : cnR (kdB ks t) 0 t.length = (List.range t.length).countP (kdB ks t) := by unfold cnR; rw [Nat.sub_zero, ← List.range_eq_range']
  rw [← h2, ← h1]
  refine List.countP_congr fun x hx => ?_
  have := hmem x hx
  rw [show min x.1 (t.length - 1) = x.1 by omega]
set_option maxHeartbeats 4000000 in
theorem c_tCount (B : Nat) (t : List NdT) (a : Option Addr) (c : Nat) (ks : List Int) (ka : Option Addr) (kc : Nat) (w : World) (hE : Env B w) (hB : B ≤ w.heap.size) (ho : ∀ x ∈ t, NdOk x) (hT : TrIn t a w) (hkl : ks.length ≤ 9223372036854775807) (hK : IzIn ks ka w) :
    Calls Tryz.prog 15 #[.slice a t.length c, .slice ka ks.length kc] w fun e w' => e = .returned (.tuple #[.int .i64 (if ckA wlB t = 0 then (cntA ks t : Int) else 0), .int .i64 (ckA wlB t : Nat)]) ∧ Below w.heap.size w w' := by
  obtain ⟨N, hN⟩ : ∃ N, t.length = N := ⟨_, rfl⟩
  obtain ⟨kn, hkn⟩ : ∃ kn, ks.length = kn := ⟨_, rfl⟩
  have HW : Hid (∀ W, Below w.heap.size w W → Calls Tryz.prog 17 #[.slice a N c] W fun e w' => WaT t W e w') := fun W hb => by
    have h := c_tWalk B t a c W (hE.next (hb.mono hB)) (Nat.le_trans hB hb.size) ho (hT.next hb)
    rw [hN] at h
    exact h
  have HCo : Hid (∀ x W, IzIn ks ka W → Calls Tryz.prog 28 #[.slice ka kn kc, .int .i64 x] W fun e w' => e = .returned (.bool (ks.contains x)) ∧ w' = W) := fun x W hk => by
    have h := c_conI ks ka kc x W hkl hk
    rw [hkn] at h
    exact h
  obtain ⟨rz, hrz⟩ : ∃ rz : Int, (if ckA wlB t = 0 then (cntA ks t : Int) else 0) = rz := ⟨_, rfl⟩
  obtain ⟨cz, hcz⟩ : ∃ cz : Int, ((ckA wlB t : Nat) : Int) = cz := ⟨_, rfl⟩
  have HRZ := Lib.hid (And.intro hrz hcz)
  rw [hrz, hcz]
  clear hrz hcz
  have HN := Lib.hid hN
  have HKN := Lib.hid hkn
  have HT := Lib.hid hT
  have HK := Lib.hid hK
  have HKL := Lib.hid hkl
  rw [hN, hkn]
  clear hE ho hT hK hkl hN hkn
  refine callsIn_wide (n := 5) |>.1 ?_
  refine callsIn_of_wp_marks Tryz.func15 rfl trivial ?_ rfl
  simp only [Tryz.ntmps15, List.size_toArray, List.length_cons, List.length_nil, Nat.reduceAdd, Nat.reduceSub, Array.replicate_succ, Array.replicate_zero, List.push_toArray, List.append_toArray, List.nil_append, List.cons_append]
  gi_wp2
  have hb0 : Below w.heap.size w ((w.alloc (.cells #[.slice a N c] 23)).alloc (.cells #[.slice ka kn kc] 27)) := ((Below.refl _ w).alloc (Nat.le_refl _) _).alloc (by simp) _
  have hs0 : ((w.alloc (.cells #[.slice a N c] 23)).alloc (.cells #[.slice ka kn kc] 27)).heap.size = w.heap.size + 2 := by simp
  have hc0 : ((w.alloc (.cells #[.slice a N c] 23)).alloc (.cells #[.slice ka kn kc] 27)).heap[w.heap.size]? = some (.cells #[.slice a N c] 23) := blk_on (heap_alloc_at (w := w) _ _ rfl) (below_o _ _)
  have hc1 : ((w.alloc (.cells #[.slice a N c] 23)).alloc (.cells #[.slice ka kn kc] 27)).heap[w.heap.size + 1]? = some (.cells #[.slice ka kn kc] 27) := heap_alloc_at _ _ (by simp)
  generalize (w.alloc (.cells #[.slice a N c] 23)).alloc (.cells #[.slice ka kn kc] 27) = w1 at hb0 hs0 hc0 hc1 ⊢
  refine ⟨trivial, (callsIn_wide.2 (HW.out w1 hb0)).mono ?_⟩
  rintro e w2 ⟨hr, hb⟩
  have HB2 := Lib.hid (below_t hb0 hb hb0.size)
  have HC0 := Lib.hid (blk_on hc0 hb)
  have HC1 := Lib.hid (blk_on hc1 hb)
  clear hb hc0 hc1 hb0 HW
  rcases hr with ⟨h0, hl, P, ps, hg, rfl, hPt, hP⟩ | ⟨h0, rfl⟩
  · obtain ⟨hkps, hN0, hwl, hwm, hct⟩ := KpsOk.of_grow hg hl
    rw [HN.out] at hkps hN0 hl ⊢
    have hkp0 := Lib.hid (And.intro hkps (And.intro hwl (And.intro hwm (And.intro hct (And.intro h0 (And.intro hg hl))))))
    have HP := Lib.hid (And.intro hPt hP)
    clear hkps hwl hwm hct h0 hg hPt hP hl
    have hz2 := HC0.out
    have HN0 := Lib.hid hN0
    gi_wp2
    -- THE LOOP
    have hsz : w.heap.size + 2 ≤ w2.heap.size := by
      have h1 := (Array.getElem?_eq_some_iff.1 HC1.out).1
      omega
    have hnb := heap_alloc_at (w := w2) (.cells #[.int .i64 0] 3) _ rfl
    have hB3 : Below w2.heap.size w2 (w2.alloc (.cells #[.int .i64 0] 3)) := below_o _ _
    have hs3 : (w2.alloc (.cells #[.int .i64 0] 3)).heap.size = w2.heap.size + 1 := by simp
    generalize w2.alloc (.cells #[.int .i64 0] 3) = w3 at hnb hB3 hs3 ⊢
    have hPB : PtB w2.heap.size ps P w3 := ⟨HP.out.1.lt, HP.out.1.mono hB3.size (hB3.block P HP.out.1.lt) fun b hS hlt => ⟨hlt, hB3.block b hlt⟩⟩
    have hgo := all_goes Fence.wide rfl trivial trivial rfl 4 w2.heap.size N P ps hkp0.out.1 HN0.out w3 (by omega) hPB
    refine range_bound rfl rfl (gf := 30) (bd := .slice (some ⟨P, 0, none⟩) N N) rfl trivial (enters_of Tryz.func30 (by kernel_rfl) rfl) (n₀ := w2.heap.size) (by omega) hgo (fun x => rfl)
      (fun pre W => (W.cell? ⟨w2.heap.size, 0, none⟩ = some (.int .i64 (ctA ks t pre : Nat)) ∧ W.frozen? ⟨w2.heap.size, 0, none⟩ = false) ∧ Below w2.heap.size w2 W)
      (fun _ _ _ => False)
      (OwnFrom.and (Own.from (fun s A B row hs hg hr => ⟨cell_kept hs.1 hg hr, (frozen_kept hs.1 hg hr).trans hs.2⟩) _) (ownFrom_below (Nat.le_refl _) (by omega)))
      (fun _ _ _ _ _ hs _ _ => hs)
      ⟨⟨by rw [Lib.cell_of_heap hnb]; rfl, Lib.frozen_of_heap hnb 0⟩, hB3⟩
      _ (by
        intro l x W K hK
        gi_wp2
        exact hK) ?body ?done ?stop
    case body =>
      rintro l pre x W ⟨⟨hc, hf⟩, hBW⟩ hlen
      obtain ⟨i, hi⟩ : ∃ i, min x.1 (N - 1) = i := ⟨_, rfl⟩
      have hiN : i < t.length := by have := HN0.out; have := HN.out; omega
      obtain ⟨y, hy⟩ : ∃ y, t[i]? = some y := ⟨_, List.getElem?_eq_getElem hiN⟩
      have hkd : kdB ks t (min x.1 (t.length - 1)) = ((kn == 0) || ks.contains y.kind) := by rw [HN.out, hi]; unfold kdB; rw [hy, HKN.out]; rfl
      obtain ⟨b, off, ha, hbw, hx⟩ := HT.out (by omega)
      subst ha
      have z3 := ((HB2.out.trans (hBW.mono HB2.out.size)).cell (p := ⟨b, off + i * 6 + 0, none⟩) hbw).trans (hx i y hy 0 _ rfl)
      rw [Nat.add_zero] at z3
      have z0 : W.cell? ⟨w.heap.size, 0, none⟩ = some (.slice (some ⟨b, off, none⟩) N c) := by rw [Lib.cell_of_heap (blk_on HC0.out hBW)]; rfl
      have z1 : W.cell? ⟨w.heap.size + 1, 0, none⟩ = some (.slice ka kn kc) := by rw [Lib.cell_of_heap (blk_on HC1.out hBW)]; rfl
      have hi0 : (0 : Int) ≤ (i : Int) := by omega
      have hiN2 : (i : Int) < (N : Int) := by have := HN.out; omega
      have hKW : IzIn ks ka W := HK.out.next (HB2.out.trans (hBW.mono HB2.out.size))
      have hle := ct_le ks t pre
      have hwl : pre.length < 4096 := by have h1 := hkp0.out.2.1; have h2 := hkp0.out.2.2.2.2.2.2; have h3 := HN.out; omega
      obtain ⟨q, hq⟩ : ∃ q, ctA ks t pre = q := ⟨_, rfl⟩
      have hsn := ct_snoc ks t pre x
      rw [hkd, hq] at hsn
      have HSN := Lib.hid hsn
      rw [hq] at hc hle
      have hwq : IntKind.i64.wrap ((q : Int) + 1) = ((q + 1 : Nat) : Int) := by rw [IntKind.wrap_i64]; omega
      have HBW := Lib.hid hBW
      rw [hi]
      clear hx hy hkd hsn hq hle hwl hi hiN
      have hmx : Tryz.prog.follows .mixedOrders = true := by kernel_rfl
      have HYes : Hid (∀ a', ctA ks t (pre ++ [x]) = q + 1 → ownPostG w3.heap.size (Below w2.heap.size) (fun pre W => (W.cell? ⟨w2.heap.size, 0, none⟩ = some (.int .i64 (ctA ks t pre : Nat)) ∧ W.frozen? ⟨w2.heap.size, 0, none⟩ = false) ∧ Below w2.heap.size w2 W) (fun _ _ _ => False) (pre ++ [x]) W .normal a' (W.setCell ⟨w2.heap.size, 0, none⟩ (.int .i64 ((q : Int) + 1))).drew) := fun a' h => by
        refine ⟨((KeepsOthers.setCell _ _ _).trans (KeepsOthers.drew _)).from _, ((Below.refl w2.heap.size W).setCell (p := ⟨w2.heap.size, 0, none⟩) (Nat.le_refl _) _).drew, ⟨?_, ?_⟩, (HBW.out.setCell (p := ⟨w2.heap.size, 0, none⟩) (Nat.le_refl _) _).drew⟩
        · rw [h]
          exact World.cell?_setCell_same' _ _ _ (by rw [hc]; rfl)
        · exact (World.frozen?_setCell _ _ _ _).trans hf
      have HNo : Hid (∀ a', ctA ks t (pre ++ [x]) = q → ownPostG w3.heap.size (Below w2.heap.size) (fun pre W => (W.cell? ⟨w2.heap.size, 0, none⟩ = some (.int .i64 (ctA ks t pre : Nat)) ∧ W.frozen? ⟨w2.heap.size, 0, none⟩ = false) ∧ Below w2.heap.size w2 W) (fun _ _ _ => False) (pre ++ [x]) W .normal a' W.drew) := fun a' h => by
        refine ⟨(KeepsOthers.drew _).from _, (Below.refl w2.heap.size W).drew, ⟨?_, hf⟩, HBW.out.drew⟩
        rw [h]
        exact hc
      by_cases hk0 : kn = 0
      · subst hk0
        gi_wp2
        gi_region_with_o (refine ⟨trivial, ?_⟩)
        all_goals gi_wp2
        all_goals (try go_bits)
        all_goals exact HYes.out _ (by rw [HSN.out]; rfl)
      · have hk1 : ((kn : Int) == 0) = false := by simp; omega
        have hk2 : (kn == 0) = false := by simp; omega
        rw [hk2, Bool.false_or] at HSN
        have HCy := Lib.hid (HCo.out y.kind W.drew (hKW.next (Below.refl _ W).drew))
        obtain ⟨v, hv⟩ : ∃ v, ks.contains y.kind = v := ⟨_, rfl⟩
        rw [hv] at HSN HCy
        gi_wp2
        cases v
        all_goals gi_region_with_o (refine ⟨trivial, ?_⟩; gi_at_call 28; refine (CallsIn.inRound l (callsIn_wide.2 HCy.out)).mono ?_; rintro e w' ⟨rfl, rfl⟩)
        all_goals gi_wp2
        all_goals (try go_bits)
        all_goals first
          | exact HNo.out _ HSN.out
          | exact HYes.out _ HSN.out
    case done =>
      rintro D ys W hD rfl ⟨⟨hc, _⟩, hBW⟩ hK
      have HBW := Lib.hid hBW
      have hrz : rz = (ctA ks t (wkA ps) : Nat) := by rw [← HRZ.out.1, if_pos hkp0.out.2.2.2.2.1, hkp0.out.2.2.2.1 ks]
      have hcz : cz = 0 := by rw [← HRZ.out.2, hkp0.out.2.2.2.2.1]; rfl
      have HZ := Lib.hid (And.intro hrz hcz)
      clear hrz hcz hBW
      gi_wp2
      refine ⟨by simp, .inl ⟨_, _, rfl, run_takeDeferred hK, ?_⟩⟩
      refine ⟨.tuple #[.int .i64 (ctA ks t (wkA ps) : Nat), .int .i64 0], by simp [results, Tryz.results15, go_sem], ?_⟩
      exact ⟨by rw [HZ.out.1, HZ.out.2], (HB2.out.trans (HBW.out.mono HB2.out.size)).trans (belowK_b (w := w) (Nat.le_refl _) W D _ _ (by have := HB2.out.size; omega) hK rfl rfl)⟩
    case stop =>
      rintro D c pre W hD _ h _
      exact h.elim
  · have HCk := Lib.hid h0
    obtain ⟨ck, hck⟩ : ∃ ck : Int, ((ckA wlB t : Nat) : Int) = ck := ⟨_, rfl⟩
    have hne : (ck == 0) = false := by rw [← hck]; simp; omega
    have hrz : rz = 0 := by rw [← HRZ.out.1, if_neg HCk.out]
    have hcz : cz = ck := by rw [← HRZ.out.2, hck]
    have HZ := Lib.hid (And.intro hrz hcz)
    rw [hck]
    clear h0 hck hrz hcz
    gi_wp2
    refine ⟨.tuple #[.int .i64 0, .int .i64 ck], by simp [results, Tryz.results15, go_sem], ?_⟩
    exact ⟨by rw [HZ.out.1, HZ.out.2], HB2.out⟩
end Go.Proofs.YtmaplgpicdomiaaGreatDoor

namespace Go.Proofs.YtmaplgpicdomiaaGreatDoor
set_option linter.unusedVariables false
set_option linter.unusedSimpArgs false
set_option maxRecDepth 100000
open Go.RowKit

theorem infoSt : (Tryz.prog.info? 50).map (fun i => (i.zero, i.size, i.bytes)) = some (some (.agg #[.int .i64 0, .int .i64 0]), 2, 16) := by kernel_rfl
/-- Steps as cells, one behind the other. -/
def stC (l : List (Nat × Nat)) : List Value := l.flatMap fun x => [.int .i64 (x.1 : Int), .int .i64 (x.2 : Int)]
theorem stC_len (l : List (Nat × Nat)) : (stC l).length = l.length * 2 := by
  unfold stC
  induction l with
  | nil => rfl
  | cons x t ih => rw [List.flatMap_cons, List.length_append, ih, List.length_cons]; show 2 + t.length * 2 = (t.length + 1) * 2; omega
theorem stC_app (l m : List (Nat × Nat)) : stC (l ++ m) = stC l ++ stC m := by unfold stC; rw [List.flatMap_append]
theorem stC_at : ∀ (l : List (Nat × Nat)) (k : Nat) (x : Nat × Nat), l[k]? = some x → (stC l)[k * 2]? = some (.int .i64 (x.1 : Int)) ∧ (stC l)[k * 2 + 1]? = some (.int .i64 (x.2 : Int))
  | y :: t, 0, x, h => by cases h; exact ⟨rfl, rfl⟩
  | y :: t, k + 1, x, h => by
    have := stC_at t k x h
    show ([.int .i64 (y.1 : Int), .int .i64 (y.2 : Int)] ++ stC t)[(k + 1) * 2]? = _ ∧ ([.int .i64 (y.1 : Int), .int .i64 (y.2 : Int)] ++ stC t)[(k + 1) * 2 + 1]? = _
    rw [List.getElem?_append_right (by show 2 ≤ _; omega), List.getElem?_append_right (by show 2 ≤ _; omega)]
    show (stC t)[(k + 1) * 2 - 2]? = _ ∧ (stC t)[(k + 1) * 2 + 1 - 2]? = _
    rw [show (k + 1) * 2 - 2 = k * 2 by omega, show (k + 1) * 2 + 1 - 2 = k * 2 + 1 by omega]
    exact this
theorem stC_one (l : List (Nat × Nat)) : ∀ u ∈ stC l, u.oneCell' = true := fun u hu => by
  unfold stC at hu
  obtain ⟨x, _, hx⟩ := List.mem_flatMap.1 hu
  simp at hx
  rcases hx with rfl | rfl <;> rfl
/-- append(out, walked..): steps behind steps. -/
theorem wp_steps {w : World} {ops : Array Oper} {rest : List Oper} {o : Oper} {ac : Act} {Q : Exit → Act → World → Prop} (hgd : o.guard = none) (s x : Operand)
    (ho : o.op = .call { callee := .builtin .append, args := #[s, x], argTypes := #[46, 46] })
    (base : Nat) (v : Value) (k : Nat) (l : List (Nat × Nat)) (hs : ac.eval s = v) (hown : w.ownsRow base 50 2 v k (stC l))
    (base2 : Nat) (u : Value) (m : List (Nat × Nat)) (hx : ac.eval x = u) (hX : w.ownsRow base2 50 2 u m.length (stC m)) (h0 : 0 < m.length) (hk : k + m.length ≤ 4096) (hbase : base ≤ w.heap.size)
    (h : ∀ g cap w', w'.ownsRow base 50 2 (.slice (some ⟨g, 0, none⟩) (k + m.length) cap) (k + m.length) (stC (l ++ m)) → w.grownBy w' v.ownBlock → (v.ownBlock = some g ∨ g = w.heap.size) → wpList Tryz.prog ops Q rest (ac.put o.dst (.slice (some ⟨g, 0, none⟩) (k + m.length) cap)) w') : wpList Tryz.prog ops Q (o :: rest) ac w := by
  obtain ⟨i0, hi, hz0, hz1, hz2⟩ := info_parts infoSt
  have hX' := hX
  rcases hX.2 with ⟨_, hz⟩ | ⟨g, cap, cur, hv, hg, hh, hn, hcap, hsz, htake⟩
  · omega
  · subst hv
    refine wpList_append_lies w hgd s x 46 ho base 50 i0 _ 2 16 Tryz.underlying46 hi hz0 hz1 hz2 rfl (by decide) v k (stC l) hs hown ⟨g, 0, none⟩ m.length cap (stC m) hx (stC_len m) ?_ (stC_one m) h0 (by unfold maxLen; omega) (by omega) hbase _ rfl ?_
    · intro j u hj
      exact hX'.cells (g := g) rfl j u hj
    · intro g' cap' w' hown' hg hlies _
      rw [← stC_app] at hown'
      exact h _ _ _ hown' hg hlies
set_option maxHeartbeats 4000000 in
theorem c_walked (t : List NdT) (ps : List (List Nat)) (fr : List Nat) (ta : Option Addr) (tc : Nat) (fa : Option Addr) (fc : Nat) (hl : t.length ≤ 4096) (hG : PsG t t.length ps fr) (hfl : fr.length = t.length) :
    ∀ (f a d : Nat) (w : World), a < f → a < t.length → d + f ≤ 10000 → (wk ps f a d).length ≤ 4096 → TrIn t ta w → IntIn any_ fr fa w →
      Calls Tryz.prog 31 #[.slice ta t.length tc, .slice fa t.length fc, .int .i64 (a : Int), .int .i64 (d : Int)] w fun e w' => (∃ v, e = .returned v ∧ w'.ownsRow w.heap.size 50 2 v (wk ps f a d).length (stC (wk ps f a d))) ∧ Below w.heap.size w w'
  | 0, _, _, _, h, _, _, _, _, _ => by omega
  | f + 1, a, d, w, hf, ha, hdf, hM, hT, hF => by
    obtain ⟨p, hp⟩ : ∃ p, ps[a]? = some p := ⟨ps[a]'(by rw [hG.1]; exact ha), List.getElem?_eq_getElem (by rw [hG.1]; exact ha)⟩
    have hkp := hG.all hl a p hp
    rw [wk_succ ps f a d hp] at hM ⊢
    obtain ⟨N, hN⟩ : ∃ N, t.length = N := ⟨_, rfl⟩
    have HIH := Lib.hid (fun a d w => c_walked t ps fr ta tc fa fc hl hG hfl f a d w)
    have HPt := Lib.hid (fun W (hb : TrIn t ta W) (hF : IntIn any_ fr fa W) => c_rpartsT t ps fr ta tc fa fc p a W hl hb hF hG hfl hp)
    obtain ⟨ml, hml⟩ : ∃ ml, p.length = ml := ⟨_, rfl⟩
    rw [hN] at HIH HPt ⊢
    rw [hml] at HPt
    have HML := Lib.hid hml
    have HM := Lib.hid hM
    have HT := Lib.hid hT
    have HF := Lib.hid hF
    have HKP := Lib.hid hkp
    have HB : Hid (a < f + 1 ∧ a < N ∧ d + (f + 1) ≤ 10000 ∧ N ≤ 4096) := ⟨hf, by omega, hdf, by omega⟩
    clear hf ha hdf hM hT hF hp hkp hml hN hl hG hfl
    go_enter Tryz.func31, Tryz.ntmps31
    go_wp2_with fail
    have ho1 : (w.alloc (.cells #[.int .i64 (a : Int), .int .i64 (d : Int)] 50)).ownsRow w.heap.size 50 2 (.slice (some ⟨w.heap.size, 0, none⟩) 1 1) 1 (stC [(a, d)]) :=
      ⟨rfl, .inr ⟨w.heap.size, 1, _, rfl, Nat.le_refl _, heap_alloc_at _ _ rfl, Nat.le_refl _, by unfold maxLen; omega, rfl, rfl⟩⟩
    have hb1 := below_o w (.cells #[.int .i64 (a : Int), .int .i64 (d : Int)] 50)
    have hs1 : (w.alloc (.cells #[.int .i64 (a : Int), .int .i64 (d : Int)] 50)).heap.size = w.heap.size + 1 := by simp
    generalize w.alloc (.cells #[.int .i64 (a : Int), .int .i64 (d : Int)] 50) = w1 at ho1 hb1 hs1 ⊢
    refine (HPt.out w1 (HT.out.next hb1) (HF.out.next hb1)).mono ?_
    rintro e w2 ⟨⟨rfl, hpI⟩, hb⟩
    have HB2 := Lib.hid (below_t hb1 hb hb1.size)
    have HO2 := Lib.hid (own_on ho1 hb)
    have HP2 := Lib.hid hpI
    have hnP : w.heap.size ≠ w1.heap.size := by omega
    clear ho1 hb hpI HPt
    generalize w1.heap.size = nP at HP2 hnP ⊢
    have HNP := Lib.hid hnP
    clear hnP hs1
    clear hb1
    go_wp2_with fail
    go_loopg [9, 11] ml (fun m v9 v11 wr => ∃ q : Nat, q + m = ml ∧ v11 = .int .i64 (q : Int) ∧ Hid (wr.ownsRow w.heap.size 50 2 v9 ((a, d) :: (p.take q).flatMap (fun q => wk ps f q (d + 1))).length (stC ((a, d) :: (p.take q).flatMap (fun q => wk ps f q (d + 1)))) ∧ Below w.heap.size w wr ∧ IntIn any_ p (some ⟨nP, 0, none⟩) wr ∧ v9.ownBlock ≠ some nP))
    case atStart => exact ⟨0, by omega, rfl, HO2.out, HB2.out, HP2.out, fun h => HNP.out (Option.some.inj h)⟩
    case round =>
      obtain ⟨q, hq, rfl, HH⟩ := hrel
      by_cases hlt : q < ml
      · have dk : decide ((q : Int) < (ml : Int)) = true := by simp; omega
        obtain ⟨rb, ro, hpa, _, hrb, hri⟩ := HH.out.2.2.1 (by rw [HML.out]; omega)
        cases hpa
        obtain ⟨r, hr⟩ : ∃ r, p[q]? = some r := ⟨p[q]'(by rw [HML.out]; exact hlt), List.getElem?_eq_getElem (by rw [HML.out]; exact hlt)⟩
        have z1 := hri q r hr
        rw [Nat.zero_add] at z1
        have hra := HKP.out.2 r (List.mem_of_getElem? hr)
        have hq0 : (0 : Int) ≤ (q : Int) := by omega
        have hqm : (q : Int) < (ml : Int) := by omega
        have hwd : IntKind.i64.wrap ((d : Int) + 1) = ((d + 1 : Nat) : Int) := by have := HB.out; rw [IntKind.wrap_i64]; omega
        have hwk : IntKind.i64.wrap ((q : Int) + 1) = ((q + 1 : Nat) : Int) := by have := HKP.out.1; have := HML.out; rw [IntKind.wrap_i64]; omega
        have hkp : q < p.length := by rw [HML.out]; exact hlt
        have htk : p.take (q + 1) = p.take q ++ [r] := by rw [List.take_succ_eq_append_getElem hkp, List.getElem_eq_iff hkp |>.2 hr]
        have hfm : (p.take (q + 1)).flatMap (fun q => wk ps f q (d + 1)) = (p.take q).flatMap (fun q => wk ps f q (d + 1)) ++ wk ps f r (d + 1) := by
          rw [htk, List.flatMap_append]
          show _ ++ (_ ++ []) = _
          rw [List.append_nil]
        have hcat : p.flatMap (fun q => wk ps f q (d + 1)) = (p.take (q + 1)).flatMap (fun q => wk ps f q (d + 1)) ++ (p.drop (q + 1)).flatMap (fun q => wk ps f q (d + 1)) := by
          rw [← List.flatMap_append, List.take_append_drop]
        have hlen : ((a, d) :: (p.take q).flatMap (fun q => wk ps f q (d + 1))).length + (wk ps f r (d + 1)).length ≤ 4096 := by
          have h1 := HM.out
          rw [hcat, hfm] at h1
          simp only [List.length_append, List.length_cons] at h1 ⊢
          omega
        have hpos : 0 < (wk ps f r (d + 1)).length := by
          cases f with
          | zero => have := HB.out; omega
          | succ f => show 0 < List.length (_ :: _); rw [List.length_cons]; omega
        have hI := HIH.out r (d + 1) wr (by have := HB.out; omega) (by have := HB.out; have := HB.out; omega) (by have := HB.out; omega) (by omega) (HT.out.next (HH.out.2.1.mono (Nat.le_refl _))) (HF.out.next HH.out.2.1)
        rw [show ((d + 1 : Nat) : Int) = (d : Int) + 1 by omega] at hI
        have HI := Lib.hid hI
        have HL := Lib.hid (And.intro hfm (And.intro hlen (And.intro hpos hrb)))
        have HMi : Hid (ml - (q + 1) < gk ∧ q + 1 + (ml - (q + 1)) = ml) := ⟨by omega, by omega⟩
        clear hri hr hra hkp htk hfm hcat hlen hpos hI hrb
        go_wp2_with fail
        refine HI.out.mono ?_
        rintro e w3 ⟨⟨u, rfl, hown⟩, hb⟩
        obtain ⟨kk, hkk⟩ : ∃ k, ((a, d) :: (p.take q).flatMap (fun q => wk ps f q (d + 1))).length = k := ⟨_, rfl⟩
        obtain ⟨nn, hnn⟩ : ∃ k, (wk ps f r (d + 1)).length = k := ⟨_, rfl⟩
        have ho3 := own_on HH.out.1 hb
        rw [hkk] at ho3
        have HO3 := Lib.hid ho3
        have HU := Lib.hid hown
        have HKN := Lib.hid (And.intro hkk hnn)
        have hle := HL.out.2.1
        rw [hkk, hnn] at hle
        have HLE := Lib.hid hle
        clear ho3 hkk hnn hle
        have HB3 := Lib.hid (below_t HH.out.2.1 hb HH.out.2.1.size)
        have HP3 := Lib.hid (HH.out.2.2.1.next hb)
        have HS3 := Lib.hid hb.size
        clear hown hb HI
        go_wp2_with (at_builtin; refine wp_steps rfl _ _ rfl w.heap.size u9 _ _ rfl HO3.out wr.heap.size u _ rfl HU.out HL.out.2.2.1 (by rw [HKN.out.2]; exact HLE.out) HB3.out.size ?_; rw [HKN.out.2]; intro g cap w4 hown' hg' hlies)
        have hgn : g ≠ nP := by
          rcases hlies with h | h
          · intro e
            rw [e] at h
            exact HH.out.2.2.2 h
          · have h1 := HL.out.2.2.2
            have h2 := HS3.out
            omega
        have hbn : u9.ownBlock ≠ some nP := HH.out.2.2.2
        go_roundg (ml - (q + 1))
        case measure => exact HMi.out.1
        case rel =>
          refine ⟨q + 1, HMi.out.2, rfl, ?_, ?_, ?_, fun h => hgn (Option.some.inj h)⟩
          · rw [HL.out.1, show (a, d) :: ((p.take q).flatMap (fun q => wk ps f q (d + 1)) ++ wk ps f r (d + 1)) = ((a, d) :: (p.take q).flatMap (fun q => wk ps f q (d + 1))) ++ wk ps f r (d + 1) from rfl, List.length_append, HKN.out.1, HKN.out.2]
            exact hown'
          · exact HB3.out.grown hg' HB3.out.size (fun k hk => (HO3.out.lt k hk).1)
          · intro h0
            obtain ⟨b, off, h1, _, h3, h4⟩ := HP3.out h0
            cases h1
            exact ⟨nP, 0, rfl, trivial, Nat.lt_of_lt_of_le h3 hg'.size, fun k q hk => (blk_cell (hg'.block nP h3 (fun e => hbn e.symm)) _).trans (h4 k q hk)⟩
      · have dk : decide ((q : Int) < (ml : Int)) = false := by simp; omega
        have hqm : q = ml := by omega
        have hl : p.take q = p := by rw [hqm, ← HML.out]; exact List.take_length
        have HL := Lib.hid hl
        clear hl hqm
        go_wp2_with fail
        go_ret
        have h := HH.out
        rw [HL.out] at h
        exact ⟨⟨_, rfl, h.1⟩, h.2.1⟩
end Go.Proofs.YtmaplgpicdomiaaGreatDoor

namespace Go.Proofs.YtmaplgpicdomiaaGreatDoor
set_option linter.unusedVariables false
set_option linter.unusedSimpArgs false
set_option maxRecDepth 100000
open Go.RowKit

set_option maxHeartbeats 2000000 in
theorem c_has (ks : List Int) (a : Option Addr) (c : Nat) (x : Int) (w : World) (hl : ks.length ≤ 140737488355328) (h : IzIn ks a w) :
    Calls Tryz.prog 29 #[.slice a ks.length c, .int .i64 x] w fun e w' => e = .returned (.bool (ks.contains x)) ∧ w' = w := by
  obtain ⟨N, hN⟩ : ∃ N, ks.length = N := ⟨_, rfl⟩
  have HK := Lib.hid h
  have HN := Lib.hid hN
  have HL := Lib.hid hl
  rw [hN]
  clear h hN hl
  go_enter Tryz.func29, Tryz.ntmps29
  go_wp2_with fail
  go_loopg [5] N (fun m v5 wr => ∃ q : Nat, q + m = N ∧ v5 = .int .i64 (q : Int) ∧ Hid (∀ j y, j < q → ks[j]? = some y → y ≠ x) ∧ wr = w)
  case atStart => exact ⟨0, by omega, rfl, (fun j y hj => by omega), rfl⟩
  case round =>
    obtain ⟨q, hq, rfl, HH, rfl⟩ := hrel
    by_cases hlt : q < N
    · have hd : decide ((q : Int) < (N : Int)) = true := by simp; omega
      obtain ⟨b, off, ha, hb, hx⟩ := HK.out (by have := HN.out; omega)
      subst ha
      obtain ⟨y, hy⟩ : ∃ y, ks[q]? = some y := ⟨_, List.getElem?_eq_getElem (by have := HN.out; omega)⟩
      have z1 := hx q y hy
      have hq0 : (0 : Int) ≤ (q : Int) := by omega
      have hqN : (q : Int) < (N : Int) := by omega
      have hwq : IntKind.i64.wrap ((q : Int) + 1) = ((q + 1 : Nat) : Int) := by have := HL.out; have := HN.out; rw [IntKind.wrap_i64]; omega
      have HY := Lib.hid hy
      have HMi : Hid (N - (q + 1) < gk ∧ q + 1 + (N - (q + 1)) = N) := ⟨by omega, by omega⟩
      clear hx hy
      by_cases hyx : y = x
      · have hc : ks.contains x = true := by
          rw [List.contains_iff_mem]
          rw [← hyx]
          exact List.mem_of_getElem? HY.out
        have HC := Lib.hid hc
        have he : (y == x) = true := by simpa using hyx
        clear hc hyx
        go_wp2_with fail
        go_ret
        exact ⟨by rw [HC.out]; rfl, rfl⟩
      · have he : (y == x) = false := by simpa using hyx
        have HYX := Lib.hid hyx
        clear hyx
        go_wp2_with fail
        go_roundg (N - (q + 1))
        case measure => exact HMi.out.1
        case rel =>
          refine ⟨q + 1, HMi.out.2, rfl, fun j z hj hz => ?_, rfl⟩
          by_cases hjq : j = q
          · subst hjq
            rw [HY.out] at hz
            cases hz
            exact HYX.out
          · exact HH.out j z (by omega) hz
    · have hd : decide ((q : Int) < (N : Int)) = false := by simp; omega
      have hqN : q = N := by omega
      have hc : ks.contains x = false := by
        rw [Bool.eq_false_iff]
        intro hc
        rw [List.contains_iff_mem] at hc
        obtain ⟨j, hj⟩ := List.getElem?_of_mem hc
        exact HH.out j x (by have := (List.getElem?_eq_some_iff.1 hj).1; have := HN.out; omega) hj rfl
      have HC := Lib.hid hc
      clear hc hqN
      go_wp2_with fail
      go_ret
      exact ⟨by rw [HC.out]; rfl, rfl⟩
/-- What the document's Walk answers. -/
def RwT (t : List NdT) (w : World) (e : Ending) (w' : World) : Prop :=
  ((ckA wlB t = 0 ∧ t.length ≤ 4096 ∧ ∃ ps v, grow t = some ps ∧ e = .returned (.tuple #[v, .int .i64 0]) ∧ w'.ownsRow w.heap.size 50 2 v t.length (stC (wkA ps))) ∨ (ckA wlB t ≠ 0 ∧ e = .returned (.tuple #[.slice none 0 0, .int .i64 (ckA wlB t : Nat)]))) ∧ Below w.heap.size w w'
set_option maxHeartbeats 4000000 in
theorem c_rWalk (t : List NdT) (a : Option Addr) (c : Nat) (w : World) (ho : ∀ x ∈ t, NdOk x) (hT : TrIn t a w) :
    Calls Tryz.prog 18 #[.slice a t.length c] w fun e w' => RwT t w e w' := by
  have HC := Lib.hid (c_rCheckT t a c w ho hT)
  obtain ⟨N, hN⟩ : ∃ N, t.length = N := ⟨_, rfl⟩
  obtain ⟨ck, hck⟩ : ∃ ck : Int, ((ckA wlB t : Nat) : Int) = ck := ⟨_, rfl⟩
  have HN := Lib.hid hN
  have HCK := Lib.hid hck
  have HT := Lib.hid hT
  have HL : Hid (ckA wlB t = 0 → t.length ≤ 4096) := fun h => by
    by_cases hl : 4096 < t.length
    · rw [ck_long hl] at h; cases h
    · omega
  have HBg : Hid (∀ W, t.length ≤ 4096 → TrIn t a W → Calls Tryz.prog 21 #[.slice a N c] W fun e w' => BgR t W e w') := fun W hl hb => by have h := c_begins t a c W hl hb; rw [hN] at h; exact h
  have HWk : Hid (∀ (ps : List (List Nat)) (fr : List Nat) fa fc W, t.length ≤ 4096 → PsG t t.length ps fr → fr.length = t.length → 0 < t.length → (wkA ps).length = t.length → TrIn t a W → IntIn any_ fr fa W → Calls Tryz.prog 31 #[.slice a N c, .slice fa N fc, .int .i64 ((N : Int) - 1), .int .i64 1] W fun e w' => (∃ v, e = .returned v ∧ w'.ownsRow W.heap.size 50 2 v t.length (stC (wkA ps))) ∧ Below W.heap.size W w') := fun ps fr fa fc W hl hG hfl h0 hwl hT hF => by
    have hwA : wkA ps = wk ps (t.length - 1 + 1) (t.length - 1) 1 := by unfold wkA; rw [hG.1]
    have h := c_walked t ps fr a c fa fc hl hG hfl (t.length - 1 + 1) (t.length - 1) 1 W (by omega) (by omega) (by omega) (by rw [← hwA, hwl]; exact hl) hT hF
    rw [← hwA, hwl, hN, show ((N - 1 : Nat) : Int) = (N : Int) - 1 by omega] at h
    rw [hN]
    exact h
  rw [hck] at HC
  rw [hN] at HC ⊢
  clear ho hT hN hck
  go_enter Tryz.func18, Tryz.ntmps18
  go_wp2_with fail
  refine HC.out.mono ?_
  rintro e w1 ⟨rfl, hb⟩
  have HB1 := Lib.hid hb
  clear hb HC
  by_cases h0 : ck = 0
  · subst h0
    have hck0 : ckA wlB t = 0 := by have := HCK.out; omega
    have hl : t.length ≤ 4096 := HL.out hck0
    obtain ⟨ps, fr, hgr, hbg, hG, hfl, hfe, _⟩ := good_parts (wl := wlB) (t := t) (by
      unfold ckA at hck0
      rw [if_neg (by omega)] at hck0
      split at hck0
      · assumption
      · cases hck0) hl
    obtain ⟨_, hpos, hwl, _, _⟩ := KpsOk.of_grow hgr hl
    have HQ := Lib.hid (And.intro hl (And.intro hgr (And.intro hbg (And.intro hG (And.intro hfl (And.intro hpos (And.intro hwl hck0)))))))
    have hwN : IntKind.i64.wrap ((N : Int) - 1) = (N : Int) - 1 := by have := HN.out; rw [IntKind.wrap_i64]; omega
    clear hck0 hl hgr hbg hG hfl hfe hpos hwl
    go_wp2_with fail
    refine (HBg.out _ HQ.out.1 (HT.out.next HB1.out)).mono ?_
    rintro e w2 ⟨hr, hb2⟩
    have HB2 := Lib.hid (below_t HB1.out hb2 HB1.out.size)
    clear hb2
    obtain ⟨fa, fc, rfl, hfI⟩ : ∃ fa fc, e = .returned (.tuple #[.slice fa N fc, .bool true]) ∧ IntIn any_ fr fa w2 := by
      rcases hr with ⟨fr', fa, fc, h1, h2, h3⟩ | ⟨h1, _⟩
      · rw [HQ.out.2.2.1] at h1
        cases h1
        exact ⟨fa, fc, by rw [h2, HQ.out.2.2.2.2.1, HN.out], h3⟩
      · rw [HQ.out.2.2.1] at h1
        cases h1
    have HCa := Lib.hid (HWk.out ps fr fa fc w2 HQ.out.1 HQ.out.2.2.2.1 HQ.out.2.2.2.2.1 HQ.out.2.2.2.2.2.1 HQ.out.2.2.2.2.2.2.1 (HT.out.next HB2.out) hfI)
    clear hr hfI
    go_wp2_with fail
    refine HCa.out.mono ?_
    rintro e w3 ⟨⟨v, rfl, hown⟩, hb3⟩
    have HB3 := Lib.hid (below_t HB2.out hb3 HB2.out.size)
    have HO := Lib.hid (hown.mono HB2.out.size)
    clear hb3 hown
    go_wp2_with fail
    go_ret2
    exact ⟨.inl ⟨HQ.out.2.2.2.2.2.2.2, HQ.out.1, ps, v, HQ.out.2.1, rfl, HO.out⟩, HB3.out⟩
  · have hck0 : ckA wlB t ≠ 0 := by have := HCK.out; omega
    have hne : (ck == 0) = false := by simpa using h0
    have hne2 : (ck != 0) = true := by simp [bne, hne]
    have HC0 := Lib.hid hck0
    clear hck0 h0
    go_wp2_with fail
    go_ret2
    exact ⟨.inr ⟨HC0.out, by rw [HCK.out]; rfl⟩, HB1.out⟩
set_option maxHeartbeats 4000000 in
theorem c_rCount (t : List NdT) (a : Option Addr) (c : Nat) (ks : List Int) (ka : Option Addr) (kc : Nat) (w : World) (ho : ∀ x ∈ t, NdOk x) (hT : TrIn t a w) (hkl : ks.length ≤ 140737488355328) (hK : IzIn ks ka w) :
    Calls Tryz.prog 16 #[.slice a t.length c, .slice ka ks.length kc] w fun e w' => e = .returned (.tuple #[.int .i64 (if ckA wlB t = 0 then (cntA ks t : Int) else 0), .int .i64 (ckA wlB t : Nat)]) ∧ Below w.heap.size w w' := by
  have HC := Lib.hid (c_rCheckT t a c w ho hT)
  obtain ⟨N, hN⟩ : ∃ N, t.length = N := ⟨_, rfl⟩
  obtain ⟨kn, hkn⟩ : ∃ kn, ks.length = kn := ⟨_, rfl⟩
  obtain ⟨rz, hrz⟩ : ∃ rz : Int, (if ckA wlB t = 0 then (cntA ks t : Int) else 0) = rz := ⟨_, rfl⟩
  obtain ⟨ck, hck⟩ : ∃ ck : Int, ((ckA wlB t : Nat) : Int) = ck := ⟨_, rfl⟩
  have HRZ := Lib.hid (And.intro hrz hck)
  have HN := Lib.hid hN
  have HKN := Lib.hid hkn
  have HT := Lib.hid hT
  have HK := Lib.hid hK
  have HHs : Hid (∀ x W, IzIn ks ka W → Calls Tryz.prog 29 #[.slice ka kn kc, .int .i64 x] W fun e w' => e = .returned (.bool (ks.contains x)) ∧ w' = W) := fun x W hk => by
    have h := c_has ks ka kc x W hkl hk
    rw [hkn] at h
    exact h
  have HL : Hid (ckA wlB t = 0 → t.length ≤ 4096) := fun h => by
    by_cases hl : 4096 < t.length
    · rw [ck_long hl] at h; cases h
    · omega
  rw [hck] at HC
  rw [hrz, hck]
  rw [hN] at HC ⊢
  rw [hkn]
  clear ho hT hK hkl hN hkn hrz hck
  go_enter Tryz.func16, Tryz.ntmps16
  go_wp2_with fail
  refine HC.out.mono ?_
  rintro e w1 ⟨rfl, hb⟩
  have HB1 := Lib.hid hb
  clear hb HC
  by_cases h0 : ck = 0
  · subst h0
    have hck0 : ckA wlB t = 0 := by have := HRZ.out.2; omega
    have HLN := Lib.hid (HL.out hck0)
    have hrz : rz = (cntA ks t : Int) := by rw [← HRZ.out.1, if_pos hck0]
    have HR := Lib.hid hrz
    clear hck0 hrz
    go_wp2_with fail
    go_loopg [7, 8] N (fun m v7 v8 wr => ∃ q k : Nat, q + m = N ∧ v8 = .int .i64 (q : Int) ∧ v7 = .int .i64 (k : Int) ∧ Hid (k = (List.range q).countP (kdB ks t)) ∧ wr = w1)
    case atStart => exact ⟨0, 0, by omega, rfl, rfl, rfl, rfl⟩
    case round =>
      obtain ⟨q, k, hq, rfl, rfl, HH, rfl⟩ := hrel
      by_cases hlt : q < N
      · have hd : decide ((q : Int) < (N : Int)) = true := by simp; omega
        obtain ⟨b, off, ha, hb, hx⟩ := HT.out (by have := HN.out; omega)
        subst ha
        obtain ⟨y, hy⟩ : ∃ y, t[q]? = some y := ⟨_, List.getElem?_eq_getElem (by have := HN.out; omega)⟩
        have z1 := (HB1.out.cell (p := ⟨b, off + q * 6 + 0, none⟩) hb).trans (hx q y hy 0 _ rfl)
        rw [Nat.add_zero] at z1
        have hkd : kdB ks t q = ((kn == 0) || ks.contains y.kind) := by unfold kdB; rw [hy, HKN.out]; rfl
        have hsn : (List.range (q + 1)).countP (kdB ks t) = k + if ((kn == 0) || ks.contains y.kind) then 1 else 0 := by rw [List.range_succ, List.countP_append, List.countP_singleton, hkd, ← HH.out]
        have hkq : k ≤ q := by have h1 := HH.out; have h2 := List.countP_le_length (p := kdB ks t) (l := List.range q); rw [List.length_range] at h2; omega
        have hq0 : (0 : Int) ≤ (q : Int) := by omega
        have hqN : (q : Int) < (N : Int) := by omega
        have hwq : IntKind.i64.wrap ((q : Int) + 1) = ((q + 1 : Nat) : Int) := by have := HLN.out; have := HN.out; rw [IntKind.wrap_i64]; omega
        have hwk : IntKind.i64.wrap ((k : Int) + 1) = ((k + 1 : Nat) : Int) := by have := HLN.out; have := HN.out; rw [IntKind.wrap_i64]; omega
        have HSN := Lib.hid hsn
        have HMi : Hid (N - (q + 1) < gk ∧ q + 1 + (N - (q + 1)) = N) := ⟨by omega, by omega⟩
        have HCy := Lib.hid (HHs.out y.kind wr (HK.out.next HB1.out))
        obtain ⟨v, hv⟩ : ∃ v, ks.contains y.kind = v := ⟨_, rfl⟩
        rw [hv] at HSN HCy
        clear hx hy hkd hsn hkq hv
        by_cases hk0 : kn = 0
        · subst hk0
          go_wp2_with fail
          go_roundg (N - (q + 1))
          case measure => exact HMi.out.1
          case rel => exact ⟨q + 1, k + 1, HMi.out.2, rfl, rfl, by rw [HSN.out]; rfl, rfl⟩
        · have hk1 : ((kn : Int) == 0) = false := by simp; omega
          have hk2 : (kn == 0) = false := by simp; omega
          rw [hk2, Bool.false_or] at HSN
          cases v
          · go_wp2_with (go_at_call 29; refine HCy.out.mono ?_; rintro e w9 ⟨rfl, rfl⟩)
            go_roundg (N - (q + 1))
            case measure => exact HMi.out.1
            case rel => exact ⟨q + 1, k, HMi.out.2, rfl, rfl, by rw [HSN.out]; rfl, rfl⟩
          · go_wp2_with (go_at_call 29; refine HCy.out.mono ?_; rintro e w9 ⟨rfl, rfl⟩)
            go_roundg (N - (q + 1))
            case measure => exact HMi.out.1
            case rel => exact ⟨q + 1, k + 1, HMi.out.2, rfl, rfl, by rw [HSN.out]; rfl, rfl⟩
      · have hd : decide ((q : Int) < (N : Int)) = false := by simp; omega
        have hk : rz = (k : Int) := by rw [HR.out, HH.out, show q = t.length by have := HN.out; omega]; rfl
        have HKz := Lib.hid hk
        clear hk
        go_wp2_with fail
        go_ret2
        exact ⟨by rw [HKz.out]; rfl, HB1.out⟩
  · have hne : (ck == 0) = false := by simpa using h0
    have hne2 : (ck != 0) = true := by simp [bne, hne]
    have hrz : rz = 0 := by rw [← HRZ.out.1, if_neg (fun h => h0 (by rw [← HRZ.out.2, h]; rfl))]
    have HR := Lib.hid hrz
    clear h0 hrz
    go_wp2_with fail
    go_ret2
    exact ⟨by rw [HR.out]; rfl, HB1.out⟩
end Go.Proofs.YtmaplgpicdomiaaGreatDoor

namespace Go.Proofs.YtmaplgpicdomiaaGreatDoor
set_option linter.unusedVariables false
set_option linter.unusedSimpArgs false
set_option maxRecDepth 100000
open Go.RowKit

set_option maxHeartbeats 2000000 in
theorem c_sameZ (p : List Int) (a a2 : Option Addr) (c c2 : Nat) (w : World) (hl : p.length ≤ 140737488355328) (hS : IzIn p a w) (hS2 : IzIn p a2 w) :
    Calls Tryz.prog 10 #[.slice a p.length c, .slice a2 p.length c2] w fun e w' => e = .returned (.bool true) ∧ ∃ n, w' = w.drewN n := by
  obtain ⟨N, hN⟩ : ∃ N, p.length = N := ⟨_, rfl⟩
  have HS := Lib.hid hS
  have HS2 := Lib.hid hS2
  have HN := Lib.hid hN
  have HL := Lib.hid hl
  rw [hN]
  clear hS hS2 hN hl
  go_enter Tryz.func10, Tryz.ntmps10
  go_wp2_with fail
  go_loopg [5] N (fun m v5 wr => ∃ q : Nat, q + m = N ∧ v5 = .int .i64 (q : Int) ∧ ∃ n, wr = w.drewN n)
  case atStart => exact ⟨0, by omega, rfl, 0, by simp [World.drewN_zero]⟩
  case round =>
    obtain ⟨q, hq, rfl, n, rfl⟩ := hrel
    by_cases hlt : q < N
    · have hd : decide ((q : Int) < (N : Int)) = true := by simp; omega
      obtain ⟨x, hxq⟩ : ∃ x, p[q]? = some x := ⟨_, List.getElem?_eq_getElem (by have := HN.out; omega)⟩
      obtain ⟨b, off, ha, _, hx⟩ := HS.out (by have := HN.out; omega)
      obtain ⟨b2, off2, ha2, _, hx2⟩ := HS2.out (by have := HN.out; omega)
      subst ha ha2
      have y0 := hx q x hxq
      have z0 := hx2 q x hxq
      have hq0 : (0 : Int) ≤ (q : Int) := by omega
      have hqN : (q : Int) < (N : Int) := by omega
      have hwq : IntKind.i64.wrap ((q : Int) + 1) = ((q + 1 : Nat) : Int) := by
        have h2 := HL.out
        have h1 := HN.out
        rw [IntKind.wrap_i64]
        omega
      have HM : Hid (N - (q + 1) < gk ∧ q + 1 + (N - (q + 1)) = N) := ⟨by omega, by omega⟩
      clear hx hx2 hxq
      go_wp2_with fail
      go_quiet (fail)
      go_wp2_with fail
      go_roundg (N - (q + 1))
      case measure => exact HM.out.1
      case rel => exact ⟨q + 1, HM.out.2, rfl, _, rfl⟩
    · have hd : decide ((q : Int) < (N : Int)) = false := by simp; omega
      go_wp2_with fail
      go_ret
      exact ⟨rfl, _, rfl⟩
def izC (l : List Int) : List Value := l.map (Value.int .i64)
theorem izC_len (l : List Int) : (izC l).length = l.length := by unfold izC; rw [List.length_map]
theorem izC_at {l : List Int} {k : Nat} {q : Int} (h : l[k]? = some q) : (izC l)[k]? = some (.int .i64 q) := by unfold izC; rw [List.getElem?_map, h]; rfl
theorem izC_one (l : List Int) : ∀ u ∈ izC l, u.oneCell' = true := fun u hu => by
  unfold izC at hu
  obtain ⟨x, _, rfl⟩ := List.mem_map.1 hu
  rfl
theorem iz_of_own {w : World} {base : Nat} {v : Value} {l : List Int} (h : w.ownsRow base 3 1 v l.length (izC l)) : ∃ a c, v = .slice a l.length c ∧ IzIn l a w := by
  have h' := h
  rcases h.2 with ⟨hv, hz⟩ | ⟨g, cap, cur, hv, hg, hh, hn, hcap, hsz, htake⟩
  · subst hv
    exact ⟨none, 0, by rw [hz], fun h0 => by omega⟩
  · subst hv
    refine ⟨_, cap, rfl, fun _ => ⟨g, 0, rfl, (Array.getElem?_eq_some_iff.1 hh).1, fun k q hk => ?_⟩⟩
    have hx := h'.cells (g := g) rfl k _ (izC_at hk)
    have ea : (⟨g, 0, none⟩ : Addr).add k = ⟨g, 0 + k, none⟩ := by unfold Addr.add; split <;> simp_all
    rw [ea] at hx
    exact hx
theorem wp_copyZ {w : World} {ops : Array Oper} {rest : List Oper} {o : Oper} {ac : Act} {Q : Exit → Act → World → Prop} (hgd : o.guard = none) (s x : Operand)
    (ho : o.op = .call { callee := .builtin .append, args := #[s, x], argTypes := #[27, 27] })
    (base : Nat) (v : Value) (hs : ac.eval s = v) (hown : w.ownsRow base 3 1 v 0 [])
    (a : Option Addr) (n c : Nat) (t : List Int) (hn : t.length = n) (hx : ac.eval x = .slice a n c) (hX : IzIn t a w) (hnil : a = none → n = 0 ∧ c = 0) (hr : n * 8 ≤ 140737488355328) (hbase : base ≤ w.heap.size)
    (h : ∀ v' w', w'.ownsRow base 3 1 v' n (izC t) → w.grownBy w' v.ownBlock → wpList Tryz.prog ops Q rest (ac.put o.dst v') w') : wpList Tryz.prog ops Q (o :: rest) ac w := by
  obtain ⟨i0, hi, hz0, hz1, hz2⟩ := info_parts infoI
  subst hn
  cases a with
  | none =>
    obtain ⟨h0, rfl⟩ := hnil rfl
    obtain rfl : t = [] := List.eq_nil_of_length_eq_zero h0
    exact wpList_append_own_none hgd s x 27 ho base 3 i0 1 Tryz.underlying27 hi _ 0 [] hs hown hx (h _ _ hown (World.grownBy.refl _ _))
  | some ad =>
    refine wpList_append_own w hgd s x 27 ho base 3 i0 _ 1 8 Tryz.underlying27 hi hz0 hz1 hz2 rfl (by decide) v 0 [] hs hown ad t.length c (izC t) hx (by rw [izC_len, Nat.mul_one]) ?_ (izC_one t) (by unfold maxLen; omega) (by omega) hbase ?_
    · intro j u hj
      have hjt : j < t.length := by have := (List.getElem?_eq_some_iff.1 hj).1; rw [izC_len] at this; exact this
      obtain ⟨b', off', he, _, hx'⟩ := hX (by omega)
      cases he
      have h1 := hx' j t[j] (List.getElem?_eq_getElem hjt)
      rw [izC_at (List.getElem?_eq_getElem hjt)] at hj
      cases hj
      have ea : (⟨b', off', none⟩ : Addr).add j = ⟨b', off' + j, none⟩ := by unfold Addr.add; split <;> simp_all
      rw [ea]
      exact h1
    · intro v' w' hown' hg _
      rw [Nat.zero_add, List.nil_append] at hown'
      exact h _ _ hown' hg
set_option maxHeartbeats 2000000 in
theorem c_copyZ (t : List Int) (a : Option Addr) (c : Nat) (w : World) (hnil : a = none → t.length = 0 ∧ c = 0) (hr : t.length * 8 ≤ 140737488355328) (hT : IzIn t a w) :
    Calls Tryz.prog 14 #[.slice a t.length c] w fun e w' => (∃ v, e = .returned v ∧ w'.ownsRow w.heap.size 3 1 v t.length (izC t)) ∧ Below w.heap.size w w' := by
  obtain ⟨N, hN⟩ : ∃ N, t.length = N := ⟨_, rfl⟩
  have HT := Lib.hid hT
  have HN := Lib.hid hN
  have HL := Lib.hid hr
  have HNl := Lib.hid hnil
  rw [hN] at HL HNl ⊢
  clear hT hN hr hnil
  go_enter Tryz.func14, Tryz.ntmps14
  go_wp2_with (at_builtin; refine wp_copyZ rfl _ _ rfl w.heap.size _ rfl (World.ownsRow_made w #[] 0 (Nat.le_refl _) (Nat.zero_le _) (by simp)) a N c t HN.out rfl (HT.out.next (below_o _ _)) HNl.out HL.out (by simp) ?_)
  intro v' w' hown hg
  have HB : Hid (Below w.heap.size w w') := (below_o w _).grown hg (by simp) (fun k hk => by
    simp [Value.ownBlock] at hk
    omega)
  have HO := Lib.hid hown
  clear hown hg
  go_wp2_with fail
  go_ret
  exact ⟨⟨_, rfl, HO.out⟩, HB.out⟩
end Go.Proofs.YtmaplgpicdomiaaGreatDoor
