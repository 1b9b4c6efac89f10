/-
  The resolver, in the code: node.
-/
import Derived.Test.YtjadckhngalmlaaGreatDoorZNmRl
import Derived.Shelf.Slices.Turned
namespace Go.Proofs.YtjadckhngalmlaaGreatDoor
set_option linter.unusedVariables false
set_option linter.unusedSimpArgs false
set_option maxRecDepth 100000
open Go.RowKit

/-- What a step over a node answers: the code, and the resolver. -/
def StT (G : RsG) (K : Nat) (e : Nat) (r' : RsP) (w : World) (en : Ending) (w' : World) : Prop :=
  en = .returned (.int .i64 (e : Int)) ∧ (e = 0 → ∃ p' L' sv' uv', RsM G r' p' L' sv' uv' (K + 1) w') ∧ Kf G w w'
/-- The cells of a binding. -/
theorem RsM.bcell {G : RsG} {r : RsP} {p : Option Addr} {L : List ScM} {sv uv : Value} {K : Nat} {w : World} (h : RsM G r p L sv uv K w) {i : Nat} (hi : i < r.bds.length) :
    ∃ v0 v1 v2, w.cell? ⟨G.BD, i * 3, none⟩ = some v0 ∧ w.cell? ⟨G.BD, i * 3 + 1, none⟩ = some v1 ∧ w.cell? ⟨G.BD, i * 3 + 2, none⟩ = some v2 ∧ ∀ k, w.frozen? ⟨G.BD, k, none⟩ = false := by
  have hl : (bdCs r.bds).toArray.size = r.bds.length * 3 := by rw [List.size_toArray, bdCs_len]
  have key : ∀ k, k < 3 → ∃ v, w.cell? ⟨G.BD, i * 3 + k, none⟩ = some v := fun k hk => by
    have hk2 : i * 3 + k < (bdCs r.bds).toArray.size := by rw [hl]; omega
    exact ⟨(bdCs r.bds).toArray[i * 3 + k], by rw [Lib.cell_of_heap h.bd, Array.getElem?_eq_getElem hk2]⟩
  obtain ⟨v0, h0⟩ := key 0 (by decide)
  obtain ⟨v1, h1⟩ := key 1 (by decide)
  obtain ⟨v2, h2⟩ := key 2 (by decide)
  exact ⟨v0, v1, v2, h0, h1, h2, fun k => Lib.frozen_of_heap h.bd k⟩
set_option maxHeartbeats 4000000 in
theorem c_rLocal (G : RsG) {r : RsP} {p : Option Addr} {L : List ScM} {sv uv : Value} {K : Nat} (n : NdT) (hn : NdOk n) (i : Nat) (hi : i < r.bds.length) (hN : G.N ≤ 4096) (w : World) (h : RsM G r p L sv uv K w) (hK : K < 4503599627370496) (hl : r.slots.length ≤ 256) :
    Calls Tryz.prog 48 #[.pointer (some ⟨G.R, 0, none⟩), noX n, .int .i64 (i : Int)] w fun e w' => StT G K (loE r n) (loF r n i) w e w' := by
  obtain ⟨c, L, rfl⟩ : ∃ c l, L = c :: l := by
    cases L with
    | nil => exact absurd rfl h.ne
    | cons c l => exact ⟨c, l, rfl⟩
  obtain ⟨hp, ⟨q, hX, hs⟩, hM⟩ := h.sc
  subst hp
  have HH := Lib.hid (fun w' (hb : Below w.heap.size w w') => c_has c.X c.M c.n c.s.depth q c.s.m n.text hn.1 w' (blk_on hX hb) (hM.next hb))
  have HM := Lib.hid (And.intro h (And.intro hK (And.intro hl (And.intro hi hN))))
  have HE : Hid (loE r n = if (c.s.m n.text).isSome = true then 6 else if r.slots.length = 256 then 3 else 0) := Lib.hid (by unfold loE; rw [← h.le]; rfl)
  obtain ⟨sa, sc, hsv⟩ := own_slice h.so
  subst hsv
  obtain ⟨N, hNN⟩ : ∃ N, r.slots.length = N := ⟨_, rfl⟩
  have HN := Lib.hid hNN
  obtain ⟨z0, z1, z2, z3, zf⟩ := cells4 h.blk
  have hl := (Array.getElem?_eq_some_iff.1 h.blk).1
  rw [hNN] at z1
  have HOk := Lib.hid hn
  obtain ⟨le, hle⟩ : ∃ le, loE r n = le := ⟨_, rfl⟩
  rw [hle] at HE ⊢
  obtain ⟨hs1, hhs⟩ : ∃ b, (c.s.m n.text).isSome = b := ⟨_, rfl⟩
  rw [hhs] at HE HH
  have HLF : Hid (∀ e, loF r n i = e → loF r n i = e) := Lib.hid fun _ h => h
  clear h hX hM hs zf hNN hle hhs hn hi hN hK
  obtain ⟨nk, nn, na, ni, nt, ny⟩ := n
  show Calls Tryz.prog _ #[_, .agg #[.int .i64 nk, .int .i64 nn, .int .i64 na, .int .i64 ni, .string ⟨nt.toArray⟩, .string ⟨ny.toArray⟩], _] w _
  go_enter Tryz.func48, Tryz.ntmps48
  go_wp2_with fail
  obtain ⟨w1, hw1⟩ : ∃ w1, w.alloc (.cells #[.int .i64 nk, .int .i64 nn, .int .i64 na, .int .i64 ni, .string ⟨nt.toArray⟩, .string ⟨ny.toArray⟩] 47) = w1 := ⟨_, rfl⟩
  have hb1 : Below w.heap.size w w1 := by rw [← hw1]; exact below_o _ _
  have hx1 : w1.heap[w.heap.size]? = some (.cells #[.int .i64 nk, .int .i64 nn, .int .i64 na, .int .i64 ni, .string ⟨nt.toArray⟩, .string ⟨ny.toArray⟩] 47) := by rw [← hw1]; exact heap_alloc_at _ _ rfl
  rw [hw1]
  obtain ⟨XB, hXB⟩ : ∃ XB, w.heap.size = XB := ⟨_, rfl⟩
  have HXB := Lib.hid hXB
  rw [hXB] at hx1 ⊢
  have HB1 := Lib.hid hb1.drew
  have HX1 := Lib.hid (blk_on hx1 (Below.refl _ w1).drew)
  clear hw1 hb1 hx1 hXB z0 z1 z2 z3 hl
  obtain ⟨z0, z1, z2, z3, _⟩ := cells4 (HM.out.1.next HB1.out).blk
  have hl := (Array.getElem?_eq_some_iff.1 (HM.out.1.next HB1.out).blk).1
  obtain ⟨x0, x1, x2, x3, x4, x5, _⟩ := six_cells HX1.out
  have hxl := (Array.getElem?_eq_some_iff.1 HX1.out).1
  rw [HN.out] at z1
  refine wp_region_still_tail 6 (by kernel_rfl) (by kernel_rfl) ?_
  simp only [List.take_succ_cons, List.take_zero, List.drop_succ_cons, List.drop_zero]
  change wpStill _ _ w1.drew _ _ _
  generalize hW : w1.drew = W1 at z0 z1 z2 z3 hl x0 x1 x2 x3 x4 x5 hxl HB1 HX1 ⊢
  have HW := Lib.hid hW
  clear hW
  repeat still_step
  refine wpStill_nil ?_
  change wpList _ _ _ _ _ w1.drew
  rw [HW.out]
  go_wp2_with fail
  refine (HH.out W1 HB1.out).mono ?_
  rintro e w2 ⟨rfl, hb⟩
  have HB2 := Lib.hid (below_t HB1.out hb HB1.out.size)
  have HX2 := Lib.hid (blk_on HX1.out hb)
  clear hb z0 z1 z2 z3 hl x0 x1 x2 x3 x4 x5 hxl HB1 HX1 HW
  obtain ⟨z0, z1, z2, z3, _⟩ := cells4 (HM.out.1.next HB2.out).blk
  have hl := (Array.getElem?_eq_some_iff.1 (HM.out.1.next HB2.out).blk).1
  obtain ⟨x0, x1, x2, x3, x4, x5, _⟩ := six_cells HX2.out
  have hxl := (Array.getElem?_eq_some_iff.1 HX2.out).1
  rw [HN.out] at z1
  cases hs1 with
  | true =>
    obtain rfl : le = 6 := HE.out.trans (if_pos rfl)
    go_wp2_with fail
    go_ret
    exact ⟨rfl, fun h => (by cases h), HM.out.1.kf HB2.out⟩
  | false =>
    by_cases h256 : N = 256
    · obtain rfl : le = 3 := HE.out.trans (by rw [HN.out, if_neg (by decide), if_pos h256])
      subst h256
      go_wp2_with fail
      go_ret
      exact ⟨rfl, fun h => (by cases h), HM.out.1.kf HB2.out⟩
    · obtain rfl : le = 0 := HE.out.trans (by rw [HN.out, if_neg (by decide), if_neg h256])
      have hN5 : (((N : Int)) == 256) = false := by simp; omega
      go_wp2_with fail
      obtain ⟨Hi, hHi⟩ : ∃ Hi, w2.drew.heap.size = Hi := ⟨_, rfl⟩
      have HHi : Hid (XB < Hi ∧ w.heap.size ≤ XB) := Lib.hid ⟨by rw [← hHi]; exact hxl, by have := HXB.out; omega⟩
      have HR3 : Hid (RsM (G.span XB Hi) r (some ⟨c.X, 0, none⟩) (c :: L) (.slice sa r.slots.length sc) uv K w2.drew) := Lib.hid (HM.out.1.span HB2.out.drew HHi.out.2 (by omega))
      have HX3 := Lib.hid (blk_on HX2.out (Below.refl _ w2).drew)
      obtain ⟨vb, hvb⟩ : ∃ vb, (ni == 1) = vb := ⟨_, rfl⟩
      have HSl := Lib.hid (c_rSlot (G.span XB Hi) ⟨nt, ny, vb, false⟩ HOk.out i w2.drew HR3.out HM.out.2.1 (by have := HM.out.2.2.1; omega))
      have HVb := Lib.hid hvb
      simp only [HN.out] at HSl
      have hi0 : (0 : Int) ≤ (i : Int) := by omega
      have hiN : (i : Int) < (G.N : Int) := by have := HM.out.2.2.2.1; have := HM.out.1.bl; omega
      have HK3 := Lib.hid (HM.out.1.kf HB2.out.drew)
      clear hHi z0 z1 z2 z3 hl x0 x1 x2 x3 x4 x5 hxl
      obtain ⟨z0, z1, z2, z3, _⟩ := cells4 HR3.out.blk
      obtain ⟨x0, x1, x2, x3, x4, x5, _⟩ := six_cells HX3.out
      have HS0 : Hid ((fun w' : World => w'.cell? ⟨G.R, 2, none⟩ = some (.slice (some ⟨G.BD, 0, none⟩) G.N G.N) ∧ w'.cell? ⟨XB, 3, none⟩ = some (.int .i64 ni) ∧ w'.cell? ⟨XB, 4, none⟩ = some (nmS nt) ∧ w'.cell? ⟨XB, 5, none⟩ = some (nmS ny)) w2.drew) := Lib.hid ⟨z2, x3, x4, x5⟩
      have HKs : Hid (∀ w' j v, G.R ≠ G.BD → XB ≠ G.BD → (fun w' : World => w'.cell? ⟨G.R, 2, none⟩ = some (.slice (some ⟨G.BD, 0, none⟩) G.N G.N) ∧ w'.cell? ⟨XB, 3, none⟩ = some (.int .i64 ni) ∧ w'.cell? ⟨XB, 4, none⟩ = some (nmS nt) ∧ w'.cell? ⟨XB, 5, none⟩ = some (nmS ny)) w' → (fun w' : World => w'.cell? ⟨G.R, 2, none⟩ = some (.slice (some ⟨G.BD, 0, none⟩) G.N G.N) ∧ w'.cell? ⟨XB, 3, none⟩ = some (.int .i64 ni) ∧ w'.cell? ⟨XB, 4, none⟩ = some (nmS nt) ∧ w'.cell? ⟨XB, 5, none⟩ = some (nmS ny)) (w'.setCell ⟨G.BD, j, none⟩ v)) := Lib.hid fun w' j v h1 h2 ⟨k1, k2, k3, k4⟩ => by
        have e := Below.heap_setCell w' ⟨G.BD, j, none⟩ v G.R h1
        have e2 := Below.heap_setCell w' ⟨G.BD, j, none⟩ v XB h2
        exact ⟨(cell_of_blk e 2).trans k1, (cell_of_blk e2 3).trans k2, (cell_of_blk e2 4).trans k3, (cell_of_blk e2 5).trans k4⟩
      clear z0 z1 z2 z3 x0 x1 x2 x3 x4 x5
      go_region_held3 (fun w' : World => w'.cell? ⟨G.R, 2, none⟩ = some (.slice (some ⟨G.BD, 0, none⟩) G.N G.N) ∧ w'.cell? ⟨XB, 3, none⟩ = some (.int .i64 ni) ∧ w'.cell? ⟨XB, 4, none⟩ = some (nmS nt) ∧ w'.cell? ⟨XB, 5, none⟩ = some (nmS ny))
        (first | exact HS0.out | assumption | exact HKs.out _ _ _ HNe.out.1 HNe.out.2 (by assumption) | exact HKs.out _ _ _ HNe.out.1 HNe.out.2 (HKs.out _ _ _ HNe.out.1 HNe.out.2 (HKs.out _ _ _ HNe.out.1 HNe.out.2 (by assumption))))
        (first
          | (go_at_call 36; refine HSl.out.mono ?_; rintro e w3 ⟨rfl, ⟨c', sv', h3⟩, hk3⟩; have hsz : i < (r.slot ⟨nt, ny, vb, false⟩ i).bds.length := HM.out.2.2.2.1; obtain ⟨v0, v1, v2, d0, d1, d2, df⟩ := h3.bcell hsz; have d0 : w3.cell? ⟨G.BD, i * 3, none⟩ = some v0 := d0; have d1 : w3.cell? ⟨G.BD, i * 3 + 1, none⟩ = some v1 := d1; have d2 : w3.cell? ⟨G.BD, i * 3 + 2, none⟩ = some v2 := d2; have df0 : w3.frozen? ⟨G.BD, i * 3, none⟩ = false := df _; have df1 : w3.frozen? ⟨G.BD, i * 3 + 1, none⟩ = false := df _; have df2 : w3.frozen? ⟨G.BD, i * 3 + 2, none⟩ = false := df _; have HX4 := Lib.hid ((hk3.ons (Nat.le_refl _) HHi.out.1).trans HX3.out); have HNe : Hid (G.R ≠ G.BD ∧ XB ≠ G.BD) := Lib.hid ⟨ne_ty h3.blk h3.bd (by decide), ne_ty HX4.out h3.bd (by decide)⟩; have hS3 : (fun w' : World => w'.cell? ⟨G.R, 2, none⟩ = some (.slice (some ⟨G.BD, 0, none⟩) G.N G.N) ∧ w'.cell? ⟨XB, 3, none⟩ = some (.int .i64 ni) ∧ w'.cell? ⟨XB, 4, none⟩ = some (nmS nt) ∧ w'.cell? ⟨XB, 5, none⟩ = some (nmS ny)) w3 := ⟨(cells4 h3.blk).2.2.1, (six_cells HX4.out).2.2.2.1, (six_cells HX4.out).2.2.2.2.1, (six_cells HX4.out).2.2.2.2.2.1⟩; have HF3 := Lib.hid (And.intro h3 (And.intro hk3 hsz)); clear h3 hk3 hsz df))
      all_goals
        have hB9 := HF3.out.1.bind HF3.out.2.2 ⟨3, N, ny⟩
        go_wp2_with fail
        go_ret
        refine ⟨rfl, fun _ => ⟨some ⟨c.X, 0, none⟩, c' :: L, sv', uv, ?_⟩, HK3.out.trans ((HF3.out.2.1.trans hB9.2).slims)⟩
        have e : loF r ⟨nk, nn, na, ni, nt, ny⟩ i = { r.slot ⟨nt, ny, vb, false⟩ i with bds := (r.slot ⟨nt, ny, vb, false⟩ i).bds.set i ⟨3, N, ny⟩ } := by
          unfold loF
          rw [← HVb.out, ← HN.out]
          rfl
        rw [e]
        exact hB9.1.slims
end Go.Proofs.YtjadckhngalmlaaGreatDoor
namespace Go.Proofs.YtjadckhngalmlaaGreatDoor
set_option linter.unusedVariables false
set_option linter.unusedSimpArgs false
set_option maxRecDepth 100000
open Go.RowKit

theorem contS (L : List (List UInt8)) (l : List UInt8) : Lib.containsS (L.map fun s => (⟨s.toArray⟩ : ByteArray)) ⟨l.toArray⟩ = L.contains l := by
  rw [Bool.eq_iff_iff, Lib.containsS_iff, List.contains_iff_mem, List.mem_map]
  constructor
  · rintro ⟨s, h1, h2⟩
    have h3 : s.toArray = l.toArray := by injection h2
    have h4 : s = l := by simpa using h3
    rw [← h4]
    exact h1
  · intro h
    exact ⟨l, h, rfl⟩
theorem c_containsU {base : Nat} {U : List (List UInt8)} {ua : Option Addr} {uc : Nat} (nm : List UInt8) (hU : U.length ≤ 1000000) (w : World) (h : w.ownsRow base 9 1 (.slice ua U.length uc) U.length (usC U)) :
    Calls Tryz.prog 60 #[.slice ua U.length uc, nmS nm] w fun e w' => e = .returned (.bool (U.contains nm)) ∧ w' = w := by
  by_cases h0 : U.length = 0
  · have hu : U = [] := List.eq_nil_of_length_eq_zero h0
    subst hu
    exact Any.slices_Contains_string_empty Tryz.lays110 ua uc ⟨nm.toArray⟩ w
  · obtain ⟨g, rfl, _, _, hc⟩ := own_cell h (by omega)
    refine (Any.slices_Contains_string Tryz.lays110 g 0 U.length uc (U.map fun s => (⟨s.toArray⟩ : ByteArray)) ⟨nm.toArray⟩ w (by simp) (by omega) ?_).mono fun e w' ⟨he, hw⟩ => ⟨?_, hw⟩
    · intro j hj
      rw [List.length_map] at hj
      have := hc j _ (usC_at (List.getElem?_eq_getElem hj))
      rw [Nat.zero_add, this]
      simp [List.getD_eq_getElem?_getD, List.getElem?_eq_getElem hj]
    · rw [he, List.take_of_length_le (by simp), contS]
theorem RsM.more {G : RsG} {r : RsP} {p : Option Addr} {L : List ScM} {sv uv : Value} {K : Nat} {w : World} (h : RsM G r p L sv uv K w) : RsM G r p L sv uv (K + 1) w := { h with nb := fun c hc => Nat.le_succ_of_le (h.nb c hc) }
set_option maxHeartbeats 4000000 in
theorem c_rUse (G : RsG) {r : RsP} {p : Option Addr} {L : List ScM} {sv uv : Value} {K : Nat} (nm : List UInt8) (hn : nm.length ≤ 9223372036854775807) (i : Nat) (hi : i < r.bds.length) (hN : G.N ≤ 4096) (w : World) (h : RsM G r p L sv uv K w) (hu : r.uses.length ≤ 1000000) :
    Calls Tryz.prog 49 #[.pointer (some ⟨G.R, 0, none⟩), nmS nm, .int .i64 (i : Int)] w fun e w' => StT G K (usE r nm i) (usF r nm i) w e w' := by
  have HF := Lib.hid (fun w' (hb : Below w.heap.size w w') => c_find nm hn i L p w' h.ne (h.next hb).sc)
  rw [h.le] at HF
  have HM := Lib.hid (And.intro h (And.intro hu (And.intro hi hN)))
  obtain ⟨ua, uc, huv⟩ := own_slice h.uo
  subst huv
  obtain ⟨U, hU⟩ : ∃ U, r.uses.length = U := ⟨_, rfl⟩
  have HU := Lib.hid hU
  obtain ⟨z0, z1, z2, z3, zf⟩ := cells4 h.blk
  have hl := (Array.getElem?_eq_some_iff.1 h.blk).1
  rw [hU] at z3
  have HE : Hid (usE r nm i = if (findP r.sc nm i).kind = 0 then 130 else 0) := Lib.hid rfl
  have HX : Hid (usF r nm i = { r with bds := r.bds.set i (findP r.sc nm i), uses := if (ofF (findP r.sc nm i) && !r.uses.contains nm) = true then r.uses ++ [nm] else r.uses }) := Lib.hid rfl
  obtain ⟨b, hb⟩ : ∃ b, findP r.sc nm i = b := ⟨_, rfl⟩
  rw [hb] at HF HE HX
  obtain ⟨ue, hue⟩ : ∃ ue, usE r nm i = ue := ⟨_, rfl⟩
  rw [hue] at HE ⊢
  obtain ⟨ur, hur⟩ : ∃ ur, usF r nm i = ur := ⟨_, rfl⟩
  rw [hur] at HX ⊢
  clear h hn hi hN hu hU zf hb hue hur
  go_enter Tryz.func49, Tryz.ntmps49
  go_wp2_with fail
  refine (HF.out w (Below.refl _ _)).mono ?_
  rintro e w1 ⟨rfl, hb⟩
  have HB1 := Lib.hid hb
  clear hb z0 z1 z2 z3 hl
  obtain ⟨z0, z1, z2, z3, zf⟩ := cells4 (HM.out.1.next HB1.out).blk
  have hl := (Array.getElem?_eq_some_iff.1 (HM.out.1.next HB1.out).blk).1
  rw [HU.out] at z3
  obtain ⟨bk, bi, bt⟩ := b
  by_cases hk : bk = 0
  · subst hk
    obtain rfl : ue = 130 := HE.out.trans (if_pos rfl)
    have hf0 : ∀ W, (Instr.field 49 (bdV ⟨0, bi, bt⟩) 0).run Tryz.prog W = .ok (.int .i64 0) W := fun W => by kernel_rfl
    go_wp2_with fail
    go_ret
    exact ⟨rfl, fun h => (by cases h), HM.out.1.kf (below_t HB1.out (below_o _ _) HB1.out.size)⟩
  · have hkb : (bk != 0) = true := by simpa using hk
    have hkb2 : (bk == 0) = false := by simpa using hk
    obtain rfl : ue = 0 := HE.out.trans (if_neg hk)
    go_wp2_with fail
    obtain ⟨w2, hw2⟩ : ∃ w2, w1.alloc (.cells #[.int .i64 bk, .int .i64 (bi : Int), .string ⟨bt.toArray⟩] 49) = w2 := ⟨_, rfl⟩
    have hb2 : Below w1.heap.size w1 w2 := by rw [← hw2]; exact below_o _ _
    have hx2 : w2.heap[w1.heap.size]? = some (.cells #[.int .i64 bk, .int .i64 (bi : Int), .string ⟨bt.toArray⟩] 49) := by rw [← hw2]; exact heap_alloc_at _ _ rfl
    rw [hw2]
    obtain ⟨BX, hBX⟩ : ∃ BX, w1.heap.size = BX := ⟨_, rfl⟩
    rw [hBX] at hx2 ⊢
    have HBX : Hid (w.heap.size ≤ BX ∧ BX < w2.heap.size) := Lib.hid ⟨by rw [← hBX]; exact HB1.out.size, (Array.getElem?_eq_some_iff.1 hx2).1⟩
    obtain ⟨Hi, hHi⟩ : ∃ Hi, w2.heap.size = Hi := ⟨_, rfl⟩
    have HHi : Hid (BX < Hi) := Lib.hid (by have := HBX.out.2; omega)
    have HR2 : Hid (RsM (G.span BX Hi) r p L sv (.slice ua r.uses.length uc) K w2) := Lib.hid (HM.out.1.span (below_t HB1.out hb2 HB1.out.size) HBX.out.1 (by omega))
    have HX2 := Lib.hid hx2
    have HK2 := Lib.hid (HM.out.1.kf (below_t HB1.out hb2 HB1.out.size))
    clear hw2 hb2 hBX hHi z0 z1 z2 z3 hl zf
    obtain ⟨z0, z1, z2, z3, _⟩ := cells4 HR2.out.blk
    have z2 : w2.cell? ⟨G.R, 2, none⟩ = some (.slice (some ⟨G.BD, 0, none⟩) G.N G.N) := z2
    have hl : G.R < w2.heap.size := (Array.getElem?_eq_some_iff.1 HR2.out.blk).1
    obtain ⟨x0, x1, x2, _⟩ := cells3 HX2.out
    have hxl := (Array.getElem?_eq_some_iff.1 HX2.out).1
    obtain ⟨v0, v1, v2, d0, d1, d2, df⟩ := HR2.out.bcell HM.out.2.2.1
    have d0 : w2.cell? ⟨G.BD, i * 3, none⟩ = some v0 := d0
    have d1 : w2.cell? ⟨G.BD, i * 3 + 1, none⟩ = some v1 := d1
    have d2 : w2.cell? ⟨G.BD, i * 3 + 2, none⟩ = some v2 := d2
    have df0 : w2.frozen? ⟨G.BD, i * 3, none⟩ = false := df _
    have df1 : w2.frozen? ⟨G.BD, i * 3 + 1, none⟩ = false := df _
    have df2 : w2.frozen? ⟨G.BD, i * 3 + 2, none⟩ = false := df _
    have hdl : G.BD < w2.heap.size := (Array.getElem?_eq_some_iff.1 HR2.out.bd).1
    have hi0 : (0 : Int) ≤ (i : Int) := by omega
    have hiN : (i : Int) < (G.N : Int) := by have := HM.out.2.2.1; have := HM.out.1.bl; omega
    clear df hx2
    go_region
    have H4 : RsM (G.span BX Hi) { r with bds := r.bds.set i ⟨bk, bi, bt⟩ } p L sv (.slice ua r.uses.length uc) K (((w2.setCell ⟨G.BD, i * 3, none⟩ (.int .i64 bk)).setCell ⟨G.BD, i * 3 + 1, none⟩ (.int .i64 (bi : Int))).setCell ⟨G.BD, i * 3 + 2, none⟩ (.string ⟨bt.toArray⟩)).drew ∧ Kf (G.span BX Hi) w2 (((w2.setCell ⟨G.BD, i * 3, none⟩ (.int .i64 bk)).setCell ⟨G.BD, i * 3 + 1, none⟩ (.int .i64 (bi : Int))).setCell ⟨G.BD, i * 3 + 2, none⟩ (.string ⟨bt.toArray⟩)).drew := by
      have hB := HR2.out.bind HM.out.2.2.1 ⟨bk, bi, bt⟩
      exact ⟨hB.1.next (Below.refl _ _).drew, hB.2.trans (hB.1.kf (Below.refl _ _).drew)⟩
    clear z0 z1 z2 z3 hl x0 x1 x2 hxl d0 d1 d2 df0 df1 df2 hdl
    generalize (((w2.setCell ⟨G.BD, i * 3, none⟩ (.int .i64 bk)).setCell ⟨G.BD, i * 3 + 1, none⟩ (.int .i64 (bi : Int))).setCell ⟨G.BD, i * 3 + 2, none⟩ (.string ⟨bt.toArray⟩)).drew = w4 at H4 ⊢
    have HR4 := Lib.hid H4.1
    have HK4 := Lib.hid (HK2.out.trans H4.2.slims)
    have HX4 := Lib.hid ((H4.2.ons (Nat.le_refl _) HHi.out).trans HX2.out)
    have HCo := Lib.hid (c_containsU (U := r.uses) (ua := ua) (uc := uc) nm HM.out.2.1 w4 HR4.out.uo)
    have HOf : Hid (ofF ⟨bk, bi, bt⟩ = (bk == 1 || bk == 2)) := Lib.hid rfl
    rw [HU.out] at HCo
    obtain ⟨q3, hq3⟩ : ∃ q3, r.uses.contains nm = q3 := ⟨_, rfl⟩
    rw [hq3] at HCo HX
    obtain ⟨q1, hq1⟩ : ∃ q1, (bk == 1) = q1 := ⟨_, rfl⟩
    obtain ⟨q2, hq2⟩ : ∃ q2, (bk == 2) = q2 := ⟨_, rfl⟩
    rw [hq1, hq2] at HOf
    rw [HOf.out] at HX
    clear H4
    obtain ⟨z0, z1, z2, z3, zf⟩ := cells4 HR4.out.blk
    have z3 : w4.cell? ⟨G.R, 3, none⟩ = some (.slice ua U uc) := by rw [← HU.out]; exact z3
    have hl : G.R < w4.heap.size := (Array.getElem?_eq_some_iff.1 HR4.out.blk).1
    obtain ⟨x0, x1, x2, _⟩ := cells3 HX4.out
    have hxl := (Array.getElem?_eq_some_iff.1 HX4.out).1
    have h3 : (q1 = false ∧ q2 = false) ∨ (q1 = true ∨ (q1 = false ∧ q2 = true)) := by cases q1 <;> cases q2 <;> simp
    rcases h3 with ⟨rfl, rfl⟩ | h3
    · go_wp2_with fail
      go_ret
      refine ⟨rfl, fun _ => ⟨p, L, sv, .slice ua r.uses.length uc, ?_⟩, HK4.out⟩
      rw [HX.out]
      exact HR4.out.slims.more
    · have hqq : (q1 || q2) = true := by rcases h3 with rfl | ⟨rfl, rfl⟩ <;> simp
      rw [hqq] at HX
      clear hqq
      obtain ⟨i0, hi, hz0, hz1, hz2⟩ := info_parts infoStr
      rcases h3 with rfl | ⟨rfl, rfl⟩
      all_goals
        go_wp2_with fail
        refine HCo.out.mono ?_
        rintro e w5 ⟨rfl, rfl⟩
        cases q3 with
        | true =>
          go_wp2_with fail
          go_ret
          refine ⟨rfl, fun _ => ⟨p, L, sv, .slice ua r.uses.length uc, ?_⟩, HK4.out⟩
          rw [HX.out]
          exact HR4.out.slims.more
        | false =>
          have HA := Lib.hid (HR4.out.next (below_o w5 (.cells #[nmS nm] 9)))
          have HKA := Lib.hid (HK4.out.trans (HR4.out.slims.kf (below_o w5 (.cells #[nmS nm] 9))))
          have HOr : Hid ((w5.alloc (.cells #[nmS nm] 9)).ownsRow G.base 9 1 (.slice ua U uc) U (usC r.uses)) := Lib.hid (by
            have := HA.out.uo
            rw [← HU.out]
            exact this)
          go_wp2_with (at_builtin; refine wpList_append_lies _ rfl _ _ 37 rfl G.base 9 i0 (.string ByteArray.empty) 1 16 Tryz.underlying37 hi hz0 hz1 hz2 rfl (by decide) (.slice ua U uc) U (usC r.uses) rfl (by exact HOr.out) ⟨w5.heap.size, 0, none⟩ 1 1 [nmS nm] rfl rfl ?cc1 ?cc2 (by decide) ?cc3 ?cc4 ?cc5 (w5.heap.size + 1) ?cc6 ?_)
          case cc1 =>
            intro j u hj
            exact World.news_of_block (heap_alloc_new w5 (.cells #[nmS nm] 9)) j u (by simpa using hj)
          case cc2 =>
            intro u hu
            rw [List.mem_singleton] at hu
            subst hu
            rfl
          case cc3 => have := HM.out.2.1; have := HU.out; unfold maxLen; omega
          case cc4 => have := HM.out.2.1; have := HU.out; omega
          case cc5 => exact HA.out.bs
          case cc6 => simp
          intro g6 cap6 w6 hown6 hgrow6 hat6 hlt6
          have HO := Lib.hid (HA.out.usd nm (v := .slice (some ⟨g6, 0, none⟩) (U + 1) cap6) (by
            show w6.ownsRow G.base 9 1 _ (r.uses.length + 1) (usC r.uses ++ [nmS nm])
            rw [HU.out]
            exact hown6) (by
            rw [ob_len ua r.uses.length U uc uc]
            exact hgrow6) (fun g hg => by
            have hgg : g6 = g := by simpa [Value.ownBlock] using hg
            subst hgg
            rcases hat6 with h1 | h1
            · exact .inl (by rw [ob_len ua r.uses.length U uc uc]; exact h1)
            · exact .inr (by rw [h1]; exact Nat.le_of_eq (by simp))))
          have hob : (Value.slice ua U uc).ownBlock ≠ some G.R := fun e => by
            obtain ⟨cur, hh⟩ := own_ty HOr.out e
            exact ne_ty hh HA.out.blk (by decide) rfl
          have hfl : G.R < (w5.alloc (.cells #[nmS nm] 9)).heap.size := (Array.getElem?_eq_some_iff.1 HA.out.blk).1
          have hc := cells4 HA.out.blk
          have hv6 : w6.cell? ⟨G.R, 3, none⟩ = some (.slice ua U uc) := (hgrow6.cell_far ⟨G.R, 3, none⟩ hfl (Ne.symm hob)).trans (by
            have := hc.2.2.2.1
            rw [HU.out] at this
            exact this)
          have hf6 : w6.frozen? ⟨G.R, 3, none⟩ = false := (hgrow6.frozen_far ⟨G.R, 3, none⟩ hfl (Ne.symm hob)).trans (hc.2.2.2.2 3)
          have hl6 : G.R < w6.heap.size := Nat.lt_of_lt_of_le hfl hgrow6.size
          clear hown6 hgrow6 hat6 hob hfl hc z0 z1 z2 z3 zf
          go_wp2_with fail
          go_ret
          refine ⟨rfl, fun _ => ⟨p, L, sv, .slice (some ⟨g6, 0, none⟩) (U + 1) cap6, ?_⟩, HKA.out.trans HO.out.2.slims⟩
          rw [HX.out]
          exact HO.out.1.slims.more
end Go.Proofs.YtjadckhngalmlaaGreatDoor
namespace Go.Proofs.YtjadckhngalmlaaGreatDoor
set_option linter.unusedVariables false
set_option linter.unusedSimpArgs false
set_option maxRecDepth 100000
open Go.RowKit

/-- A new scope, innermost. -/
theorem RsM.enter {G : RsG} {r : RsP} {p : Option Addr} {L : List ScM} {sv uv : Value} {K : Nat} {w wn : World} (h : RsM G r p L sv uv K w) (hb : Below w.heap.size w wn) (d : Nat) :
    RsM G r p L sv uv K ((wn.alloc (.map #[] 0)).alloc (scO p wn.heap.size d)) ∧ Below wn.heap.size wn ((wn.alloc (.map #[] 0)).alloc (scO p wn.heap.size d)) ∧
    RsM G { r with sc := ⟨mp0, d⟩ :: r.sc } (some ⟨wn.heap.size + 1, 0, none⟩) (⟨wn.heap.size + 1, wn.heap.size, 0, ⟨mp0, d⟩⟩ :: L) sv uv (K + 1) (((wn.alloc (.map #[] 0)).alloc (scO p wn.heap.size d)).setCell ⟨G.R, 0, none⟩ (.pointer (some ⟨wn.heap.size + 1, 0, none⟩))) ∧
    Kf G wn (((wn.alloc (.map #[] 0)).alloc (scO p wn.heap.size d)).setCell ⟨G.R, 0, none⟩ (.pointer (some ⟨wn.heap.size + 1, 0, none⟩))) := by
  have hn := h.next hb
  have hb2 : Below wn.heap.size wn ((wn.alloc (.map #[] 0)).alloc (scO p wn.heap.size d)) := below_t (below_o _ _) (below_o _ _) (by simp)
  have h3 := hn.next hb2
  have hm : MpIn dcV wn.heap.size 0 mp0 ((wn.alloc (.map #[] 0)).alloc (scO p wn.heap.size d)) := (MpIn.made dcV wn).next (below_o _ _)
  have hx : ((wn.alloc (.map #[] 0)).alloc (scO p wn.heap.size d)).heap[wn.heap.size + 1]? = some (scO p wn.heap.size d) := heap_alloc_at _ _ (by simp)
  have hs : ScIn ((wn.alloc (.map #[] 0)).alloc (scO p wn.heap.size d)) (⟨wn.heap.size + 1, wn.heap.size, 0, ⟨mp0, d⟩⟩ :: L) (some ⟨wn.heap.size + 1, 0, none⟩) := ⟨rfl, ⟨p, hx, h3.sc⟩, hm⟩
  have hS := h3.scp hs (by simp) (by
    simp only [List.map_cons, List.nodup_cons]
    refine ⟨fun hc => ?_, h3.nd⟩
    obtain ⟨c, hc, he⟩ := List.mem_map.1 hc
    have := (hn.sc.types c hc).2.lt
    omega) (fun c hc => by
    rcases List.mem_cons.1 hc with rfl | hc
    · exact Nat.zero_le _
    · exact h3.nb c hc) (fun c hc => by
    rcases List.mem_cons.1 hc with rfl | hc
    · exact hn.bs
    · exact h3.lM c hc) (fun c hc => by
    rcases List.mem_cons.1 hc with rfl | hc
    · exact fun hz => by
        have := hn.zs _ hz
        have e : (⟨wn.heap.size + 1, wn.heap.size, 0, ⟨mp0, d⟩⟩ : ScM).M = wn.heap.size := rfl
        omega
    · exact h3.zM c hc)
  refine ⟨h3, hb2, ?_, (hn.kf hb2).trans hS.2⟩
  have e : ({ r with sc := ⟨mp0, d⟩ :: r.sc } : RsP) = { r with sc := (⟨wn.heap.size + 1, wn.heap.size, 0, ⟨mp0, d⟩⟩ :: L).map ScM.s } := by rw [List.map_cons, h.le]
  rw [e]
  exact hS.1.more
set_option maxHeartbeats 4000000 in
theorem c_rNode (G : RsG) {r : RsP} {p : Option Addr} {L : List ScM} {sv uv : Value} {K : Nat} (n : NdT) (hn : NdOk n) (i d : Nat) (hi : i < r.bds.length) (hN : G.N ≤ 4096) (w : World) (h : RsM G r p L sv uv K w) (hK : K < 4503599627370496) (hl : r.slots.length ≤ 256) (hu : r.uses.length ≤ 1000000) (hd : d ≤ 1000000) :
    Calls Tryz.prog 39 #[.pointer (some ⟨G.R, 0, none⟩), noX n, .int .i64 (i : Int), .int .i64 (d : Int)] w fun e w' => StT G K (noE r n i d) (noF r n i d) w e w' := by
  have HM := Lib.hid (And.intro h (And.intro hK (And.intro hl (And.intro hu (And.intro hi (And.intro hN hd))))))
  have HLo := Lib.hid (fun w' (hb : Below w.heap.size w w') => c_rLocal G n hn i hi hN w' (h.next hb) hK hl)
  have HUs := Lib.hid (fun w' (hb : Below w.heap.size w w') => c_rUse G n.text hn.1 i hi hN w' (h.next hb) hu)
  obtain ⟨z0, z1, z2, z3, zf⟩ := cells4 h.blk
  have zf0 := zf 0
  have hl := (Array.getElem?_eq_some_iff.1 h.blk).1
  have HE : Hid (noE r n i d = if n.kind = 22 then loE r n else if n.kind = 3 then usE r n.text i else 0) := Lib.hid rfl
  have HX : Hid (noF r n i d = if n.kind = 21 ∨ n.kind = 26 then if 1 < d then { r with sc := ⟨mp0, d⟩ :: r.sc } else r else if n.kind = 22 then loF r n i else if n.kind = 3 then usF r n.text i else r) := Lib.hid rfl
  obtain ⟨ne, hne⟩ : ∃ ne, noE r n i d = ne := ⟨_, rfl⟩
  obtain ⟨nf, hnf⟩ : ∃ nf, noF r n i d = nf := ⟨_, rfl⟩
  rw [hne] at HE ⊢
  rw [hnf] at HX ⊢
  clear h hn hi hN hK hu hd zf hne hnf
  have h5 : n.kind = 21 ∨ n.kind = 26 ∨ n.kind = 22 ∨ n.kind = 3 ∨ (n.kind ≠ 21 ∧ n.kind ≠ 26 ∧ n.kind ≠ 22 ∧ n.kind ≠ 3) := by omega
  obtain ⟨nk, nn, na, ni, nt, ny⟩ := n
  show Calls Tryz.prog _ #[_, .agg #[.int .i64 nk, .int .i64 nn, .int .i64 na, .int .i64 ni, .string ⟨nt.toArray⟩, .string ⟨ny.toArray⟩], _, _] w _
  simp only at h5 HE HX HLo HUs
  rcases h5 with rfl | rfl | rfl | rfl | ⟨h1, h2, h3, h4⟩
  · obtain rfl : ne = 0 := HE.out.trans (by rw [if_neg (by decide), if_neg (by decide)])
    have HX2 := Lib.hid (HX.out.trans (if_pos (.inl rfl)))
    by_cases h1d : 1 < d
    · have hd1 : decide ((d : Int) > 1) = true := by simp; omega
      have hd2 : decide ((1 : Int) < (d : Int)) = true := by simp; omega
      have HX3 := Lib.hid (HX2.out.trans (if_pos h1d))
      go_enter Tryz.func39, Tryz.ntmps39
      go_wp2_with fail
      refine (c_within p d _).mono ?_
      rintro e w1 ⟨rfl, rfl⟩
      obtain ⟨wn, hwn⟩ : ∃ wn, w.alloc (.cells #[.int .i64 21, .int .i64 nn, .int .i64 na, .int .i64 ni, .string ⟨nt.toArray⟩, .string ⟨ny.toArray⟩] 47) = wn := ⟨_, rfl⟩
      have hbn : Below w.heap.size w wn := by rw [← hwn]; exact below_o _ _
      rw [hwn]
      have HNw := Lib.hid (HM.out.1.enter hbn d)
      have HKn := Lib.hid (HM.out.1.kf hbn)
      clear hwn hbn z0 z1 z2 z3 zf0 hl
      obtain ⟨MB, hMB⟩ : ∃ MB, wn.heap.size = MB := ⟨_, rfl⟩
      rw [hMB] at HNw ⊢
      obtain ⟨w3, hw3⟩ : ∃ w3, (wn.alloc (.map #[] 0)).alloc (scO p MB d) = w3 := ⟨_, rfl⟩
      rw [hw3] at HNw ⊢
      clear hw3 hMB
      obtain ⟨z0, z1, z2, z3, zf⟩ := cells4 HNw.out.1.blk
      have zf0 := zf 0
      have hl := (Array.getElem?_eq_some_iff.1 HNw.out.1.blk).1
      clear zf
      go_wp2_with fail
      go_ret
      refine ⟨rfl, fun _ => ⟨some ⟨MB + 1, 0, none⟩, ⟨MB + 1, MB, 0, ⟨mp0, d⟩⟩ :: L, sv, uv, ?_⟩, HKn.out.trans HNw.out.2.2.2⟩
      rw [HX3.out]
      exact HNw.out.2.2.1
    · have hd1 : decide ((d : Int) > 1) = false := by simp; omega
      have hd2 : decide ((1 : Int) < (d : Int)) = false := by simp; omega
      have HX3 := Lib.hid (HX2.out.trans (if_neg h1d))
      go_enter Tryz.func39, Tryz.ntmps39
      go_wp2_with fail
      go_ret
      refine ⟨rfl, fun _ => ⟨p, L, sv, uv, ?_⟩, HM.out.1.kf (below_o _ _)⟩
      rw [HX3.out]
      exact (HM.out.1.next (below_o _ _)).more
  · obtain rfl : ne = 0 := HE.out.trans (by rw [if_neg (by decide), if_neg (by decide)])
    have HX2 := Lib.hid (HX.out.trans (if_pos (.inr rfl)))
    by_cases h1d : 1 < d
    · have hd1 : decide ((d : Int) > 1) = true := by simp; omega
      have hd2 : decide ((1 : Int) < (d : Int)) = true := by simp; omega
      have HX3 := Lib.hid (HX2.out.trans (if_pos h1d))
      go_enter Tryz.func39, Tryz.ntmps39
      go_wp2_with fail
      refine (c_within p d _).mono ?_
      rintro e w1 ⟨rfl, rfl⟩
      obtain ⟨wn, hwn⟩ : ∃ wn, w.alloc (.cells #[.int .i64 26, .int .i64 nn, .int .i64 na, .int .i64 ni, .string ⟨nt.toArray⟩, .string ⟨ny.toArray⟩] 47) = wn := ⟨_, rfl⟩
      have hbn : Below w.heap.size w wn := by rw [← hwn]; exact below_o _ _
      rw [hwn]
      have HNw := Lib.hid (HM.out.1.enter hbn d)
      have HKn := Lib.hid (HM.out.1.kf hbn)
      clear hwn hbn z0 z1 z2 z3 zf0 hl
      obtain ⟨MB, hMB⟩ : ∃ MB, wn.heap.size = MB := ⟨_, rfl⟩
      rw [hMB] at HNw ⊢
      obtain ⟨w3, hw3⟩ : ∃ w3, (wn.alloc (.map #[] 0)).alloc (scO p MB d) = w3 := ⟨_, rfl⟩
      rw [hw3] at HNw ⊢
      clear hw3 hMB
      obtain ⟨z0, z1, z2, z3, zf⟩ := cells4 HNw.out.1.blk
      have zf0 := zf 0
      have hl := (Array.getElem?_eq_some_iff.1 HNw.out.1.blk).1
      clear zf
      go_wp2_with fail
      go_ret
      refine ⟨rfl, fun _ => ⟨some ⟨MB + 1, 0, none⟩, ⟨MB + 1, MB, 0, ⟨mp0, d⟩⟩ :: L, sv, uv, ?_⟩, HKn.out.trans HNw.out.2.2.2⟩
      rw [HX3.out]
      exact HNw.out.2.2.1
    · have hd1 : decide ((d : Int) > 1) = false := by simp; omega
      have hd2 : decide ((1 : Int) < (d : Int)) = false := by simp; omega
      have HX3 := Lib.hid (HX2.out.trans (if_neg h1d))
      go_enter Tryz.func39, Tryz.ntmps39
      go_wp2_with fail
      go_ret
      refine ⟨rfl, fun _ => ⟨p, L, sv, uv, ?_⟩, HM.out.1.kf (below_o _ _)⟩
      rw [HX3.out]
      exact (HM.out.1.next (below_o _ _)).more
  · obtain rfl := HE.out.trans (if_pos rfl)
    have HX := Lib.hid (HX.out.trans (by rw [if_neg (by decide), if_pos rfl]))
    go_enter Tryz.func39, Tryz.ntmps39
    go_wp2_with fail
    refine (HLo.out _ (below_o _ _)).mono ?_
    rintro e w1 ⟨rfl, h1, h2⟩
    have HS := Lib.hid (And.intro h1 ((HM.out.1.kf (below_o _ _)).trans h2))
    clear h1 h2 z0 z1 z2 z3 zf0 hl
    go_wp2_with fail
    go_ret
    rw [HX.out]
    exact ⟨rfl, HS.out.1, HS.out.2⟩
  · obtain rfl := HE.out.trans ((if_neg (by decide)).trans (if_pos rfl))
    have HX := Lib.hid (HX.out.trans (by rw [if_neg (by decide), if_neg (by decide), if_pos rfl]))
    go_enter Tryz.func39, Tryz.ntmps39
    go_wp2_with fail
    refine (HUs.out _ (below_o _ _)).mono ?_
    rintro e w1 ⟨rfl, h1, h2⟩
    have HS := Lib.hid (And.intro h1 ((HM.out.1.kf (below_o _ _)).trans h2))
    clear h1 h2 z0 z1 z2 z3 zf0 hl
    go_wp2_with fail
    go_ret
    rw [HX.out]
    exact ⟨rfl, HS.out.1, HS.out.2⟩
  · obtain rfl : ne = 0 := HE.out.trans (by rw [if_neg h3, if_neg h4])
    have HX := Lib.hid (HX.out.trans (by rw [if_neg (by omega), if_neg h3, if_neg h4]))
    go_enter Tryz.func39, Tryz.ntmps39
    go_wp2_with fail
    go_ret
    refine ⟨rfl, fun _ => ⟨p, L, sv, uv, ?_⟩, HM.out.1.kf (below_o _ _)⟩
    rw [HX.out]
    exact (HM.out.1.next (below_o _ _)).more
end Go.Proofs.YtjadckhngalmlaaGreatDoor
