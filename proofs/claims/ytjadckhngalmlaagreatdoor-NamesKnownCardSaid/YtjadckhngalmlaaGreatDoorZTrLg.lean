/-
  The contracts of isRight, isWrong, and of whether any node is wrong, in the code.
-/
import Derived.Test.YtjadckhngalmlaaGreatDoorZTrPo
import Derived.Test.YtjadckhngalmlaaGreatDoorZTyKf
import Derived.Test.YtjadckhngalmlaaGreatDoorZTyRv
import Derived.Shelf.Slices.Turned
import Derived.Shelf.SlicesQ.IndexFunc
namespace Go.Proofs.YtjadckhngalmlaaGreatDoor
set_option linter.unusedVariables false
set_option linter.unusedSimpArgs false
set_option maxRecDepth 100000
open Go.RowKit

set_option maxHeartbeats 2000000 in
theorem c_binaryLevel (l : List UInt8) (w : World) :
    Calls Tryz.prog 112 #[.string ⟨l.toArray⟩] w fun e w' => (∃ v : Int, e = .returned (.int .i64 v) ∧ (v != 0) = biM.contains l) ∧ w' = w := by
  go_enter Tryz.func112, Tryz.ntmps112
  go_wp2
  all_goals
    go_ret
    refine ⟨⟨_, rfl, ?_⟩, rfl⟩
    first
      | (exfalso; simp_all; done)
      | (unfold biM; simp only [List.contains_cons, List.contains_nil]; simp [*]; done)
theorem contains_str (L : List (List UInt8)) (l : List UInt8) : Lib.containsS (L.map fun s => (⟨s.toArray⟩ : ByteArray)) ⟨l.toArray⟩ = L.contains l := by
  rw [Bool.eq_iff_iff, Lib.containsS_iff, List.contains_iff_mem, List.mem_map]
  constructor
  · rintro ⟨s, h1, h2⟩
    have h3 : s.toArray = l.toArray := by injection h2
    have h4 : s = l := by simpa using h3
    rw [← h4]
    exact h1
  · intro h
    exact ⟨l, h, rfl⟩
theorem c_conS (L : List (List UInt8)) (b n c : Nat) (l : List UInt8) (w : World) (hn : L.length = n) (hm : n ≤ 64) (hc : ∀ (j : Nat) (s : List UInt8), L[j]? = some s → w.cell? ⟨b, j, none⟩ = some (.string ⟨s.toArray⟩)) :
    Calls Tryz.prog 60 #[.slice (some ⟨b, 0, none⟩) n c, .string ⟨l.toArray⟩] w fun e w' => e = .returned (.bool (L.contains l)) ∧ w' = w := by
  subst hn
  refine (Any.slices_Contains_string Tryz.lays110 b 0 L.length c (L.map fun s => (⟨s.toArray⟩ : ByteArray)) ⟨l.toArray⟩ w (by simp) (by omega) ?_).mono fun e w' ⟨he, hw⟩ => ⟨?_, hw⟩
  · intro j hj
    rw [List.length_map] at hj
    have := hc j L[j] (List.getElem?_eq_getElem hj)
    rw [Nat.zero_add, this]
    simp [List.getD_eq_getElem?_getD, List.getElem?_eq_getElem hj]
  · rw [he, List.take_of_length_le (by simp), contains_str]
set_option maxHeartbeats 2000000 in
theorem c_isMark (k : Int) (hk : k = 4 ∨ k = 5 ∨ k = 6 ∨ k = 7 ∨ k = 8) (l : List UInt8) (w : World) :
    Calls Tryz.prog 105 #[.int .i64 k, .string ⟨l.toArray⟩] w fun e w' => e = .returned (.bool (mkB k l)) ∧ Below w.heap.size w w' := by
  rcases hk with rfl | rfl | rfl | rfl | rfl
  · obtain ⟨r, hr⟩ : ∃ r, mkB 4 l = r := ⟨_, rfl⟩
    have HR : Hid (unM.contains l = r) := by rw [← hr]; unfold mkB; rfl
    have HC := Lib.hid (c_conS unM w.heap.size 5 5 l)
    rw [HR.out] at HC
    rw [hr]
    clear hr
    go_enter Tryz.func105, Tryz.ntmps105
    go_wp2_with fail
    refine (HC.out _ rfl (by decide) ?_).mono ?_
    · intro j s hs
      match j, hs with
      | 0, hs => cases hs; simp
      | 1, hs => cases hs; simp
      | 2, hs => cases hs; simp
      | 3, hs => cases hs; simp
      | 4, hs => cases hs; simp
    rintro e w2 ⟨rfl, rfl⟩
    go_wp2_with fail
    go_ret
    exact ⟨rfl, below_o _ _⟩
  · obtain ⟨r, hr⟩ : ∃ r, mkB 5 l = r := ⟨_, rfl⟩
    rw [hr]
    have HR : Hid (ppM.contains l = r) := by rw [← hr]; unfold mkB; rfl
    clear hr
    go_enter Tryz.func105, Tryz.ntmps105
    go_wp2_with fail
    all_goals
      go_ret
      refine ⟨ret_b ?_, Below.refl _ _⟩
      rw [← HR.out]
      unfold ppM
      simp only [List.contains_cons, List.contains_nil]
      simp [*]
  · obtain ⟨r, hr⟩ : ∃ r, mkB 6 l = r := ⟨_, rfl⟩
    rw [hr]
    have HR : Hid (ppM.contains l = r) := by rw [← hr]; unfold mkB; rfl
    clear hr
    go_enter Tryz.func105, Tryz.ntmps105
    go_wp2_with fail
    all_goals
      go_ret
      refine ⟨ret_b ?_, Below.refl _ _⟩
      rw [← HR.out]
      unfold ppM
      simp only [List.contains_cons, List.contains_nil]
      simp [*]
  · obtain ⟨r, hr⟩ : ∃ r, mkB 7 l = r := ⟨_, rfl⟩
    rw [hr]
    have HR : Hid (biM.contains l = r) := by rw [← hr]; unfold mkB; rfl
    have HC := Lib.hid (c_binaryLevel l)
    rw [HR.out] at HC
    clear hr
    go_enter Tryz.func105, Tryz.ntmps105
    go_wp2_with fail
    refine (HC.out _).mono ?_
    rintro e w2 ⟨⟨v, rfl, hv⟩, rfl⟩
    go_wp2_with fail
    go_ret
    exact ⟨rfl, Below.refl _ _⟩
  · obtain ⟨r, hr⟩ : ∃ r, mkB 8 l = r := ⟨_, rfl⟩
    have HR : Hid (asM.contains l = r) := by rw [← hr]; unfold mkB; rfl
    have HC := Lib.hid (c_conS asM w.heap.size 11 11 l)
    rw [HR.out] at HC
    rw [hr]
    clear hr
    go_enter Tryz.func105, Tryz.ntmps105
    go_wp2_with fail
    refine (HC.out _ rfl (by decide) ?_).mono ?_
    · intro j s hs
      match j, hs with
      | 0, hs => cases hs; simp
      | 1, hs => cases hs; simp
      | 2, hs => cases hs; simp
      | 3, hs => cases hs; simp
      | 4, hs => cases hs; simp
      | 5, hs => cases hs; simp
      | 6, hs => cases hs; simp
      | 7, hs => cases hs; simp
      | 8, hs => cases hs; simp
      | 9, hs => cases hs; simp
      | 10, hs => cases hs; simp
    rintro e w2 ⟨rfl, rfl⟩
    go_wp2_with fail
    go_ret
    exact ⟨rfl, below_o _ _⟩
set_option maxHeartbeats 4000000 in
theorem c_hasRightText (k n a i : Int) (l : List UInt8) (t : ByteArray) (hl : l.length ≤ 9223372036854775807) (w : World) : Calls Tryz.prog 91 #[noV k n a i ⟨l.toArray⟩ t] w fun e w' => e = .returned (.bool (txB k l)) ∧ Below w.heap.size w w' := by
  have H1 := Lib.hid (fun W => c_IsName l W hl)
  have H2 := Lib.hid (fun h W => c_isMark k h l W)
  have hle : ((⟨l.toArray⟩ : ByteArray).size : Int) = (l.length : Int) := by show ((l.toArray.size : Nat) : Int) = _; simp
  obtain ⟨r, hr⟩ : ∃ r, txB k l = r := ⟨_, rfl⟩
  have HR := Lib.hid hr
  rw [hr]
  clear hr hl
  by_cases h2 : k = 2
  · subst h2
    go_enter Tryz.func91, Tryz.ntmps91
    go_wp2_with fail
    go_ret
    refine ⟨ret_b ?_, below_o _ _⟩
    rw [← HR.out]
    unfold txB
    rw [if_pos rfl]
    rw [Bool.eq_iff_iff]
    simp
    omega
  by_cases h3 : k = 3 ∨ k = 13 ∨ k = 14 ∨ k = 22
  · have hv : nameB l = r := by rw [← HR.out]; unfold txB; rw [if_neg h2, if_pos h3]
    rw [hv] at H1
    clear h2 hv
    rcases h3 with rfl | rfl | rfl | rfl
    all_goals
      go_enter Tryz.func91, Tryz.ntmps91
      go_wp2_with fail
      refine (H1.out _).mono ?_
      rintro e w2 ⟨rfl, hb⟩
      have HB := Lib.hid (below_t (below_o w _) hb (below_o w _).size)
      clear hb
      go_wp2_with fail
      go_ret
      exact ⟨rfl, HB.out⟩
  by_cases h4 : k = 4 ∨ k = 5 ∨ k = 6 ∨ k = 7 ∨ k = 8
  · have hv : mkB k l = r := by rw [← HR.out]; unfold txB; rw [if_neg h2, if_neg h3, if_pos h4]
    have HM := Lib.hid (H2.out h4)
    rw [hv] at HM
    clear h2 h3 hv H2
    rcases h4 with rfl | rfl | rfl | rfl | rfl
    all_goals
      go_enter Tryz.func91, Tryz.ntmps91
      go_wp2_with fail
      refine (HM.out _).mono ?_
      rintro e w2 ⟨rfl, hb⟩
      have HB := Lib.hid (below_t (below_o w _) hb (below_o w _).size)
      clear hb
      go_wp2_with fail
      go_ret
      exact ⟨rfl, HB.out⟩
  · have hv : (l == []) = r := by rw [← HR.out]; unfold txB; rw [if_neg h2, if_neg h3, if_neg h4]
    have e2 : (k == 2) = false := by simpa using h2
    have e3 : (k == 3) = false ∧ (k == 13) = false ∧ (k == 14) = false ∧ (k == 22) = false := by simp; omega
    have e4 : (k == 4) = false ∧ (k == 5) = false ∧ (k == 6) = false ∧ (k == 7) = false ∧ (k == 8) = false := by simp; omega
    obtain ⟨x0, x1, x2, x3⟩ := e3
    obtain ⟨y0, y1, y2, y3, y4⟩ := e4
    have HV := Lib.hid hv
    clear h2 h3 h4 hv H1 H2
    go_enter Tryz.func91, Tryz.ntmps91
    go_wp2_with fail
    go_ret
    refine ⟨ret_b ?_, below_o _ _⟩
    rw [← HV.out]
    first | rfl | (cases l <;> simp)
theorem fn_sg (l : List UInt8) : ((sgA l).2.2 == 0) = fnB l := by
  unfold sgA fnB
  cases ho : tk l with
  | none => rfl
  | some t => cases t <;> rfl
set_option maxHeartbeats 2000000 in
theorem c_isFunction (B : Nat) (l : List UInt8) (w : World) (hE : Env B w) (hB : B ≤ w.heap.size) (hm : l.length ≤ 9223372036854775807) :
    Calls Tryz.prog 84 #[.string ⟨l.toArray⟩] w fun e w' => e = .returned (.bool (fnB l)) ∧ Below w.heap.size w w' := by
  have HS := Lib.hid (c_SignA B l w hE hB hm)
  obtain ⟨r, hr⟩ : ∃ r, fnB l = r := ⟨_, rfl⟩
  have HR : Hid (((sgA l).2.2 == 0) = r) := by rw [← hr]; exact fn_sg l
  obtain ⟨E, hE2⟩ : ∃ E, (sgA l).2.2 = E := ⟨_, rfl⟩
  obtain ⟨A, hA⟩ : ∃ A, (sgA l).1 = A := ⟨_, rfl⟩
  obtain ⟨L, hL⟩ : ∃ L, (sgA l).2.1.length = L := ⟨_, rfl⟩
  unfold SgR at HS
  rw [hE2] at HR
  rw [hE2, hA, hL] at HS
  rw [hr]
  have hq := HR.out
  clear hE hr hE2 hA hL
  go_enter Tryz.func84, Tryz.ntmps84
  go_wp2_with fail
  refine HS.out.mono ?_
  rintro e w2 ⟨⟨a, c, rfl, _⟩, hb⟩
  have HB := Lib.hid hb
  clear hb
  go_wp2_with fail
  go_ret
  exact ⟨rfl, HB.out⟩
set_option maxHeartbeats 2000000 in
theorem c_isVariable (B : Nat) (l : List UInt8) (w : World) (hE : Env B w) (hB : B ≤ w.heap.size) (hm : l.length ≤ 9223372036854775807) :
    Calls Tryz.prog 65 #[.string ⟨l.toArray⟩] w fun e w' => e = .returned (.bool (vrB l)) ∧ Below w.heap.size w w' := by
  have HF := Lib.hid (c_isFunction B l w hE hB hm)
  obtain ⟨f, hf⟩ : ∃ f, fnB l = f := ⟨_, rfl⟩
  obtain ⟨r, hr⟩ : ∃ r, vrB l = r := ⟨_, rfl⟩
  have HR : Hid (vrB l = r) := hr
  have HV : Hid ((!(l == [118]) && !f) = r) := by rw [← hr, ← hf]; unfold vrB; rfl
  rw [hf] at HF
  rw [hr]
  clear hf hr hE
  cases f
  all_goals
    go_enter Tryz.func65, Tryz.ntmps65
    go_wp2_with (refine HF.out.mono ?_; rintro e w2 ⟨rfl, hb⟩; have HB := Lib.hid hb; clear hb)
    all_goals
      go_ret
      refine ⟨ret_b ?_, by first | exact HB.out | exact Below.refl _ _⟩
      rw [← HV.out]
      simp_all
theorem chA_nil (l : List UInt8) : chA [] l = rgA [] l := by
  have h : (loA []).2.1 = 0 := rfl
  unfold chA
  rw [if_pos h]
  rfl
theorem c_Check0 (B : Nat) (l : List UInt8) (w : World) (hE : Env B w) (hB : B ≤ w.heap.size) (hm : l.length ≤ 9223372036854775807) :
    Calls Tryz.prog 83 #[.string ⟨l.toArray⟩, .slice none 0 0] w fun e w' => e = .returned (.int .i64 (rgA [] l : Nat)) ∧ Below w.heap.size w w' := by
  have h := c_CheckX B [] none 0 (fun s hs => by cases hs) (by simp) l w hE hB hm (fun h => by simp at h)
  rw [chA_nil] at h
  exact h
set_option maxHeartbeats 4000000 in
theorem c_hasRightType (B : Nat) (k n a i : Int) (s : ByteArray) (l : List UInt8) (w : World) (hE : Env B w) (hB : B ≤ w.heap.size) (hm : l.length ≤ 9223372036854775807) :
    Calls Tryz.prog 92 #[noV k n a i s ⟨l.toArray⟩] w fun e w' => e = .returned (.bool (tyB k i l)) ∧ Below w.heap.size w w' := by
  have HC := Lib.hid (fun w' (hb : Below w.heap.size w w') => c_Check0 B l w' (hE.next (hb.mono hB)) (Nat.le_trans hB hb.size) hm)
  have HV := Lib.hid (fun w' (hb : Below w.heap.size w w') => c_isVariable B l w' (hE.next (hb.mono hB)) (Nat.le_trans hB hb.size) hm)
  obtain ⟨r, hr⟩ : ∃ r, tyB k i l = r := ⟨_, rfl⟩
  have HR := Lib.hid hr
  rw [hr]
  clear hr hE hB
  by_cases h1 : k = 1
  · subst h1
    have HR2 : Hid (((l == [105] && decide (i < 2147483648)) || (l == [117] && decide (0 ≤ i))) = r) := by rw [← HR.out]; rfl
    clear HC HV HR
    go_enter Tryz.func92, Tryz.ntmps92
    go_wp2_with fail
    all_goals
      go_ret
      refine ⟨ret_b ?_, below_o _ _⟩
      rw [← HR2.out]
      simp_all
  by_cases h2 : k = 15 ∨ k = 17 ∨ k = 22
  · obtain ⟨E, hE⟩ : ∃ E : Int, ((rgA [] l : Nat) : Int) = E := ⟨_, rfl⟩
    obtain ⟨v, hv⟩ : ∃ v, vrB l = v := ⟨_, rfl⟩
    have HR2 : Hid (((E == 0 || E == 4) && (!(k == 22) || v)) = r) := by
      rw [← HR.out, ← hE, ← hv]
      have e1 : ((rgA [] l : Int) == 0 || (rgA [] l : Int) == 4) = rtB l := by
        unfold rtB
        rw [Bool.eq_iff_iff]
        simp
        omega
      rw [e1]
      unfold tyB
      rw [if_neg h1]
      rcases h2 with rfl | rfl | rfl
      · rw [if_pos (.inl rfl)]; simp [show ((15 : Int) == 22) = false from rfl]; exact trivial
      · rw [if_pos (.inr rfl)]; simp [show ((17 : Int) == 22) = false from rfl]; exact trivial
      · rw [if_neg (by decide), if_pos rfl]; simp; exact trivial
    rw [hE] at HC
    rw [hv] at HV
    clear HR hE hv h1
    have H22 : Hid ((k == 22) = (k == 22)) := rfl
    rcases h2 with rfl | rfl | rfl
    all_goals
      go_enter Tryz.func92, Tryz.ntmps92
      go_wp2_with fail
      refine (HC.out _ (below_o _ _)).mono ?_
      rintro e w2 ⟨rfl, hb⟩
      have hbb := below_t (below_o w _) hb (below_o w _).size
      have hk := (hb.cell (p := ⟨w.heap.size, 0, none⟩) (by simp)).trans (World.cell?_alloc_new _ _ _ _)
      have hl := (hb.cell (p := ⟨w.heap.size, 5, none⟩) (by simp)).trans (World.cell?_alloc_new _ _ _ _)
      have HB := Lib.hid hbb
      simp at hk hl
      clear hb hbb HC
      go_wp2_with (refine (HV.out _ HB.out).mono ?_; rintro e w3 ⟨rfl, hb⟩; have HB2 := Lib.hid (below_t HB.out hb HB.out.size); clear hb)
      all_goals
        go_ret
        refine ⟨ret_b ?_, by first | exact HB2.out | exact HB.out⟩
        rw [← HR2.out]
        simp_all
  · have e1 : (k == 1) = false := by simpa using h1
    have e2 : (k == 15) = false ∧ (k == 17) = false ∧ (k == 22) = false := by simp; omega
    obtain ⟨x0, x1, x2⟩ := e2
    have HR2 : Hid ((l == []) = r) := by
      rw [← HR.out]
      unfold tyB
      rw [if_neg h1, if_neg (by omega), if_neg (by omega)]
      exact rfl
    clear HC HV HR h1 h2
    go_enter Tryz.func92, Tryz.ntmps92
    go_wp2_with fail
    go_ret
    refine ⟨ret_b ?_, below_o _ _⟩
    rw [← HR2.out]
    first | rfl | (cases l <;> simp)
end Go.Proofs.YtjadckhngalmlaaGreatDoor
namespace Go.Proofs.YtjadckhngalmlaaGreatDoor
set_option linter.unusedVariables false
set_option linter.unusedSimpArgs false
set_option maxRecDepth 100000
open Go.RowKit

/-- A node whose texts are no longer than a string may be. -/
def NdOk (x : NdT) : Prop := x.text.length ≤ 9223372036854775807 ∧ x.type.length ≤ 9223372036854775807
theorem c_hri (k n a i : Int) (s t : ByteArray) (w : World) : Calls Tryz.prog 90 #[noV k n a i s t] w fun e w' => e = .returned (.bool (niB k i)) ∧ Below w.heap.size w w' := c_hasRightInt k n a i s t w
set_option maxHeartbeats 4000000 in
theorem c_isRight (B : Nat) (x : NdT) (hx : NdOk x) (w : World) (hE : Env B w) (hB : B ≤ w.heap.size) :
    Calls Tryz.prog 74 #[noX x] w fun e w' => e = .returned (.bool (wlB x)) ∧ Below w.heap.size w w' := by
  have H1 := Lib.hid (c_isPlace x.at')
  have H2 := Lib.hid (c_hri x.kind x.n x.at' x.int ⟨x.text.toArray⟩ ⟨x.type.toArray⟩)
  have H3 := Lib.hid (c_hasRightText x.kind x.n x.at' x.int x.text ⟨x.type.toArray⟩ hx.1)
  have H4 := Lib.hid (fun w' (hb : Below w.heap.size w w') => c_hasRightType B x.kind x.n x.at' x.int ⟨x.text.toArray⟩ x.type w' (hE.next (hb.mono hB)) (Nat.le_trans hB hb.size) hx.2)
  obtain ⟨p, hp⟩ : ∃ p, (decide (0 ≤ x.at') && decide (x.at' ≤ 65536)) = p := ⟨_, rfl⟩
  obtain ⟨q, hq⟩ : ∃ q, niB x.kind x.int = q := ⟨_, rfl⟩
  obtain ⟨r, hr⟩ : ∃ r, txB x.kind x.text = r := ⟨_, rfl⟩
  obtain ⟨u, hu⟩ : ∃ u, tyB x.kind x.int x.type = u := ⟨_, rfl⟩
  have hw : wlB x = (p && q && r && u) := by unfold wlB plB; rw [hp, hq, hr, hu]
  rw [hp] at H1
  rw [hq] at H2
  rw [hr] at H3
  rw [hu] at H4
  rw [hw]
  clear hp hq hr hu hw hE hx
  obtain ⟨kd, hkd⟩ : ∃ z, x.kind = z := ⟨_, rfl⟩
  obtain ⟨nn, hnn⟩ : ∃ z, x.n = z := ⟨_, rfl⟩
  obtain ⟨aa, haa⟩ : ∃ z, x.at' = z := ⟨_, rfl⟩
  obtain ⟨ii, hii⟩ : ∃ z, x.int = z := ⟨_, rfl⟩
  obtain ⟨ss, hss⟩ : ∃ z, (⟨x.text.toArray⟩ : ByteArray) = z := ⟨_, rfl⟩
  obtain ⟨tt, htt⟩ : ∃ z, (⟨x.type.toArray⟩ : ByteArray) = z := ⟨_, rfl⟩
  rw [haa] at H1
  rw [hkd, hnn, haa, hii, hss, htt] at H2
  rw [hkd, hnn, haa, hii, hss, htt] at H3
  rw [hkd, hnn, haa, hii, hss, htt] at H4
  show Calls _ _ #[noV x.kind x.n x.at' x.int ⟨x.text.toArray⟩ ⟨x.type.toArray⟩] w _
  rw [hkd, hnn, haa, hii, hss, htt]
  clear hkd hnn haa hii hss htt
  go_enter Tryz.func74, Tryz.ntmps74
  go_wp2_with fail
  refine (H1.out _).mono ?_
  rintro e w2 ⟨rfl, rfl⟩
  have HA := Lib.hid (below_o w (.cells #[.int .i64 kd, .int .i64 nn, .int .i64 aa, .int .i64 ii, .string ss, .string tt] 47))
  cases p
  · go_wp2_with fail
    go_ret
    exact ⟨rfl, HA.out⟩
  go_wp2_with fail
  refine (H2.out _).mono ?_
  rintro e w2 ⟨rfl, hb⟩
  have hz := blk_on (heap_alloc_at (w := w) (.cells #[.int .i64 kd, .int .i64 nn, .int .i64 aa, .int .i64 ii, .string ss, .string tt] 47) _ rfl) hb
  have HB2 := Lib.hid (below_t HA.out hb HA.out.size)
  obtain ⟨c0, c1, c2, c3, c4, c5, _⟩ := six_cells hz
  have HZ2 := Lib.hid hz
  clear hb hz
  cases q
  · go_wp2_with fail
    go_ret
    exact ⟨rfl, HB2.out⟩
  go_wp2_with fail
  refine (H3.out _).mono ?_
  rintro e w3 ⟨rfl, hb⟩
  have hz := blk_on HZ2.out hb
  have HB3 := Lib.hid (below_t HB2.out hb HB2.out.size)
  clear c0 c1 c2 c3 c4 c5
  obtain ⟨c0, c1, c2, c3, c4, c5, _⟩ := six_cells hz
  clear hb hz
  cases r
  · go_wp2_with fail
    go_ret
    exact ⟨rfl, HB3.out⟩
  go_wp2_with fail
  refine (H4.out _ HB3.out).mono ?_
  rintro e w4 ⟨rfl, hb⟩
  have HB4 := Lib.hid (below_t HB3.out hb HB3.out.size)
  clear hb
  go_wp2_with fail
  go_ret
  exact ⟨rfl, HB4.out⟩
set_option maxHeartbeats 2000000 in
theorem c_isWrong (B : Nat) (x : NdT) (hx : NdOk x) (w : World) (hE : Env B w) (hB : B ≤ w.heap.size) :
    Calls Tryz.prog 55 #[noX x] w fun e w' => e = .returned (.bool (!wlB x)) ∧ Below w.heap.size w w' := by
  have HR := Lib.hid (fun w' (hb : Below w.heap.size w w') => c_isRight B x hx w' (hE.next (hb.mono hB)) (Nat.le_trans hB hb.size))
  obtain ⟨r, hr⟩ : ∃ r, wlB x = r := ⟨_, rfl⟩
  rw [hr] at HR ⊢
  clear hr hE hx
  go_enter Tryz.func55, Tryz.ntmps55
  go_wp2_with fail
  refine (HR.out _ (below_o _ _)).mono ?_
  rintro e w2 ⟨rfl, hb⟩
  have HB := Lib.hid (below_t (below_o w _) hb (below_o w _).size)
  clear hb
  go_wp2_with fail
  go_ret
  exact ⟨rfl, HB.out⟩
instance : Inhabited NdT := ⟨⟨0, 0, 0, 0, [], []⟩⟩
theorem ndOk0 : NdOk (default : NdT) := ⟨by show (0 : Nat) ≤ _; omega, by show (0 : Nat) ≤ _; omega⟩
abbrev NdS := { x : NdT // NdOk x }
instance : Inhabited NdS := ⟨⟨default, ndOk0⟩⟩
theorem c_anyWrong (B : Nat) (t : List NdT) (ht : ∀ x ∈ t, NdOk x) (a : Option Addr) (c : Nat) (hl : t.length ≤ 1048576) (w : World) (hE : Env B w) (hB : B ≤ w.heap.size) (hT : TrIn t a w) (h0 : 0 < t.length) :
    Calls Tryz.prog 54 #[.slice a t.length c, .func (.func 55) #[] #[]] w fun e w' => e = .returned (.bool (!t.all wlB)) ∧ Below w.heap.size w w' := by
  obtain ⟨b, off, ha, hb, hx⟩ := hT h0
  subst ha
  obtain ⟨zs, hzs⟩ : ∃ zs : List NdS, zs = t.attach.map fun y => (⟨y.1, ht y.1 y.2⟩ : NdS) := ⟨_, rfl⟩
  have hz : zs.length = t.length := by rw [hzs]; simp
  have hg : ∀ j (hj : j < t.length), zs[j]! = ⟨t[j], ht _ (List.getElem_mem hj)⟩ := fun j hj => by
    rw [getElem!_pos _ j (by rw [hz]; exact hj)]
    subst hzs
    simp
  refine (AnyQ.slices_ContainsFunc (α := NdS) Tryz.laysSlH08_f54 6 (fun w => by kernel_rfl) (fun w => by kernel_rfl) (fun x => noC x.1) (fun x => rfl) (fun x => !wlB x.1) 55 #[] (enters_of Tryz.func55 (by kernel_rfl) rfl) b off t.length c zs w ?_ (by rw [hz]; exact Nat.le_refl _) (by omega) hb ?_).mono fun e w' ⟨he, hbl⟩ => ⟨?_, hbl⟩
  · intro W x hW
    exact (c_isWrong B x.1 x.2 W (hE.next (hW.mono hB)) (Nat.le_trans hB hW.size)).mono fun e w' h => ⟨h.1, below_t hW h.2 hW.size⟩
  · intro j hj i v hi
    rw [hz] at hj
    rw [hg j hj] at hi
    exact hx j t[j] (List.getElem?_eq_getElem hj) i v hi
  · rw [he]
    congr 2
    rw [List.take_of_length_le (by rw [hz]; exact Nat.le_refl _), hzs, List.any_map]
    rw [Bool.eq_iff_iff]
    simp
end Go.Proofs.YtjadckhngalmlaaGreatDoor
