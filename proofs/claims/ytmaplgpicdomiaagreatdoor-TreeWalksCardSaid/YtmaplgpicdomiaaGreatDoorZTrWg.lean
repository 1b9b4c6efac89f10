/-
  The contract of well: whether a node is right by itself, with as many parts as it may have, as the document has it.
-/
import Derived.Test.YtmaplgpicdomiaaGreatDoorZTrLg
import Derived.Test.YtmaplgpicdomiaaGreatDoorZTyQ8
import Derived.Test.YtmaplgpicdomiaaGreatDoorZTyRo
import Derived.Deep.RegionWith
namespace Go.Proofs.YtmaplgpicdomiaaGreatDoor
set_option linter.unusedVariables false
set_option linter.unusedSimpArgs false
set_option maxRecDepth 100000
open Go.RowKit

set_option maxHeartbeats 2000000 in
theorem c_rStructs0 (w : World) :
    Calls Tryz.prog 67 #[.slice none 0 0] w fun e w' => e = .returned (.agg #[.int .i64 0, .int .i64 0]) ∧ Below w.heap.size w w' := by
  go_enter Tryz.func67, Tryz.ntmps67
  go_wp2_with fail
  go_loopg [3] 0 (fun m v wr => v = .int .i64 0 ∧ wr = w.alloc (.cells #[.int .i64 0, .int .i64 0] 93))
  case atStart => exact ⟨rfl, rfl⟩
  case round =>
    obtain ⟨rfl, rfl⟩ := hrel
    go_wp2_with fail
    refine bodyPost_ret (v := .agg #[.int .i64 0, .int .i64 0]) (by simp [results, Tryz.results67, go_sem]) rfl ?_
    exact ⟨rfl, below_o _ _⟩

theorem rgA_ok (l : List UInt8) : ((rgA [] l : Int) == 0 || (rgA [] l : Int) == 4) = rtB l := by
  unfold rtB
  rw [Bool.eq_iff_iff]
  simp
  omega
set_option maxHeartbeats 2000000 in
theorem c_rCheck0 (l : List UInt8) (hlm : l.length ≤ 9223372036854775807) (w : World) :
    Calls Tryz.prog 58 #[.string ⟨l.toArray⟩, .slice none 0 0] w fun e w' => e = .returned (.int .i64 (rgA [] l : Nat)) ∧ Below w.heap.size w w' := by
  have HCk := Lib.hid (fun w' => c_rcheck [] (fun x hx => by cases hx) [] (fun s hs => by cases hs) (by simp) (fun i x hx => by simp at hx) rfl l hlm none 0 w' (fun h => by simp at h))
  obtain ⟨R, hR⟩ : ∃ R : Int, ((rgA [] l : Nat) : Int) = R := ⟨_, rfl⟩
  rw [hR] at HCk ⊢
  clear hR hlm
  go_enter Tryz.func58, Tryz.ntmps58
  go_wp2_with fail
  refine (c_rStructs0 _).mono ?_
  rintro e w1 ⟨rfl, hb⟩
  have HB := Lib.hid hb
  clear hb
  go_wp2_with fail
  refine (HCk.out _).mono ?_
  rintro e w2 ⟨rfl, hb⟩
  have HB2 := Lib.hid (below_t (HB.out.alloc HB.out.size _) hb (HB.out.alloc HB.out.size _).size)
  clear hb HCk
  go_wp2_with fail
  go_ret
  exact ⟨rfl, HB2.out⟩
set_option maxHeartbeats 2000000 in
theorem c_rRight (l : List UInt8) (hlm : l.length ≤ 9223372036854775807) (w : World) :
    Calls Tryz.prog 42 #[.string ⟨l.toArray⟩] w fun e w' => e = .returned (.bool (rtB l)) ∧ Below w.heap.size w w' := by
  have HC := Lib.hid (c_rCheck0 l hlm)
  obtain ⟨E, hE⟩ : ∃ E : Int, ((rgA [] l : Nat) : Int) = E := ⟨_, rfl⟩
  have HR : Hid ((E == 0 || E == 4) = rtB l) := by rw [← hE]; exact rgA_ok l
  obtain ⟨r, hr⟩ : ∃ r, rtB l = r := ⟨_, rfl⟩
  rw [hr] at HR ⊢
  rw [hE] at HC
  clear hE hr hlm
  go_enter Tryz.func42, Tryz.ntmps42
  go_wp2_with fail
  refine (HC.out _).mono ?_
  rintro e w1 ⟨rfl, hb⟩
  have HB := Lib.hid hb
  clear hb HC
  go_wp2_with fail
  all_goals
    go_ret
    refine ⟨ret_b ?_, HB.out⟩
    rw [← HR.out]
    try simp_all
set_option maxHeartbeats 2000000 in
theorem c_rObject (l : List UInt8) (hlm : l.length ≤ 9223372036854775807) (w : World) :
    Calls Tryz.prog 43 #[.string ⟨l.toArray⟩] w fun e w' => e = .returned (.bool (rtB l && vrB l)) ∧ Below w.heap.size w w' := by
  have HC := Lib.hid (c_rRight l hlm)
  cases hr : rtB l
  · rw [hr] at HC
    clear hr hlm
    go_enter Tryz.func43, Tryz.ntmps43
    go_wp2_with fail
    refine (HC.out _).mono ?_
    rintro e w1 ⟨rfl, hb⟩
    have HB := Lib.hid hb
    clear hb HC
    go_wp2_with fail
    go_ret
    exact ⟨rfl, HB.out⟩
  · obtain ⟨c0, r0, hl, hf⟩ := rt_head hr
    rw [hr] at HC
    obtain ⟨f, hff⟩ : ∃ f, fnB l = f := ⟨_, rfl⟩
    obtain ⟨v, hv⟩ : ∃ v, vrB l = v := ⟨_, rfl⟩
    have HV : Hid ((!(l == [118]) && !f) = v) := by rw [← hv, ← hff]; unfold vrB; rfl
    obtain ⟨cI, hcI⟩ : ∃ cI : Int, (c0.toNat : Int) = cI := ⟨_, rfl⟩
    have HF : Hid ((cI == 102) = f) := by
      rw [← hff, ← hf, ← hcI]
      show _ = _
      rw [Bool.eq_iff_iff]
      simp
      exact ⟨fun h => UInt8.toNat_inj.1 (by show c0.toNat = 102; omega), fun h => by rw [h]; rfl⟩
    have hpos : 0 < l.length := by rw [hl]; simp
    have hby : ∀ h, (((ByteArray.mk l.toArray)[0]'h).toNat : Int) = cI := fun h => (byte_at l 0 h).trans (by rw [hl]; exact hcI)
    rw [hv]
    have hq := HF.out
    clear hr hlm hf hff hv hl hcI
    go_enter Tryz.func43, Tryz.ntmps43
    go_wp2_with fail
    refine (HC.out _).mono ?_
    rintro e w1 ⟨rfl, hb⟩
    have HB := Lib.hid hb
    clear hb HC
    go_wp2_with fail
    all_goals
      go_ret
      refine ⟨ret_b ?_, HB.out⟩
      rw [← HV.out]
      first | (simp_all [bne]; done) | (rw [show (cI != 102) = !f from by simp [bne, hq]]; done) | (simp [bne, hq]; done)
/-- The marks of a kind. -/
def mkL (k : Int) : List (List UInt8) := if k = 4 then unM else if k = 5 ∨ k = 6 then ppM else if k = 8 then asM else biM
theorem mkL_eq (k : Int) (l : List UInt8) : (mkL k).contains l = mkB k l := by
  unfold mkL mkB
  (repeat' split) <;> rfl
set_option maxHeartbeats 2000000 in
theorem c_marks (k : Int) (hk : k = 4 ∨ k = 5 ∨ k = 6 ∨ k = 7 ∨ k = 8) (w : World) :
    Calls Tryz.prog 41 #[.int .i64 k] w fun e w' => e = .returned (.slice (some ⟨w.heap.size, 0, none⟩) (mkL k).length (mkL k).length) ∧ w' = w.alloc (.cells (strA (mkL k)) 9) := by
  rcases hk with rfl | rfl | rfl | rfl | rfl
  all_goals
    go_enter Tryz.func41, Tryz.ntmps41
    go_wp2_with fail
    go_ret
    exact ⟨rfl, rfl⟩
theorem mkL_len (k : Int) : (mkL k).length ≤ 64 := by
  unfold mkL
  (repeat' split) <;> decide
end Go.Proofs.YtmaplgpicdomiaaGreatDoor
namespace Go.Proofs.YtmaplgpicdomiaaGreatDoor
set_option linter.unusedVariables false
set_option linter.unusedSimpArgs false
set_option maxRecDepth 100000
open Go.RowKit

theorem heap_drew (w : World) : w.drew.heap = w.heap := rfl
theorem c_InH (T : List (List UInt8)) (l : List UInt8) (g n : Nat) (hn : T.length = n) (hn2 : n ≤ 64) (W : World) (h : W.heap[g]? = some (.cells (strA T) 9)) :
    Calls Tryz.prog 40 #[.slice (some ⟨g, 0, none⟩) n n, .string ⟨l.toArray⟩] W fun e w' => e = .returned (.bool (T.contains l)) ∧ W = w' :=
  c_In g n n T l W hn hn2 (Nat.le_refl _) fun k s hs => by
    rw [Lib.cell_of_heap h]
    unfold strA
    rw [List.getElem?_toArray, List.getElem?_map, hs]
    rfl
abbrev noB (kd nn aa ii : Int) (l ty : List UInt8) : Obj := .cells #[.int .i64 kd, .int .i64 nn, .int .i64 aa, .int .i64 ii, .string ⟨l.toArray⟩, .string ⟨ty.toArray⟩] 36
set_option maxHeartbeats 4000000 in
theorem wl_bad (kd nn aa ii : Int) (l ty : List UInt8) (w : World) (h : ¬ (0 ≤ (arI kd).1 ∧ (arI kd).1 ≤ nn ∧ nn ≤ (arI kd).2 ∧ 0 ≤ aa ∧ aa ≤ 65536)) :
    Calls Tryz.prog 20 #[noV kd nn aa ii ⟨l.toArray⟩ ⟨ty.toArray⟩] w fun e w' => e = .returned (.bool false) ∧ Below w.heap.size w w' := by
  have HA := Lib.hid (c_arity kd)
  have HB := Lib.hid (below_o w (noB kd nn aa ii l ty))
  obtain ⟨lo, hlo⟩ : ∃ lo, (arI kd).1 = lo := ⟨_, rfl⟩
  obtain ⟨hi, hhi⟩ : ∃ hi, (arI kd).2 = hi := ⟨_, rfl⟩
  rw [hlo, hhi] at h HA
  clear hlo hhi
  by_cases h1 : lo < 0
  · have d1 : decide (lo < 0) = true := by simpa using h1
    clear h h1
    go_enter Tryz.func20, Tryz.ntmps20
    go_wp2_with fail
    refine (HA.out _).mono ?_
    rintro e w2 ⟨rfl, rfl⟩
    clear HA
    go_wp2_with fail
    go_ret
    exact ⟨rfl, HB.out⟩
  have d1 : decide (lo < 0) = false := by simpa using h1
  by_cases h2 : nn < lo
  · have d2 : decide (nn < lo) = true := by simpa using h2
    clear h h1 h2
    go_enter Tryz.func20, Tryz.ntmps20
    go_wp2_with fail
    refine (HA.out _).mono ?_
    rintro e w2 ⟨rfl, rfl⟩
    clear HA
    go_wp2_with fail
    go_ret
    exact ⟨rfl, HB.out⟩
  have d2 : decide (nn < lo) = false := by simpa using h2
  by_cases h3 : hi < nn
  · have d3 : decide (hi < nn) = true := by simpa using h3
    clear h h1 h2 h3
    go_enter Tryz.func20, Tryz.ntmps20
    go_wp2_with fail
    refine (HA.out _).mono ?_
    rintro e w2 ⟨rfl, rfl⟩
    clear HA
    go_wp2_with fail
    go_ret
    exact ⟨rfl, HB.out⟩
  have d3 : decide (hi < nn) = false := by simpa using h3
  by_cases h4 : aa < 0
  · have d4 : decide (aa < 0) = true := by simpa using h4
    clear h h1 h2 h3 h4
    go_enter Tryz.func20, Tryz.ntmps20
    go_wp2_with fail
    refine (HA.out _).mono ?_
    rintro e w2 ⟨rfl, rfl⟩
    clear HA
    go_wp2_with fail
    go_ret
    exact ⟨rfl, HB.out⟩
  have d4 : decide (aa < 0) = false := by simpa using h4
  have d5 : decide ((65536 : Int) < aa) = true := by simp; omega
  clear h h1 h2 h3 h4
  go_enter Tryz.func20, Tryz.ntmps20
  go_wp2_with fail
  refine (HA.out _).mono ?_
  rintro e w2 ⟨rfl, rfl⟩
  clear HA
  go_wp2_with fail
  go_ret
  exact ⟨rfl, HB.out⟩
set_option maxHeartbeats 4000000 in
theorem wl_1 (nn aa ii : Int) (l ty : List UInt8) (w : World) (hg : 0 ≤ (arI 1).1 ∧ (arI 1).1 ≤ nn ∧ nn ≤ (arI 1).2 ∧ 0 ≤ aa ∧ aa ≤ 65536) :
    Calls Tryz.prog 20 #[noV 1 nn aa ii ⟨l.toArray⟩ ⟨ty.toArray⟩] w fun e w' => e = .returned (.bool ((decide (-128 ≤ ii) && decide (ii ≤ 4294967295)) && (l == []) && ((ty == [105] && decide (ii < 2147483648)) || (ty == [117] && decide (0 ≤ ii))))) ∧ Below w.heap.size w w' := by
  have HA := Lib.hid (c_arity 1)
  have HB := Lib.hid (below_o w (noB 1 nn aa ii l ty))
  have HZ := Lib.hid (heap_alloc_at (w := w) (noB 1 nn aa ii l ty) _ rfl)
  obtain ⟨lo, hlo⟩ : ∃ lo, (arI 1).1 = lo := ⟨_, rfl⟩
  obtain ⟨hi, hhi⟩ : ∃ hi, (arI 1).2 = hi := ⟨_, rfl⟩
  rw [hlo, hhi] at hg HA
  obtain ⟨h1, h2, h3, h4, h5⟩ := hg
  have d1 : decide (lo < 0) = false := by simpa using h1
  have d2 : decide (nn < lo) = false := by simpa using h2
  have d3 : decide (hi < nn) = false := by simpa using h3
  have d4 : decide (aa < 0) = false := by simpa using h4
  have d5 : decide ((65536 : Int) < aa) = false := by simpa using h5
  clear hlo hhi h1 h2 h3 h4 h5
  go_enter Tryz.func20, Tryz.ntmps20
  go_wp2_with fail
  refine (HA.out _).mono ?_
  rintro e w2 ⟨rfl, rfl⟩
  clear HA
  go_wp2_with fail
  all_goals
    go_ret
    refine ⟨ret_b ?_, below_o w _⟩
    first
      | rfl
      | (simp_all; done)
      | (rw [Bool.eq_iff_iff]; simp_all; done)
      | (rw [Bool.eq_iff_iff]; simp_all; omega)
      | (cases l <;> cases ty <;> simp_all)
set_option maxHeartbeats 4000000 in
theorem wl_2 (nn aa ii : Int) (l ty : List UInt8) (w : World) (hg : 0 ≤ (arI 2).1 ∧ (arI 2).1 ≤ nn ∧ nn ≤ (arI 2).2 ∧ 0 ≤ aa ∧ aa ≤ 65536) :
    Calls Tryz.prog 20 #[noV 2 nn aa ii ⟨l.toArray⟩ ⟨ty.toArray⟩] w fun e w' => e = .returned (.bool ((ii == 0) && decide (l.length ≤ 4096) && (ty == []))) ∧ Below w.heap.size w w' := by
  have HA := Lib.hid (c_arity 2)
  have HB := Lib.hid (below_o w (noB 2 nn aa ii l ty))
  have HZ := Lib.hid (heap_alloc_at (w := w) (noB 2 nn aa ii l ty) _ rfl)
  obtain ⟨lo, hlo⟩ : ∃ lo, (arI 2).1 = lo := ⟨_, rfl⟩
  obtain ⟨hi, hhi⟩ : ∃ hi, (arI 2).2 = hi := ⟨_, rfl⟩
  rw [hlo, hhi] at hg HA
  obtain ⟨h1, h2, h3, h4, h5⟩ := hg
  have d1 : decide (lo < 0) = false := by simpa using h1
  have d2 : decide (nn < lo) = false := by simpa using h2
  have d3 : decide (hi < nn) = false := by simpa using h3
  have d4 : decide (aa < 0) = false := by simpa using h4
  have d5 : decide ((65536 : Int) < aa) = false := by simpa using h5
  clear hlo hhi h1 h2 h3 h4 h5
  go_enter Tryz.func20, Tryz.ntmps20
  go_wp2_with fail
  refine (HA.out _).mono ?_
  rintro e w2 ⟨rfl, rfl⟩
  clear HA
  go_wp2_with fail
  all_goals
    go_ret
    refine ⟨ret_b ?_, below_o w _⟩
    first
      | rfl
      | (simp_all; done)
      | (rw [Bool.eq_iff_iff]; simp_all; done)
      | (rw [Bool.eq_iff_iff]; simp_all; omega)
      | (cases l <;> cases ty <;> simp_all)
set_option maxHeartbeats 4000000 in
theorem wl_3 (kd nn aa ii : Int) (l ty : List UInt8) (w : World) (hk : kd = 3 ∨ kd = 13 ∨ kd = 14) (hl : l.length ≤ 9223372036854775807) (hg : 0 ≤ (arI kd).1 ∧ (arI kd).1 ≤ nn ∧ nn ≤ (arI kd).2 ∧ 0 ≤ aa ∧ aa ≤ 65536) :
    Calls Tryz.prog 20 #[noV kd nn aa ii ⟨l.toArray⟩ ⟨ty.toArray⟩] w fun e w' => e = .returned (.bool ((ii == 0) && nameB l && (ty == []))) ∧ Below w.heap.size w w' := by
  have HA := Lib.hid (c_arity kd)
  have HB := Lib.hid (below_o w (noB kd nn aa ii l ty))
  have HZ := Lib.hid (heap_alloc_at (w := w) (noB kd nn aa ii l ty) _ rfl)
  obtain ⟨lo, hlo⟩ : ∃ lo, (arI kd).1 = lo := ⟨_, rfl⟩
  obtain ⟨hi, hhi⟩ : ∃ hi, (arI kd).2 = hi := ⟨_, rfl⟩
  rw [hlo, hhi] at hg HA
  obtain ⟨h1, h2, h3, h4, h5⟩ := hg
  have d1 : decide (lo < 0) = false := by simpa using h1
  have d2 : decide (nn < lo) = false := by simpa using h2
  have d3 : decide (hi < nn) = false := by simpa using h3
  have d4 : decide (aa < 0) = false := by simpa using h4
  have d5 : decide ((65536 : Int) < aa) = false := by simpa using h5
  clear hlo hhi h1 h2 h3 h4 h5
  have HNm := Lib.hid (c_bName l · hl)
  obtain ⟨q, hq⟩ : ∃ q, nameB l = q := ⟨_, rfl⟩
  rw [hq] at HNm ⊢
  clear hq hl
  cases q
  all_goals
    rcases hk with rfl | rfl | rfl
    all_goals
      go_enter Tryz.func20, Tryz.ntmps20
      go_wp2_with fail
      refine (HA.out _).mono ?_
      rintro e w2 ⟨rfl, rfl⟩
      clear HA
      go_wp2_with fail
      refine (HNm.out _).mono ?_
      rintro e w2 ⟨rfl, hb⟩
      have hz := blk_on HZ.out hb
      have HB1 := Lib.hid (below_t HB.out hb HB.out.size)
      obtain ⟨c0, c1, c2, c3, c4, c5, _⟩ := six_cells hz
      have HZ1 := Lib.hid hz
      clear hb hz
      go_wp2_with fail
      all_goals
        go_ret
        refine ⟨ret_b ?_, HB1.out⟩
        first
          | rfl
          | (simp_all; done)
          | (rw [Bool.eq_iff_iff]; simp_all; done)
          | (rw [Bool.eq_iff_iff]; simp_all; omega)
          | (cases l <;> cases ty <;> simp_all)
set_option maxHeartbeats 4000000 in
theorem wl_22 (nn aa ii : Int) (l ty : List UInt8) (w : World) (hl : l.length ≤ 9223372036854775807) (ht : ty.length ≤ 9223372036854775807) (hg : 0 ≤ (arI 22).1 ∧ (arI 22).1 ≤ nn ∧ nn ≤ (arI 22).2 ∧ 0 ≤ aa ∧ aa ≤ 65536) :
    Calls Tryz.prog 20 #[noV 22 nn aa ii ⟨l.toArray⟩ ⟨ty.toArray⟩] w fun e w' => e = .returned (.bool ((ii == 0 || ii == 1) && nameB l && (rtB ty && vrB ty))) ∧ Below w.heap.size w w' := by
  have HA := Lib.hid (c_arity 22)
  have HB := Lib.hid (below_o w (noB 22 nn aa ii l ty))
  have HZ := Lib.hid (heap_alloc_at (w := w) (noB 22 nn aa ii l ty) _ rfl)
  obtain ⟨lo, hlo⟩ : ∃ lo, (arI 22).1 = lo := ⟨_, rfl⟩
  obtain ⟨hi, hhi⟩ : ∃ hi, (arI 22).2 = hi := ⟨_, rfl⟩
  rw [hlo, hhi] at hg HA
  obtain ⟨h1, h2, h3, h4, h5⟩ := hg
  have d1 : decide (lo < 0) = false := by simpa using h1
  have d2 : decide (nn < lo) = false := by simpa using h2
  have d3 : decide (hi < nn) = false := by simpa using h3
  have d4 : decide (aa < 0) = false := by simpa using h4
  have d5 : decide ((65536 : Int) < aa) = false := by simpa using h5
  clear hlo hhi h1 h2 h3 h4 h5
  have HNm := Lib.hid (c_bName l · hl)
  have HOb := Lib.hid (c_rObject ty ht)
  obtain ⟨q, hq⟩ : ∃ q, nameB l = q := ⟨_, rfl⟩
  obtain ⟨r, hr⟩ : ∃ r, (rtB ty && vrB ty) = r := ⟨_, rfl⟩
  rw [hq] at HNm ⊢
  rw [hr] at HOb ⊢
  clear hq hr hl ht
  cases q
  all_goals
    cases r
    all_goals
      go_enter Tryz.func20, Tryz.ntmps20
      go_wp2_with fail
      refine (HA.out _).mono ?_
      rintro e w2 ⟨rfl, rfl⟩
      clear HA
      go_wp2_with fail
      refine (HNm.out _).mono ?_
      rintro e w2 ⟨rfl, hb⟩
      have hz := blk_on HZ.out hb
      have HB1 := Lib.hid (below_t HB.out hb HB.out.size)
      obtain ⟨c0, c1, c2, c3, c4, c5, _⟩ := six_cells hz
      have HZ1 := Lib.hid hz
      clear hb hz
      go_wp2_with fail
      clear c0 c1 c2 c3 c4 c5
      refine (HOb.out _).mono ?_
      rintro e w3 ⟨rfl, hb⟩
      have hz := blk_on HZ1.out hb
      have HB2 := Lib.hid (below_t HB1.out hb HB1.out.size)
      obtain ⟨c0, c1, c2, c3, c4, c5, _⟩ := six_cells hz
      have HZ2 := Lib.hid hz
      clear hb hz
      go_wp2_with fail
      all_goals
        go_ret
        refine ⟨ret_b ?_, HB2.out⟩
        first
          | rfl
          | (simp_all; done)
          | (rw [Bool.eq_iff_iff]; simp_all; done)
          | (rw [Bool.eq_iff_iff]; simp_all; omega)
          | (cases l <;> cases ty <;> simp_all)
set_option maxHeartbeats 4000000 in
theorem wl_15 (kd nn aa ii : Int) (l ty : List UInt8) (w : World) (hk : kd = 15 ∨ kd = 17) (ht : ty.length ≤ 9223372036854775807) (hg : 0 ≤ (arI kd).1 ∧ (arI kd).1 ≤ nn ∧ nn ≤ (arI kd).2 ∧ 0 ≤ aa ∧ aa ≤ 65536) :
    Calls Tryz.prog 20 #[noV kd nn aa ii ⟨l.toArray⟩ ⟨ty.toArray⟩] w fun e w' => e = .returned (.bool ((ii == 0) && (l == []) && rtB ty)) ∧ Below w.heap.size w w' := by
  have HA := Lib.hid (c_arity kd)
  have HB := Lib.hid (below_o w (noB kd nn aa ii l ty))
  have HZ := Lib.hid (heap_alloc_at (w := w) (noB kd nn aa ii l ty) _ rfl)
  obtain ⟨lo, hlo⟩ : ∃ lo, (arI kd).1 = lo := ⟨_, rfl⟩
  obtain ⟨hi, hhi⟩ : ∃ hi, (arI kd).2 = hi := ⟨_, rfl⟩
  rw [hlo, hhi] at hg HA
  obtain ⟨h1, h2, h3, h4, h5⟩ := hg
  have d1 : decide (lo < 0) = false := by simpa using h1
  have d2 : decide (nn < lo) = false := by simpa using h2
  have d3 : decide (hi < nn) = false := by simpa using h3
  have d4 : decide (aa < 0) = false := by simpa using h4
  have d5 : decide ((65536 : Int) < aa) = false := by simpa using h5
  clear hlo hhi h1 h2 h3 h4 h5
  have HNm := Lib.hid (c_rRight ty ht)
  obtain ⟨q, hq⟩ : ∃ q, rtB ty = q := ⟨_, rfl⟩
  rw [hq] at HNm ⊢
  clear hq ht
  cases q
  all_goals
    rcases hk with rfl | rfl
    all_goals
      go_enter Tryz.func20, Tryz.ntmps20
      go_wp2_with fail
      refine (HA.out _).mono ?_
      rintro e w2 ⟨rfl, rfl⟩
      clear HA
      go_wp2_with fail
      refine (HNm.out _).mono ?_
      rintro e w2 ⟨rfl, hb⟩
      have hz := blk_on HZ.out hb
      have HB1 := Lib.hid (below_t HB.out hb HB.out.size)
      obtain ⟨c0, c1, c2, c3, c4, c5, _⟩ := six_cells hz
      have HZ1 := Lib.hid hz
      clear hb hz
      go_wp2_with fail
      all_goals
        go_ret
        refine ⟨ret_b ?_, HB1.out⟩
        first
          | rfl
          | (simp_all; done)
          | (rw [Bool.eq_iff_iff]; simp_all; done)
          | (rw [Bool.eq_iff_iff]; simp_all; omega)
          | (cases l <;> cases ty <;> simp_all)
set_option maxHeartbeats 4000000 in
theorem wl_0 (kd nn aa ii : Int) (l ty : List UInt8) (w : World) (hk : kd ≠ 1 ∧ kd ≠ 2 ∧ kd ≠ 3 ∧ kd ≠ 4 ∧ kd ≠ 5 ∧ kd ≠ 6 ∧ kd ≠ 7 ∧ kd ≠ 8 ∧ kd ≠ 13 ∧ kd ≠ 14 ∧ kd ≠ 15 ∧ kd ≠ 17 ∧ kd ≠ 22) (hg : 0 ≤ (arI kd).1 ∧ (arI kd).1 ≤ nn ∧ nn ≤ (arI kd).2 ∧ 0 ≤ aa ∧ aa ≤ 65536) :
    Calls Tryz.prog 20 #[noV kd nn aa ii ⟨l.toArray⟩ ⟨ty.toArray⟩] w fun e w' => e = .returned (.bool ((ii == 0) && (l == []) && (ty == []))) ∧ Below w.heap.size w w' := by
  have HA := Lib.hid (c_arity kd)
  have HB := Lib.hid (below_o w (noB kd nn aa ii l ty))
  have HZ := Lib.hid (heap_alloc_at (w := w) (noB kd nn aa ii l ty) _ rfl)
  obtain ⟨lo, hlo⟩ : ∃ lo, (arI kd).1 = lo := ⟨_, rfl⟩
  obtain ⟨hi, hhi⟩ : ∃ hi, (arI kd).2 = hi := ⟨_, rfl⟩
  rw [hlo, hhi] at hg HA
  obtain ⟨h1, h2, h3, h4, h5⟩ := hg
  have d1 : decide (lo < 0) = false := by simpa using h1
  have d2 : decide (nn < lo) = false := by simpa using h2
  have d3 : decide (hi < nn) = false := by simpa using h3
  have d4 : decide (aa < 0) = false := by simpa using h4
  have d5 : decide ((65536 : Int) < aa) = false := by simpa using h5
  clear hlo hhi h1 h2 h3 h4 h5
  obtain ⟨h1, h2, h3, h4, h5, h6, h7, h8, h13, h14, h15, h17, h22⟩ := hk
  have e1 : (kd == 1) = false := by simpa using h1
  have e2 : (kd == 2) = false := by simpa using h2
  have e3 : (kd == 3) = false := by simpa using h3
  have e4 : (kd == 4) = false := by simpa using h4
  have e5 : (kd == 5) = false := by simpa using h5
  have e6 : (kd == 6) = false := by simpa using h6
  have e7 : (kd == 7) = false := by simpa using h7
  have e8 : (kd == 8) = false := by simpa using h8
  have e13 : (kd == 13) = false := by simpa using h13
  have e14 : (kd == 14) = false := by simpa using h14
  have e15 : (kd == 15) = false := by simpa using h15
  have e17 : (kd == 17) = false := by simpa using h17
  have e22 : (kd == 22) = false := by simpa using h22
  clear h1 h2 h3 h4 h5 h6 h7 h8 h13 h14 h15 h17 h22
  go_enter Tryz.func20, Tryz.ntmps20
  go_wp2_with fail
  refine (HA.out _).mono ?_
  rintro e w2 ⟨rfl, rfl⟩
  clear HA
  go_wp2_with fail
  all_goals
    go_ret
    refine ⟨ret_b ?_, below_o w _⟩
    first
      | rfl
      | (simp_all; done)
      | (rw [Bool.eq_iff_iff]; simp_all; done)
      | (rw [Bool.eq_iff_iff]; simp_all; omega)
      | (cases l <;> cases ty <;> simp_all)
end Go.Proofs.YtmaplgpicdomiaaGreatDoor
namespace Go.Proofs.YtmaplgpicdomiaaGreatDoor
set_option linter.unusedVariables false
set_option linter.unusedSimpArgs false
set_option maxRecDepth 100000
open Go.RowKit

set_option maxHeartbeats 4000000 in
theorem wl_4 (kd nn aa ii : Int) (l ty : List UInt8) (w : World) (hk : kd = 4 ∨ kd = 5 ∨ kd = 6 ∨ kd = 7 ∨ kd = 8) (hg : 0 ≤ (arI kd).1 ∧ (arI kd).1 ≤ nn ∧ nn ≤ (arI kd).2 ∧ 0 ≤ aa ∧ aa ≤ 65536) :
    Calls Tryz.prog 20 #[noV kd nn aa ii ⟨l.toArray⟩ ⟨ty.toArray⟩] w fun e w' => e = .returned (.bool ((ii == 0) && mkB kd l && (ty == []))) ∧ Below w.heap.size w w' := by
  have HA := Lib.hid (c_arity kd)
  have HB := Lib.hid (below_o w (noB kd nn aa ii l ty))
  have HZ := Lib.hid (heap_alloc_at (w := w) (noB kd nn aa ii l ty) _ rfl)
  obtain ⟨lo, hlo⟩ : ∃ lo, (arI kd).1 = lo := ⟨_, rfl⟩
  obtain ⟨hi, hhi⟩ : ∃ hi, (arI kd).2 = hi := ⟨_, rfl⟩
  rw [hlo, hhi] at hg HA
  obtain ⟨h1, h2, h3, h4, h5⟩ := hg
  have d1 : decide (lo < 0) = false := by simpa using h1
  have d2 : decide (nn < lo) = false := by simpa using h2
  have d3 : decide (hi < nn) = false := by simpa using h3
  have d4 : decide (aa < 0) = false := by simpa using h4
  have d5 : decide ((65536 : Int) < aa) = false := by simpa using h5
  clear hlo hhi h1 h2 h3 h4 h5
  have HMk := Lib.hid (c_marks kd hk)
  obtain ⟨n, hn⟩ : ∃ n, (mkL kd).length = n := ⟨_, rfl⟩
  have HIn := Lib.hid (c_InH (mkL kd) l (w.heap.size + 1) n hn (by rw [← hn]; exact mkL_len kd))
  rw [mkL_eq] at HIn
  rw [hn] at HMk
  obtain ⟨T, hT⟩ : ∃ T, strA (mkL kd) = T := ⟨_, rfl⟩
  rw [hT] at HIn HMk
  obtain ⟨q, hq⟩ : ∃ q, mkB kd l = q := ⟨_, rfl⟩
  rw [hq] at HIn ⊢
  have HB2 := Lib.hid ((below_o w (noB kd nn aa ii l ty)).alloc (below_o w (noB kd nn aa ii l ty)).size (.cells T 9))
  have HT : Hid (((w.alloc (noB kd nn aa ii l ty)).alloc (.cells T 9)).heap[w.heap.size + 1]? = some (.cells T 9)) := heap_alloc_at _ _ (by simp)
  clear hn hT hq
  rcases hk with rfl | rfl | rfl | rfl | rfl
  all_goals
    go_enter Tryz.func20, Tryz.ntmps20
    go_wp2_with fail
    refine (HA.out _).mono ?_
    rintro e w2 ⟨rfl, rfl⟩
    clear HA
    go_wp2_with fail
    go_region_with (first | (go_at_call 41; refine (HMk.out _).mono ?_; rintro e w3 ⟨rfl, rfl⟩) | (go_at_call 40; refine (HIn.out _ (by exact HT.out)).mono ?_; rintro e w4 ⟨rfl, rfl⟩))
    all_goals
      go_wp2_with fail
      all_goals
        go_ret
        refine ⟨ret_b ?_, by first | exact (below_o w _).alloc (below_o w _).size _ | exact ((below_o w _).alloc (below_o w _).size _).drew | exact ((below_o w _).drew.alloc (below_o w _).size _)⟩
        first
          | rfl
          | (simp_all; done)
          | (rw [Bool.eq_iff_iff]; simp_all; done)
          | (rw [Bool.eq_iff_iff]; simp_all; omega)
          | (cases l <;> cases ty <;> simp_all)
end Go.Proofs.YtmaplgpicdomiaaGreatDoor
namespace Go.Proofs.YtmaplgpicdomiaaGreatDoor
set_option linter.unusedVariables false
set_option linter.unusedSimpArgs false
set_option maxRecDepth 100000
open Go.RowKit

theorem wlR_bad {x : NdT} (h : ¬ (0 ≤ (arI x.kind).1 ∧ (arI x.kind).1 ≤ x.n ∧ x.n ≤ (arI x.kind).2 ∧ 0 ≤ x.at' ∧ x.at' ≤ 65536)) : wlR wlB x = false := by
  rw [Bool.eq_false_iff]
  intro h2
  apply h
  unfold wlR wlB plB at h2
  simp only [Bool.and_eq_true, decide_eq_true_eq] at h2
  obtain ⟨⟨⟨h3, h4⟩, h5⟩, ⟨⟨⟨⟨h6, h7⟩, _⟩, _⟩, _⟩⟩ := h2
  exact ⟨h3, h4, h5, h6, h7⟩
theorem wlR_good {x : NdT} (h : 0 ≤ (arI x.kind).1 ∧ (arI x.kind).1 ≤ x.n ∧ x.n ≤ (arI x.kind).2 ∧ 0 ≤ x.at' ∧ x.at' ≤ 65536) : wlR wlB x = (niB x.kind x.int && txB x.kind x.text && tyB x.kind x.int x.type) := by
  obtain ⟨h1, h2, h3, h4, h5⟩ := h
  have e1 : (decide (0 ≤ (arI x.kind).1) && decide ((arI x.kind).1 ≤ x.n) && decide (x.n ≤ (arI x.kind).2)) = true := by simp [h1, h2, h3]
  have e2 : plB x.at' = true := by unfold plB; simp [h4, h5]
  unfold wlR wlB
  rw [e1, e2, Bool.true_and, Bool.true_and]
theorem c_well (x : NdT) (hx : NdOk x) (w : World) :
    Calls Tryz.prog 20 #[noX x] w fun e w' => e = .returned (.bool (wlR wlB x)) ∧ Below w.heap.size w w' := by
  by_cases hg : 0 ≤ (arI x.kind).1 ∧ (arI x.kind).1 ≤ x.n ∧ x.n ≤ (arI x.kind).2 ∧ 0 ≤ x.at' ∧ x.at' ≤ 65536
  · rw [wlR_good hg]
    obtain ⟨hx1, hx2⟩ := hx
    obtain ⟨kd, nn, aa, ii, l, ty⟩ := x
    show Calls _ _ #[noV kd nn aa ii ⟨l.toArray⟩ ⟨ty.toArray⟩] w _
    have hg : 0 ≤ (arI kd).1 ∧ (arI kd).1 ≤ nn ∧ nn ≤ (arI kd).2 ∧ 0 ≤ aa ∧ aa ≤ 65536 := hg
    have hx1 : l.length ≤ 9223372036854775807 := hx1
    have hx2 : ty.length ≤ 9223372036854775807 := hx2
    show Calls _ _ _ _ (fun e w' => e = .returned (.bool (niB kd ii && txB kd l && tyB kd ii ty)) ∧ Below w.heap.size w w')
    by_cases k1 : kd = 1
    · subst k1
      exact wl_1 nn aa ii l ty w hg
    by_cases k2 : kd = 2
    · subst k2
      exact wl_2 nn aa ii l ty w hg
    by_cases k22 : kd = 22
    · subst k22
      exact wl_22 nn aa ii l ty w hx1 hx2 hg
    have hni : niB kd ii = (ii == 0) := by unfold niB; rw [if_neg k1, if_neg k22]
    by_cases k3 : kd = 3 ∨ kd = 13 ∨ kd = 14
    · have e1 : txB kd l = nameB l := by unfold txB; rw [if_neg k2, if_pos (by omega)]
      have e2 : tyB kd ii ty = (ty == []) := by unfold tyB; rw [if_neg k1, if_neg (by omega), if_neg k22]
      rw [hni, e1, e2]
      exact wl_3 kd nn aa ii l ty w k3 hx1 hg
    by_cases k4 : kd = 4 ∨ kd = 5 ∨ kd = 6 ∨ kd = 7 ∨ kd = 8
    · have e1 : txB kd l = mkB kd l := by unfold txB; rw [if_neg k2, if_neg (by omega), if_pos k4]
      have e2 : tyB kd ii ty = (ty == []) := by unfold tyB; rw [if_neg k1, if_neg (by omega), if_neg k22]
      rw [hni, e1, e2]
      exact wl_4 kd nn aa ii l ty w k4 hg
    have e1 : txB kd l = (l == []) := by unfold txB; rw [if_neg k2, if_neg (by omega), if_neg k4]
    by_cases k15 : kd = 15 ∨ kd = 17
    · have e2 : tyB kd ii ty = rtB ty := by unfold tyB; rw [if_neg k1, if_pos k15]
      rw [hni, e1, e2]
      exact wl_15 kd nn aa ii l ty w k15 hx2 hg
    · have e2 : tyB kd ii ty = (ty == []) := by unfold tyB; rw [if_neg k1, if_neg k15, if_neg k22]
      rw [hni, e1, e2]
      exact wl_0 kd nn aa ii l ty w (by omega) hg
  · rw [wlR_bad hg]
    exact wl_bad x.kind x.n x.at' x.int x.text x.type w hg
end Go.Proofs.YtmaplgpicdomiaaGreatDoor
