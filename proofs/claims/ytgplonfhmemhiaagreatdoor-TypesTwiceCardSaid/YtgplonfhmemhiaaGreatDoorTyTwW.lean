/-
  The walk of the law: the common type turns about; to decay, to promote twice is as once.
-/
import Derived.Test.YtgplonfhmemhiaaGreatDoorTyWk
import Derived.Test.YtgplonfhmemhiaaGreatDoorTyTw
namespace Go.Proofs.YtgplonfhmemhiaaGreatDoor
set_option linter.unusedVariables false
set_option linter.unusedSimpArgs false
set_option maxRecDepth 100000
open Go.RowKit

theorem pr_len {p q : List UInt8} (h : prA p = (q, 0)) : p.length ≤ 65536 := by
  unfold prA at h
  cases ht : tk p with
  | none => rw [ht] at h; cases h
  | some t => exact (tk_some ht).2.2
theorem dc_len {p q : List UInt8} (h : dcA p = (q, 0)) : p.length ≤ 65536 := by
  unfold dcA at h
  cases ht : tk p with
  | none => rw [ht] at h; cases h
  | some t => exact (tk_some ht).2.2
set_option maxHeartbeats 8000000 in
theorem c_Twice (B : Nat) (l m : List UInt8) (w : World) (hE : Env B w) (hB : B ≤ w.heap.size) (hl : l.length ≤ 9223372036854775807) (hm : m.length ≤ 9223372036854775807) :
    Calls Tryz.prog 4 #[.string ⟨l.toArray⟩, .string ⟨m.toArray⟩] w fun e w' => e = .returned (.bool true) ∧ Below w.heap.size w w' := by
  have HW := Lib.hid (c_works B w hE hB)
  have HC := Lib.hid (fun (a b : List UInt8) (ha : a.length ≤ 9223372036854775807) (hb : b.length ≤ 9223372036854775807) w' (h : Below w.heap.size w w') => c_Common B a b w' (hE.next (h.mono hB)) (Nat.le_trans hB h.size) ha hb)
  have HD := Lib.hid (fun (a : List UInt8) (ha : a.length ≤ 9223372036854775807) w' (h : Below w.heap.size w w') => c_Decay B a w' (hE.next (h.mono hB)) (Nat.le_trans hB h.size) ha)
  have HP := Lib.hid (fun (a : List UInt8) (ha : a.length ≤ 9223372036854775807) w' (h : Below w.heap.size w w') => c_Promote B a w' (hE.next (h.mono hB)) (Nat.le_trans hB h.size) ha)
  have HL := Lib.hid (And.intro hl hm)
  clear hE
  obtain ⟨c, e, hc⟩ : ∃ c e, cmA l m = (c, e) := ⟨_, _, rfl⟩
  have HC1 := Lib.hid (HC.out l m hl hm)
  rw [hc] at HC1
  have HCm := Lib.hid hc
  clear hc
  obtain ⟨d, e2, hd⟩ : ∃ c e, dcA l = (c, e) := ⟨_, _, rfl⟩
  have HD1 := Lib.hid (HD.out l hl)
  rw [hd] at HD1
  have HDm := Lib.hid hd
  clear hd
  obtain ⟨p, e3, hp⟩ : ∃ c e, prA l = (c, e) := ⟨_, _, rfl⟩
  have HP1 := Lib.hid (HP.out l hl)
  rw [hp] at HP1
  have HPm := Lib.hid hp
  clear hp hl hm
  go_enter Tryz.func4, Tryz.ntmps4
  go_wp2_with fail
  refine HW.out.mono ?_
  rintro e9 w1 ⟨rfl, hb⟩
  have HB1 := Lib.hid hb
  clear hb HW
  go_wp2_with fail
  refine (HC1.out _ HB1.out).mono ?_
  rintro e9 w2 ⟨rfl, hb⟩
  have HB2 := Lib.hid (below_on HB1.out hb HB1.out.size)
  clear hb HC1
  cases hez : e == 0
  · go_wp2_with fail
    have HBc := HB2
    refine (HD1.out _ HBc.out).mono ?_
    rintro e9 wd1 ⟨rfl, hb⟩
    have HBd := Lib.hid (below_on HBc.out hb HBc.out.size)
    clear hb HD1
    cases hez2 : e2 == 0
    · go_wp2_with fail
      have HBa := HBd
      refine (HP1.out _ HBa.out).mono ?_
      rintro e9 wp1 ⟨rfl, hb⟩
      have HBp := Lib.hid (below_on HBa.out hb HBa.out.size)
      clear hb HP1
      cases hez3 : e3 == 0
      · go_wp2_with fail
        go_ret
        exact ⟨rfl, HBp.out⟩
      · obtain rfl : e3 = 0 := by simpa using hez3
        have hp2 := tw_prom HPm.out
        have HP2 := Lib.hid (HP.out p (by have := pr_len hp2; omega))
        rw [hp2] at HP2
        clear hp2 hez3
        go_wp2_with fail
        refine (HP2.out _ HBp.out).mono ?_
        rintro e9 wp2 ⟨rfl, hb⟩
        have HBq := Lib.hid (below_on HBp.out hb HBp.out.size)
        clear hb
        go_wp2_with fail
        go_ret
        exact ⟨rfl, HBq.out⟩

    · obtain rfl : e2 = 0 := by simpa using hez2
      have hd2 := tw_decay HDm.out
      have HD2 := Lib.hid (HD.out d (by have := dc_len hd2; omega))
      rw [hd2] at HD2
      clear hd2 hez2
      go_wp2_with fail
      refine (HD2.out _ HBd.out).mono ?_
      rintro e9 wd2 ⟨rfl, hb⟩
      have HBa := Lib.hid (below_on HBd.out hb HBd.out.size)
      clear hb HD2
      go_wp2_with fail
      refine (HP1.out _ HBa.out).mono ?_
      rintro e9 wp1 ⟨rfl, hb⟩
      have HBp := Lib.hid (below_on HBa.out hb HBa.out.size)
      clear hb HP1
      cases hez3 : e3 == 0
      · go_wp2_with fail
        go_ret
        exact ⟨rfl, HBp.out⟩
      · obtain rfl : e3 = 0 := by simpa using hez3
        have hp2 := tw_prom HPm.out
        have HP2 := Lib.hid (HP.out p (by have := pr_len hp2; omega))
        rw [hp2] at HP2
        clear hp2 hez3
        go_wp2_with fail
        refine (HP2.out _ HBp.out).mono ?_
        rintro e9 wp2 ⟨rfl, hb⟩
        have HBq := Lib.hid (below_on HBp.out hb HBp.out.size)
        clear hb
        go_wp2_with fail
        go_ret
        exact ⟨rfl, HBq.out⟩

  · obtain rfl : e = 0 := by simpa using hez
    obtain ⟨h1, h2, q, h3, h4⟩ := tw_common HCm.out
    rw [HPm.out] at h3
    obtain ⟨rfl, rfl⟩ := Prod.mk.inj h3
    have HC2 := Lib.hid (HC.out m l HL.out.2 HL.out.1)
    rw [h1] at HC2
    have HP0 := Lib.hid (HP.out c (by have := pr_len h2; omega))
    rw [h2] at HP0
    have HQ := Lib.hid h4
    clear h1 h2 h3 h4 hez
    go_wp2_with fail
    refine (HC2.out _ HB2.out).mono ?_
    rintro e9 w3 ⟨rfl, hb⟩
    have HB3 := Lib.hid (below_on HB2.out hb HB2.out.size)
    clear hb HC2
    go_wp2_with fail
    refine (HP0.out _ HB3.out).mono ?_
    rintro e9 w4 ⟨rfl, hb⟩
    have HB4 := Lib.hid (below_on HB3.out hb HB3.out.size)
    clear hb HP0
    go_wp2_with fail
    refine (HP1.out _ HB4.out).mono ?_
    rintro e9 w5 ⟨rfl, hb⟩
    have HBc := Lib.hid (below_on HB4.out hb HB4.out.size)
    clear hb
    cases hcq : c == p
    · have hcu : (c == [117]) = true := by
        rcases HQ.out with h | h
        · rw [h] at hcq; simp at hcq
        · rw [h]; rfl
      go_wp2_with fail
      refine (HD1.out _ HBc.out).mono ?_
      rintro e9 wd1 ⟨rfl, hb⟩
      have HBd := Lib.hid (below_on HBc.out hb HBc.out.size)
      clear hb HD1
      cases hez2 : e2 == 0
      · go_wp2_with fail
        have HBa := HBd
        refine (HP1.out _ HBa.out).mono ?_
        rintro e9 wp1 ⟨rfl, hb⟩
        have HBp := Lib.hid (below_on HBa.out hb HBa.out.size)
        clear hb HP1
        have hp2 := tw_prom HPm.out
        have HP2 := Lib.hid (HP.out p (by have := pr_len hp2; omega))
        rw [hp2] at HP2
        clear hp2
        go_wp2_with fail
        refine (HP2.out _ HBp.out).mono ?_
        rintro e9 wp2 ⟨rfl, hb⟩
        have HBq := Lib.hid (below_on HBp.out hb HBp.out.size)
        clear hb
        go_wp2_with fail
        go_ret
        exact ⟨rfl, HBq.out⟩

      · obtain rfl : e2 = 0 := by simpa using hez2
        have hd2 := tw_decay HDm.out
        have HD2 := Lib.hid (HD.out d (by have := dc_len hd2; omega))
        rw [hd2] at HD2
        clear hd2 hez2
        go_wp2_with fail
        refine (HD2.out _ HBd.out).mono ?_
        rintro e9 wd2 ⟨rfl, hb⟩
        have HBa := Lib.hid (below_on HBd.out hb HBd.out.size)
        clear hb HD2
        go_wp2_with fail
        refine (HP1.out _ HBa.out).mono ?_
        rintro e9 wp1 ⟨rfl, hb⟩
        have HBp := Lib.hid (below_on HBa.out hb HBa.out.size)
        clear hb HP1
        have hp2 := tw_prom HPm.out
        have HP2 := Lib.hid (HP.out p (by have := pr_len hp2; omega))
        rw [hp2] at HP2
        clear hp2
        go_wp2_with fail
        refine (HP2.out _ HBp.out).mono ?_
        rintro e9 wp2 ⟨rfl, hb⟩
        have HBq := Lib.hid (below_on HBp.out hb HBp.out.size)
        clear hb
        go_wp2_with fail
        go_ret
        exact ⟨rfl, HBq.out⟩

    · go_wp2_with fail
      refine (HD1.out _ HBc.out).mono ?_
      rintro e9 wd1 ⟨rfl, hb⟩
      have HBd := Lib.hid (below_on HBc.out hb HBc.out.size)
      clear hb HD1
      cases hez2 : e2 == 0
      · go_wp2_with fail
        have HBa := HBd
        refine (HP1.out _ HBa.out).mono ?_
        rintro e9 wp1 ⟨rfl, hb⟩
        have HBp := Lib.hid (below_on HBa.out hb HBa.out.size)
        clear hb HP1
        have hp2 := tw_prom HPm.out
        have HP2 := Lib.hid (HP.out p (by have := pr_len hp2; omega))
        rw [hp2] at HP2
        clear hp2
        go_wp2_with fail
        refine (HP2.out _ HBp.out).mono ?_
        rintro e9 wp2 ⟨rfl, hb⟩
        have HBq := Lib.hid (below_on HBp.out hb HBp.out.size)
        clear hb
        go_wp2_with fail
        go_ret
        exact ⟨rfl, HBq.out⟩

      · obtain rfl : e2 = 0 := by simpa using hez2
        have hd2 := tw_decay HDm.out
        have HD2 := Lib.hid (HD.out d (by have := dc_len hd2; omega))
        rw [hd2] at HD2
        clear hd2 hez2
        go_wp2_with fail
        refine (HD2.out _ HBd.out).mono ?_
        rintro e9 wd2 ⟨rfl, hb⟩
        have HBa := Lib.hid (below_on HBd.out hb HBd.out.size)
        clear hb HD2
        go_wp2_with fail
        refine (HP1.out _ HBa.out).mono ?_
        rintro e9 wp1 ⟨rfl, hb⟩
        have HBp := Lib.hid (below_on HBa.out hb HBa.out.size)
        clear hb HP1
        have hp2 := tw_prom HPm.out
        have HP2 := Lib.hid (HP.out p (by have := pr_len hp2; omega))
        rw [hp2] at HP2
        clear hp2
        go_wp2_with fail
        refine (HP2.out _ HBp.out).mono ?_
        rintro e9 wp2 ⟨rfl, hb⟩
        have HBq := Lib.hid (below_on HBp.out hb HBp.out.size)
        clear hb
        go_wp2_with fail
        go_ret
        exact ⟨rfl, HBq.out⟩
end Go.Proofs.YtgplonfhmemhiaaGreatDoor
