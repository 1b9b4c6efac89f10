/-
  The walk of the law: types that may be, and are not the same, are not written the same.
-/
import Derived.Test.YtgplonfhmemhiaaGreatDoorTyWk
import Derived.Test.YtgplonfhmemhiaaGreatDoorTyCk8
namespace Go.Proofs.YtgplonfhmemhiaaGreatDoor
set_option linter.unusedVariables false
set_option linter.unusedSimpArgs false
set_option maxRecDepth 100000
open Go.RowKit

theorem da_ok {l x d : List UInt8} (h : dA l x = (d, 0)) : ∃ t, tk l = some t ∧ d = dcl t x ∧ x.all wrd8 = true := by
  unfold dA at h
  cases ht : tk l with
  | none => rw [ht] at h; cases h
  | some t =>
    rw [ht] at h
    simp only at h
    split at h
    · rename_i hx
      refine ⟨t, rfl, (Prod.mk.inj h).1.symm, ?_⟩
      rcases hx with rfl | hx
      · rfl
      · exact (name_all hx).2.2.1
    · cases h
theorem da_or (l x : List UInt8) : ((dA l x).2 = 0 ∧ (dA l x).1 ≠ []) ∨ ((dA l x).2 = 2 ∧ (dA l x).1 = []) := by
  unfold dA
  cases tk l with
  | none => exact .inr ⟨rfl, rfl⟩
  | some t =>
    simp only
    split
    · exact .inl ⟨rfl, dcl_ne t x⟩
    · exact .inr ⟨rfl, rfl⟩
theorem told {l m x d : List UInt8} (h1 : dA l x = (d, 0)) (h2 : dA m x = (d, 0)) (r1 : ∃ t, tk l = some t ∧ t.rt) (r2 : ∃ t, tk m = some t ∧ t.rt) : l = m := by
  obtain ⟨t, ht, e1, hx⟩ := da_ok h1
  obtain ⟨u, hu, e2, _⟩ := da_ok h2
  obtain ⟨t', ht', rt⟩ := r1
  obtain ⟨u', hu', ru⟩ := r2
  rw [ht] at ht'
  rw [hu] at hu'
  cases ht'
  cases hu'
  have e : t = u := dcl_inj rt ru hx (e1.symm.trans e2)
  rw [(tk_some ht).2.1, (tk_some hu).2.1, e]
set_option maxHeartbeats 8000000 in
theorem c_Told (B : Nat) (l m x : List UInt8) (w : World) (hE : Env B w) (hB : B ≤ w.heap.size) (hl : l.length ≤ 9223372036854775807) (hm : m.length ≤ 9223372036854775807) (hx : x.length ≤ 9223372036854775807) :
    Calls Tryz.prog 6 #[.string ⟨l.toArray⟩, .string ⟨m.toArray⟩, .string ⟨x.toArray⟩] w fun e w' => e = .returned (.bool true) ∧ Below w.heap.size w w' := by
  have HW := Lib.hid (c_works B w hE hB)
  have HD1 := Lib.hid (fun w' (h : Below w.heap.size w w') => c_Declare B l x w' (hE.next (h.mono hB)) (Nat.le_trans hB h.size) hl hx)
  have HD2 := Lib.hid (fun w' (h : Below w.heap.size w w') => c_Declare B m x w' (hE.next (h.mono hB)) (Nat.le_trans hB h.size) hm hx)
  have HR1 := Lib.hid (fun w' (h : Below w.heap.size w w') => c_lright B l w' (hE.next (h.mono hB)) (Nat.le_trans hB h.size) hl)
  have HR2 := Lib.hid (fun w' (h : Below w.heap.size w w') => c_lright B m w' (hE.next (h.mono hB)) (Nat.le_trans hB h.size) hm)
  obtain ⟨d1, e1, h1⟩ : ∃ d e, dA l x = (d, e) := ⟨_, _, rfl⟩
  obtain ⟨d2, e2, h2⟩ : ∃ d e, dA m x = (d, e) := ⟨_, _, rfl⟩
  have ho1 := da_or l x
  have ho2 := da_or m x
  rw [h1] at HD1 ho1
  rw [h2] at HD2 ho2
  have HM1 := Lib.hid h1
  have HM2 := Lib.hid h2
  clear hE h1 h2
  have hb1 : (e1 = 0 ∧ (e1 == 0) = true ∧ (d1 == []) = false) ∨ (e1 = 2 ∧ d1 = []) := by
    rcases ho1 with ⟨h, g⟩ | ⟨h, g⟩
    · have h' : e1 = 0 := h
      have g' : d1 ≠ [] := g
      exact .inl ⟨h', by simp [h'], by simp [g']⟩
    · exact .inr ⟨h, g⟩
  have hb2 : (e2 = 0 ∧ (e2 == 0) = true ∧ (d2 == []) = false) ∨ (e2 = 2 ∧ d2 = []) := by
    rcases ho2 with ⟨h, g⟩ | ⟨h, g⟩
    · have h' : e2 = 0 := h
      have g' : d2 ≠ [] := g
      exact .inl ⟨h', by simp [h'], by simp [g']⟩
    · exact .inr ⟨h, g⟩
  clear ho1 ho2
  go_enter Tryz.func6, Tryz.ntmps6
  go_wp2_with fail
  refine HW.out.mono ?_
  rintro e9 w1 ⟨rfl, hb⟩
  have HB1 := Lib.hid hb
  clear hb HW
  go_wp2_with fail
  refine (HD1.out _ HB1.out).mono ?_
  rintro e9 w2 ⟨rfl, hb⟩
  have HB2 := Lib.hid (below_on HB1.out hb HB1.out.size)
  clear hb HD1
  go_wp2_with fail
  refine (HD2.out _ HB2.out).mono ?_
  rintro e9 w3 ⟨rfl, hb⟩
  have HB3 := Lib.hid (below_on HB2.out hb HB2.out.size)
  clear hb HD2
  rcases hb1 with ⟨rfl, _, hd1⟩ | ⟨rfl, rfl⟩
  · rcases hb2 with ⟨rfl, _, hd2⟩ | ⟨rfl, rfl⟩
    · go_wp2_with fail
      refine (HR1.out _ HB3.out).mono ?_
      rintro e9 w4 ⟨⟨q1, rfl, hq1⟩, hb⟩
      have HB4 := Lib.hid (below_on HB3.out hb HB3.out.size)
      have HQ1 := Lib.hid hq1
      clear hb hq1 HR1
      cases q1
      · go_wp2_with fail
        go_ret
        exact ⟨rfl, HB4.out⟩
      · go_wp2_with fail
        refine (HR2.out _ HB4.out).mono ?_
        rintro e9 w5 ⟨⟨q2, rfl, hq2⟩, hb⟩
        have HB5 := Lib.hid (below_on HB4.out hb HB4.out.size)
        have HQ2 := Lib.hid hq2
        clear hb hq2 HR2
        cases q2
        · go_wp2_with fail
          go_ret
          exact ⟨rfl, HB5.out⟩
        · have hdd : (d1 == d2) = (l == m) := by
            rw [Bool.eq_iff_iff, beq_iff_eq, beq_iff_eq]
            constructor
            · rintro rfl
              exact told HM1.out HM2.out (HQ1.out (by trivial)) (HQ2.out (by trivial))
            · rintro rfl
              exact (Prod.mk.inj (HM1.out.symm.trans HM2.out)).1
          obtain ⟨bq, hbq⟩ : ∃ b, (l == m) = b := ⟨_, rfl⟩
          rw [hbq] at hdd
          cases bq
          all_goals
            clear hd1 hd2
            go_wp2_with fail
            go_ret
            exact ⟨rfl, HB5.out⟩
    · go_wp2_with fail
      go_ret
      exact ⟨rfl, HB3.out⟩
  · rcases hb2 with ⟨rfl, _, hd2⟩ | ⟨rfl, rfl⟩
    · go_wp2_with fail
      go_ret
      exact ⟨rfl, HB3.out⟩
    · go_wp2_with fail
      go_ret
      exact ⟨rfl, HB3.out⟩
end Go.Proofs.YtgplonfhmemhiaaGreatDoor
