/-
  The contracts of an escape and of a piece, in the code.
-/
import Derived.Test.YtbccabpcljkamaaDoorLexRd3
namespace Go.Proofs.YtbccabpcljkamaaDoor
set_option linter.unusedVariables false
set_option linter.unusedSimpArgs false
set_option maxRecDepth 100000
open Go.RowKit

theorem RdX.set1 {b k : Nat} {w wr : World} (h : RdX b w k wr) : RdX b w (k + 1) (wr.setCell ⟨b, 1, none⟩ (.int .i64 ((k : Int) + 1))) := by
  have := h.set (k + 1)
  simpa using this
set_option maxHeartbeats 4000000 in
attribute [local irreducible] Go.wpQuiet in
theorem c_escape (B b : Nat) (l : List UInt8) (k : Nat) (w : World) (hE : Env B w) (hB : B ≤ b) (hbw : b < w.heap.size) (hk : k ≤ l.length) (hl : l.length ≤ 65536) (h0 : w.cell? ⟨b, 0, none⟩ = some (.string ⟨l.toArray⟩)) (h1 : w.cell? ⟨b, 1, none⟩ = some (.int .i64 k)) (hf : w.frozen? ⟨b, 1, none⟩ = false) :
    Calls Tryd.prog 67 #[.pointer (some ⟨b, 0, none⟩)] w fun e w' => PcR b l w (escP (l.drop k)) e w' := by
  have HX := Lib.hid (RdX.start (b := b) h1)
  have HC := Lib.hid (fun (wr : World) (j : Nat) (h : RdX b w j wr) => h.all h0 hf)
  have HEn := Lib.hid (fun (wr : World) (j : Nat) (h : RdX b w j wr) => hE.next (h.below hB hbw))
  have HBw := Lib.hid hbw
  have HO := Lib.hid (c_isOver b 0 l k w h0 h1)
  by_cases hlt : k < l.length
  · have hov : (k == l.length) = false := by simp; omega
    rw [hov] at HO
    obtain ⟨c, hc⟩ : ∃ c, l[k]?.getD 0 = c := ⟨_, rfl⟩
    obtain ⟨t, ht⟩ : ∃ t, l.drop (k + 1) = t := ⟨_, rfl⟩
    have htl : t.length = l.length - (k + 1) := by rw [← ht, List.length_drop]
    have hd : l.drop k = c :: t := by
      rw [List.drop_eq_getElem_cons hlt, ht]
      rw [List.getElem?_eq_getElem hlt, Option.getD_some] at hc
      rw [hc]
    rw [hd]
    have HPl : Hid (plc l t = k + 1) := by show _ = _; unfold plc; omega
    have hj0 : (0 : Int) ≤ (k : Int) := by omega
    have hj1 : (k : Int) < (l.length : Int) := by omega
    have hll : (l.length : Int) ≤ 65536 := by omega
    obtain ⟨cI, hcI⟩ : ∃ cI : Int, (c.toNat : Int) = cI := ⟨_, rfl⟩
    have hby : ∀ h, (((ByteArray.mk l.toArray)[k]'h).toNat : Int) = cI := fun h => by rw [byte_at l k h, hc, hcI]
    have hcb : 0 ≤ cI ∧ cI ≤ 255 := by have := c.toNat_lt; omega
    obtain ⟨hc0, hc1⟩ := hcb
    have HPair : Hid (∀ wr, RdX b w (k + 1) wr → Calls Tryd.prog 85 #[.pointer (some ⟨b, 0, none⟩)] wr fun e w' => PcR b l wr (pairP t) e w') := fun wr h => by
      obtain ⟨g0, g1, g2⟩ := h.all h0 hf
      have := c_pair B b l (k + 1) wr (hE.next (h.below hB hbw)) hB (Nat.lt_of_lt_of_le hbw h.size) (by omega) hl g0 g1 g2
      rw [ht] at this
      exact this
    have HTd : Hid (t = l.drop (k + 1)) := ht.symm
    clear ht hd hc h0 h1 hf hE
    have start : ∀ (o : Option (UInt8 × List UInt8)), o = o := fun _ => rfl
    clear start
    by_cases e1 : c = 110 ∨ c = 116 ∨ c = 114 ∨ c = 92 ∨ c = 39 ∨ c = 34
    · rcases e1 with rfl | rfl | rfl | rfl | rfl | rfl
      all_goals
        simp at hcI
        subst hcI
        go_enter Tryd.func67, Tryd.ntmps67
        go_wp2_with fail
        refine HO.out.mono ?_
        rintro e w2 ⟨rfl, hn⟩
        have HW2 := Lib.hid (HX.out.draw hn)
        obtain ⟨ht2, hp2, hf2⟩ := HC.out w2 k HW2.out
        clear hn
        go_wp2_with fail
        go_quiet (fail)
        have HW3 := Lib.hid (HW2.out.draw ⟨nq, rfl⟩)
        obtain ⟨ht3, hp3, hf3⟩ := HC.out _ k HW3.out
        generalize w2.drewN nq = w3 at HW3 ht3 hp3 hf3 ⊢
        clear ht2 hp2 hf2
        go_wp2_with fail
        go_ret2
        refine .inl ⟨_, _, rfl, rfl, ?_⟩
        rw [HPl.out]
        exact HW3.out.set (k + 1)
    by_cases e2 : c = 48
    · subst e2
      simp at hcI
      subst hcI
      by_cases ht0 : t = []
      · have hov1 : (k + 1 == l.length) = true := by subst ht0; simp at htl; simp; omega
        have HV : Hid (escP (48 :: t) = some (0, t)) := by show _ = _; subst ht0; rfl
        rw [HV.out]
        go_enter Tryd.func67, Tryd.ntmps67
        go_wp2_with fail
        refine HO.out.mono ?_
        rintro e w2 ⟨rfl, hn⟩
        have HW2 := Lib.hid (HX.out.draw hn)
        obtain ⟨ht2, hp2, hf2⟩ := HC.out w2 k HW2.out
        clear hn
        go_wp2_with fail
        go_quiet (fail)
        have HW3 := Lib.hid (HW2.out.draw ⟨nq, rfl⟩)
        obtain ⟨ht3, hp3, hf3⟩ := HC.out _ k HW3.out
        generalize w2.drewN nq = w3 at HW3 ht3 hp3 hf3 ⊢
        clear ht2 hp2 hf2
        have HW4 := Lib.hid HW3.out.set1
        obtain ⟨ht4, hp4, hf4⟩ := HC.out _ _ HW4.out
        have HO4 : Hid (∀ w : World, w.cell? ⟨b, 0, none⟩ = some (.string ⟨l.toArray⟩) → w.cell? ⟨b, 1, none⟩ = some (.int .i64 ((k + 1 : Nat) : Int)) → Calls Tryd.prog 18 #[.pointer (some ⟨b, 0, none⟩)] w fun e w' => e = .returned (.bool true) ∧ ∃ n, w' = w.drewN n) := fun w a1 a2 => by
          have h := c_isOver b 0 l (k + 1) w a1 a2
          rw [hov1] at h
          exact h
        go_wp2_with fail
        generalize w3.setCell ⟨b, 1, none⟩ (.int .i64 ((k : Int) + 1)) = w4 at HW4 ht4 hp4 hf4 ⊢
        go_quiet (first | (go_at_call 18; refine Calls.quiet_of (HO4.out _ ((World.cell?_drewN _ _ _).trans ht4) ((World.cell?_drewN _ _ _).trans hp4))))
        go_wp2_with fail
        go_ret2
        refine .inl ⟨_, _, rfl, rfl, ?_⟩
        rw [HPl.out]
        exact HW4.out.draw ⟨_, rfl⟩
      · obtain ⟨dI, hdI⟩ : ∃ dI : Int, ((t[0]?.getD 0).toNat : Int) = dI := ⟨_, rfl⟩
        have hlt1 : k + 1 < l.length := by have := List.length_pos_iff.2 ht0; omega
        have hov1 : (k + 1 == l.length) = false := by simp; omega
        have hd0 : l[k + 1]?.getD 0 = t[0]?.getD 0 := by rw [HTd.out, List.getElem?_drop]
        have hby1 : ∀ h, (((ByteArray.mk l.toArray)[k + 1]'h).toNat : Int) = dI := fun h => by rw [byte_at l (k + 1) h, hd0, hdI]
        have hdb : 0 ≤ dI ∧ dI ≤ 255 := by have := (t[0]?.getD 0).toNat_lt; omega
        obtain ⟨hd0', hd1'⟩ := hdb
        have HDg : Hid (dig8 (t[0]?.getD 0) = digI dI) := by show digI _ = _; rw [hdI]
        have HVy : Hid (digI dI = true → escP (48 :: t) = none) := fun h => by
          have e : escP (48 :: t) = if t ≠ [] ∧ dig8 (t[0]?.getD 0) then none else some (0, t) := rfl
          rw [e, if_pos ⟨ht0, HDg.out.trans h⟩]
        have HVn : Hid (digI dI = false → escP (48 :: t) = some (0, t)) := fun h => by
          have e : escP (48 :: t) = if t ≠ [] ∧ dig8 (t[0]?.getD 0) then none else some (0, t) := rfl
          rw [e, if_neg (fun hh => by have := HDg.out.symm.trans hh.2; rw [h] at this; cases this)]
        have hk1 : (0 : Int) ≤ (k : Int) + 1 := by omega
        have hk2 : (k : Int) + 1 < (l.length : Int) := by omega
        clear hdI hd0 ht0
        go_enter Tryd.func67, Tryd.ntmps67
        go_wp2_with fail
        refine HO.out.mono ?_
        rintro e w2 ⟨rfl, hn⟩
        have HW2 := Lib.hid (HX.out.draw hn)
        obtain ⟨ht2, hp2, hf2⟩ := HC.out w2 k HW2.out
        clear hn
        go_wp2_with fail
        go_quiet (fail)
        have HW3 := Lib.hid (HW2.out.draw ⟨nq, rfl⟩)
        obtain ⟨ht3, hp3, hf3⟩ := HC.out _ k HW3.out
        generalize w2.drewN nq = w3 at HW3 ht3 hp3 hf3 ⊢
        clear ht2 hp2 hf2
        have HW4 := Lib.hid HW3.out.set1
        obtain ⟨ht4, hp4, hf4⟩ := HC.out _ _ HW4.out
        have HO4 : Hid (∀ w : World, w.cell? ⟨b, 0, none⟩ = some (.string ⟨l.toArray⟩) → w.cell? ⟨b, 1, none⟩ = some (.int .i64 ((k + 1 : Nat) : Int)) → Calls Tryd.prog 18 #[.pointer (some ⟨b, 0, none⟩)] w fun e w' => e = .returned (.bool false) ∧ ∃ n, w' = w.drewN n) := fun w a1 a2 => by
          have h := c_isOver b 0 l (k + 1) w a1 a2
          rw [hov1] at h
          exact h
        have HD4 : Hid (∀ w : World, Calls Tryd.prog 31 #[.int .u8 dI] w fun e w' => e = .returned (.bool (digI dI)) ∧ w' = w) := fun w => (c_isDigit dI w hd0' hd1').mono fun e w' h => ⟨h.1, h.2.symm⟩
        go_wp2_with fail
        generalize w3.setCell ⟨b, 1, none⟩ (.int .i64 ((k : Int) + 1)) = w4 at HW4 ht4 hp4 hf4 ⊢
        have hp4' : w4.cell? ⟨b, 1, none⟩ = some (.int .i64 ((k : Int) + 1)) := hp4
        clear ht3 hp3 hf3
        cases hD : digI dI
        · rw [hD] at HD4
          go_quiet (first | (go_at_call 18; refine Calls.quiet_of (HO4.out _ ((World.cell?_drewN _ _ _).trans ht4) ((World.cell?_drewN _ _ _).trans hp4))) | (go_at_call 31; refine Calls.quiet_of_same (HD4.out _)))
          go_wp2_with fail
          go_ret2
          refine .inl ⟨_, _, HVn.out hD, rfl, ?_⟩
          rw [HPl.out]
          exact HW4.out.draw ⟨_, rfl⟩
        · rw [hD] at HD4
          go_quiet (first | (go_at_call 18; refine Calls.quiet_of (HO4.out _ ((World.cell?_drewN _ _ _).trans ht4) ((World.cell?_drewN _ _ _).trans hp4))) | (go_at_call 31; refine Calls.quiet_of_same (HD4.out _)))
          go_wp2_with fail
          go_ret2
          exact .inr ⟨HVy.out hD, _, _, rfl, HW4.out.draw ⟨_, rfl⟩⟩
    by_cases e3 : c = 120
    · subst e3
      simp at hcI
      subst hcI
      have HV : Hid (escP (120 :: t) = pairP t) := rfl
      rw [HV.out]
      go_enter Tryd.func67, Tryd.ntmps67
      go_wp2_with fail
      refine HO.out.mono ?_
      rintro e w2 ⟨rfl, hn⟩
      have HW2 := Lib.hid (HX.out.draw hn)
      obtain ⟨ht2, hp2, hf2⟩ := HC.out w2 k HW2.out
      clear hn
      go_wp2_with fail
      go_quiet (fail)
      have HW3 := Lib.hid (HW2.out.draw ⟨nq, rfl⟩)
      obtain ⟨ht3, hp3, hf3⟩ := HC.out _ k HW3.out
      generalize w2.drewN nq = w3 at HW3 ht3 hp3 hf3 ⊢
      clear ht2 hp2 hf2
      have HW4 := Lib.hid HW3.out.set1
      go_wp2_with fail
      refine (HPair.out _ HW4.out).mono ?_
      rintro e w5 (⟨c', t', ho, rfl, hx5⟩ | ⟨ho, x, k', rfl, hx5⟩)
      · have HO5 := Lib.hid ho
        have HX5 := Lib.hid (HW4.out.trans hx5)
        clear ho hx5
        go_wp2_with fail
        go_ret2
        exact .inl ⟨_, _, HO5.out, rfl, HX5.out⟩
      · have HO5 := Lib.hid ho
        have HX5 := Lib.hid (HW4.out.trans hx5)
        clear ho hx5
        go_wp2_with fail
        go_ret2
        exact .inr ⟨HO5.out, _, _, rfl, HX5.out⟩
    · simp only [not_or] at e1
      obtain ⟨n1, n2, n3, n4, n5, n6⟩ := e1
      have HV : Hid (escP (c :: t) = none) := by
        show _ = _
        unfold escP
        dsimp only
        rw [if_neg n1, if_neg n2, if_neg n3, if_neg e2, if_neg (by simp [n4, n5, n6]), if_neg e3]
      rw [HV.out]
      have q : ∀ d : UInt8, c ≠ d → (cI == (d.toNat : Int)) = false := fun d hd => by
        rw [beq_eq_false_iff_ne, ← hcI]
        intro h
        exact hd (UInt8.toNat_inj.1 (by omega))
      have q1 : (cI == 110) = false := q _ n1
      have q2 : (cI == 116) = false := q _ n2
      have q3 : (cI == 114) = false := q _ n3
      have q4 : (cI == 92) = false := q _ n4
      have q5 : (cI == 39) = false := q _ n5
      have q6 : (cI == 34) = false := q _ n6
      have q7 : (cI == 48) = false := q _ e2
      have q8 : (cI == 120) = false := q _ e3
      clear q hcI n1 n2 n3 n4 n5 n6 e2 e3
      go_enter Tryd.func67, Tryd.ntmps67
      go_wp2_with fail
      refine HO.out.mono ?_
      rintro e w2 ⟨rfl, hn⟩
      have HW2 := Lib.hid (HX.out.draw hn)
      obtain ⟨ht2, hp2, hf2⟩ := HC.out w2 k HW2.out
      clear hn
      go_wp2_with fail
      go_quiet (fail)
      have HW3 := Lib.hid (HW2.out.draw ⟨nq, rfl⟩)
      obtain ⟨ht3, hp3, hf3⟩ := HC.out _ k HW3.out
      generalize w2.drewN nq = w3 at HW3 ht3 hp3 hf3 ⊢
      clear ht2 hp2 hf2
      have HW4 := Lib.hid HW3.out.set1
      go_wp2_with fail
      go_ret2
      exact .inr ⟨rfl, _, _, rfl, HW4.out⟩
  · have hov : (k == l.length) = true := by simp; omega
    rw [hov] at HO
    have HN : Hid (l.drop k = []) := List.drop_eq_nil_of_le (by omega)
    rw [HN.out]
    clear h0 h1 hf hE
    go_enter Tryd.func67, Tryd.ntmps67
    go_wp2_with fail
    refine HO.out.mono ?_
    rintro e w2 ⟨rfl, hn⟩
    have HW2 := Lib.hid (HX.out.draw hn)
    clear hn
    go_wp2_with fail
    go_ret2
    exact .inr ⟨rfl, _, _, rfl, HW2.out⟩
set_option maxHeartbeats 4000000 in
attribute [local irreducible] Go.wpQuiet in
theorem c_rpiece (B b : Nat) (l : List UInt8) (q : UInt8) (qI : Int) (hq : (q.toNat : Int) = qI) (k : Nat) (w : World) (hE : Env B w) (hB : B ≤ b) (hbw : b < w.heap.size) (hlt : k < l.length) (hl : l.length ≤ 65536) (h0 : w.cell? ⟨b, 0, none⟩ = some (.string ⟨l.toArray⟩)) (h1 : w.cell? ⟨b, 1, none⟩ = some (.int .i64 k)) (hf : w.frozen? ⟨b, 1, none⟩ = false) :
    Calls Tryd.prog 58 #[.pointer (some ⟨b, 0, none⟩), .int .u8 qI] w fun e w' => PcR b l w (pieceP q (l.drop k)) e w' := by
  have HX := Lib.hid (RdX.start (b := b) h1)
  have HC := Lib.hid (fun (wr : World) (j : Nat) (h : RdX b w j wr) => h.all h0 hf)
  obtain ⟨c, hc⟩ : ∃ c, l[k]?.getD 0 = c := ⟨_, rfl⟩
  obtain ⟨t, ht⟩ : ∃ t, l.drop (k + 1) = t := ⟨_, rfl⟩
  have htl : t.length = l.length - (k + 1) := by rw [← ht, List.length_drop]
  have hd : l.drop k = c :: t := by
    rw [List.drop_eq_getElem_cons hlt, ht]
    rw [List.getElem?_eq_getElem hlt, Option.getD_some] at hc
    rw [hc]
  rw [hd]
  have HPl : Hid (plc l t = k + 1) := by show _ = _; unfold plc; omega
  have hj0 : (0 : Int) ≤ (k : Int) := by omega
  have hj1 : (k : Int) < (l.length : Int) := by omega
  have hll : (l.length : Int) ≤ 65536 := by omega
  obtain ⟨cI, hcI⟩ : ∃ cI : Int, (c.toNat : Int) = cI := ⟨_, rfl⟩
  have hby : ∀ h, (((ByteArray.mk l.toArray)[k]'h).toNat : Int) = cI := fun h => by rw [byte_at l k h, hc, hcI]
  have hcb : (0 ≤ cI ∧ cI ≤ 255) ∧ 0 ≤ qI ∧ qI ≤ 255 := by have := c.toNat_lt; have := q.toNat_lt; omega
  obtain ⟨hcb, hqb⟩ := hcb
  have HEsc : Hid (∀ wr, RdX b w (k + 1) wr → Calls Tryd.prog 67 #[.pointer (some ⟨b, 0, none⟩)] wr fun e w' => PcR b l wr (escP t) e w') := fun wr h => by
    obtain ⟨g0, g1, g2⟩ := h.all h0 hf
    have := c_escape B b l (k + 1) wr (hE.next (h.below hB hbw)) hB (Nat.lt_of_lt_of_le hbw h.size) (by omega) hl g0 g1 g2
    rw [ht] at this
    exact this
  have e92 : c = 92 ↔ cI = 92 := u8_eq hcI
  obtain ⟨hc0, hc1⟩ := hcb
  by_cases he : c = 92
  · have h92 := e92.1 he
    have HV : Hid (pieceP q (c :: t) = escP t) := by show _ = _; unfold pieceP; dsimp only; rw [if_pos he]
    rw [HV.out]
    subst h92
    clear ht hd hc h0 h1 hf hE e92 hcI he hq
    go_enter Tryd.func58, Tryd.ntmps58
    obtain ⟨ht2, hp2, hf2⟩ := HC.out w k HX.out
    go_wp2_with fail
    go_quiet (fail)
    have HW3 := Lib.hid (HX.out.draw ⟨nq, rfl⟩)
    obtain ⟨ht3, hp3, hf3⟩ := HC.out _ k HW3.out
    generalize w.drewN nq = w3 at HW3 ht3 hp3 hf3 ⊢
    clear ht2 hp2 hf2
    have HW4 := Lib.hid HW3.out.set1
    go_wp2_with fail
    refine (HEsc.out _ HW4.out).mono ?_
    rintro e w5 (⟨c', t', ho, rfl, hx5⟩ | ⟨ho, x, k', rfl, hx5⟩)
    · have HO5 := Lib.hid ho
      have HX5 := Lib.hid (HW4.out.trans hx5)
      clear ho hx5
      go_wp2_with fail
      go_ret2
      exact .inl ⟨_, _, HO5.out, rfl, HX5.out⟩
    · have HO5 := Lib.hid ho
      have HX5 := Lib.hid (HW4.out.trans hx5)
      clear ho hx5
      go_wp2_with fail
      go_ret2
      exact .inr ⟨HO5.out, _, _, rfl, HX5.out⟩
  · have h92 : (cI == 92) = false := by rw [beq_eq_false_iff_ne]; exact fun h => he (e92.2 h)
    have HV : Hid (pieceP q (c :: t) = if plainI cI qI then some (c, t) else none) := by show _ = _; unfold pieceP; dsimp only; rw [if_neg he, hcI, hq]
    rw [HV.out]
    have HP : Hid (∀ w : World, Calls Tryd.prog 50 #[.int .u8 cI, .int .u8 qI] w fun e w' => e = .returned (.bool (plainI cI qI)) ∧ w' = w) := fun w => c_isPlain cI qI w ⟨hc0, hc1⟩ hqb
    have HcI := Lib.hid hcI
    obtain ⟨pb, hpb⟩ : ∃ pb, plainI cI qI = pb := ⟨_, rfl⟩
    rw [hpb] at HP ⊢
    clear ht hd hc h0 h1 hf hE e92 hcI he hq hpb
    go_enter Tryd.func58, Tryd.ntmps58
    obtain ⟨ht2, hp2, hf2⟩ := HC.out w k HX.out
    go_wp2_with fail
    go_quiet (fail)
    have HW3 := Lib.hid (HX.out.draw ⟨nq, rfl⟩)
    obtain ⟨ht3, hp3, hf3⟩ := HC.out _ k HW3.out
    generalize w.drewN nq = w3 at HW3 ht3 hp3 hf3 ⊢
    clear ht2 hp2 hf2
    have HW4 := Lib.hid HW3.out.set1
    go_wp2_with fail
    generalize w3.setCell ⟨b, 1, none⟩ (.int .i64 ((k : Int) + 1)) = w4 at HW4 ⊢
    cases pb
    · refine (HP.out _).mono ?_
      rintro e w5 ⟨rfl, rfl⟩
      go_wp2_with fail
      go_ret2
      exact .inr ⟨rfl, _, _, rfl, HW4.out⟩
    · refine (HP.out _).mono ?_
      rintro e w5 ⟨rfl, rfl⟩
      go_wp2_with fail
      go_ret2
      refine .inl ⟨_, _, rfl, by rw [HcI.out]; rfl, ?_⟩
      rw [HPl.out]
      exact HW4.out
end Go.Proofs.YtbccabpcljkamaaDoor
