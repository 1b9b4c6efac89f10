/-
  The contracts of the document's Quote and Char.
-/
import Derived.Test.YtnenhehnoolhlaaDoorLexRefQ
import Derived.Laws.OwnMore
namespace Go.Proofs.YtnenhehnoolhlaaDoor
set_option linter.unusedVariables false
set_option linter.unusedSimpArgs false
set_option maxRecDepth 100000
open Go.RowKit

theorem ba_app (l m : List UInt8) : (⟨l.toArray⟩ : ByteArray) ++ ⟨m.toArray⟩ = ⟨(l ++ m).toArray⟩ := by
  apply ByteArray.ext
  rw [ByteArray.data_append]
  simp
@[irreducible] def qAcc (l : List UInt8) : List UInt8 := [34] ++ pcs 34 l
theorem qAcc_nil : qAcc [] = [34] := by unfold qAcc; rw [pcs_nil]; rfl
theorem qAcc_snoc (l : List UInt8) (c : UInt8) : qAcc (l ++ [c]) = qAcc l ++ pc 34 c := by unfold qAcc; rw [pcs_snoc, List.append_assoc]
theorem qAcc_quo (l : List UInt8) : qAcc l ++ [34] = quoL 34 l := by unfold qAcc quoL; rfl
theorem qAcc_len (l : List UInt8) : (qAcc l).length ≤ 4 * l.length + 1 := by
  have := pcs_len 34 l
  unfold qAcc
  simp
  omega
theorem own_below {w w' : World} {base : Nat} {e : TypeId} {size : Nat} {v : Value} {n : Nat} {xs : List Value} (h : w.ownsRow base e size v n xs) (hb : Below w.heap.size w w') : w'.ownsRow base e size v n xs := by
  have hlt := h.lt
  refine ⟨h.1, ?_⟩
  rcases h.2 with h2 | ⟨g, cap, cur, rfl, hg, hh, r⟩
  · exact .inl h2
  · exact .inr ⟨g, cap, cur, rfl, hg, (hb.block g (hlt g rfl).2).trans hh, r⟩
theorem conv_own (w : World) (base : Nat) (v : Value) (n : Nat) (l : List UInt8) (hn : l.length = n) (h : w.ownsRow base 5 1 v n (Lib.byteCells l)) (h0 : l ≠ []) :
    (convert 29 9 v).run Tryd.prog w = .ok (.string ⟨l.toArray⟩) w := by
  subst hn
  have hl : 0 < l.length := List.length_pos_iff.2 h0
  obtain ⟨g, cap, rfl⟩ : ∃ g cap, v = .slice (some ⟨g, 0, none⟩) l.length cap := by
    rcases h.2 with ⟨_, h2⟩ | ⟨g, cap, cur, hv, _⟩
    · omega
    · exact ⟨g, cap, hv⟩
  rw [← str_list l _ rfl]
  refine run_convert_bytes_arg _ 29 5 Tryd.underlying29 Tryd.underlying5 g 0 l.length cap (l.map fun c => (c.toNat : Int)) (by simp) ?_ 9 Tryd.underlying9
  intro i hi
  rw [Nat.zero_add, h.cellAt i (by omega)]
  simp [Lib.byteCells, hi]
theorem below_grown {N : Nat} {w wa wb : World} {k : Option Nat} (h : Below N w wa) (hN : N ≤ wa.heap.size) (hg : wa.grownBy wb k) (hk : ∀ b, k = some b → N ≤ b) : Below N w wb :=
  h.trans ⟨hg.os, hg.tape, hg.output, hg.size, fun b hb => hg.block b (Nat.lt_of_lt_of_le hb hN) (fun e => by have := hk b e.symm; have hb' : b < N := hb; omega)⟩
theorem below_on {N : Nat} {w wa wb : World} (h : Below N w wa) (hb : Below wa.heap.size wa wb) (hN : N ≤ wa.heap.size) : Below N w wb :=
  h.trans ⟨hb.os, hb.tape, hb.output, hb.size, fun k hk => hb.block k (Nat.lt_of_lt_of_le hk hN)⟩
set_option maxHeartbeats 2000000 in
theorem c_rChar (c : UInt8) (cI : Int) (hcI : (c.toNat : Int) = cI) (w : World) :
    Calls Tryd.prog 26 #[.int .u8 cI] w fun e w' => e = .returned (.string ⟨(quoL 39 [c]).toArray⟩) ∧ Below w.heap.size w w' := by
  have hl := (pc_len 39 c).2
  have HV : Hid (quoL 39 [c] = [39] ++ pc 39 c ++ [39]) := by show _ = _; unfold quoL; rw [pcs_one]
  rw [HV.out]
  have HS := Lib.hid (c_spelt c 39 cI 39 hcI rfl (.inr rfl))
  generalize pc 39 c = x at hl HV HS ⊢
  have e : (⟨([39] ++ x ++ [39]).toArray⟩ : ByteArray) = ⟨#[39]⟩ ++ ⟨x.toArray⟩ ++ ⟨#[39]⟩ := by
    rw [← ba_app, ← ba_app]
  rw [e]
  have hq1 : ¬ 9223372036854775807 < 1 + x.length := by omega
  have hq2 : ¬ 9223372036854775807 < 1 + x.length + 1 := by omega
  have hq3 : ¬ 9223372036854775807 < x.length + 1 := by omega
  go_enter Tryd.func26, Tryd.ntmps26
  go_wp2_with fail
  refine (HS.out _).mono ?_
  rintro e w1 ⟨rfl, hb1⟩
  go_wp2_with fail
  go_ret
  exact ⟨rfl, hb1⟩
set_option maxHeartbeats 2000000 in
theorem c_rQuote (s : List UInt8) (w : World) (hlen : 4 * s.length + 2 ≤ 140737488355327) :
    Calls Tryd.prog 25 #[.string ⟨s.toArray⟩] w fun e w' => e = .returned (.string ⟨(quoL 34 s).toArray⟩) ∧ Below w.heap.size w w' := by
  obtain ⟨i0, hi, hz0, hz1, hz2⟩ := info_parts infoByte
  have HLen : Hid (∀ k, (qAcc (s.take k)).length + 4 ≤ 140737488355327 ∨ s.length ≤ k) := fun k => by
    by_cases hk : k < s.length
    · have := qAcc_len (s.take k)
      have e : (s.take k).length = k := by simp; omega
      rw [e] at this
      omega
    · right; omega
  have HLen2 : Hid ((qAcc s).length + 1 ≤ 140737488355327) := by
    have := qAcc_len s
    show _ ≤ _
    omega
  have hsl : s.length ≤ 140737488355328 := by omega
  have HS : Hid (∀ c cI, (c.toNat : Int) = cI → ∀ w, Calls Tryd.prog 35 #[.int .u8 cI, .int .u8 34] w fun e w' => e = .returned (.string ⟨(pc 34 c).toArray⟩) ∧ Below w.heap.size w w') := fun c cI hcI w => c_spelt c 34 cI 34 hcI rfl (.inl rfl) w
  go_enter Tryd.func25, Tryd.ntmps25
  go_wp2_with fail
  go_loopw [3, 4] (fun v i wr => ∃ k : Nat, k ≤ s.length ∧ i = .int .i64 k ∧ Hid (wr.ownsRow w.heap.size 5 1 v (qAcc (s.take k)).length (Lib.byteCells (qAcc (s.take k)))) ∧ Hid (Below w.heap.size w wr)) (fun _ i _ => s.length - (intOf i).toNat)
  case atStart =>
    refine ⟨0, Nat.zero_le _, rfl, ?_, (Below.refl _ _).alloc (Nat.le_refl _) _⟩
    rw [List.take_zero, qAcc_nil]
    exact ⟨rfl, .inr ⟨w.heap.size, 1, _, rfl, Nat.le_refl _, heap_alloc_new w _, Nat.le_refl _, by decide, rfl, rfl⟩⟩
  case round =>
    obtain ⟨k, hk, rfl, HR, HB⟩ := hrel
    by_cases hlt : k < s.length
    · have hk0 : (0 : Int) ≤ (k : Int) := by omega
      have hk1 : (k : Int) < (s.length : Int) := by omega
      have hT := take_snoc hlt
      have HN : Hid (qAcc (s.take (k + 1)) = qAcc (s.take k) ++ pc 34 (s[k]?.getD 0)) := by show _ = _; rw [hT, qAcc_snoc]
      have hl4 := (HLen.out k).resolve_right (by omega)
      have hpl := (pc_len 34 (s[k]?.getD 0)).2
      obtain ⟨P, hP⟩ : ∃ P, pc 34 (s[k]?.getD 0) = P := ⟨_, rfl⟩
      obtain ⟨cI, hcI⟩ : ∃ cI : Int, ((s[k]?.getD 0).toNat : Int) = cI := ⟨_, rfl⟩
      have hby : ∀ h, (((ByteArray.mk s.toArray)[k]'h).toNat : Int) = cI := fun h => (byte_at s k h).trans hcI
      have HC : Hid (∀ w, Calls Tryd.prog 35 #[.int .u8 cI, .int .u8 34] w fun e w' => e = .returned (.string ⟨P.toArray⟩) ∧ Below w.heap.size w w') := fun w => by rw [← hP]; exact HS.out _ cI hcI w
      rw [hP] at hpl HN
      clear hcI hT hP
      have HN0 : Hid (w.heap.size ≤ wr.heap.size) := HB.out.size
      go_wp2_with fail
      refine (HC.out wr).mono ?_
      rintro e w3 ⟨rfl, hb3⟩
      have HR3 := Lib.hid (own_below HR.out hb3)
      have HB3 := Lib.hid (below_on HB.out hb3 HN0.out)
      clear hb3
      go_wp2_with (at_builtin; refine Lib.wpList_append_own_string _ rfl _ _ 29 9 rfl w.heap.size 5 i0 Tryd.underlying29 Tryd.underlying9 hi hz0 hz1 hz2 _ _ _ rfl HR3.out _ rfl ?c3 ?c4 ?c5 ?_)
      case c3 =>
        show (qAcc (List.take k s)).length + P.toArray.size ≤ maxLen
        unfold maxLen
        simp
        omega
      case c4 =>
        show (qAcc (List.take k s)).length + P.toArray.size ≤ _
        simp
        omega
      case c5 => exact HB3.out.size
      intro v' w4 hown hgrow _
      have HB4 : Hid (Below w.heap.size w w4) := below_grown HB3.out HB3.out.size hgrow (fun b e => (HR3.out.lt b e).1)
      have HR4 : Hid (w4.ownsRow w.heap.size 5 1 v' (qAcc (s.take (k + 1))).length (Lib.byteCells (qAcc (s.take (k + 1))))) := by
        show World.ownsRow _ _ _ _ _ _ _
        rw [HN.out, Lib.byteCells_append, List.length_append]
        have e : P.toArray.size = P.length := by simp
        rw [← e]
        exact hown
      clear hown hgrow
      go_wp2_with fail
      go_roundw
      case rel => exact ⟨k + 1, by omega, by go_num, HR4.out, HB4.out⟩
      case measure => simp [intOf]; omega
    · have hge : decide (k < s.length) = false := by simp; omega
      have HT : Hid (s.take k = s) := List.take_of_length_le (by omega)
      rw [HT.out] at HR
      clear hk hlt
      have HB2 : Hid (Below w.heap.size w (wr.alloc (.cells #[.int .u8 34] 5))) := HB.out.alloc HB.out.size _
      have HR2 := Lib.hid (HR.out.alloc (.cells #[.int .u8 34] 5))
      go_wp2_with (at_builtin; refine wpList_append_own _ rfl _ _ 29 rfl w.heap.size 5 i0 (.int .u8 0) 1 1 Tryd.underlying29 hi hz0 hz1 hz2 rfl (by decide) _ _ _ rfl HR2.out ⟨wr.heap.size, 0, none⟩ 1 1 [.int .u8 34] rfl rfl ?c1 ?c2 ?c3 ?c4 ?c5 ?_)
      case c1 => 
        intro j u hj
        match j, hj with
        | 0, hj => simp at hj; subst hj; simp [Addr.add]
      case c2 => intro u hu; simp at hu; subst hu; rfl
      case c3 => have := HLen2.out; unfold maxLen; omega
      case c4 => have := HLen2.out; omega
      case c5 => exact HB2.out.size
      intro v' w4 hown hgrow _
      have HB4 : Hid (Below w.heap.size w w4) := below_grown HB2.out HB2.out.size hgrow (fun b e => (HR2.out.lt b e).1)
      have hcv : (convert 29 9 v').run Tryd.prog w4 = .ok (.string ⟨(quoL 34 s).toArray⟩) w4 := by
        refine conv_own w4 w.heap.size v' _ (quoL 34 s) (by rw [← qAcc_quo, List.length_append, List.length_singleton]) ?_ (quoL_ne _ _)
        rw [← qAcc_quo, Lib.byteCells_append]
        exact hown
      clear hown hgrow
      go_wp2_with fail
      go_ret
      exact ⟨rfl, HB4.out⟩
end Go.Proofs.YtnenhehnoolhlaaDoor
