/-
  The contract of Print, in the document's answers.
-/
import Derived.Test.YtcemghcfapblgaaDoorIsaTx1
import Derived.Deep.RegionHeld3
import Derived.RegionTactic
import Derived.IntWalk
namespace Go.Proofs.YtcemghcfapblgaaDoor
set_option linter.unusedVariables false
set_option linter.unusedSimpArgs false
open Go.ChangeShapes Go.WideShapes Go.ChangeAt Go.RowKit

theorem c_form2 (op : Int) (w : World) (h2 : -9223372036854775808 ≤ op) (h3 : op ≤ 9223372036854775807) :
    Calls Tryd.prog 27 #[.int .i64 op] w fun e w' => e = .returned (.int .u8 (ltr (formI op))) ∧ w' = w :=
  (c_form op w h2 h3).mono fun _ _ h => ⟨h.1, h.2.symm⟩
theorem formI_pos (op : Int) (h0 : 1 ≤ op) (h1 : op ≤ 42) : 1 ≤ formI op := by
  have h : ∀ k : Fin 42, 1 ≤ formI ((k.val : Int) + 1) := by
    unfold formI
    decide +kernel
  have := h ⟨(op - 1).toNat, by omega⟩
  rw [show (((op - 1).toNat : Nat) : Int) + 1 = op by omega] at this
  exact this
theorem c_wordsB (op : Int) (w : World) (h0 : 1 ≤ op) (h1 : op ≤ 42) :
    Calls Tryd.prog 25 #[] w fun e w' => e = .returned (.slice (some ⟨w.heap.size, 0, none⟩) 42 42) ∧ w'.cell? ⟨w.heap.size, op.toNat - 1, none⟩ = some (.string ⟨(nm op).toArray⟩) ∧ Below w.heap.size w w' :=
  (c_words w).mono fun e w' h => ⟨h.1, by
    have h2 := words_at w w' (op - 1).toNat (by omega) (by rw [h.2]; exact Below.refl _ _)
    rw [show (((op - 1).toNat : Nat) : Int) + 1 = op by omega] at h2
    rw [show (op - 1).toNat = op.toNat - 1 by omega] at h2
    exact h2, by rw [h.2]; exact below_new w _⟩
/-- What the document's answer puts behind the word, letter by letter. -/
def piece (c : UInt8) (d a b i : Int) : List UInt8 := if c = 100 then [32, 114] ++ Lib.itoa d else if c = 97 then [32, 114] ++ Lib.itoa a else if c = 98 then [32, 114] ++ Lib.itoa b else [32] ++ Lib.itoa i
def pieces (l : List UInt8) (d a b i : Int) : Nat → List UInt8
  | 0 => []
  | k + 1 => pieces l d a b i k ++ piece (l[k]?.getD 0) d a b i
theorem pieces_all (op d a b i : Int) (f : Int) (h0 : 1 ≤ f) (h1 : f ≤ 12) : pieces (hasI f) d a b i (hasI f).length = (if lD f then [32, 114] ++ Lib.itoa d else []) ++ (if lA f then [32, 114] ++ Lib.itoa a else []) ++ (if lB f then [32, 114] ++ Lib.itoa b else []) ++ (if lBits f > 0 then [32] ++ Lib.itoa i else []) := by
  rcases form_cases f (by omega) h1 with rfl | rfl | rfl | rfl | rfl | rfl | rfl | rfl | rfl | rfl | rfl | rfl | rfl
  · omega
  all_goals
    unfold hasI lD lA lB lBits
    simp [pieces, piece]
theorem has_letter (f : Int) (h0 : 0 ≤ f) (h1 : f ≤ 12) (k : Nat) (hk : k < (hasI f).length) : (hasI f)[k]?.getD 0 = 100 ∨ (hasI f)[k]?.getD 0 = 97 ∨ (hasI f)[k]?.getD 0 = 98 ∨ (hasI f)[k]?.getD 0 = 105 := by
  have : ∀ x ∈ hasI f, x = 100 ∨ x = 97 ∨ x = 98 ∨ x = 105 := by
    rcases form_cases f h0 h1 with rfl | rfl | rfl | rfl | rfl | rfl | rfl | rfl | rfl | rfl | rfl | rfl | rfl <;> unfold hasI <;> decide
  rw [List.getElem?_eq_getElem hk]
  exact this _ (List.getElem_mem hk)
theorem has_len (f : Int) (h0 : 0 ≤ f) (h1 : f ≤ 12) : (hasI f).length ≤ 3 := by
  rcases form_cases f h0 h1 with rfl | rfl | rfl | rfl | rfl | rfl | rfl | rfl | rfl | rfl | rfl | rfl | rfl <;> unfold hasI <;> decide
theorem byte_at2 (l : List UInt8) (k : Nat) (h : k < (ByteArray.mk l.toArray).size) : (((ByteArray.mk l.toArray)[k]'h).toNat : Int) = ((l[k]?.getD 0).toNat : Int) := by
  have h' : k < l.length := h
  rw [List.getElem?_eq_getElem h']
  simp [ByteArray.getElem_eq_getElem_data]
theorem str_app (a b : List UInt8) : (⟨a.toArray⟩ : ByteArray) ++ ⟨b.toArray⟩ = ⟨(a ++ b).toArray⟩ := by
  apply ByteArray.ext
  simp [ByteArray.data_append]
set_option maxHeartbeats 4000000 in
theorem c_rPrint_yes (op d a b i : Int) (w : World) (p1 : 1 ≤ op ∧ op ≤ 42) (p2 : 0 ≤ d ∧ d ≤ 15) (p3 : 0 ≤ a ∧ a ≤ 15)
    (p4 : 0 ≤ b ∧ b ≤ 15) (p5 : -8388608 ≤ i ∧ i ≤ 8388607) (hc : chkB op d a b i = true) :
    Calls Tryd.prog 7 #[.agg #[.int .i64 op, .int .i64 d, .int .i64 a, .int .i64 b, .int .i64 i]] w fun e w' => e = .returned (.tuple #[.string ⟨(prL op d a b i).toArray⟩, .int .i64 0]) ∧ Below w.heap.size w w' := by
  have HC := Lib.hid (c_rCheck op d a b i)
  have HE := Lib.hid (show errI (chkB op d a b i) = 0 by rw [hc]; exact errI_yes)
  have ⟨f0, f1⟩ := formI_bd op
  have HT := Lib.hid (pr_eq op d a b i)
  have n0 := nm_len op
  have n1 := itoa_len d (by omega) (by omega)
  have n2 := itoa_len a (by omega) (by omega)
  have n3 := itoa_len b (by omega) (by omega)
  have n4 := itoa_len i (by omega) (by omega)
  clear hc
  obtain ⟨g1, g2⟩ := p1
  obtain ⟨g3, g4⟩ := p2
  obtain ⟨g5, g6⟩ := p3
  obtain ⟨g7, g8⟩ := p4
  obtain ⟨g9, g10⟩ := p5
  go_enter Tryd.func7, Tryd.ntmps7
  go_wp2_with fail
  refine (HC.out _ ⟨by omega, by omega⟩ ⟨by omega, by omega⟩ ⟨by omega, by omega⟩ ⟨by omega, by omega⟩ ⟨by omega, by omega⟩).mono ?_
  rw [HE.out]
  rintro e w2 ⟨rfl, hb2⟩
  have hB2 : Below w.heap.size w w2 := below_on (below_new w _) hb2 (by simp)
  have hX2 : Box w2 w.heap.size op d a b i := (Box.new w op d a b i _).next hb2 rfl
  have hlt : w.heap.size < w2.heap.size := cell_lt hX2.1
  have HB2 := Lib.hid hB2
  have HX2 := Lib.hid hX2
  have hx0 := hX2.1
  clear hb2 hB2 HC HE hX2
  go_wp2_with fail
  have hw0 : IntKind.i64.wrap (op - 1) = op - 1 := IntWalk.i64_in _ (by omega)
  have hw1 : 0 ≤ op - 1 := by omega
  have hw2 : op - 1 < 42 := by omega
  have hw3 : (op - 1).toNat < 42 := by omega
  go_region_with (go_at_call 25; refine (c_wordsB op _ g1 g2).mono ?_; rintro e w' ⟨rfl, hcw0, hbw⟩; have hcw : w'.cell? ⟨w2.heap.size, op.toNat - 1, none⟩ = some (.string ⟨(nm op).toArray⟩) := hcw0; clear hcw0; have hxq := (hbw.cell (p := ⟨w.heap.size, 0, none⟩) hlt).trans hx0; have HBW := Lib.hid hbw; clear hbw)
  all_goals
    go_wp2_with fail
    refine (c_form2 op _ (by omega) (by omega)).mono ?_
    rintro e w5 ⟨rfl, rfl⟩
    go_wp2_with fail
    refine (c_has (formI op) _ f0 f1).mono ?_
    rintro e w6 ⟨rfl, rfl⟩
    have hB5 : Hid (Below w.heap.size w w5) := by first | exact below_on HB2.out.drew HBW.out HB2.out.size | exact below_on (below_drewN HB2.out _) HBW.out HB2.out.size
    have hX5 : Hid (Box w5 w.heap.size op d a b i) := by first | exact Box.next (w := w2.drew) HX2.out HBW.out rfl | exact Box.next (w := w2.drewN _) HX2.out HBW.out rfl
    have HLn := has_len (formI op) f0 f1
    have HLe := Lib.hid (has_letter (formI op) f0 f1)
    have HP := Lib.hid (pieces_all op d a b i (formI op) (formI_pos op g1 g2) f1)
    have HNm := Lib.hid n0
    clear hxq hcw HBW n0 hx0 hw0 hw1 hw2 hw3 HB2 HX2
    go_wp2_with fail
    generalize hasI (formI op) = hl at *
    go_loopw [4, 6] (fun s j wr => ∃ k : Nat, k ≤ hl.length ∧ j = .int .i64 k ∧ s = .string ⟨(nm op ++ pieces hl d a b i k).toArray⟩ ∧ Hid ((nm op ++ pieces hl d a b i k).length ≤ 5 + 10 * k) ∧ Hid (Below w.heap.size w wr) ∧ Hid (Box wr w.heap.size op d a b i)) (fun _ j _ => hl.length - (intOf j).toNat)
    case atStart => exact ⟨0, Nat.zero_le _, rfl, by simp [pieces], by show _ ≤ _; have := HNm.out; simpa [pieces] using this, hB5, hX5⟩
    case round =>
      obtain ⟨k, hk, rfl, rfl, hln, hBr, hXr⟩ := hrel
      by_cases hlt : k < hl.length
      · obtain ⟨x0, x1, x2, x3, x4, xf⟩ := hXr.out
        have hby := byte_at2 hl k
        rcases HLe.out k hlt with hc | hc | hc | hc
        · rw [hc] at hby
          have HPc : Hid (pieces hl d a b i (k + 1) = pieces hl d a b i k ++ ([32, 114] ++ Lib.itoa d)) := by
            show pieces hl d a b i k ++ piece _ d a b i = _
            rw [hc]
            rfl
          have hl0 := hln.out
          rw [List.length_append] at hl0
          clear hc
          go_wp2_with fail
          refine (c_bItoa d _ (by omega) (by omega)).mono ?_
          rintro e w7 ⟨rfl, hb7⟩
          have hB7 := Lib.hid (below_on hBr.out hb7 hBr.out.size)
          have hX7 := Lib.hid (hXr.out.next hb7 rfl)
          clear hb7 hby
          go_wp2
          go_roundw
          case rel =>
            refine ⟨k + 1, by omega, by go_num, ?_, ?_, hB7, hX7⟩
            · rw [HPc.out]
              apply congrArg
              apply ByteArray.ext
              simp [ByteArray.data_append]
            · show _ ≤ _
              rw [HPc.out]
              simp at hl0 n1 n2 n3 n4 ⊢
              omega
          case measure => simp [intOf]; omega
        · rw [hc] at hby
          have HPc : Hid (pieces hl d a b i (k + 1) = pieces hl d a b i k ++ ([32, 114] ++ Lib.itoa a)) := by
            show pieces hl d a b i k ++ piece _ d a b i = _
            rw [hc]
            rfl
          have hl0 := hln.out
          rw [List.length_append] at hl0
          clear hc
          go_wp2_with fail
          refine (c_bItoa a _ (by omega) (by omega)).mono ?_
          rintro e w7 ⟨rfl, hb7⟩
          have hB7 := Lib.hid (below_on hBr.out hb7 hBr.out.size)
          have hX7 := Lib.hid (hXr.out.next hb7 rfl)
          clear hb7 hby
          go_wp2
          go_roundw
          case rel =>
            refine ⟨k + 1, by omega, by go_num, ?_, ?_, hB7, hX7⟩
            · rw [HPc.out]
              apply congrArg
              apply ByteArray.ext
              simp [ByteArray.data_append]
            · show _ ≤ _
              rw [HPc.out]
              simp at hl0 n1 n2 n3 n4 ⊢
              omega
          case measure => simp [intOf]; omega
        · rw [hc] at hby
          have HPc : Hid (pieces hl d a b i (k + 1) = pieces hl d a b i k ++ ([32, 114] ++ Lib.itoa b)) := by
            show pieces hl d a b i k ++ piece _ d a b i = _
            rw [hc]
            rfl
          have hl0 := hln.out
          rw [List.length_append] at hl0
          clear hc
          go_wp2_with fail
          refine (c_bItoa b _ (by omega) (by omega)).mono ?_
          rintro e w7 ⟨rfl, hb7⟩
          have hB7 := Lib.hid (below_on hBr.out hb7 hBr.out.size)
          have hX7 := Lib.hid (hXr.out.next hb7 rfl)
          clear hb7 hby
          go_wp2
          go_roundw
          case rel =>
            refine ⟨k + 1, by omega, by go_num, ?_, ?_, hB7, hX7⟩
            · rw [HPc.out]
              apply congrArg
              apply ByteArray.ext
              simp [ByteArray.data_append]
            · show _ ≤ _
              rw [HPc.out]
              simp at hl0 n1 n2 n3 n4 ⊢
              omega
          case measure => simp [intOf]; omega
        · rw [hc] at hby
          have HPc : Hid (pieces hl d a b i (k + 1) = pieces hl d a b i k ++ ([32] ++ Lib.itoa i)) := by
            show pieces hl d a b i k ++ piece _ d a b i = _
            rw [hc]
            rfl
          have hl0 := hln.out
          rw [List.length_append] at hl0
          clear hc
          go_wp2_with fail
          refine (c_bItoa i _ (by omega) (by omega)).mono ?_
          rintro e w7 ⟨rfl, hb7⟩
          have hB7 := Lib.hid (below_on hBr.out hb7 hBr.out.size)
          have hX7 := Lib.hid (hXr.out.next hb7 rfl)
          clear hb7 hby
          go_wp2
          go_roundw
          case rel =>
            refine ⟨k + 1, by omega, by go_num, ?_, ?_, hB7, hX7⟩
            · rw [HPc.out]
              apply congrArg
              apply ByteArray.ext
              simp [ByteArray.data_append]
            · show _ ≤ _
              rw [HPc.out]
              simp at hl0 n1 n2 n3 n4 ⊢
              omega
          case measure => simp [intOf]; omega
      · have hge : decide (k < hl.length) = false := by simp; omega
        have HK := Lib.hid (show k = hl.length by omega)
        clear hk hlt
        go_wp2_with fail
        go_ret2
        refine ⟨ret_se ?_ rfl, hBr.out⟩
        rw [HT.out, HK.out, HP.out]
        simp
theorem c_rPrint_no (op d a b i : Int) (w : World) (p1 : -9223372036854775808 ≤ op ∧ op ≤ 9223372036854775807) (p2 : -9223372036854775808 ≤ d ∧ d ≤ 9223372036854775807) (p3 : -9223372036854775808 ≤ a ∧ a ≤ 9223372036854775807)
    (p4 : -9223372036854775808 ≤ b ∧ b ≤ 9223372036854775807) (p5 : -9223372036854775808 ≤ i ∧ i ≤ 9223372036854775807) (hc : chkB op d a b i = false) :
    Calls Tryd.prog 7 #[.agg #[.int .i64 op, .int .i64 d, .int .i64 a, .int .i64 b, .int .i64 i]] w fun e w' => e = .returned (.tuple #[.string ⟨#[]⟩, .int .i64 20]) ∧ Below w.heap.size w w' := by
  have HC := Lib.hid (c_rCheck op d a b i)
  have HE := Lib.hid (show errI (chkB op d a b i) = 20 by rw [hc]; exact errI_no)
  clear hc
  go_enter Tryd.func7, Tryd.ntmps7
  go_wp2_with (go_at_call 24; refine (HC.out _ p1 p2 p3 p4 p5).mono ?_; rw [HE.out]; rintro e w2 ⟨rfl, hb2⟩)
  go_returns
  exact ⟨rfl, below_on (below_new w _) hb2 (by simp)⟩
theorem chk_op (op d a b i : Int) (h : chkB op d a b i = true) : 1 ≤ op ∧ op ≤ 42 := by
  have h0 := (chk_bd op d a b i h).1
  refine ⟨?_, h0.2⟩
  by_cases e : op = 0
  · subst e
    exfalso
    have f0 : formI 0 = 0 := by unfold formI; decide
    unfold chkB at h
    rw [f0] at h
    simp at h
  · omega
theorem c_rPrint (op d a b i : Int) (w : World) (p1 : -9223372036854775808 ≤ op ∧ op ≤ 9223372036854775807) (p2 : -9223372036854775808 ≤ d ∧ d ≤ 9223372036854775807) (p3 : -9223372036854775808 ≤ a ∧ a ≤ 9223372036854775807)
    (p4 : -9223372036854775808 ≤ b ∧ b ≤ 9223372036854775807) (p5 : -9223372036854775808 ≤ i ∧ i ≤ 9223372036854775807) :
    Calls Tryd.prog 7 #[.agg #[.int .i64 op, .int .i64 d, .int .i64 a, .int .i64 b, .int .i64 i]] w fun e w' => e = .returned (.tuple #[.string ⟨(prR op d a b i).toArray⟩, .int .i64 (errI (chkB op d a b i))]) ∧ Below w.heap.size w w' := by
  cases h : chkB op d a b i
  · rw [prR_no _ _ _ _ _ h, errI_no]
    exact c_rPrint_no op d a b i w p1 p2 p3 p4 p5 h
  · rw [prR_yes _ _ _ _ _ h, errI_yes]
    obtain ⟨h1, h2, h3, h4, h5⟩ := chk_bd op d a b i h
    exact c_rPrint_yes op d a b i w (chk_op op d a b i h) h2 h3 h4 h5 h
end Go.Proofs.YtcemghcfapblgaaDoor
