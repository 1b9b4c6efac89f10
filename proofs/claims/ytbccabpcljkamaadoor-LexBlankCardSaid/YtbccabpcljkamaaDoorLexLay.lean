/-
  The contract of Lay, in the code.
-/
import Derived.Test.YtbccabpcljkamaaDoorLexTok6
namespace Go.Proofs.YtbccabpcljkamaaDoor
set_option linter.unusedVariables false
set_option linter.unusedSimpArgs false
set_option maxRecDepth 100000
open Go.RowKit

set_option maxHeartbeats 2000000 in
theorem c_BString0 (B b : Nat) (p : Value) (w : World) (hbk : w.heap[b]? = some (.cells #[p, .slice none 0 0] 50 (0, 0))) :
    Calls Tryd.prog 16 #[.pointer (some ⟨b, 0, none⟩)] w fun e w' => e = .returned (.string ⟨#[]⟩) ∧ Below B w w' := by
  have hUS : ∀ (W : World) (q : Option Addr), (Builtin.unsafeString_ #[65, 3] 9 #[.pointer q, .int .i64 0]).run Tryd.prog W = .ok (.string .empty) W := fun W q => Lib.run_unsafeString_none W _ _ _ q
  have c1 : w.drew.cell? ⟨b, 1, none⟩ = some (.slice none 0 0) := by
    have : w.drew.heap[b]? = some (.cells #[p, .slice none 0 0] 50 (0, 0)) := hbk
    rw [Lib.cell_of_heap this]; rfl
  have hSD : (Builtin.unsafeSliceData_ #[46] 65 #[.slice none 0 0]).run Tryd.prog w.drew = .ok (.pointer none) w.drew := rfl
  clear hbk
  go_enter Tryd.func16, Tryd.ntmps16
  go_wp2
  go_region
  all_goals (go_wp2; go_ret; exact ⟨rfl, Below.drew (Below.refl B w)⟩)
theorem cell_lt {w : World} {p : Addr} {v : Value} (h : w.cell? p = some v) : p.block < w.heap.size := by
  unfold World.cell? at h
  cases hb : w.heap[p.block]? with
  | none => rw [hb] at h; cases h
  | some o => exact (Array.getElem?_eq_some_iff.1 hb).1
theorem lay_len (L : List Tk) (h : L.all Tk.ok = true) : (layL L).length ≤ 16387 * L.length := by
  have hp : (layP L).length ≤ 16387 * L.length := by
    induction L with
    | nil => simp [layP]
    | cons t L ih =>
      rw [List.all_cons, Bool.and_eq_true] at h
      have := ih h.2
      have h2 := wrd_len t.kind t.int t.text h.1
      have e : layP (t :: L) = (32 :: t.word) ++ layP L := rfl
      rw [e, List.length_append, List.length_cons, List.length_cons]
      unfold Tk.word
      omega
  unfold layL
  rw [List.length_drop]
  omega
theorem wrd_ne (k n : Int) (l : List UInt8) (h : tokB k n l = true) : wrdL k n l ≠ [] := by
  rcases tok_parts k n l h with ⟨rfl, hn⟩ | ⟨h3, hl⟩
  · by_cases h0 : n < 0
    · rw [wrd_neg n l h0]; exact quoL_ne _ _
    · have hi : Lib.itoa n ≠ [] := by
        unfold Lib.itoa
        rw [if_neg h0, Lib.decDigits]
        split <;> simp
      by_cases h2 : l = [117] ∧ n < 2147483648
      · rw [wrd_u n l h0 h2]; simp
      · rw [wrd_i n l h0 h2]; exact hi
  · by_cases h4 : k = 4
    · subst h4; rw [wrd_s]; exact quoL_ne _ _
    · rw [wrd_o k n l h3 h4]
      rintro rfl
      unfold tokB at h
      rw [if_neg h3, if_neg h4, Bool.and_eq_true] at h
      have h2 := h.2
      split at h2
      · unfold nameB wordB at h2; simp at h2
      · split at h2
        · unfold keyB at h2; revert h2; decide
        · split at h2
          · unfold markB at h2; revert h2; decide
          · cases h2
theorem lay_ne : ∀ (L : List Tk), L.all Tk.ok = true → 0 < L.length → layL L ≠ []
  | [], _, h => by simp at h
  | [t], ha, _ => by
    rw [lay_one]
    rw [List.all_cons, Bool.and_eq_true] at ha
    exact wrd_ne _ _ _ ha.1
  | t :: u :: L, _, _ => by
    intro e
    have := congrArg List.length e
    unfold layL layP at this
    simp at this
/-- A slice of tokens: four cells each. -/
def TksIn (w : World) (a : Option Addr) (L : List Tk) : Prop := 0 < L.length → ∃ b off, a = some ⟨b, off, none⟩ ∧ ∀ (k : Nat) t, L[k]? = some t →
  w.cell? ⟨b, off + k * 4, none⟩ = some (.int .i64 t.kind) ∧ w.cell? ⟨b, off + k * 4 + 1, none⟩ = some (.int .i64 t.at') ∧ w.cell? ⟨b, off + k * 4 + 2, none⟩ = some (.int .i64 t.int) ∧ w.cell? ⟨b, off + k * 4 + 3, none⟩ = some (.string ⟨t.text.toArray⟩)
def TkB (t : Tk) : Prop := (-9223372036854775808 ≤ t.kind ∧ t.kind ≤ 9223372036854775807) ∧ (-9223372036854775808 ≤ t.at' ∧ t.at' ≤ 9223372036854775807) ∧ (-9223372036854775808 ≤ t.int ∧ t.int ≤ 9223372036854775807) ∧ t.text.length ≤ 9223372036854775807
/-- What Lay answers. -/
def layV (L : List Tk) : Value := if 16384 < L.length then .tuple #[.string ⟨#[]⟩, .int .i64 3] else if L.all Tk.ok then .tuple #[.string ⟨(layL L).toArray⟩, .int .i64 0] else .tuple #[.string ⟨#[]⟩, .int .i64 5]
set_option maxHeartbeats 2000000 in
theorem c_Lay (a : Option Addr) (n cap : Nat) (L : List Tk) (w : World) (hn : L.length = n) (hc : n ≤ cap) (hS : TksIn w a L) (hB : ∀ t ∈ L, TkB t) (hM : MkH w) (hP : PwH w) :
    Calls Tryd.prog 8 #[.slice a n cap] w fun e w' => e = .returned (layV L) ∧ Below w.heap.size w w' := by
  by_cases hlong : 16384 < n
  · have HV : Hid (layV L = .tuple #[.string ⟨#[]⟩, .int .i64 3]) := by show _ = _; unfold layV; rw [if_pos (by omega)]
    rw [HV.out]
    have hd : decide ((16384 : Int) < (n : Int)) = true := by simp; omega
    go_enter Tryd.func8, Tryd.ntmps8
    go_wp2_with fail
    go_ret2
    exact ⟨rfl, Below.refl _ _⟩
  · have hd : decide ((16384 : Int) < (n : Int)) = false := by simp; omega
    go_enter Tryd.func8, Tryd.ntmps8
    go_wp2_with fail
    have HW0 := Lib.hid (writer_new w)
    go_loopw [12] (fun i wr => ∃ k : Nat, k ≤ n ∧ i = .int .i64 k ∧ Hid (WrAt w.heap.size w.heap.size (layL (L.take k)) wr) ∧ Hid (Below w.heap.size w wr) ∧ Hid (w.heap.size < wr.heap.size) ∧ Hid ((L.take k).all Tk.ok = true) ∧ Hid (k = 0 → wr.heap[w.heap.size]? = some (.cells #[.pointer none, .slice none 0 0] 50 (0, 0)))) (fun i _ => n - (intOf i).toNat)
    case atStart => exact ⟨0, Nat.zero_le _, rfl, by rw [List.take_zero, lay_nil]; exact HW0.out, bel_new _ _, by show _ < _; simp, rfl, fun _ => heap_alloc_new w _⟩
    case round =>
      obtain ⟨k, hk, rfl, HW, HBl, HLt, HOk, HFr⟩ := hrel
      have HLn := Lib.hid hn
      by_cases hlt : k < n
      · obtain ⟨t, ht⟩ : ∃ t, L[k]? = some t := ⟨_, List.getElem?_eq_getElem (by omega)⟩
        obtain ⟨b, off, rfl, hcell⟩ := hS (by omega)
        have hcl := hcell k t ht
        have hTB := hB t (List.mem_of_getElem? ht)
        have HTk : Hid (L.take (k + 1) = L.take k ++ [t]) := by show _ = _; rw [List.take_add_one, ht]; rfl
        have HNo : Hid (t.ok = false → layV L = .tuple #[.string ⟨#[]⟩, .int .i64 5]) := fun h => by
          unfold layV
          rw [if_neg (by omega), if_neg]
          rw [Bool.not_eq_true, List.all_eq_false]
          exact ⟨t, List.mem_of_getElem? ht, by rw [h]; simp⟩
        obtain ⟨tk, ta, ti, tl⟩ := t
        obtain ⟨⟨b0, b1⟩, ⟨b2, b3⟩, ⟨b4, b5⟩, b6⟩ := hTB
        obtain ⟨c0, c1, c2, c3⟩ := hcl
        simp only at c0 c1 c2 c3 b0 b1 b2 b3 b4 b5 b6
        replace c0 := (HBl.out.cell (cell_lt c0)).trans c0
        replace c1 := (HBl.out.cell (cell_lt c1)).trans c1
        replace c2 := (HBl.out.cell (cell_lt c2)).trans c2
        replace c3 := (HBl.out.cell (cell_lt c3)).trans c3
        have hk0 : (0 : Int) ≤ (k : Int) := by omega
        have hk1 : (k : Int) < (n : Int) := by omega
        have HMr : Hid (MkH wr) := hM.next HBl.out rfl
        have HPr : Hid (PwH wr) := hP.next HBl.out rfl
        have HHs := Lib.hid hS
        have HHb := Lib.hid hB
        have HHm := Lib.hid hM
        have HHp := Lib.hid hP
        clear hS hB hM hP hn ht hcell
        go_wp2_with fail
        refine (c_isToken tk ta ti tl _ (HMr.out.next (bel_new _ _) rfl) b6 b0 b1 b4 b5).mono ?_
        rintro e w2 ⟨rfl, hb2⟩
        have hx2 : w2.heap[wr.heap.size]? = some (.cells #[.int .i64 tk, .int .i64 ta, .int .i64 ti, .string ⟨tl.toArray⟩] 33 (0, 0)) := (hb2.block _ (by simp)).trans (heap_alloc_new wr _)
        have HX2 := Lib.hid hx2
        have HF2 : Hid (FrB w.heap.size w.heap.size wr w2) := ((FrB.refl _ _ _).alloc (Nat.le_of_lt HLt.out) _).trans (FrB.of hb2 (Nat.le_trans (Nat.le_of_lt HLt.out) (bel_new wr _).size))
        have HW2 : Hid (WrAt w.heap.size w.heap.size (layL (L.take k)) w2) := (HW.out.alloc _).next hb2
        have HP2 : Hid (PwH w2) := (HPr.out.next (bel_new wr _) rfl).next hb2 rfl
        have HN2 : Hid (w.heap.size ≤ w2.heap.size) := Nat.le_trans (Nat.le_of_lt HLt.out) HF2.out.size
        clear hb2
        cases htk : tokB tk ti tl
        · have HV := Lib.hid (HNo.out htk)
          clear hx2
          go_wp2_with fail
          go_ret2
          exact ⟨HV.out ▸ rfl, HBl.out.trans HF2.out.bel⟩
        · have HOk2 : Hid ((L.take (k + 1)).all Tk.ok = true) := by
            show _ = _
            rw [HTk.out, List.all_append, HOk.out, Bool.true_and]
            show (Tk.ok _ && true) = true
            rw [Bool.and_true]
            exact htk
          have HLl : Hid ((layL (L.take k)).length ≤ 16387 * 16384) := by
            have := lay_len _ HOk.out
            have e : (L.take k).length = k := by rw [List.length_take, HLn.out]; omega
            rw [e] at this
            show _ ≤ _
            omega
          have HLk : Hid ((L.take k).length = k) := by show _ = _; rw [List.length_take, HLn.out]; omega
          have HXc : Hid (∀ w3, FrB w.heap.size w.heap.size w2 w3 → w3.cell? ⟨wr.heap.size, 0, none⟩ = some (.int .i64 tk) ∧ w3.cell? ⟨wr.heap.size, 1, none⟩ = some (.int .i64 ta) ∧ w3.cell? ⟨wr.heap.size, 2, none⟩ = some (.int .i64 ti) ∧ w3.cell? ⟨wr.heap.size, 3, none⟩ = some (.string ⟨tl.toArray⟩)) := fun w3 h => by
            have h2 := h.keep HX2.out (by have := HLt.out; omega) (by decide)
            exact ⟨by rw [Lib.cell_of_heap h2]; rfl, by rw [Lib.cell_of_heap h2]; rfl, by rw [Lib.cell_of_heap h2]; rfl, by rw [Lib.cell_of_heap h2]; rfl⟩
          have HTok : Hid (tokB tk ti tl = true) := htk
          clear hx2 htk
          by_cases hk00 : k = 0
          · have hkd : decide ((0 : Int) < (k : Int)) = false := by simp; omega
            obtain ⟨x0, x1, x2, x3⟩ := HXc.out w2 (FrB.refl _ _ _)
            go_wp2_with fail
            refine (c_token w.heap.size w.heap.size (layL (L.take k)) tk ta ti tl _ (HHp.out.next (HBl.out.trans HF2.out.bel) rfl) HW2.out (by have := HLl.out; omega) HN2.out HTok.out).mono ?_
            rintro e w4 ⟨rfl, h4, hb4⟩
            have HF4 := Lib.hid (HF2.out.trans hb4)
            have HW4 : Hid (WrAt w.heap.size w.heap.size (layL (L.take (k + 1))) w4) := by
              have e0 : L.take k = [] := by rw [hk00, List.take_zero]
              have h5 : WrAt w.heap.size w.heap.size (layL (L.take k) ++ wrdL tk ti tl) w4 := h4
              rw [e0, lay_nil, List.nil_append] at h5
              show WrAt _ _ _ _
              rw [HTk.out, e0, List.nil_append, lay_one]
              exact h5
            clear h4 hb4
            go_wp2_with fail
            go_roundw
            case rel => exact ⟨k + 1, by omega, by go_num, HW4.out, HBl.out.trans HF4.out.bel, Nat.lt_of_lt_of_le HLt.out HF4.out.size, HOk2.out, fun h => by omega⟩
            case measure => simp [intOf]; omega
          · have hkd : decide ((0 : Int) < (k : Int)) = true := by simp; omega
            go_wp2_with fail
            refine (c_WriteByte w.heap.size w.heap.size (layL (L.take k)) 32 32 rfl _ HW2.out (by have := HLl.out; omega) HN2.out).mono ?_
            rintro e w3 ⟨rfl, h3, hb3⟩
            have HF3 := Lib.hid hb3
            have HW3 := Lib.hid h3
            obtain ⟨x0, x1, x2, x3⟩ := HXc.out w3 hb3
            clear h3 hb3
            go_wp2_with fail
            refine (c_token w.heap.size w.heap.size (layL (L.take k) ++ [32]) tk ta ti tl _ (HHp.out.next ((HBl.out.trans HF2.out.bel).trans HF3.out.bel) rfl) HW3.out (by have := HLl.out; simp; omega) (Nat.le_trans HN2.out HF3.out.size) HTok.out).mono ?_
            rintro e w4 ⟨rfl, h4, hb4⟩
            have HF4 := Lib.hid ((HF2.out.trans HF3.out).trans hb4)
            have HW4 : Hid (WrAt w.heap.size w.heap.size (layL (L.take (k + 1))) w4) := by
              show WrAt _ _ _ _
              rw [HTk.out, lay_snoc _ _ (by rw [HLk.out]; omega)]
              exact h4
            clear h4 hb4
            go_wp2_with fail
            go_roundw
            case rel => exact ⟨k + 1, by omega, by go_num, HW4.out, HBl.out.trans HF4.out.bel, Nat.lt_of_lt_of_le HLt.out HF4.out.size, HOk2.out, fun h => by omega⟩
            case measure => simp [intOf]; omega
      · have hge : decide (k < n) = false := by simp; omega
        have HT : Hid (L.take k = L) := List.take_of_length_le (by omega)
        rw [HT.out] at HW HOk
        have HV : Hid (layV L = .tuple #[.string ⟨(layL L).toArray⟩, .int .i64 0]) := by show _ = _; unfold layV; rw [if_neg (by omega), if_pos HOk.out]
        obtain rfl : k = n := by omega
        by_cases hn0 : k = 0
        · have hfr := HFr.out hn0
          have hl0 : L = [] := List.eq_nil_of_length_eq_zero (by omega)
          have HV0 : Hid (layV L = .tuple #[.string ⟨#[]⟩, .int .i64 0]) := by show _ = _; rw [HV.out, hl0, lay_nil]
          have HFrr := Lib.hid hfr
          clear hS hB hM hP hk hlt hfr
          go_wp2_with fail
          refine (c_BString0 w.heap.size w.heap.size _ _ HFrr.out).mono ?_
          rintro e w3 ⟨rfl, hb3⟩
          go_wp2_with fail
          go_ret2
          exact ⟨HV0.out ▸ rfl, HBl.out.trans hb3⟩
        have HNe : Hid (layL L ≠ []) := lay_ne L HOk.out (by omega)
        clear hS hB hM hP hk hlt
        go_wp2_with fail
        refine (c_BString w.heap.size w.heap.size (layL L) _ HW.out HNe.out).mono ?_
        rintro e w3 ⟨rfl, hb3⟩
        go_wp2_with fail
        go_ret2
        exact ⟨HV.out ▸ rfl, HBl.out.trans hb3⟩
end Go.Proofs.YtbccabpcljkamaaDoor
