/-
  The contract of Lay, in the document's answers.
-/
import Derived.Test.YtnenhehnoolhlaaDoorLexLay
import Derived.Test.YtnenhehnoolhlaaDoorLexRef5
namespace Go.Proofs.YtnenhehnoolhlaaDoor
set_option linter.unusedVariables false
set_option linter.unusedSimpArgs false
set_option maxRecDepth 100000
open Go.RowKit

theorem conv_all (w : World) (base : Nat) (v : Value) (n : Nat) (l : List UInt8) (hn : l.length = n) (h : w.ownsRow base 5 1 v n (Lib.byteCells l)) :
    (convert 29 9 v).run Tryd.prog w = .ok (.string ⟨l.toArray⟩) w := by
  by_cases h0 : l = []
  · subst h0
    obtain rfl : 0 = n := hn
    rcases h.2 with ⟨rfl, _⟩ | ⟨g, cap, cur, rfl, _⟩
    · exact run_convert_bytes_nil _ 29 5 Tryd.underlying29 Tryd.underlying5 0 0 9 Tryd.underlying9
    · rw [← str_list [] [] rfl]
      exact run_convert_bytes_arg _ 29 5 Tryd.underlying29 Tryd.underlying5 g 0 0 cap [] rfl (fun i hi => by omega) 9 Tryd.underlying9
  · exact conv_own w base v n l hn h h0
set_option maxHeartbeats 2000000 in
theorem c_rLay (a : Option Addr) (n cap : Nat) (L : List Tk) (w : World) (hn : L.length = n) (hc : n ≤ cap) (hS : TksIn w a L) (hB : ∀ t ∈ L, TkB t) :
    Calls Tryd.prog 5 #[.slice a n cap] w fun e w' => e = .returned (layV L) ∧ Below w.heap.size w w' := by
  by_cases hlong : 16384 < n
  · have HV : Hid (layV L = .tuple #[.string ⟨#[]⟩, .int .i64 3]) := by show _ = _; unfold layV; rw [if_pos (by omega)]
    rw [HV.out]
    have hd : decide ((16384 : Int) < (n : Int)) = true := by simp; omega
    go_enter Tryd.func5, Tryd.ntmps5
    go_wp2_with fail
    go_ret2
    exact ⟨rfl, Below.refl _ _⟩
  · have hd : decide ((16384 : Int) < (n : Int)) = false := by simp; omega
    obtain ⟨i0, hi, hz0, hz1, hz2⟩ := info_parts infoByte
    go_enter Tryd.func5, Tryd.ntmps5
    go_wp2_with fail
    go_loopw [4, 5] (fun v i wr => ∃ k : Nat, k ≤ n ∧ i = .int .i64 k ∧ Hid (wr.ownsRow w.heap.size 5 1 v (layL (L.take k)).length (Lib.byteCells (layL (L.take k)))) ∧ Hid (Below w.heap.size w wr) ∧ Hid ((L.take k).all Tk.ok = true)) (fun _ i _ => n - (intOf i).toNat)
    case atStart =>
      refine ⟨0, Nat.zero_le _, rfl, ?_, bel_new _ _, rfl⟩
      rw [List.take_zero, lay_nil]
      exact World.ownsRow_made w #[] 0 (Nat.le_refl _) (by decide) rfl
    case round =>
      obtain ⟨k, hk, rfl, HR, HBl, HOk⟩ := hrel
      have HLn := Lib.hid hn
      by_cases hlt : k < n
      · obtain ⟨t, ht⟩ : ∃ t, L[k]? = some t := ⟨_, List.getElem?_eq_getElem (by omega)⟩
        obtain ⟨b, off, rfl, hcell⟩ := hS (by omega)
        have hcl := hcell k t ht
        have hTB := hB t (List.mem_of_getElem? ht)
        have HTk : Hid (L.take (k + 1) = L.take k ++ [t]) := by show _ = _; rw [List.take_add_one, ht]; rfl
        have HNo : Hid (t.ok = false → layV L = .tuple #[.string ⟨#[]⟩, .int .i64 5]) := fun h => by
          unfold layV
          rw [if_neg (by omega), if_neg]
          rw [Bool.not_eq_true, List.all_eq_false]
          exact ⟨t, List.mem_of_getElem? ht, by rw [h]; simp⟩
        obtain ⟨tk, ta, ti, tl⟩ := t
        obtain ⟨⟨b0, b1⟩, ⟨b2, b3⟩, ⟨b4, b5⟩, b6⟩ := hTB
        obtain ⟨c0, c1, c2, c3⟩ := hcl
        simp only at c0 c1 c2 c3 b0 b1 b2 b3 b4 b5 b6
        replace c0 := (HBl.out.cell (cell_lt c0)).trans c0
        replace c1 := (HBl.out.cell (cell_lt c1)).trans c1
        replace c2 := (HBl.out.cell (cell_lt c2)).trans c2
        replace c3 := (HBl.out.cell (cell_lt c3)).trans c3
        have HC : Hid (∀ w2, Below w.heap.size wr w2 → w2.cell? ⟨b, off + k * 4, none⟩ = some (.int .i64 tk) ∧ w2.cell? ⟨b, off + k * 4 + 1, none⟩ = some (.int .i64 ta) ∧ w2.cell? ⟨b, off + k * 4 + 2, none⟩ = some (.int .i64 ti) ∧ w2.cell? ⟨b, off + k * 4 + 3, none⟩ = some (.string ⟨tl.toArray⟩)) := fun w2 h => by
          obtain ⟨d0, d1, d2, d3⟩ := hcell k _ ht
          have h2 := HBl.out.trans h
          exact ⟨(h2.cell (cell_lt d0)).trans d0, (h2.cell (cell_lt d1)).trans d1, (h2.cell (cell_lt d2)).trans d2, (h2.cell (cell_lt d3)).trans d3⟩
        have hk0 : (0 : Int) ≤ (k : Int) := by omega
        have hk1 : (k : Int) < (n : Int) := by omega
        have HHs := Lib.hid hS
        have HHb := Lib.hid hB
        have HN0 : Hid (w.heap.size ≤ wr.heap.size) := HBl.out.size
        clear hS hB hn ht hcell
        go_wp2_with fail
        refine (c_good tk ta ti tl _ b6 b0 b1 b4 b5).mono ?_
        rintro e w2 ⟨rfl, hb2⟩
        have HR2 := Lib.hid (own_below HR.out hb2)
        have HB2 := Lib.hid (below_on (Below.refl w.heap.size wr) hb2 HN0.out)
        clear hb2 c0 c1 c2 c3
        cases htk : tokB tk ti tl
        · have HV := Lib.hid (HNo.out htk)
          go_wp2_with fail
          go_ret2
          exact ⟨HV.out ▸ rfl, HBl.out.trans HB2.out⟩
        · have HOk2 : Hid ((L.take (k + 1)).all Tk.ok = true) := by
            show _ = _
            rw [HTk.out, List.all_append, HOk.out, Bool.true_and]
            show (Tk.ok _ && true) = true
            rw [Bool.and_true]
            exact htk
          have HLk : Hid ((L.take k).length = k) := by show _ = _; rw [List.length_take, HLn.out]; omega
          have HLl : Hid ((layL (L.take k)).length ≤ 16387 * 16384) := by
            have := lay_len _ HOk.out
            rw [HLk.out] at this
            show _ ≤ _
            omega
          have HWl := Lib.hid (wrd_len tk ti tl htk)
          have HWd := Lib.hid (fun w => c_rWord tk ta ti tl w htk)
          obtain ⟨W, hW⟩ : ∃ W, wrdL tk ti tl = W := ⟨_, rfl⟩
          rw [hW] at HWl HWd
          have HSn : Hid (0 < k → layL (L.take (k + 1)) = layL (L.take k) ++ [32] ++ W) := fun h => by rw [HTk.out, lay_snoc _ _ (by rw [HLk.out]; exact h), ← hW]; rfl
          have HSo : Hid (k = 0 → layL (L.take (k + 1)) = layL (L.take k) ++ W) := fun h => by
            have e0 : L.take k = [] := by rw [h, List.take_zero]
            rw [HTk.out, e0, List.nil_append, lay_one, lay_nil, ← hW]
            rfl
          clear htk hW
          by_cases hk00 : k = 0
          · have hkd : decide (0 < k) = false := by simp; omega
            have HLE := Lib.hid (HSo.out hk00)
            obtain ⟨x0, x1, x2, x3⟩ := HC.out w2 HB2.out
            clear hk00
            go_wp2_with fail
            refine (HWd.out _).mono ?_
            rintro e w3 ⟨rfl, hb3⟩
            have HR3 := Lib.hid (own_below HR2.out hb3)
            have HB3 := Lib.hid (below_on HB2.out hb3 (Nat.le_trans HN0.out HB2.out.size))
            clear hb3
            go_wp2_with (at_builtin; refine Lib.wpList_append_own_string _ rfl _ _ 29 9 rfl w.heap.size 5 i0 Tryd.underlying29 Tryd.underlying9 hi hz0 hz1 hz2 _ _ _ rfl HR3.out _ rfl ?c3 ?c4 ?c5 ?_)
            case c3 =>
              have h1 := HLl.out
              have h2 := HWl.out
              show (layL (L.take k)).length + W.toArray.size ≤ maxLen
              unfold maxLen
              simp
              omega
            case c4 =>
              have h1 := HLl.out
              have h2 := HWl.out
              show (layL (L.take k)).length + W.toArray.size ≤ _
              simp
              omega
            case c5 => exact Nat.le_trans HN0.out HB3.out.size
            intro v' w4 hown hgrow _
            have HB4 : Hid (Below w.heap.size wr w4) := below_grown HB3.out (Nat.le_trans HN0.out HB3.out.size) hgrow (fun b e => (HR3.out.lt b e).1)
            have HR4 : Hid (w4.ownsRow w.heap.size 5 1 v' (layL (L.take (k + 1))).length (Lib.byteCells (layL (L.take (k + 1))))) := by
              show World.ownsRow _ _ _ _ _ _ _
              rw [HLE.out, Lib.byteCells_append, List.length_append]
              have e : W.toArray.size = W.length := by simp
              rw [← e]
              exact hown
            clear hown hgrow
            go_wp2_with fail
            go_roundw
            case rel => exact ⟨k + 1, by omega, by go_num, HR4.out, HBl.out.trans HB4.out, HOk2.out⟩
            case measure => simp [intOf]; omega
          · have hkd : decide (0 < k) = true := by simp; omega
            have HLE := Lib.hid (HSn.out (by omega))
            clear hk00
            go_wp2_with (at_builtin; refine wpList_append_own _ rfl _ _ 29 rfl w.heap.size 5 i0 (.int .u8 0) 1 1 Tryd.underlying29 hi hz0 hz1 hz2 rfl (by decide) _ _ _ rfl (HR2.out.alloc _) ⟨w2.heap.size, 0, none⟩ 1 1 [.int .u8 32] rfl rfl ?d1 ?d2 ?d3 ?d4 ?d5 ?_)
            case d1 =>
              intro j u hj
              match j, hj with
              | 0, hj => simp at hj; subst hj; simp [Addr.add]
            case d2 => intro u hu; simp at hu; subst hu; rfl
            case d3 => have := HLl.out; unfold maxLen; omega
            case d4 => have := HLl.out; omega
            case d5 => exact Nat.le_trans (Nat.le_trans HN0.out HB2.out.size) (bel_new w2 _).size
            intro v1 w3 hown hgrow _
            have HB3 : Hid (Below w.heap.size wr w3) := below_grown (HB2.out.alloc (Nat.le_trans HN0.out HB2.out.size) _) (Nat.le_trans (Nat.le_trans HN0.out HB2.out.size) (bel_new w2 _).size) hgrow (fun b e => (HR2.out.lt b e).1)
            have HR3 : Hid (w3.ownsRow w.heap.size 5 1 v1 (layL (L.take k) ++ [32]).length (Lib.byteCells (layL (L.take k) ++ [32]))) := by
              show World.ownsRow _ _ _ _ _ _ _
              rw [Lib.byteCells_append, List.length_append]
              exact hown
            obtain ⟨x0, x1, x2, x3⟩ := HC.out w3 HB3.out
            clear hown hgrow
            go_wp2_with fail
            refine (HWd.out _).mono ?_
            rintro e w4 ⟨rfl, hb4⟩
            have HR4 := Lib.hid (own_below HR3.out hb4)
            have HB4 := Lib.hid (below_on HB3.out hb4 (Nat.le_trans HN0.out HB3.out.size))
            clear hb4 x0 x1 x2 x3
            go_wp2_with (at_builtin; refine Lib.wpList_append_own_string _ rfl _ _ 29 9 rfl w.heap.size 5 i0 Tryd.underlying29 Tryd.underlying9 hi hz0 hz1 hz2 _ _ _ rfl HR4.out _ rfl ?c3 ?c4 ?c5 ?_)
            case c3 =>
              have h1 := HLl.out
              have h2 := HWl.out
              show (layL (L.take k) ++ [32]).length + W.toArray.size ≤ maxLen
              unfold maxLen
              simp
              omega
            case c4 =>
              have h1 := HLl.out
              have h2 := HWl.out
              show (layL (L.take k) ++ [32]).length + W.toArray.size ≤ _
              simp
              omega
            case c5 => exact Nat.le_trans HN0.out HB4.out.size
            intro v' w5 hown hgrow _
            have HB5 : Hid (Below w.heap.size wr w5) := below_grown HB4.out (Nat.le_trans HN0.out HB4.out.size) hgrow (fun b e => (HR4.out.lt b e).1)
            have HR5 : Hid (w5.ownsRow w.heap.size 5 1 v' (layL (L.take (k + 1))).length (Lib.byteCells (layL (L.take (k + 1))))) := by
              show World.ownsRow _ _ _ _ _ _ _
              have e3 : (layL (L.take k) ++ [32] ++ W).length = (layL (L.take k) ++ [32]).length + W.length := List.length_append
              have e4 : (layL (L.take k) ++ [32]).length = (layL (L.take k)).length + 1 := by simp
              rw [HLE.out, Lib.byteCells_append _ W, e3, e4]
              first
                | exact hown
                | (have e : W.toArray.size = W.length := by simp
                   rw [← e]
                   exact hown)
            clear hown hgrow
            go_wp2_with fail
            go_roundw
            case rel => exact ⟨k + 1, by omega, by go_num, HR5.out, HBl.out.trans HB5.out, HOk2.out⟩
            case measure => simp [intOf]; omega
      · have hge : decide (k < n) = false := by simp; omega
        have HT : Hid (L.take k = L) := List.take_of_length_le (by omega)
        rw [HT.out] at HR HOk
        have HV : Hid (layV L = .tuple #[.string ⟨(layL L).toArray⟩, .int .i64 0]) := by show _ = _; unfold layV; rw [if_neg (by omega), if_pos HOk.out]
        obtain rfl : k = n := by omega
        have hcv := conv_all wr w.heap.size _ _ (layL L) rfl HR.out
        clear hS hB hk hlt
        go_wp2_with fail
        go_ret2
        exact ⟨HV.out ▸ rfl, HBl.out⟩
end Go.Proofs.YtnenhehnoolhlaaDoor
