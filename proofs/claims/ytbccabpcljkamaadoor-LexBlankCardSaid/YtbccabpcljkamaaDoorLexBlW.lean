/-
  The walk of the law on blank between tokens.
-/
import Derived.Test.YtbccabpcljkamaaDoorLexBl2
import Derived.Handy
namespace Go.Proofs.YtbccabpcljkamaaDoor
set_option linter.unusedVariables false
set_option linter.unusedSimpArgs false
set_option maxRecDepth 100000
open Go.RowKit

theorem RowC.one {w : World} {g N : Nat} {L : List Pt} (h : RowC w g N L) {k : Nat} {t : Pt} (ht : L[k]? = some t) : TksIn w (some ⟨g, k * 4, none⟩) [tkN N t] := fun _ => ⟨g, k * 4, rfl, fun j u hu => by
  cases j with
  | zero =>
    obtain rfl : tkN N t = u := by simpa using hu
    obtain ⟨a, b, c, d⟩ := h k t ht
    exact ⟨a, b, c, d⟩
  | succ j => simp at hu⟩
theorem sep_str (x u more : List UInt8) : (⟨x.toArray⟩ : ByteArray) ++ (⟨u.toArray⟩ ++ ⟨#[32]⟩ ++ ⟨more.toArray⟩ ++ ⟨#[47, 42, 32]⟩ ++ ⟨#[120]⟩ ++ ⟨#[32, 42, 47, 32]⟩) = ⟨(x ++ (u ++ sepL more)).toArray⟩ := by
  apply ByteArray.ext
  simp [ByteArray.data_append, sepL]
set_option maxHeartbeats 4000000 in
attribute [local irreducible] Go.wpQuiet in
theorem c_Blank (s more : List UInt8) (w : World) (hE : Env w.heap.size w) (hP : PwH w) (hs : s.length ≤ 9223372036854775807) (hmo : more.length ≤ 140737488351232) :
    Calls Tryd.prog 4 #[.string ⟨s.toArray⟩, .string ⟨more.toArray⟩] w fun e w' => e = .returned (.bool true) ∧ Below w.heap.size w w' := by
  have HE := Lib.hid hE
  have HP := Lib.hid hP
  have HMo := Lib.hid hmo
  clear hE hP hmo
  go_enter Tryd.func4, Tryd.ntmps4
  go_wp2_with fail
  refine (c_works w HE.out).mono ?_
  rintro e w1 ⟨rfl, hb1⟩
  have HB1 := Lib.hid hb1
  have HE1 := Lib.hid (HE.out.grow hb1)
  clear hb1
  go_wp2_with fail
  refine (c_Tokens s w1 HE1.out hs).mono ?_
  rintro e w2 ⟨hT | ⟨p, c, rfl, hp, hc, _⟩, hb2⟩
  · obtain ⟨L, v, hsl, hL, rfl, hown, hLl⟩ := hT
    have HB2 := Lib.hid (HB1.out.trans (hb2.mono HB1.out.size))
    have HE2 := Lib.hid ((HE1.out.grow hb2).grow (bel_al w2 (fOb 0 0)))
    obtain ⟨ao, cap, hv, hcap, _⟩ := fault_row hown
    subst hv
    obtain ⟨htm, _⟩ := own_tks hown
    obtain ⟨hokM, hnoM⟩ := T_right hL
    obtain ⟨M2, hM2⟩ : ∃ M2, L.map (tkN s.length) = M2 := ⟨_, rfl⟩
    have hM2l : M2.length = L.length := by rw [← hM2, List.length_map]
    have hok2 : ∀ t ∈ M2, t.ok = true := fun t ht => by
      rw [← hM2] at ht
      obtain ⟨u, hu, rfl⟩ := List.mem_map.1 ht
      exact hokM u hu
    have hTB2 : ∀ t ∈ M2, TkB t := fun t ht => by
      rw [← hM2] at ht
      obtain ⟨u, hu, rfl⟩ := List.mem_map.1 ht
      exact tkb_of _ hs u (hokM u hu)
    have hno2 : NoTwo (M2.map (·.kind)) := by
      rw [← hM2, List.map_map]
      exact hnoM
    rw [hM2] at htm
    have HTm0 := Lib.hid htm
    have HAb : Hid (∀ g off, ao = some ⟨g, off, none⟩ → 0 < M2.length → g < w2.heap.size) := fun g off he h0 => by
      obtain ⟨b, off2, e2, hc⟩ := htm h0
      rw [he] at e2
      injection e2 with e2
      injection e2 with e2 _
      obtain ⟨c0, _⟩ := hc 0 _ (List.getElem?_eq_getElem h0)
      rw [e2]
      exact cell_lt c0
    have HOk2 := Lib.hid hok2
    have HTB2 := Lib.hid hTB2
    have HNo2 := Lib.hid hno2
    have HM2l := Lib.hid hM2l
    have HLl := Lib.hid hLl
    have HTm := Lib.hid (HTm0.out.next (bel_al w2 (fOb 0 0)))
    clear hok2 hTB2 hno2 hokM hnoM hM2 hM2l htm HTm0
    have HBW : Hid (Below w.heap.size w (w2.alloc (fOb 0 0))) := HB2.out.alloc HB2.out.size _
    have hF2 := heap_alloc_new w2 (fOb 0 0)
    obtain ⟨q0, q1, q2⟩ := fob_cells hF2
    have HF2 := Lib.hid hF2
    have HN2 : Hid (w2.heap.size < (w2.alloc (fOb 0 0)).heap.size ∧ w.heap.size ≤ w2.heap.size) := ⟨by simp, HB2.out.size⟩
    clear hL hb2 hown hLl hF2
    go_wp2_with fail
    refine (c_lblank more _ (by have := HMo.out; omega)).mono ?_
    rintro e w3 ⟨rfl, hb3⟩
    have HBW3 : Hid (Below w.heap.size w w3) := HBW.out.trans (hb3.mono HBW.out.size)
    have HE3 := Lib.hid (HE2.out.grow hb3)
    cases hbl : more.all blk8
    · go_wp2_with fail
      go_ret
      exact ⟨rfl, HBW3.out⟩
    · have HF3 : Hid (w3.heap[w2.heap.size]? = some (fOb 0 0)) := (hb3.block _ HN2.out.1).trans HF2.out
      have HTm3 := Lib.hid (HTm.out.next hb3)
      have HBl := Lib.hid hbl
      have HNw : Hid (w.heap.size ≤ w2.heap.size) := HN2.out.2
      clear hb3 HE2 HBW HF2 HTm q0 q1 q2 HN2 hbl
      go_wp2_with fail
      obtain ⟨N2, hN2⟩ : ∃ N2, w2.heap.size = N2 := ⟨_, rfl⟩
      rw [hN2] at HF3 HNw HAb ⊢
      clear hN2
      go_loopw [7, 8] (fun v i wr => ∃ (k : Nat) (x : List UInt8), k ≤ L.length ∧ v = .string ⟨x.toArray⟩ ∧ i = .int .i64 k ∧ Hid (x = more ++ bodP more (M2.take k)) ∧ Hid (Below w.heap.size w wr) ∧ Hid (Env wr.heap.size wr) ∧ Hid (TksIn wr ao M2) ∧ Hid (wr.heap[N2]? = some (fOb 0 0))) (fun _ i _ => L.length - (intOf i).toNat)
      case atStart => exact ⟨0, more, Nat.zero_le _, rfl, rfl, by show _ = _; rw [List.take_zero, bod_nil, List.append_nil], HBW3.out, HE3.out, HTm3.out, HF3.out⟩
      case round =>
        obtain ⟨k, x, hk, rfl, rfl, HX, HBr, HEr, HTr, HFr⟩ := hrel
        have HXl : Hid (x.length ≤ 4611686018427387904) := by
          have h1 := bod_len more (M2.take k) 16386 (fun t ht => by
            have := wrd_len t.kind t.int t.text (HOk2.out t (List.mem_of_mem_take ht))
            show (wrdL t.kind t.int t.text).length ≤ _
            omega)
          have h2 : (M2.take k).length ≤ 16384 := by rw [List.length_take, HM2l.out]; have := HLl.out; omega
          have h3 := HMo.out
          have h4 := Nat.mul_le_mul h2 (show 16386 + more.length + 9 ≤ 140737488367627 by omega)
          have h5 : x.length = more.length + (bodP more (M2.take k)).length := by rw [HX.out, List.length_append]
          show _ ≤ _
          omega
        by_cases hlt : k < L.length
        · obtain ⟨t, ht⟩ : ∃ t, M2[k]? = some t := ⟨_, List.getElem?_eq_getElem (by rw [HM2l.out]; exact hlt)⟩
          obtain ⟨b, off, hao, hcell⟩ := HTr.out (by rw [HM2l.out]; omega)
          have HT1 : Hid (TksIn wr (some ⟨b, off + k * 4, none⟩) [t]) := fun _ => ⟨b, off + k * 4, rfl, fun j u hu => by
            cases j with
            | zero =>
              obtain rfl : t = u := by simpa using hu
              exact hcell k t ht
            | succ j => simp at hu⟩
          have HTk : Hid (M2.take (k + 1) = M2.take k ++ [t]) := by show _ = _; rw [List.take_add_one, ht]; rfl
          have hmt := List.mem_of_getElem? ht
          have HOt : Hid (t.ok = true) := HOk2.out t hmt
          have HBt : Hid (TkB t) := HTB2.out t hmt
          have HAo := Lib.hid hao
          have hic : ¬ cap = k := by omega
          have hic2 : ¬ k = cap := by omega
          have hkc : (k : Int) < (cap : Int) := by omega
          have hln := HLl.out
          clear hcell ht hmt hao
          rw [HAo.out]
          go_wp2_with fail
          refine (c_LayOk (some ⟨b, off + k * 4, none⟩) 1 (cap - k) [t] wr rfl (by omega) HT1.out (fun u hu => by rw [List.mem_singleton] at hu; rw [hu]; exact HBt.out) HEr.out.mrk (HP.out.next HBr.out rfl) (fun u hu => by rw [List.mem_singleton] at hu; rw [hu]; exact HOt.out) (by simp)).mono ?_
          rintro e w4 ⟨rfl, hb4⟩
          have HB4 : Hid (Below w.heap.size w w4) := HBr.out.trans (hb4.mono HBr.out.size)
          have HE4 := Lib.hid (HEr.out.grow hb4)
          have HT4 := Lib.hid (HTr.out.next hb4)
          have HF4 : Hid (w4.heap[N2]? = some (fOb 0 0)) := (hb4.block _ (Array.getElem?_eq_some_iff.1 HFr.out).1).trans HFr.out
          have HUl : Hid ((wrdL t.kind t.int t.text).length ≤ 16386) := wrd_len t.kind t.int t.text HOt.out
          rw [lay_one]
          obtain ⟨u, hu⟩ : ∃ u, t.word = u := ⟨_, rfl⟩
          have HU : Hid (u.length ≤ 16386) := by show _ ≤ _; rw [← hu]; exact HUl.out
          have HX4 : Hid (x ++ (u ++ sepL more) = more ++ bodP more (M2.take (k + 1))) := by
            show _ = _
            rw [HTk.out, bod_snoc, HX.out, hu, List.append_assoc]
          have hul := HU.out
          have hmol := HMo.out
          have hxl := HXl.out
          rw [hu]
          clear hu hb4 HUl HT1 HOt HBt
          go_wp2_with fail
          refine ⟨⟨k + 1, x ++ (u ++ sepL more), by omega, by rw [sep_str], by first | rfl | go_num, HX4.out, HB4.out, HE4.out, HAo.out ▸ HT4.out, HF4.out⟩, ?_⟩
          simp [intOf]
          omega
        · have hge : decide (k < L.length) = false := by simp; omega
          have hkL : k = L.length := by omega
          have HXx : Hid (more ++ bodP more M2 = x) := by
            have h1 := HX.out
            rw [hkL, ← HM2l.out, List.take_length] at h1
            exact h1.symm
          by_cases hxs : x.length ≤ 65536
          · have hd : decide ((65536 : Int) < (x.length : Int)) = false := by simp; omega
            obtain ⟨K2, hK1, hK2⟩ := T_blank HBl.out HOk2.out HNo2.out (by rw [HM2l.out]; exact HLl.out)
            rw [HXx.out] at hK1
            have HK1 := Lib.hid hK1
            have HK2 := Lib.hid hK2
            clear hK1 hK2 hkL
            go_wp2_with fail
            refine (c_TokOk x K2 wr HEr.out hxs HK1.out).mono ?_
            rintro e w4 ⟨⟨v4, rfl, ho4, hl4⟩, hb4⟩
            obtain ⟨ak, capk, hvk, hck, _⟩ := fault_row ho4
            subst hvk
            obtain ⟨htk, hgk⟩ := own_tks ho4
            have hNr : N2 < wr.heap.size := (Array.getElem?_eq_some_iff.1 HFr.out).1
            have HF4 : Hid (w4.heap[N2]? = some (fOb 0 0)) := (hb4.block _ hNr).trans HFr.out
            have HT4 := Lib.hid (HTr.out.next hb4)
            have HB4 : Hid (Below w.heap.size w w4) := HBr.out.trans (hb4.mono HBr.out.size)
            obtain ⟨q0, q1, q2⟩ := fob_cells HF4.out
            have qf0 := q2 0
            have qf1 := q2 1
            have HB5 : Hid (Below w.heap.size w ((w4.setCell ⟨N2, 0, none⟩ (.int .i64 0)).setCell ⟨N2, 1, none⟩ (.int .i64 0))) := (HB4.out.setCell (p := ⟨N2, 0, none⟩) HNw.out _).setCell (p := ⟨N2, 1, none⟩) HNw.out _
            have HTk5 : Hid (TksIn ((w4.setCell ⟨N2, 0, none⟩ (.int .i64 0)).setCell ⟨N2, 1, none⟩ (.int .i64 0)) ak (K2.map (tkN x.length))) := htk.to (fun hp' g' off' he i => set2_cell _ _ _ (by
                obtain ⟨g'', he', hge'⟩ := hgk (by simpa using hp')
                rw [he] at he'
                injection he' with he'
                injection he' with he' _
                show g' ≠ N2
                omega))
            have HT5 : Hid (TksIn ((w4.setCell ⟨N2, 0, none⟩ (.int .i64 0)).setCell ⟨N2, 1, none⟩ (.int .i64 0)) ao M2) := HT4.out.to (fun hp' g' off' he i => set2_cell _ _ _ (by
                have := HAb.out g' off' he hp'
                show g' ≠ N2
                omega))
            obtain ⟨hKl, hKp⟩ := pair_of x.length HK2.out
            have hKm : K2.length = L.length := hKl.trans HM2l.out
            rw [hKm] at hck ⊢
            have hef := eq_fault
            clear q2 ho4 hb4 htk hgk
            go_wp2_with fail
            generalize (w4.setCell ⟨N2, 0, none⟩ (.int .i64 0)).setCell ⟨N2, 1, none⟩ (.int .i64 0) = w5 at HB5 HTk5 HT5 ⊢
            refine (c_sameF ak ao L.length capk cap (K2.map (tkN x.length)) M2 hKp w5 (by rw [List.length_map]; exact hKm) hck hcap (by have := HLl.out; omega) HTk5.out HT5.out HM2l.out).mono ?_
            rintro e w6 ⟨rfl, hb6⟩
            have HB6 : Hid (Below w.heap.size w w6) := HB5.out.trans (hb6.mono HB5.out.size)
            clear hb6 q0 q1 qf0 qf1
            go_wp2_with fail
            go_ret
            exact ⟨rfl, HB6.out⟩
          · have hd : decide ((65536 : Int) < (x.length : Int)) = true := by simp; omega
            go_wp2_with fail
            go_ret
            exact ⟨rfl, HBr.out⟩
  · have HB2 := Lib.hid (HB1.out.trans (hb2.mono HB1.out.size))
    have hc0 : (c == 0) = false := by rw [beq_eq_false_iff_ne]; omega
    clear hb2 hp hc
    go_wp2_with fail
    go_ret
    exact ⟨rfl, HB2.out.alloc HB2.out.size _⟩
end Go.Proofs.YtbccabpcljkamaaDoor
