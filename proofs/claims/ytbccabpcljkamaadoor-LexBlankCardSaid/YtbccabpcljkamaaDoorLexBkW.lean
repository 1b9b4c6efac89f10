/-
  The walk of the law on tokens that are laid and read back.
-/
import Derived.Test.YtbccabpcljkamaaDoorLexPla
import Derived.Test.YtbccabpcljkamaaDoorLexBk2
import Derived.Test.YtbccabpcljkamaaDoorLexLay
import Derived.Handy
namespace Go.Proofs.YtbccabpcljkamaaDoor
set_option linter.unusedVariables false
set_option linter.unusedSimpArgs false
set_option maxRecDepth 100000
open Go.RowKit

theorem tok_bounds {k n : Int} {x : List UInt8} (h : tokB k n x = true) : (1 ≤ k ∧ k ≤ 5) ∧ (-128 ≤ n ∧ n ≤ 4294967295) ∧ x.length ≤ 4096 := by
  unfold tokB at h
  by_cases k3 : k = 3
  · rw [if_pos k3] at h
    unfold numB at h
    simp only [Bool.and_eq_true, decide_eq_true_eq] at h
    obtain ⟨⟨h1, h2⟩, h3⟩ := h
    refine ⟨by omega, ⟨h1, h2⟩, ?_⟩
    have hx : x = [] ∨ x = [117] := by
      split at h3
      · exact .inl (by simpa using h3)
      · split at h3
        · exact .inr (by simpa using h3)
        · simpa using h3
    rcases hx with rfl | rfl <;> simp
  · rw [if_neg k3] at h
    simp only [Bool.and_eq_true, beq_iff_eq] at h
    obtain ⟨rfl, h⟩ := h
    by_cases k1 : k = 1
    · rw [if_pos k1] at h
      unfold nameB at h
      simp only [Bool.and_eq_true, decide_eq_true_eq, Bool.not_eq_true'] at h
      exact ⟨by omega, by omega, by omega⟩
    · rw [if_neg k1] at h
      by_cases k2 : k = 2
      · rw [if_pos k2] at h
        unfold keyB at h
        have h1 : x ∈ keyTab := by simpa using h
        have h2 : ∀ w ∈ keyTab, w.length ≤ 4096 := by decide
        exact ⟨by omega, by omega, h2 x h1⟩
      · rw [if_neg k2] at h
        by_cases k4 : k = 4
        · rw [if_pos k4] at h
          exact ⟨by omega, by omega, by simpa using h⟩
        · rw [if_neg k4] at h
          by_cases k5 : k = 5
          · rw [if_pos k5] at h
            unfold markB at h
            have h1 : x ∈ markTab := by simpa using h
            have h2 : ∀ w ∈ markTab, w.length ≤ 4096 := by decide
            exact ⟨by omega, by omega, h2 x h1⟩
          · rw [if_neg k5] at h
            cases h
theorem tkb_of (N : Nat) (hN : N ≤ 9223372036854775807) (t : Pt) (h : ptOk t) : TkB (tkN N t) := by
  obtain ⟨⟨a, b⟩, ⟨c, d⟩, e⟩ := tok_bounds h
  refine ⟨⟨?_, ?_⟩, ⟨?_, ?_⟩, ⟨?_, ?_⟩, ?_⟩
  · show _ ≤ t.kind; omega
  · show t.kind ≤ _; omega
  · show _ ≤ ((N - t.rest : Nat) : Int); omega
  · show ((N - t.rest : Nat) : Int) ≤ _; omega
  · show _ ≤ t.int; omega
  · show t.int ≤ _; omega
  · show t.text.length ≤ _; omega
/-- Lay of right tokens, not too many. -/
theorem c_LayOk (a : Option Addr) (n cap : Nat) (L : List Tk) (w : World) (hn : L.length = n) (hc : n ≤ cap) (hS : TksIn w a L) (hB : ∀ t ∈ L, TkB t) (hM : MkH w) (hP : PwH w) (hok : ∀ t ∈ L, t.ok = true) (h16 : L.length ≤ 16384) :
    Calls Tryd.prog 8 #[.slice a n cap] w fun e w' => e = .returned (.tuple #[.string ⟨(layL L).toArray⟩, .int .i64 0]) ∧ Below w.heap.size w w' := by
  have h := c_Lay a n cap L w hn hc hS hB hM hP
  have e : layV L = .tuple #[.string ⟨(layL L).toArray⟩, .int .i64 0] := by
    unfold layV
    rw [if_neg (by omega), if_pos (List.all_eq_true.2 hok)]
  rw [e] at h
  exact h
theorem pair_of {K : List Pt} {L : List Tk} (N : Nat) (h : K.map trP = L.map trT) : K.length = L.length ∧ ∀ (k : Nat) t, (K.map (tkN N))[k]? = some t → ∃ t', L[k]? = some t' ∧ t'.kind = t.kind ∧ t'.int = t.int ∧ t'.text = t.text := by
  refine ⟨by simpa using congrArg List.length h, fun k t ht => ?_⟩
  rw [List.getElem?_map] at ht
  obtain ⟨u, hu, rfl⟩ := Option.map_eq_some_iff.1 ht
  have h2 := congrArg (fun l => l[k]?) h
  simp only [List.getElem?_map, hu, Option.map_some] at h2
  obtain ⟨t', ht', e⟩ := Option.map_eq_some_iff.1 h2.symm
  unfold trP trT at e
  injection e with e1 e2
  injection e2 with e2 e3
  exact ⟨t', ht', e1, e2, e3⟩
theorem layV_cases (L : List Tk) : layV L = .tuple #[.string ⟨#[]⟩, .int .i64 3] ∨ layV L = .tuple #[.string ⟨#[]⟩, .int .i64 5] ∨ (L.length ≤ 16384 ∧ (∀ t ∈ L, t.ok = true) ∧ layV L = .tuple #[.string ⟨(layL L).toArray⟩, .int .i64 0]) := by
  unfold layV
  by_cases h : 16384 < L.length
  · rw [if_pos h]; exact .inl rfl
  · rw [if_neg h]
    by_cases h2 : L.all Tk.ok = true
    · rw [if_pos h2]; exact .inr (.inr ⟨by omega, List.all_eq_true.1 h2, rfl⟩)
    · rw [if_neg h2]; exact .inr (.inl rfl)
set_option maxHeartbeats 4000000 in
attribute [local irreducible] Go.wpQuiet in
theorem c_Back (ao : Option Addr) (n cap : Nat) (L : List Tk) (s : List UInt8) (w : World) (hE : Env w.heap.size w) (hP : PwH w) (hn : L.length = n) (hcL : n ≤ cap) (hS : TksIn w ao L) (hB : ∀ t ∈ L, TkB t) (hs : s.length ≤ 9223372036854775807) :
    Calls Tryd.prog 3 #[.slice ao n cap, .string ⟨s.toArray⟩] w fun e w' => e = .returned (.bool true) ∧ Below w.heap.size w w' := by
  have HE := Lib.hid hE
  have HP := Lib.hid hP
  have HS := Lib.hid hS
  have HN := Lib.hid hn
  have HB := Lib.hid hB
  clear hE hP hS hn hB
  go_enter Tryd.func3, Tryd.ntmps3

  go_wp2_with fail
  refine (c_works w HE.out).mono ?_
  rintro e w1 ⟨rfl, hb1⟩
  have HB1 := Lib.hid hb1
  have HE1 := Lib.hid (HE.out.grow hb1)
  clear hb1
  go_wp2_with fail
  refine (c_Tokens s w1 HE1.out hs).mono ?_
  rintro e w2 ⟨hT | ⟨p, c, rfl, hp, hc, _⟩, hb2⟩
  · obtain ⟨M, v, hsl, hL, rfl, hown, hLl⟩ := hT
    have HB2 := Lib.hid (HB1.out.trans (hb2.mono HB1.out.size))
    obtain ⟨am, capm, hv, hcm, _⟩ := fault_row hown
    subst hv
    obtain ⟨htm, _⟩ := own_tks hown
    obtain ⟨hokM, hnoM⟩ := T_right hL
    obtain ⟨M2, hM2⟩ : ∃ M2, M.map (tkN s.length) = M2 := ⟨_, rfl⟩
    have hM2l : M2.length = M.length := by rw [← hM2, List.length_map]
    have hok2 : ∀ t ∈ M2, t.ok = true := fun t ht => by
      rw [← hM2] at ht
      obtain ⟨u, hu, rfl⟩ := List.mem_map.1 ht
      exact hokM u hu
    have hTB2 : ∀ t ∈ M2, TkB t := fun t ht => by
      rw [← hM2] at ht
      obtain ⟨u, hu, rfl⟩ := List.mem_map.1 ht
      exact tkb_of _ hs u (hokM u hu)
    have hno2 : NoTwo (M2.map (·.kind)) := by
      rw [← hM2, List.map_map]
      exact hnoM
    rw [hM2] at htm
    have HTm := Lib.hid htm
    have HOk2 := Lib.hid hok2
    have HTB2 := Lib.hid hTB2
    obtain ⟨K, hK1, hK2⟩ := T_back hok2 hno2 (by omega)
    have HK1 := Lib.hid hK1
    have HK2 := Lib.hid hK2
    have HMl := Lib.hid hLl
    have HM2l := Lib.hid hM2l
    have HE2 := Lib.hid ((HE1.out.grow hb2).grow (bel_al w2 (fOb 0 0)))
    have HBW : Hid (Below w.heap.size w (w2.alloc (fOb 0 0))) := HB2.out.alloc HB2.out.size _
    have HF2 : Hid ((w2.alloc (fOb 0 0)).heap[w2.heap.size]? = some (fOb 0 0)) := heap_alloc_new w2 _
    clear hown hb2 hL htm hok2 hTB2 hno2 hK1 hK2 hokM hnoM hM2 hM2l hLl
    go_wp2_with fail
    have HTm2 := Lib.hid (HTm.out.next (bel_al w2 (fOb 0 0)))
    generalize w2.alloc (fOb 0 0) = W at HE2 HBW HF2 HTm2 ⊢
    refine (c_LayOk am M.length capm M2 W HM2l.out hcm HTm2.out HTB2.out HE2.out.mrk (HP.out.next HBW.out rfl) HOk2.out (by rw [HM2l.out]; exact HMl.out)).mono ?_
    rintro e w3 ⟨rfl, hb3⟩
    have HE3 := Lib.hid (HE2.out.grow hb3)
    have HBW3 : Hid (Below w.heap.size w w3) := HBW.out.trans (hb3.mono HBW.out.size)
    have HTm3 := Lib.hid (HTm2.out.next hb3)
    clear hb3
    obtain ⟨t, ht⟩ : ∃ t, layL M2 = t := ⟨_, rfl⟩
    rw [ht] at HK1 ⊢
    clear ht
    by_cases hlen : t.length ≤ 65536
    · have hd : decide ((t.length : Int) ≤ 65536) = true := decide_eq_true (by omega)
      go_wp2_with fail
      refine (c_TokOk t K w3 HE3.out hlen HK1.out).mono ?_
      rintro e w4 ⟨⟨v4, rfl, ho4, hl4⟩, hb4⟩
      obtain ⟨ak, capk, hvk, hck, _⟩ := fault_row ho4
      subst hvk
      obtain ⟨htk, _⟩ := own_tks ho4
      have HE4 := Lib.hid ((HE3.out.grow hb4).grow (bel_al w4 (fOb 0 0)))
      have HBW4 : Hid (Below w.heap.size w w4) := HBW3.out.trans (hb4.mono HBW3.out.size)
      have HTm4 := Lib.hid (HTm3.out.next hb4)
      have HTk4 := Lib.hid htk
      clear ho4 hb4 htk
      have hnf := neq_fault
      have hef := eq_fault
      obtain ⟨hKl, hKp⟩ := pair_of t.length HK2.out
      have hKm : K.length = M.length := hKl.trans HM2l.out
      rw [hKm] at hck ⊢
      go_wp2_with fail
      have HTm5 := Lib.hid (HTm4.out.next (bel_al w4 (fOb 0 0)))
      have HTk5 := Lib.hid (HTk4.out.next (bel_al w4 (fOb 0 0)))
      have HBW5 : Hid (Below w.heap.size w (w4.alloc (fOb 0 0))) := HBW4.out.alloc HBW4.out.size _
      generalize w4.alloc (fOb 0 0) = w5 at HE4 HTm5 HTk5 HBW5 ⊢
      refine (c_sameF ak am M.length capk capm (K.map (tkN t.length)) M2 hKp w5 (by rw [List.length_map]; exact hKm) hck hcm (by have := HMl.out; omega) HTk5.out HTm5.out HM2l.out).mono ?_
      rintro e w6 ⟨rfl, hb6⟩
      have HBW : Hid (Below w.heap.size w w6) := HBW5.out.trans (hb6.mono HBW5.out.size)
      have HEz := Lib.hid (HE4.out.grow hb6)
      clear HTm HTm2 HTm3 HTm4 HTm5 HTk4 HTk5 HBW3 HBW4 HBW5 hb6 hKp hKm hKl hck hl4 hd hlen HK1 HK2 hcm hsl HM2l HMl HTB2 HOk2 HF2 HE3 HE2 HB2 HB1 HE1 HE4 hef hnf
      go_wp2_with fail
      generalize w6 = W at HBW HEz ⊢
      have HEW := HEz
      clear HEz
      refine (c_Lay ao n cap L W HN.out hcL (HS.out.next HBW.out) HB.out HEW.out.mrk (HP.out.next HBW.out rfl)).mono ?_
      rintro e x1 ⟨rfl, hb⟩
      have HEX := Lib.hid (HEW.out.grow hb)
      have HBX : Hid (Below w.heap.size w x1) := HBW.out.trans (hb.mono HBW.out.size)
      clear hb HEW HBW
      rcases layV_cases L with h3 | h5 | ⟨h16, hok, h0⟩
      · rw [h3]
        go_wp2_with fail
        go_ret
        exact ⟨rfl, HBX.out⟩
      · rw [h5]
        go_wp2_with fail
        go_ret
        exact ⟨rfl, HBX.out⟩
      · rw [h0]
        obtain ⟨u, hu⟩ : ∃ u, layL L = u := ⟨_, rfl⟩
        rw [hu]
        have HOk := Lib.hid hok
        have H16 := Lib.hid h16
        have HU := Lib.hid hu
        clear h0 hok h16 hu
        by_cases hul : u.length ≤ 65536
        · have hd : decide ((65536 : Int) < (u.length : Int)) = false := by simp; omega
          go_wp2_with fail
          go_loopw [13] (fun i wr => ∃ k : Nat, 1 ≤ k ∧ (k ≤ n ∨ k = 1) ∧ i = .int .i64 k ∧ Hid (∃ m, wr = x1.drewN m) ∧ Hid (∀ j, j + 1 < k → (L.map (·.kind))[j]? = some 4 → (L.map (·.kind))[j + 1]? = some 4 → False)) (fun i _ => n - (intOf i).toNat)
          case atStart => exact ⟨1, Nat.le_refl _, .inr rfl, rfl, ⟨0, rfl⟩, fun j hj => by omega⟩
          case round =>
            obtain ⟨k, hk1, hkn, rfl, HW, HNo⟩ := hrel
            obtain ⟨m, rfl⟩ := HW.out
            by_cases hlt : k < n
            · obtain ⟨k', hk'⟩ : ∃ k', k' + 1 = k := ⟨k - 1, by omega⟩
              obtain ⟨t1, ht1⟩ : ∃ t, L[k]? = some t := ⟨_, List.getElem?_eq_getElem (by rw [HN.out]; omega)⟩
              obtain ⟨t0, ht0⟩ : ∃ t, L[k']? = some t := ⟨_, List.getElem?_eq_getElem (by rw [HN.out]; omega)⟩
              obtain ⟨b, off, hao, hcell⟩ := HS.out (by rw [HN.out]; omega)
              obtain ⟨c0, _⟩ := hcell k t1 ht1
              obtain ⟨d0, _⟩ := hcell k' t0 ht0
              replace c0 := (HBX.out.cell (cell_lt c0)).trans c0
              replace d0 := (HBX.out.cell (cell_lt d0)).trans d0
              have HNx : Hid (¬ (t1.kind = 4 ∧ t0.kind = 4) → ∀ j, j + 1 < k + 1 → (L.map (·.kind))[j]? = some 4 → (L.map (·.kind))[j + 1]? = some 4 → False) := fun h j hj h1 h2 => by
                by_cases hjk : j + 1 < k
                · exact HNo.out j hjk h1 h2
                · have e1 : j = k' := by omega
                  rw [e1, hk'] at h2
                  rw [e1] at h1
                  rw [List.getElem?_map, ht0] at h1
                  rw [List.getElem?_map, ht1] at h2
                  exact h ⟨by simpa using h2, by simpa using h1⟩
              generalize t1.kind = kI at c0 HNx
              generalize t0.kind = jI at d0 HNx
              have hkd : (0 : Int) < (k : Int) := by omega
              have hkp : 0 < k := by omega
              have hks : (k : Int) - 1 = (k' : Int) := by omega
              have hkia : (0 : Int) ≤ (k' : Int) := by omega
              have hkib : (k' : Int) < (n : Int) := by omega
              have hwk : IntKind.i64.wrap (k' : Int) = (k' : Int) := by rw [IntKind.wrap_i64]; have h16 := H16.out; rw [HN.out] at h16; omega
              have HKk := Lib.hid hk'
              have HAo := Lib.hid hao
              clear ht1 ht0 hcell hk' hao hk1 hkn
              rw [HAo.out]
              have hnb : n ≤ 16384 := by have := H16.out; rw [HN.out] at this; exact this
              by_cases hk4 : kI = 4
              · by_cases hj4 : jI = 4
                · subst hk4
                  subst hj4
                  go_wp2_with fail
                  go_ret
                  exact ⟨rfl, below_drewN HBX.out m⟩
                · have hjd : (jI == 4) = false := by rw [beq_eq_false_iff_ne]; exact hj4
                  subst hk4
                  go_wp2_with fail
                  go_roundw
                  case rel => exact ⟨k + 1, by omega, .inl (by omega), by go_num, ⟨m, rfl⟩, HNx.out (fun h => hj4 h.2)⟩
                  case measure => simp [intOf]; omega
              · have hkd4 : (kI == 4) = false := by rw [beq_eq_false_iff_ne]; exact hk4
                go_wp2_with fail
                go_roundw
                case rel => exact ⟨k + 1, by omega, .inl (by omega), by go_num, ⟨m, rfl⟩, HNx.out (fun h => hk4 h.1)⟩
                case measure => simp [intOf]; omega
            · have hge : decide (k < n) = false := by simp; omega
              have hno : NoTwo (L.map (·.kind)) := fun j h1 h2 => by
                have hj : j + 1 < (L.map (·.kind)).length := (List.getElem?_eq_some_iff.1 h2).1
                rw [List.length_map, HN.out] at hj
                exact HNo.out j (by omega) h1 h2
              obtain ⟨K2, hK1, hK2⟩ := T_back HOk.out hno H16.out
              rw [HU.out] at hK1
              have HK1 := Lib.hid hK1
              have HK2 := Lib.hid hK2
              clear hK1 hK2 hno
              go_wp2_with fail
              have HEy : Hid (Env (x1.drewN m).heap.size (x1.drewN m)) := HEX.out.grow (below_drewN (Below.refl _ _) m)
              have HBy : Hid (Below w.heap.size w (x1.drewN m)) := below_drewN HBX.out m
              generalize x1.drewN m = y at HEy HBy ⊢
              refine (c_TokOk u K2 y HEy.out hul HK1.out).mono ?_
              rintro e y2 ⟨⟨vk, rfl, hok2, hlk⟩, hb2⟩
              obtain ⟨ak2, capk2, hvk2, hck2, _⟩ := fault_row hok2
              subst hvk2
              obtain ⟨htk2, _⟩ := own_tks hok2
              have HBy2 : Hid (Below w.heap.size w y2) := HBy.out.trans (hb2.mono HBy.out.size)
              have HTk2 := Lib.hid htk2
              clear hok2 hb2 htk2
              have hef2 := eq_fault
              obtain ⟨hKl2, hKp2⟩ := pair_of u.length HK2.out
              have hKn : K2.length = n := hKl2.trans HN.out
              rw [hKn] at hck2 ⊢
              go_wp2_with fail
              have HTk3 := Lib.hid (HTk2.out.next (bel_al y2 (fOb 0 0)))
              have HBy3 : Hid (Below w.heap.size w (y2.alloc (fOb 0 0))) := HBy2.out.alloc HBy2.out.size _
              generalize y2.alloc (fOb 0 0) = y3 at HTk3 HBy3 ⊢
              refine (c_sameF ak2 ao n capk2 cap (K2.map (tkN u.length)) L hKp2 y3 (by rw [List.length_map]; exact hKn) hck2 hcL (by have h16 := H16.out; rw [HN.out] at h16; omega) HTk3.out (HS.out.next HBy3.out) HN.out).mono ?_
              rintro e y4 ⟨rfl, hb4⟩
              have HBy4 : Hid (Below w.heap.size w y4) := HBy3.out.trans (hb4.mono HBy3.out.size)
              clear hb4
              go_wp2_with fail
              go_ret
              exact ⟨rfl, HBy4.out⟩
        · have hd : decide ((65536 : Int) < (u.length : Int)) = true := by simp; omega
          go_wp2_with fail
          go_ret
          exact ⟨rfl, HBX.out⟩
    · have hd : decide ((t.length : Int) ≤ 65536) = false := by simp; omega
      clear HTm HTm2 HTm3 HK1 HK2 hcm hsl HM2l HMl HTB2 HOk2 HF2 HE2 HB2 HB1 HE1 HBW
      go_wp2_with fail
      clear hd hlen
      generalize w3 = W at HBW3 HE3 ⊢
      have HBW := HBW3
      have HEW := HE3
      clear HBW3 HE3
      refine (c_Lay ao n cap L W HN.out hcL (HS.out.next HBW.out) HB.out HEW.out.mrk (HP.out.next HBW.out rfl)).mono ?_
      rintro e x1 ⟨rfl, hb⟩
      have HEX := Lib.hid (HEW.out.grow hb)
      have HBX : Hid (Below w.heap.size w x1) := HBW.out.trans (hb.mono HBW.out.size)
      clear hb HEW HBW
      rcases layV_cases L with h3 | h5 | ⟨h16, hok, h0⟩
      · rw [h3]
        go_wp2_with fail
        go_ret
        exact ⟨rfl, HBX.out⟩
      · rw [h5]
        go_wp2_with fail
        go_ret
        exact ⟨rfl, HBX.out⟩
      · rw [h0]
        obtain ⟨u, hu⟩ : ∃ u, layL L = u := ⟨_, rfl⟩
        rw [hu]
        have HOk := Lib.hid hok
        have H16 := Lib.hid h16
        have HU := Lib.hid hu
        clear h0 hok h16 hu
        by_cases hul : u.length ≤ 65536
        · have hd : decide ((65536 : Int) < (u.length : Int)) = false := by simp; omega
          go_wp2_with fail
          go_loopw [13] (fun i wr => ∃ k : Nat, 1 ≤ k ∧ (k ≤ n ∨ k = 1) ∧ i = .int .i64 k ∧ Hid (∃ m, wr = x1.drewN m) ∧ Hid (∀ j, j + 1 < k → (L.map (·.kind))[j]? = some 4 → (L.map (·.kind))[j + 1]? = some 4 → False)) (fun i _ => n - (intOf i).toNat)
          case atStart => exact ⟨1, Nat.le_refl _, .inr rfl, rfl, ⟨0, rfl⟩, fun j hj => by omega⟩
          case round =>
            obtain ⟨k, hk1, hkn, rfl, HW, HNo⟩ := hrel
            obtain ⟨m, rfl⟩ := HW.out
            by_cases hlt : k < n
            · obtain ⟨k', hk'⟩ : ∃ k', k' + 1 = k := ⟨k - 1, by omega⟩
              obtain ⟨t1, ht1⟩ : ∃ t, L[k]? = some t := ⟨_, List.getElem?_eq_getElem (by rw [HN.out]; omega)⟩
              obtain ⟨t0, ht0⟩ : ∃ t, L[k']? = some t := ⟨_, List.getElem?_eq_getElem (by rw [HN.out]; omega)⟩
              obtain ⟨b, off, hao, hcell⟩ := HS.out (by rw [HN.out]; omega)
              obtain ⟨c0, _⟩ := hcell k t1 ht1
              obtain ⟨d0, _⟩ := hcell k' t0 ht0
              replace c0 := (HBX.out.cell (cell_lt c0)).trans c0
              replace d0 := (HBX.out.cell (cell_lt d0)).trans d0
              have HNx : Hid (¬ (t1.kind = 4 ∧ t0.kind = 4) → ∀ j, j + 1 < k + 1 → (L.map (·.kind))[j]? = some 4 → (L.map (·.kind))[j + 1]? = some 4 → False) := fun h j hj h1 h2 => by
                by_cases hjk : j + 1 < k
                · exact HNo.out j hjk h1 h2
                · have e1 : j = k' := by omega
                  rw [e1, hk'] at h2
                  rw [e1] at h1
                  rw [List.getElem?_map, ht0] at h1
                  rw [List.getElem?_map, ht1] at h2
                  exact h ⟨by simpa using h2, by simpa using h1⟩
              generalize t1.kind = kI at c0 HNx
              generalize t0.kind = jI at d0 HNx
              have hkd : (0 : Int) < (k : Int) := by omega
              have hkp : 0 < k := by omega
              have hks : (k : Int) - 1 = (k' : Int) := by omega
              have hkia : (0 : Int) ≤ (k' : Int) := by omega
              have hkib : (k' : Int) < (n : Int) := by omega
              have hwk : IntKind.i64.wrap (k' : Int) = (k' : Int) := by rw [IntKind.wrap_i64]; have h16 := H16.out; rw [HN.out] at h16; omega
              have HKk := Lib.hid hk'
              have HAo := Lib.hid hao
              clear ht1 ht0 hcell hk' hao hk1 hkn
              rw [HAo.out]
              have hnb : n ≤ 16384 := by have := H16.out; rw [HN.out] at this; exact this
              by_cases hk4 : kI = 4
              · by_cases hj4 : jI = 4
                · subst hk4
                  subst hj4
                  go_wp2_with fail
                  go_ret
                  exact ⟨rfl, below_drewN HBX.out m⟩
                · have hjd : (jI == 4) = false := by rw [beq_eq_false_iff_ne]; exact hj4
                  subst hk4
                  go_wp2_with fail
                  go_roundw
                  case rel => exact ⟨k + 1, by omega, .inl (by omega), by go_num, ⟨m, rfl⟩, HNx.out (fun h => hj4 h.2)⟩
                  case measure => simp [intOf]; omega
              · have hkd4 : (kI == 4) = false := by rw [beq_eq_false_iff_ne]; exact hk4
                go_wp2_with fail
                go_roundw
                case rel => exact ⟨k + 1, by omega, .inl (by omega), by go_num, ⟨m, rfl⟩, HNx.out (fun h => hk4 h.1)⟩
                case measure => simp [intOf]; omega
            · have hge : decide (k < n) = false := by simp; omega
              have hno : NoTwo (L.map (·.kind)) := fun j h1 h2 => by
                have hj : j + 1 < (L.map (·.kind)).length := (List.getElem?_eq_some_iff.1 h2).1
                rw [List.length_map, HN.out] at hj
                exact HNo.out j (by omega) h1 h2
              obtain ⟨K2, hK1, hK2⟩ := T_back HOk.out hno H16.out
              rw [HU.out] at hK1
              have HK1 := Lib.hid hK1
              have HK2 := Lib.hid hK2
              clear hK1 hK2 hno
              go_wp2_with fail
              have HEy : Hid (Env (x1.drewN m).heap.size (x1.drewN m)) := HEX.out.grow (below_drewN (Below.refl _ _) m)
              have HBy : Hid (Below w.heap.size w (x1.drewN m)) := below_drewN HBX.out m
              generalize x1.drewN m = y at HEy HBy ⊢
              refine (c_TokOk u K2 y HEy.out hul HK1.out).mono ?_
              rintro e y2 ⟨⟨vk, rfl, hok2, hlk⟩, hb2⟩
              obtain ⟨ak2, capk2, hvk2, hck2, _⟩ := fault_row hok2
              subst hvk2
              obtain ⟨htk2, _⟩ := own_tks hok2
              have HBy2 : Hid (Below w.heap.size w y2) := HBy.out.trans (hb2.mono HBy.out.size)
              have HTk2 := Lib.hid htk2
              clear hok2 hb2 htk2
              have hef2 := eq_fault
              obtain ⟨hKl2, hKp2⟩ := pair_of u.length HK2.out
              have hKn : K2.length = n := hKl2.trans HN.out
              rw [hKn] at hck2 ⊢
              go_wp2_with fail
              have HTk3 := Lib.hid (HTk2.out.next (bel_al y2 (fOb 0 0)))
              have HBy3 : Hid (Below w.heap.size w (y2.alloc (fOb 0 0))) := HBy2.out.alloc HBy2.out.size _
              generalize y2.alloc (fOb 0 0) = y3 at HTk3 HBy3 ⊢
              refine (c_sameF ak2 ao n capk2 cap (K2.map (tkN u.length)) L hKp2 y3 (by rw [List.length_map]; exact hKn) hck2 hcL (by have h16 := H16.out; rw [HN.out] at h16; omega) HTk3.out (HS.out.next HBy3.out) HN.out).mono ?_
              rintro e y4 ⟨rfl, hb4⟩
              have HBy4 : Hid (Below w.heap.size w y4) := HBy3.out.trans (hb4.mono HBy3.out.size)
              clear hb4
              go_wp2_with fail
              go_ret
              exact ⟨rfl, HBy4.out⟩
        · have hd : decide ((65536 : Int) < (u.length : Int)) = true := by simp; omega
          go_wp2_with fail
          go_ret
          exact ⟨rfl, HBX.out⟩
  · have HB2 := Lib.hid (HB1.out.trans (hb2.mono HB1.out.size))
    have HEW := Lib.hid ((HE1.out.grow hb2).grow (bel_al w2 (fOb p c)))
    have HBW : Hid (Below w.heap.size w (w2.alloc (fOb p c))) := HB2.out.alloc HB2.out.size _
    clear hb2 HB2 HB1 HE1
    go_wp2_with fail
    rename_i hpc
    generalize w2.alloc (fOb p c) = W at HBW HEW ⊢
    refine (c_Lay ao n cap L W HN.out hcL (HS.out.next HBW.out) HB.out HEW.out.mrk (HP.out.next HBW.out rfl)).mono ?_
    rintro e x1 ⟨rfl, hb⟩
    have HEX := Lib.hid (HEW.out.grow hb)
    have HBX : Hid (Below w.heap.size w x1) := HBW.out.trans (hb.mono HBW.out.size)
    clear hb HEW HBW
    rcases layV_cases L with h3 | h5 | ⟨h16, hok, h0⟩
    · rw [h3]
      go_wp2_with fail
      go_ret
      exact ⟨rfl, HBX.out⟩
    · rw [h5]
      go_wp2_with fail
      go_ret
      exact ⟨rfl, HBX.out⟩
    · rw [h0]
      obtain ⟨u, hu⟩ : ∃ u, layL L = u := ⟨_, rfl⟩
      rw [hu]
      have HOk := Lib.hid hok
      have H16 := Lib.hid h16
      have HU := Lib.hid hu
      clear h0 hok h16 hu
      by_cases hul : u.length ≤ 65536
      · have hd : decide ((65536 : Int) < (u.length : Int)) = false := by simp; omega
        go_wp2_with fail
        go_loopw [13] (fun i wr => ∃ k : Nat, 1 ≤ k ∧ (k ≤ n ∨ k = 1) ∧ i = .int .i64 k ∧ Hid (∃ m, wr = x1.drewN m) ∧ Hid (∀ j, j + 1 < k → (L.map (·.kind))[j]? = some 4 → (L.map (·.kind))[j + 1]? = some 4 → False)) (fun i _ => n - (intOf i).toNat)
        case atStart => exact ⟨1, Nat.le_refl _, .inr rfl, rfl, ⟨0, rfl⟩, fun j hj => by omega⟩
        case round =>
          obtain ⟨k, hk1, hkn, rfl, HW, HNo⟩ := hrel
          obtain ⟨m, rfl⟩ := HW.out
          by_cases hlt : k < n
          · obtain ⟨k', hk'⟩ : ∃ k', k' + 1 = k := ⟨k - 1, by omega⟩
            obtain ⟨t1, ht1⟩ : ∃ t, L[k]? = some t := ⟨_, List.getElem?_eq_getElem (by rw [HN.out]; omega)⟩
            obtain ⟨t0, ht0⟩ : ∃ t, L[k']? = some t := ⟨_, List.getElem?_eq_getElem (by rw [HN.out]; omega)⟩
            obtain ⟨b, off, hao, hcell⟩ := HS.out (by rw [HN.out]; omega)
            obtain ⟨c0, _⟩ := hcell k t1 ht1
            obtain ⟨d0, _⟩ := hcell k' t0 ht0
            replace c0 := (HBX.out.cell (cell_lt c0)).trans c0
            replace d0 := (HBX.out.cell (cell_lt d0)).trans d0
            have HNx : Hid (¬ (t1.kind = 4 ∧ t0.kind = 4) → ∀ j, j + 1 < k + 1 → (L.map (·.kind))[j]? = some 4 → (L.map (·.kind))[j + 1]? = some 4 → False) := fun h j hj h1 h2 => by
              by_cases hjk : j + 1 < k
              · exact HNo.out j hjk h1 h2
              · have e1 : j = k' := by omega
                rw [e1, hk'] at h2
                rw [e1] at h1
                rw [List.getElem?_map, ht0] at h1
                rw [List.getElem?_map, ht1] at h2
                exact h ⟨by simpa using h2, by simpa using h1⟩
            generalize t1.kind = kI at c0 HNx
            generalize t0.kind = jI at d0 HNx
            have hkd : (0 : Int) < (k : Int) := by omega
            have hkp : 0 < k := by omega
            have hks : (k : Int) - 1 = (k' : Int) := by omega
            have hkia : (0 : Int) ≤ (k' : Int) := by omega
            have hkib : (k' : Int) < (n : Int) := by omega
            have hwk : IntKind.i64.wrap (k' : Int) = (k' : Int) := by rw [IntKind.wrap_i64]; have h16 := H16.out; rw [HN.out] at h16; omega
            have HKk := Lib.hid hk'
            have HAo := Lib.hid hao
            clear ht1 ht0 hcell hk' hao hk1 hkn
            rw [HAo.out]
            have hnb : n ≤ 16384 := by have := H16.out; rw [HN.out] at this; exact this
            by_cases hk4 : kI = 4
            · by_cases hj4 : jI = 4
              · subst hk4
                subst hj4
                go_wp2_with fail
                go_ret
                exact ⟨rfl, below_drewN HBX.out m⟩
              · have hjd : (jI == 4) = false := by rw [beq_eq_false_iff_ne]; exact hj4
                subst hk4
                go_wp2_with fail
                go_roundw
                case rel => exact ⟨k + 1, by omega, .inl (by omega), by go_num, ⟨m, rfl⟩, HNx.out (fun h => hj4 h.2)⟩
                case measure => simp [intOf]; omega
            · have hkd4 : (kI == 4) = false := by rw [beq_eq_false_iff_ne]; exact hk4
              go_wp2_with fail
              go_roundw
              case rel => exact ⟨k + 1, by omega, .inl (by omega), by go_num, ⟨m, rfl⟩, HNx.out (fun h => hk4 h.1)⟩
              case measure => simp [intOf]; omega
          · have hge : decide (k < n) = false := by simp; omega
            have hno : NoTwo (L.map (·.kind)) := fun j h1 h2 => by
              have hj : j + 1 < (L.map (·.kind)).length := (List.getElem?_eq_some_iff.1 h2).1
              rw [List.length_map, HN.out] at hj
              exact HNo.out j (by omega) h1 h2
            obtain ⟨K2, hK1, hK2⟩ := T_back HOk.out hno H16.out
            rw [HU.out] at hK1
            have HK1 := Lib.hid hK1
            have HK2 := Lib.hid hK2
            clear hK1 hK2 hno
            go_wp2_with fail
            have HEy : Hid (Env (x1.drewN m).heap.size (x1.drewN m)) := HEX.out.grow (below_drewN (Below.refl _ _) m)
            have HBy : Hid (Below w.heap.size w (x1.drewN m)) := below_drewN HBX.out m
            generalize x1.drewN m = y at HEy HBy ⊢
            refine (c_TokOk u K2 y HEy.out hul HK1.out).mono ?_
            rintro e y2 ⟨⟨vk, rfl, hok2, hlk⟩, hb2⟩
            obtain ⟨ak2, capk2, hvk2, hck2, _⟩ := fault_row hok2
            subst hvk2
            obtain ⟨htk2, _⟩ := own_tks hok2
            have HBy2 : Hid (Below w.heap.size w y2) := HBy.out.trans (hb2.mono HBy.out.size)
            have HTk2 := Lib.hid htk2
            clear hok2 hb2 htk2
            have hef2 := eq_fault
            obtain ⟨hKl2, hKp2⟩ := pair_of u.length HK2.out
            have hKn : K2.length = n := hKl2.trans HN.out
            rw [hKn] at hck2 ⊢
            go_wp2_with fail
            have HTk3 := Lib.hid (HTk2.out.next (bel_al y2 (fOb 0 0)))
            have HBy3 : Hid (Below w.heap.size w (y2.alloc (fOb 0 0))) := HBy2.out.alloc HBy2.out.size _
            generalize y2.alloc (fOb 0 0) = y3 at HTk3 HBy3 ⊢
            refine (c_sameF ak2 ao n capk2 cap (K2.map (tkN u.length)) L hKp2 y3 (by rw [List.length_map]; exact hKn) hck2 hcL (by have h16 := H16.out; rw [HN.out] at h16; omega) HTk3.out (HS.out.next HBy3.out) HN.out).mono ?_
            rintro e y4 ⟨rfl, hb4⟩
            have HBy4 : Hid (Below w.heap.size w y4) := HBy3.out.trans (hb4.mono HBy3.out.size)
            clear hb4
            go_wp2_with fail
            go_ret
            exact ⟨rfl, HBy4.out⟩
      · have hd : decide ((65536 : Int) < (u.length : Int)) = true := by simp; omega
        go_wp2_with fail
        go_ret
        exact ⟨rfl, HBX.out⟩
end Go.Proofs.YtbccabpcljkamaaDoor
