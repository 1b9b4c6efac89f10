/-
  The walk of the law that a load tells the last store.
-/
import Derived.Test.YtbfimedgichiiaaMemWorks
namespace Go.Proofs.Ytbfimedgichiiaa
set_option linter.unusedVariables false
set_option linter.unusedSimpArgs false
set_option maxRecDepth 100000
open Go.ChangeShapes Go.WideShapes Go.ChangeAt Go.RowKit

theorem dif_none {nb : Nat} {R : Nat → Rg} {C : Nat → Nat → Nat → Int} (x : Int) : ¬ Dif nb R C C x := fun ⟨_, _, _, _, _, _, h, _⟩ => h rfl
theorem Mm.lt {w : World} {A M : Nat → Prop} {gm nb : Nat} {R : Nat → Rg} {C D : Nat → Nat → Nat → Int} (h : Mm w A M gm nb R C D) : gm < w.heap.size := by
  obtain ⟨G, gb, cap, gn, gt, np, cn, ct, P, Q, h1, _⟩ := h
  have := h1.1.2.1
  have := h1.1.2.2.2.2.2
  omega
/-- A memory of the call's own, all of it from N on. -/
def MmN (w : World) (N gm nb : Nat) (R : Nat → Rg) (C D : Nat → Nat → Nat → Int) : Prop := Mm w (fun b => N ≤ b) (fun b => N ≤ b) gm nb R C D ∧ N ≤ w.heap.size
theorem MmN.next {w w' : World} {N gm nb : Nat} {R : Nat → Rg} {C D : Nat → Nat → Nat → Int} (h : MmN w N gm nb R C D) (hb : Below w.heap.size w w') : MmN w' N gm nb R C D := ⟨h.1.next hb, Nat.le_trans h.2 hb.size⟩
def StoreN (w w' : World) (N gm nb : Nat) (R : Nat → Rg) (C D : Nat → Nat → Nat → Int) (a n v e : Int) : Prop :=
  (e ≠ 0 ∧ MmN w' N gm nb R C D ∧ (AccNo nb R a n e ∨ e = 32 ∧ ∃ i, AccOk nb R a n i ∧ (R i).wr = false)) ∨
  (e = 0 ∧ ∃ i, AccOk nb R a n i ∧ (R i).wr = true ∧ MmN w' N gm nb R (stC C i (a - (R i).fr).toNat n.toNat v) D)
theorem c_StoreN (N gm nb : Nat) (R : Nat → Rg) (C D : Nat → Nat → Nat → Int) (a n v : Int) (w : World) (hM : MmN w N gm nb R C D) (h4 : 0 ≤ a) (h5 : a ≤ 4294967295) (h6 : 0 ≤ v) (h7 : v ≤ 4294967295) :
    Calls Try.prog 21 #[.pointer (some ⟨gm, 0, none⟩), .int .u32 a, .int .i64 n, .int .u32 v] w fun e w' => ∃ c, e = .returned (.int .i64 c) ∧ StoreN w w' N gm nb R C D a n v c ∧ Below N w w' := by
  refine (c_mStore _ _ gm nb R C D a n v w hM.1 h4 h5 h6 h7).mono ?_
  rintro e w' ⟨c, rfl, hS⟩
  refine ⟨c, rfl, ?_⟩
  have hN := hM.2
  rcases hS with ⟨h1, h2, h3⟩ | ⟨h1, i, h2, h3, h4, h5⟩
  · exact ⟨.inl ⟨h1, hM.next h2, h3⟩, h2.mono hN⟩
  · have hb : Below N w w' := h5.below hN (fun b hb => hb)
    exact ⟨.inr ⟨h1, i, h2, h3, h4.weak (fun b hb => hb.elim id (fun h => by omega)) (fun b hb => hb.elim id (fun h => by omega)), by have := hb.size; omega⟩, hb⟩
/-- What stands where n bytes of ww and a byte of vv behind them were put. -/
def TwoPut (nb : Nat) (R : Nat → Rg) (C : Nat → Nat → Nat → Int) (i : Nat) (a n ww oo vv : Int) : Prop :=
  ∀ k : Nat, (k : Int) < n → byte C i ((a - (R i).fr).toNat + k) = if oo = a + k then vv % 256 else byOf ww k
theorem two_put {nb : Nat} {R : Nat → Rg} {i : Nat} {a n ww oo vv e : Int} {w w' : World} {N gm : Nat} (hok : okTo R nb = true) (hi : AccOk nb R a n i) (hwr : (R i).wr = true) (h0 : 0 ≤ vv)
    (hS : StoreN w w' N gm nb R (stC zC i (a - (R i).fr).toNat n.toNat ww) zC oo 1 vv e) :
    ∃ C, MmN w' N gm nb R C zC ∧ TwoPut nb R C i a n ww oo vv := by
  have hh := hold_of hi.2.2.2
  have hn := hi.1
  have hal := hi.2.1
  have hrg := rg_bd (okTo_rg hok i hi.2.2.1)
  have hal' : n = 1 ∨ (n = 2 ∧ a % 2 = 0) ∨ (n = 4 ∧ a % 4 = 0) := by
    rcases hn with h | h | h
    · exact .inl h
    · exact .inr (.inl ⟨h, by rw [h] at hal; exact hal⟩)
    · exact .inr (.inr ⟨h, by rw [h] at hal; exact hal⟩)
  have hx : (a - (R i).fr).toNat % 4096 + n.toNat ≤ 4096 := by omega
  have one : ∀ k : Nat, (k : Int) < n → AccOk nb R (a + k) 1 i := fun k hk => ⟨.inl rfl, by omega, hi.2.2.1, by unfold holdB; simp; omega⟩
  rcases hS with ⟨hne, hM, hno⟩ | ⟨he, j, hj, hwj, hM⟩
  · refine ⟨_, hM, fun k hk => ?_⟩
    have hoo : ¬ oo = a + k := by
      intro e'
      have ho := one k hk
      rw [← e'] at ho
      rcases hno with hno | ⟨_, j, hj, hwj⟩
      · exact acc_not_both ho hno
      · obtain rfl := acc_one hok ho hj
        rw [hwr] at hwj; cases hwj
    rw [if_neg hoo, stC_byte _ _ _ _ _ _ _ hx, if_pos ⟨rfl, by omega, by omega⟩]
    congr 1
    omega
  · refine ⟨_, hM, fun k hk => ?_⟩
    have hhj := hold_of hj.2.2.2
    have hrj := rg_bd (okTo_rg hok j hj.2.2.1)
    rw [stC_byte _ _ _ _ _ _ _ (by show (oo - (R j).fr).toNat % 4096 + 1 ≤ 4096; omega)]
    by_cases hoo : oo = a + k
    · have ho := one k hk
      rw [← hoo] at ho
      obtain rfl := acc_one hok ho hj
      rw [if_pos hoo, if_pos ⟨rfl, by omega, by show _ < _ + 1; omega⟩]
      rw [show (a - (R i).fr).toNat + k - (oo - (R i).fr).toNat = 0 by omega]
      rfl
    · rw [if_neg hoo, if_neg, stC_byte _ _ _ _ _ _ _ hx, if_pos ⟨rfl, by omega, by omega⟩]
      · congr 1
        omega
      · rintro ⟨rfl, h2, h3⟩
        have h3' : (a - (R i).fr).toNat + k < (oo - (R i).fr).toNat + 1 := h3
        omega
/-- The word that n bytes from a place on are. -/
def WordIs (c : Nat → Nat → Int) (x n : Nat) (X : Int) : Prop :=
  ∃ z0 z1 z2 z3 : Int, (z0 = c (x / 4096) (x % 4096) ∧ 0 ≤ z0 ∧ z0 ≤ 255) ∧ (z1 = (if 1 < n then c ((x + 1) / 4096) ((x + 1) % 4096) else 0) ∧ 0 ≤ z1 ∧ z1 ≤ 255) ∧ (z2 = (if 2 < n then c ((x + 2) / 4096) ((x + 2) % 4096) else 0) ∧ 0 ≤ z2 ∧ z2 ≤ 255) ∧ (z3 = (if 3 < n then c ((x + 3) / 4096) ((x + 3) % 4096) else 0) ∧ 0 ≤ z3 ∧ z3 ≤ 255) ∧ X = z0 + z1 * 256 + z2 * 65536 + z3 * 16777216
theorem wordIs_ld {c : Nat → Nat → Int} {x n : Nat} (hn : 0 < n) (hb : ∀ k, k < n → 0 ≤ c ((x + k) / 4096) ((x + k) % 4096) ∧ c ((x + k) / 4096) ((x + k) % 4096) ≤ 255) : WordIs c x n (ldI c x n) := by
  refine ⟨byAt c x n 0, byAt c x n 1, byAt c x n 2, byAt c x n 3, ⟨?_, ?_⟩, ⟨?_, ?_⟩, ⟨?_, ?_⟩, ⟨?_, ?_⟩, ?_⟩
  · unfold byAt; rw [if_pos hn]; rfl
  · unfold byAt; rw [if_pos hn]; exact hb 0 hn
  · rfl
  · unfold byAt; split
    · exact hb 1 (by assumption)
    · omega
  · rfl
  · unfold byAt; split
    · exact hb 2 (by assumption)
    · omega
  · rfl
  · unfold byAt; split
    · exact hb 3 (by assumption)
    · omega
  · unfold ldI wordI
    rfl
theorem Mm.bd {w : World} {A M : Nat → Prop} {gm nb : Nat} {R : Nat → Rg} {C D : Nat → Nat → Nat → Int} (h : Mm w A M gm nb R C D) {i y : Nat} (hi : i < nb) (hy : (y : Int) < (R i).sz) : 0 ≤ byte C i y ∧ byte C i y ≤ 255 := by
  obtain ⟨G, gb, cap, gn, gt, np, cn, ct, P, Q, h1, h2, _⟩ := h
  have hs := (h1.1.2.2.2.2.1 i hi).2.2.2.2.2.1
  exact h1.1.by_ hi _ _ (by omega) (Nat.mod_lt _ (by decide))
theorem rdRow_at {w : World} {g n : Nat} {C : Nat → Nat → Int} {x : Nat} (h : RdRow w g n C x) : ∀ j, j < n → w.cell? ⟨g, j, none⟩ = some (.int .u8 (C ((x + j) / 4096) ((x + j) % 4096))) := by
  intro j hj
  obtain ⟨T, hh⟩ := h
  rw [cell_of_row w g j _ T (0, 0) hh, List.getElem?_toArray]
  unfold bytesAt
  rw [List.getElem?_map, List.getElem?_range hj]
  rfl
set_option maxHeartbeats 4000000 in
theorem holds_walk (a : Option Addr) (n cap : Nat) (R : Nat → Rg) (at' nn ww oo vv : Int) (w : World) (hm : n ≤ maxLen) (hR : RSO w a n cap R) (hbd : RgBd R n) (a0 : 0 ≤ at') (a1 : at' ≤ 4294967295) (w0 : 0 ≤ ww) (w1 : ww ≤ 4294967295) (o0 : 0 ≤ oo) (o1 : oo ≤ 4294967295) (v0 : 0 ≤ vv) (v1 : vv ≤ 4294967295) :
    Calls Try.prog 4 #[.slice a n cap, .int .u32 at', .int .i64 nn, .int .u32 ww, .int .u32 oo, .int .u32 vv] w fun e w' => e = .returned (.bool true) ∧ Below w.heap.size w w' := by
  have HR := Lib.hid hR
  have HBD := Lib.hid hbd
  have HMx := Lib.hid hm
  clear hR hbd hm
  go_enter Try.func4, Try.ntmps4
  go_wp2_with fail
  refine (c_works _).mono ?_
  rintro e wa ⟨rfl, hba⟩
  have HBa := Lib.hid hba
  have HRa := Lib.hid (HR.out.next hba)
  clear hba
  go_wp2_with fail
  refine (c_New a n cap R _ HMx.out HRa.out HBD.out).mono ?_
  rintro e wb hN
  rcases hN with ⟨hne, rfl, hbb⟩ | ⟨hc0, gm, rfl, hgm, hMm, hbb⟩
  · have hcd : (chkI R n == 0) = false := beq_no hne
    have HBb : Hid (Below w.heap.size w wb) := below_on HBa.out hbb HBa.out.size
    clear hbb hne
    go_wp2_with fail
    all_goals first
      | (exfalso; clear HR HBD HRa HBa HBb HMx; simp_all; done)
      | (go_ret; refine ⟨ret_b ?_, HBb.out⟩; clear HR HBD HRa HBa HBb HMx; simp_all; done)
  · have HBb : Hid (Below w.heap.size w wb) := below_on HBa.out hbb HBa.out.size
    have HM : Hid (MmN wb w.heap.size gm n R zC zC) := ⟨hMm.weak (fun b hb => by have := HBa.out.size; omega) (fun b hb => by have := HBa.out.size; omega), HBb.out.size⟩
    clear hbb hMm hgm hc0
    go_wp2_with fail
    refine (c_StoreN w.heap.size gm n R zC zC at' nn ww _ HM.out a0 a1 w0 w1).mono ?_
    rintro e wc ⟨c, rfl, hS, hbc⟩
    have HBc : Hid (Below w.heap.size w wc) := HBb.out.trans hbc
    rcases hS with ⟨hne, hM2, _⟩ | ⟨rfl, i, hi, hwr, hM2⟩
    · have hcd : (c == 0) = false := beq_no hne
      have HM2 := Lib.hid hM2
      clear hbc hne hM2
      go_wp2_with fail
      refine (c_Changed _ _ gm n R _ _ _ HM2.out.1).mono ?_
      rintro e wd ⟨v6, L, hi, rfl, hG6, hW6, hcov, hb6⟩
      obtain rfl : L = [] := Wf.uniq hW6 (show Wf 0 [] 0 from Int.le_refl _) (fun x => ⟨fun h => absurd ((hcov x).1 h) (dif_none x), fun h => absurd h (cov_nil x)⟩)
      obtain ⟨a6, cap6, rfl, hcap6, hI6⟩ := hG6.gapIn
      have HBd : Hid (Below w.heap.size w wd) := below_on HBc.out hb6 HBc.out.size
      have hlen : ([] : List (Int × Int)).length = 0 := rfl
      rw [hlen]
      clear hG6 hW6 hcov hb6 hI6 hcap6 hlen
      go_wp2_with fail
      go_ret
      exact ⟨rfl, HBd.out⟩
    · have HI := Lib.hid hi
      have HM2 := Lib.hid hM2
      have HWr := Lib.hid hwr
      clear hbc hM2 hi hwr
      go_wp2_with fail
      refine (c_StoreN w.heap.size gm n R _ zC oo 1 vv _ HM2.out o0 o1 v0 v1).mono ?_
      rintro e wd ⟨c, rfl, hS, hbd⟩
      have HBd : Hid (Below w.heap.size w wd) := HBc.out.trans hbd
      obtain ⟨C, hM3, hTP⟩ := two_put HM2.out.1.okR HI.out HWr.out v0 hS
      have HM3 := Lib.hid hM3
      have HTP := Lib.hid hTP
      clear hS hbd hM3 hTP
      have hnn := HI.out.1
      have hok := HM2.out.1.okR
      have hgl := hold_of HI.out.2.2.2
      have hrg := rg_bd (okTo_rg hok i HI.out.2.2.1)
      have hat : at' + nn ≤ 4294967296 := by omega
      have HLd : Hid (∀ (wx : World) (k : Nat) (ad : Int), ad = at' + k → (k : Int) < nn → MmN wx w.heap.size gm n R C zC → Calls Try.prog 22 #[.pointer (some ⟨gm, 0, none⟩), .int .u32 ad, .int .i64 1] wx fun e w' => e = .returned (.tuple #[.int .u32 (if oo = ad then vv % 256 else byOf ww k), .int .i64 0]) ∧ Below wx.heap.size wx w') := by
        intro wx k ad had hk hMx
        subst had
        refine (c_mLoad _ _ gm n R C zC (at' + k) 1 wx hMx.1 (by omega) (by omega)).mono ?_
        rintro e w' ⟨v, c, rfl, hL, hb⟩
        have ho : AccOk n R (at' + k) 1 i := ⟨.inl rfl, by omega, HI.out.2.2.1, by unfold holdB; simp; omega⟩
        rcases hL with ⟨rfl, i', hi', hv⟩ | ⟨_, _, hno⟩
        · obtain rfl := acc_one hok ho hi'
          rw [show (1 : Int).toNat = 1 from rfl, ldI_one] at hv
          have := HTP.out k hk
          unfold byte at this
          rw [show (at' + k - (R i).fr).toNat = (at' - (R i).fr).toNat + k by omega, this] at hv
          subst hv
          exact ⟨rfl, hb⟩
        · exact (acc_not_both ho hno).elim
      have HLw : Hid (∀ (wx : World), MmN wx w.heap.size gm n R C zC → Calls Try.prog 22 #[.pointer (some ⟨gm, 0, none⟩), .int .u32 at', .int .i64 nn] wx fun e w' => ∃ X, e = .returned (.tuple #[.int .u32 X, .int .i64 0]) ∧ WordIs (C i) (at' - (R i).fr).toNat nn.toNat X ∧ Below wx.heap.size wx w') := by
        intro wx hMx
        refine (c_mLoad _ _ gm n R C zC at' nn wx hMx.1 a0 a1).mono ?_
        rintro e w' ⟨v, c, rfl, hL, hb⟩
        rcases hL with ⟨rfl, i', hi', hv⟩ | ⟨_, _, hno⟩
        · obtain rfl := acc_one hok HI.out hi'
          refine ⟨v, rfl, ?_, hb⟩
          rw [hv]
          exact wordIs_ld (by omega) (fun k hk => hMx.1.bd HI.out.2.2.1 (by omega))
        · exact (acc_not_both HI.out hno).elim
      have HRw : Hid (∀ (wx : World), MmN wx w.heap.size gm n R C zC → Calls Try.prog 23 #[.pointer (some ⟨gm, 0, none⟩), .int .u32 at', .int .i64 nn] wx fun e w' => ∃ g, e = .returned (.tuple #[.slice (some ⟨g, 0, none⟩) nn.toNat nn.toNat, .int .i64 0]) ∧ (∀ j, j < nn.toNat → w'.cell? ⟨g, j, none⟩ = some (.int .u8 (C i (((at' - (R i).fr).toNat + j) / 4096) (((at' - (R i).fr).toNat + j) % 4096)))) ∧ Below wx.heap.size wx w') := by
        intro wx hMx
        have h := c_MRead_ok _ _ gm n R C zC at' nn.toNat i wx hMx.1 a0 a1 (by omega) (by omega) HI.out.2.2.1 (by rw [show ((nn.toNat : Nat) : Int) = nn by omega]; exact HI.out.2.2.2)
        rw [show ((nn.toNat : Nat) : Int) = nn by omega] at h
        refine Calls.mono h ?_
        rintro e w' ⟨g, rfl, hrow, hg, hb⟩
        exact ⟨g, rfl, rdRow_at hrow, hb⟩
      clear hok hgl hrg
      obtain ⟨nn', hnn'⟩ : ∃ x, x = nn := ⟨_, rfl⟩
      rcases hnn with rfl | rfl | rfl
      all_goals
        go_wp2_with fail
        go_loopw [15] (fun i wr => ∃ k : Nat, (k : Int) ≤ nn' ∧ i = .int .i64 k ∧ Hid (MmN wr w.heap.size gm n R C zC) ∧ Hid (Below w.heap.size w wr)) (fun i _ => 4 - (intOf i).toNat)
        case atStart => exact ⟨0, by omega, rfl, HM3, HBd⟩
        case round =>
          obtain ⟨k, hk, rfl, HMr, HBr⟩ := hrel
          by_cases hlt : (k : Int) < nn'
          · have hks : k = 0 ∨ k = 1 ∨ k = 2 ∨ k = 3 := by omega
            rcases hks with rfl | rfl | rfl | rfl
            · first
              | (exfalso; omega)
              | (go_wp2_with fail
                 refine Calls.mono (HLd.out _ 0 _ ?h1 ?h2 HMr.out) ?_
                 case h1 => omega
                 case h2 => omega
                 rintro e wl ⟨rfl, hbl⟩
                 have HMl : Hid (MmN wl w.heap.size gm n R C zC) := HMr.out.next hbl
                 have HBl : Hid (Below w.heap.size w wl) := below_on HBr.out hbl HBr.out.size
                 clear hbl
                 by_cases ho : oo = at'
                 · rw [if_pos ho]
                   have hod : (oo == at') = true := by rw [ho]; simp
                   clear ho
                   go_wp2_with fail
                   go_roundw
                   case rel => exact ⟨1, by omega, by go_num, HMl, HBl⟩
                   case measure => simp [intOf]; done
                 · rw [if_neg ho, show byOf ww 0 = ww % 256 by unfold byOf; simp <;> omega]
                   have hod : (oo == at') = false := beq_no ho
                   clear ho
                   go_wp2_with fail
                   go_roundw
                   case rel => exact ⟨1, by omega, by go_num, HMl, HBl⟩
                   case measure => simp [intOf]; done)
            · first
              | (exfalso; omega)
              | (go_wp2_with fail
                 refine Calls.mono (HLd.out _ 1 _ ?h1 ?h2 HMr.out) ?_
                 case h1 => omega
                 case h2 => omega
                 rintro e wl ⟨rfl, hbl⟩
                 have HMl : Hid (MmN wl w.heap.size gm n R C zC) := HMr.out.next hbl
                 have HBl : Hid (Below w.heap.size w wl) := below_on HBr.out hbl HBr.out.size
                 clear hbl
                 by_cases ho : oo = at' + 1
                 · rw [if_pos ho]
                   have hod : (oo == at' + 1) = true := by rw [ho]; simp
                   clear ho
                   go_wp2_with fail
                   go_roundw
                   case rel => exact ⟨2, by omega, by go_num, HMl, HBl⟩
                   case measure => simp [intOf]; done
                 · rw [if_neg ho, show byOf ww 1 = ww / 256 % 256 by unfold byOf; simp <;> omega]
                   have hod : (oo == at' + 1) = false := beq_no ho
                   clear ho
                   go_wp2_with fail
                   go_roundw
                   case rel => exact ⟨2, by omega, by go_num, HMl, HBl⟩
                   case measure => simp [intOf]; done)
            · first
              | (exfalso; omega)
              | (go_wp2_with fail
                 refine Calls.mono (HLd.out _ 2 _ ?h1 ?h2 HMr.out) ?_
                 case h1 => omega
                 case h2 => omega
                 rintro e wl ⟨rfl, hbl⟩
                 have HMl : Hid (MmN wl w.heap.size gm n R C zC) := HMr.out.next hbl
                 have HBl : Hid (Below w.heap.size w wl) := below_on HBr.out hbl HBr.out.size
                 clear hbl
                 by_cases ho : oo = at' + 2
                 · rw [if_pos ho]
                   have hod : (oo == at' + 2) = true := by rw [ho]; simp
                   clear ho
                   go_wp2_with fail
                   go_roundw
                   case rel => exact ⟨3, by omega, by go_num, HMl, HBl⟩
                   case measure => simp [intOf]; done
                 · rw [if_neg ho, show byOf ww 2 = ww / 65536 % 256 by unfold byOf; simp <;> omega]
                   have hod : (oo == at' + 2) = false := beq_no ho
                   clear ho
                   go_wp2_with fail
                   go_roundw
                   case rel => exact ⟨3, by omega, by go_num, HMl, HBl⟩
                   case measure => simp [intOf]; done)
            · first
              | (exfalso; omega)
              | (go_wp2_with fail
                 refine Calls.mono (HLd.out _ 3 _ ?h1 ?h2 HMr.out) ?_
                 case h1 => omega
                 case h2 => omega
                 rintro e wl ⟨rfl, hbl⟩
                 have HMl : Hid (MmN wl w.heap.size gm n R C zC) := HMr.out.next hbl
                 have HBl : Hid (Below w.heap.size w wl) := below_on HBr.out hbl HBr.out.size
                 clear hbl
                 by_cases ho : oo = at' + 3
                 · rw [if_pos ho]
                   have hod : (oo == at' + 3) = true := by rw [ho]; simp
                   clear ho
                   go_wp2_with fail
                   go_roundw
                   case rel => exact ⟨4, by omega, by go_num, HMl, HBl⟩
                   case measure => simp [intOf]; done
                 · rw [if_neg ho, show byOf ww 3 = ww / 16777216 % 256 by unfold byOf; simp <;> omega]
                   have hod : (oo == at' + 3) = false := beq_no ho
                   clear ho
                   go_wp2_with fail
                   go_roundw
                   case rel => exact ⟨4, by omega, by go_num, HMl, HBl⟩
                   case measure => simp [intOf]; done)
          · have hk4 : (k : Int) = nn' := by omega
            rw [hk4, hnn']
            clear hk4 hlt hk
            go_wp2_with fail
            refine Calls.mono (HLw.out _ HMr.out) ?_
            rintro e wl ⟨X, rfl, hX, hbl⟩
            have HMl : Hid (MmN wl w.heap.size gm n R C zC) := HMr.out.next hbl
            have HBl : Hid (Below w.heap.size w wl) := below_on HBr.out hbl HBr.out.size
            have HX := Lib.hid hX
            have hX0 : 0 ≤ X ∧ X ≤ 4294967295 := by obtain ⟨z0, z1, z2, z3, h⟩ := hX; omega
            obtain ⟨hX0, hX1⟩ := hX0
            clear hbl hX
            go_wp2_with fail
            refine Calls.mono (HRw.out _ HMl.out) ?_
            rintro e wm ⟨g, rfl, hrow, hbm⟩
            have HBm : Hid (Below w.heap.size w wm) := below_on HBl.out hbm HBl.out.size
            obtain ⟨z0, z1, z2, z3, ⟨h0, l0, g0⟩, ⟨h1, l1, g1⟩, ⟨h2, l2, g2⟩, ⟨h3, l3, g3⟩, hXe⟩ := HX.out
            have e0 : X % 256 = z0 := by omega
            have e1 : X / 256 % 256 = z1 := by omega
            have e2 : X / 65536 % 256 = z2 := by omega
            have e3 : X / 16777216 % 256 = z3 := by omega
            clear hXe hbm
            first
              | (have y0 := hrow 0 (by decide); rw [Nat.add_zero, ← h0] at y0; have y1 := hrow 1 (by decide); rw [if_pos (by decide)] at h1; rw [← h1] at y1; have y2 := hrow 2 (by decide); rw [if_pos (by decide)] at h2; rw [← h2] at y2; have y3 := hrow 3 (by decide); rw [if_pos (by decide)] at h3; rw [← h3] at y3; have hto : Int.toNat 4 = 4 := rfl; clear h0 h1 h2 h3 hrow; go_wp2_with fail; go_rounds 5; all_goals (go_wp2_with fail; go_ret; exact ⟨rfl, HBm.out⟩))
              | (have y0 := hrow 0 (by decide); rw [Nat.add_zero, ← h0] at y0; have y1 := hrow 1 (by decide); rw [if_pos (by decide)] at h1; rw [← h1] at y1; have hto : Int.toNat 2 = 2 := rfl; clear h0 h1 h2 h3 hrow; go_wp2_with fail; go_rounds 5; all_goals (go_wp2_with fail; go_ret; exact ⟨rfl, HBm.out⟩))
              | (have y0 := hrow 0 (by decide); rw [Nat.add_zero, ← h0] at y0; have hto : Int.toNat 1 = 1 := rfl; clear h0 h1 h2 h3 hrow; go_wp2_with fail; go_rounds 5; all_goals (go_wp2_with fail; go_ret; exact ⟨rfl, HBm.out⟩))
end Go.Proofs.Ytbfimedgichiiaa
