/-
  The walk of the law that Changed tells just the bytes that differ.
-/
import Derived.Test.YtbfimedgichiiaaMemChPure
namespace Go.Proofs.Ytbfimedgichiiaa
set_option linter.unusedVariables false
set_option linter.unusedSimpArgs false
set_option maxRecDepth 100000
open Go.ChangeShapes Go.WideShapes Go.ChangeAt Go.RowKit

/-- Acts in a block: kind, address, number, word. -/
def AS (w : World) (b off n : Nat) (K A N W : Nat → Int) : Prop :=
  ∀ i, i < n → w.cell? ⟨b, off + i * 5, none⟩ = some (.int .i64 (K i)) ∧ w.cell? ⟨b, off + i * 5 + 1, none⟩ = some (.int .u32 (A i)) ∧ w.cell? ⟨b, off + i * 5 + 2, none⟩ = some (.int .i64 (N i)) ∧ w.cell? ⟨b, off + i * 5 + 3, none⟩ = some (.int .u32 (W i))
def ASO (w : World) (a : Option Addr) (n cap : Nat) (K A N W : Nat → Int) : Prop := n = 0 ∨ ∃ b off, a = some ⟨b, off, none⟩ ∧ n ≤ cap ∧ AS w b off n K A N W
def ABd (n : Nat) (A N W : Nat → Int) : Prop := ∀ i, i < n → (0 ≤ A i ∧ A i ≤ 4294967295) ∧ (-9223372036854775808 ≤ N i ∧ N i ≤ 9223372036854775807) ∧ (0 ≤ W i ∧ W i ≤ 4294967295)
theorem AS.next {w w' : World} {b off n : Nat} {K A N W : Nat → Int} (h : AS w b off n K A N W) (hb : Below w.heap.size w w') : AS w' b off n K A N W := fun i hi => by
  obtain ⟨h0, h1, h2, h3⟩ := h i hi
  exact ⟨(hb.cell (cell_lt h0)).trans h0, (hb.cell (cell_lt h1)).trans h1, (hb.cell (cell_lt h2)).trans h2, (hb.cell (cell_lt h3)).trans h3⟩
def sumTo (R : Nat → Rg) : Nat → Int
  | 0 => 0
  | k + 1 => sumTo R k + (R k).sz
theorem sumTo_bd {R : Nat → Rg} {n : Nat} (h : ∀ i, i < n → 0 ≤ (R i).sz ∧ (R i).sz ≤ 16777216) : ∀ k, k ≤ n → 0 ≤ sumTo R k ∧ sumTo R k ≤ k * 16777216
  | 0, _ => ⟨Int.le_refl _, by show (0 : Int) ≤ _; omega⟩
  | k + 1, hk => by
    have ih := sumTo_bd h k (by omega)
    have := h k (by omega)
    show 0 ≤ sumTo R k + (R k).sz ∧ sumTo R k + (R k).sz ≤ _
    omega
theorem mkT_in {T : Type} {Q P : Nat → T} {k i : Nat} (h : i < k) : mkT Q P k i = P i := by unfold mkT; rw [if_pos h]
theorem dif_mark {nb : Nat} {R : Nat → Rg} {C D : Nat → Nat → Nat → Int} (x : Int) : ¬ Dif nb R C (mkT D C nb) x := by
  rintro ⟨i, j, k, hi, _, _, h, _⟩
  rw [mkT_in hi] at h
  exact h rfl
/-- A store into the first of two memories. -/
theorem c_Store2 (N gm gz nb : Nat) (R : Nat → Rg) (C D E F : Nat → Nat → Nat → Int) (a n v : Int) (w : World) (hT : Two w N gm gz nb R C D E F) (h4 : 0 ≤ a) (h5 : a ≤ 4294967295) (h6 : 0 ≤ v) (h7 : v ≤ 4294967295) :
    Calls Try.prog 21 #[.pointer (some ⟨gm, 0, none⟩), .int .u32 a, .int .i64 n, .int .u32 v] w fun e w' => ∃ c, e = .returned (.int .i64 c) ∧ (∃ C', Two w' N gm gz nb R C' D E F) ∧ Below N w w' := by
  obtain ⟨A, M, B, K, k1, k2, k3, k4, k5, k6, k7, k8, k9⟩ := hT
  refine (c_mStore A M gm nb R C D a n v w k1 h4 h5 h6 h7).mono ?_
  rintro e w' ⟨c, rfl, hS⟩
  refine ⟨c, rfl, ?_⟩
  rcases hS with ⟨_, hb, _⟩ | ⟨_, i, _, _, hM, hF⟩
  · exact ⟨⟨C, Two.next ⟨A, M, B, K, k1, k2, k3, k4, k5, k6, k7, k8, k9⟩ hb⟩, hb.mono k9⟩
  · exact ⟨⟨_, Two.step (C := C) (D := D) k2 k3 k4 k5 k6 k7 k8 k9 hM hF⟩, hF.below k9 k7⟩
theorem Two.fst {w : World} {N gm gz nb : Nat} {R : Nat → Rg} {C D E F : Nat → Nat → Nat → Int} (h : Two w N gm gz nb R C D E F) : ∃ A M, Mm w A M gm nb R C D := by
  obtain ⟨A, M, B, K, k1, _⟩ := h
  exact ⟨A, M, k1⟩
theorem Two.snd {w : World} {N gm gz nb : Nat} {R : Nat → Rg} {C D E F : Nat → Nat → Nat → Int} (h : Two w N gm gz nb R C D E F) : ∃ A M, Mm w A M gz nb R E F := by
  obtain ⟨A, M, B, K, k1, k2, _⟩ := h
  exact ⟨B, K, k2⟩
theorem cnt_le (p : Nat → Bool) : ∀ n, cnt p n ≤ n
  | 0 => Nat.le_refl _
  | n + 1 => by have := cnt_le p n; unfold cnt; split <;> omega
theorem told_bd {dif : Nat → Nat → Bool} {sz : Nat → Nat} {n : Nat} (h : ∀ i, i < n → sz i ≤ 16777216) : ∀ i, i ≤ n → toldI dif sz i ≤ i * 16777216
  | 0, _ => Nat.zero_le _
  | i + 1, hi => by
    have h1 := told_bd (dif := dif) h i (by omega)
    have h2 := cnt_le (dif i) (sz i)
    have h3 := h i (by omega)
    have e : toldI dif sz (i + 1) = toldI dif sz i + cnt (dif i) (sz i) := rfl
    rw [e, Nat.succ_mul]
    omega
/-- What stands all through the last loops. -/
def St (w wr : World) (N gm gz nb : Nat) (R : Nat → Rg) (C D E F : Nat → Nat → Nat → Int) (a : Option Addr) (L : List (Int × Int)) : Prop := GapIn wr a L ∧ Two wr N gm gz nb R C D E F ∧ Below w.heap.size w wr
theorem St.next {w wr w' : World} {N gm gz nb : Nat} {R : Nat → Rg} {C D E F : Nat → Nat → Nat → Int} {a : Option Addr} {L : List (Int × Int)} (h : St w wr N gm gz nb R C D E F a L) (hb : Below wr.heap.size wr w') : St w w' N gm gz nb R C D E F a L :=
  ⟨h.1.next hb, h.2.1.next hb, below_on h.2.2 hb h.2.2.size⟩
theorem sumG_app (L M : List (Int × Int)) : sumG (L ++ M) = sumG L + sumG M := by unfold sumG; rw [List.map_append, List.sum_append]
theorem sumG_nn {L : List (Int × Int)} (h : ∀ g ∈ L, 1 ≤ g.2) : 0 ≤ sumG L := by
  induction L with
  | nil => exact Int.le_refl _
  | cons g l ih =>
    have h1 := ih (fun k hk => h k (by simp [hk]))
    have h2 := h g (by simp)
    show 0 ≤ g.2 + sumG l
    omega
theorem sumG_take {L : List (Int × Int)} (h : ∀ g ∈ L, 1 ≤ g.2) (j : Nat) : 0 ≤ sumG (L.take j) ∧ sumG (L.take j) ≤ sumG L := by
  have e := sumG_app (L.take j) (L.drop j)
  rw [List.take_append_drop] at e
  have h1 := sumG_nn (L := L.take j) (fun g hg => h g (List.mem_of_mem_take hg))
  have h2 := sumG_nn (L := L.drop j) (fun g hg => h g (List.mem_of_mem_drop hg))
  omega
theorem sumG_snoc {L : List (Int × Int)} {j : Nat} {x : Int × Int} (h : L[j]? = some x) : sumG (L.take (j + 1)) = sumG (L.take j) + x.2 := by
  rw [List.take_add_one, h, sumG_app]
  simp [sumG]
theorem StoreN.ex {w w' : World} {N gm nb : Nat} {R : Nat → Rg} {C D : Nat → Nat → Nat → Int} {a n v e : Int} (h : StoreN w w' N gm nb R C D a n v e) : ∃ C', MmN w' N gm nb R C' D := by
  rcases h with ⟨_, h, _⟩ | ⟨_, i, _, _, h⟩
  · exact ⟨_, h⟩
  · exact ⟨_, h⟩
set_option maxHeartbeats 16000000 in
theorem changes_walk (a : Option Addr) (n cap : Nat) (R : Nat → Rg) (ab : Option Addr) (nb capb : Nat) (Kb Ab Nb Wb : Nat → Int) (aa : Option Addr) (na capa : Nat) (Ka Aa Na Wa : Nat → Int) (w : World) (hm : n ≤ maxLen) (hR : RSO w a n cap R) (hbd : RgBd R n)
    (hmb : nb ≤ maxLen) (hB : ASO w ab nb capb Kb Ab Nb Wb) (hBb : ABd nb Ab Nb Wb) (hma : na ≤ maxLen) (hA : ASO w aa na capa Ka Aa Na Wa) (hAb : ABd na Aa Na Wa) :
    Calls Try.prog 5 #[.slice a n cap, .slice ab nb capb, .slice aa na capa] w fun e w' => e = .returned (.bool true) ∧ Below w.heap.size w w' := by
  have HR := Lib.hid hR
  have HBD := Lib.hid hbd
  have HMx := Lib.hid hm
  have HB := Lib.hid hB
  have HBb := Lib.hid hBb
  have HA := Lib.hid hA
  have HAb := Lib.hid hAb
  unfold maxLen at hmb hma
  clear hR hbd hm hB hBb hA hAb
  go_enter Try.func5, Try.ntmps5
  go_wp2_with fail
  refine (c_works _).mono ?_
  rintro e wa ⟨rfl, hba⟩
  have HBa := Lib.hid hba
  have HRa := Lib.hid (HR.out.next hba)
  clear hba
  go_wp2_with fail
  refine (c_New a n cap R _ HMx.out HRa.out HBD.out).mono ?_
  rintro e wb hN
  rcases hN with ⟨hne, rfl, hbb⟩ | ⟨hc0, gm, rfl, hgm, hMm, hbb⟩
  · have hcd : (chkI R n == 0) = false := beq_no hne
    have HBb' : Hid (Below w.heap.size w wb) := below_on HBa.out hbb HBa.out.size
    clear hbb hne
    go_wp2_with fail
    all_goals first
      | (exfalso; clear HR HBD HRa HBa HBb' HMx HB HBb HA HAb; simp_all; done)
      | (go_ret; refine ⟨ret_b ?_, HBb'.out⟩; clear HR HBD HRa HBa HBb' HMx HB HBb HA HAb; simp_all; done)
  · have HBN : Hid (Below w.heap.size w wb) := below_on HBa.out hbb HBa.out.size
    have HM : Hid (MmN wb w.heap.size gm n R zC zC) := ⟨hMm.weak (fun b hb => by have := HBa.out.size; omega) (fun b hb => by have := HBa.out.size; omega), HBN.out.size⟩
    have hn16 : n ≤ 16 := (chk_ok hc0).1
    have HOk := Lib.hid (chk_ok hc0).2
    have HSz : Hid (∀ i, i < n → 0 ≤ (R i).sz ∧ (R i).sz ≤ 16777216) := fun i hi => by have := rg_bd (okTo_rg HOk.out i hi); omega
    clear hbb hMm hgm hc0
    go_wp2_with fail
    go_loopw [9, 10] (fun s i wr => ∃ k : Nat, k ≤ n ∧ i = .int .i64 k ∧ s = .int .i64 (sumTo R k) ∧ Hid (wr = wb)) (fun _ i _ => n - (intOf i).toNat)
    case atStart => exact ⟨0, Nat.zero_le _, rfl, rfl, rfl⟩
    case round =>
      obtain ⟨k, hk, rfl, rfl, HW⟩ := hrel
      obtain rfl : wr = wb := HW.out
      have hsb := sumTo_bd HSz.out k hk
      by_cases hlt : k < n
      · obtain ⟨hs0, hs1⟩ := HSz.out k hlt
        obtain ⟨b, off, rfl, hle, hRS⟩ : ∃ b off, a = some ⟨b, off, none⟩ ∧ n ≤ cap ∧ RS w b off n R := HR.out.resolve_left (by omega)
        have x2 := (hRS.next HBN.out k hlt).2.2.1
        clear hRS
        generalize hss : sumTo R k = s at hsb ⊢
        have hss' : sumTo R (k + 1) = s + (R k).sz := by rw [← hss]; rfl
        clear hss
        obtain ⟨hs2, hs3⟩ := hsb
        go_wp2_with fail
        go_roundw
        case rel => exact ⟨k + 1, by omega, by go_num, by rw [hss'], trivial⟩
        case measure => simp [intOf]; omega
      · obtain rfl : k = n := by omega
        clear hk hlt
        generalize hss : sumTo R k = s at hsb ⊢
        clear hss
        obtain ⟨hs2, hs3⟩ := hsb
        by_cases hbig : 4096 < s
        · have hbd' : decide (4096 < s) = true := by simp [hbig]
          go_wp2_with fail
          go_ret
          exact ⟨rfl, HBN.out⟩
        · have hbd' : decide (4096 < s) = false := by simp; omega
          clear hbig hs2 hs3
          go_wp2_with fail
          go_loopw [11] (fun i wr => ∃ q : Nat, q ≤ nb ∧ i = .int .i64 q ∧ Hid (∃ C, MmN wr w.heap.size gm k R C zC) ∧ Hid (Below w.heap.size w wr)) (fun i _ => nb - (intOf i).toNat)
          case atStart => exact ⟨0, Nat.zero_le _, rfl, ⟨_, HM.out⟩, HBN⟩
          case round =>
            clear hbd'
            obtain ⟨q, hq, rfl, HMr, HBr⟩ := hrel
            by_cases hlq : q < nb
            · obtain ⟨b, off, rfl, hle, hAS⟩ : ∃ b off, ab = some ⟨b, off, none⟩ ∧ nb ≤ capb ∧ AS w b off nb Kb Ab Nb Wb := HB.out.resolve_left (by omega)
              obtain ⟨⟨a0, a1⟩, ⟨a2, a3⟩, ⟨a4, a5⟩⟩ := HBb.out q hlq
              have HAS : Hid (∀ wx, Below w.heap.size w wx → wx.cell? ⟨b, off + q * 5 + 1, none⟩ = some (.int .u32 (Ab q)) ∧ wx.cell? ⟨b, off + q * 5 + 2, none⟩ = some (.int .i64 (Nb q)) ∧ wx.cell? ⟨b, off + q * 5 + 3, none⟩ = some (.int .u32 (Wb q))) := fun wx hb => (hAS.next hb q hlq).2
              obtain ⟨C, hMC⟩ := HMr.out
              have HMC := Lib.hid hMC
              have hq0 : (0 : Int) ≤ (q : Int) := by omega
              have hq1 : (q : Int) < (nb : Int) := by omega
              have hS0 := HAS.out wr HBr.out
              clear hAS hMC
              go_wp2_with fail
              go_region_held3 (fun w' => w'.cell? ⟨b, off + q * 5 + 1, none⟩ = some (.int .u32 (Ab q)) ∧ w'.cell? ⟨b, off + q * 5 + 2, none⟩ = some (.int .i64 (Nb q)) ∧ w'.cell? ⟨b, off + q * 5 + 3, none⟩ = some (.int .u32 (Wb q)))
                (first
                  | exact hS0
                  | exact HAS.out _ HB1.out)
                (first
                  | (go_at_call 21
                     refine (c_StoreN w.heap.size gm k R C zC (Ab q) (Nb q) (Wb q) _ (HMC.out.next (Below.refl _ _).drew) a0 a1 a4 a5).mono ?_
                     rintro e w1 ⟨c, rfl, hS, hb1⟩
                     have HB1 : Hid (Below w.heap.size w w1) := (HBr.out.trans ((Below.refl _ _).drew)).trans hb1
                     have HM1 : Hid (∃ C, MmN w1 w.heap.size gm k R C zC) := hS.ex))
              go_wp2_with fail
              go_roundw
              case rel => exact ⟨q + 1, by omega, by go_num, HM1, HB1⟩
              case measure => simp [intOf]; omega
            · obtain rfl : q = nb := by omega
              obtain ⟨C0, hMC⟩ := HMr.out
              have HMC := Lib.hid hMC
              clear hMC HMr hlq hq
              go_wp2_with fail
              refine (c_mMark _ _ gm k R C0 zC _ HMC.out.1).mono ?_
              rintro e w1 ⟨rfl, hM1, hF1⟩
              have HB1 : Hid (Below w.heap.size w w1) := HBr.out.trans (hF1.below HMC.out.2 (fun b hb => hb))
              have HM1 : Hid (MmN w1 w.heap.size gm k R C0 (mkT zC C0 k)) := ⟨hM1, HB1.out.size⟩
              clear hM1 hF1
              go_wp2_with fail
              refine (c_mClone _ _ w.heap.size gm k R C0 (mkT zC C0 k) _ HM1.out.1 (fun b hb => hb) HM1.out.2).mono ?_
              rintro e w2 ⟨rfl, hT, hb2⟩
              have HB2 : Hid (Below w.heap.size w w2) := below_on HB1.out hb2 HB1.out.size
              have HT := Lib.hid hT
              generalize hgz : w1.heap.size = gz at HT ⊢
              clear hT hb2 hgz
              go_wp2_with fail
              obtain ⟨A2, M2, hM2⟩ := HT.out.fst
              refine (c_Changed A2 M2 gm k R _ _ _ (by exact hM2)).mono ?_
              rintro e w3 ⟨v6, L, hi, rfl, hG6, hW6, hcov, hb6⟩
              obtain rfl : L = [] := Wf.uniq hW6 (show Wf 0 [] 0 from Int.le_refl _) (fun x => ⟨fun h => absurd ((hcov x).1 h) (dif_mark x), fun h => absurd h (cov_nil x)⟩)
              obtain ⟨a6, cap6, rfl, hcap6, hI6⟩ := hG6.gapIn
              have HB3 : Hid (Below w.heap.size w w3) := below_on HB2.out hb6 HB2.out.size
              have HT3 : Hid (Two w3 w.heap.size gm gz k R C0 (mkT zC C0 k) C0 (mkT zC C0 k)) := HT.out.next hb6
              have hlen : ([] : List (Int × Int)).length = 0 := rfl
              rw [hlen]
              clear hG6 hW6 hcov hb6 hI6 hcap6 hlen hM2
              go_wp2_with fail
              go_loopw [13] (fun i wr => ∃ q : Nat, q ≤ na ∧ i = .int .i64 q ∧ Hid (∃ C, Two wr w.heap.size gm gz k R C (mkT zC C0 k) C0 (mkT zC C0 k)) ∧ Hid (Below w.heap.size w wr)) (fun i _ => na - (intOf i).toNat)
              case atStart => exact ⟨0, Nat.zero_le _, rfl, ⟨_, HT3.out⟩, HB3⟩
              case round =>
                obtain ⟨q, hq, rfl, HMr2, HBr2⟩ := hrel
                by_cases hlq : q < na
                · obtain ⟨b, off, rfl, hle, hAS⟩ : ∃ b off, aa = some ⟨b, off, none⟩ ∧ na ≤ capa ∧ AS w b off na Ka Aa Na Wa := HA.out.resolve_left (by omega)
                  obtain ⟨⟨a0, a1⟩, ⟨a2, a3⟩, ⟨a4, a5⟩⟩ := HAb.out q hlq
                  have HAS : Hid (∀ wx, Below w.heap.size w wx → wx.cell? ⟨b, off + q * 5 + 1, none⟩ = some (.int .u32 (Aa q)) ∧ wx.cell? ⟨b, off + q * 5 + 2, none⟩ = some (.int .i64 (Na q)) ∧ wx.cell? ⟨b, off + q * 5 + 3, none⟩ = some (.int .u32 (Wa q))) := fun wx hb => (hAS.next hb q hlq).2
                  obtain ⟨C, hMC⟩ := HMr2.out
                  have HMC2 := Lib.hid hMC
                  have hq0 : (0 : Int) ≤ (q : Int) := by omega
                  have hq1 : (q : Int) < (na : Int) := by omega
                  have hS0 := HAS.out wr HBr2.out
                  clear hAS hMC
                  go_wp2_with fail
                  go_region_held3 (fun w' => w'.cell? ⟨b, off + q * 5 + 1, none⟩ = some (.int .u32 (Aa q)) ∧ w'.cell? ⟨b, off + q * 5 + 2, none⟩ = some (.int .i64 (Na q)) ∧ w'.cell? ⟨b, off + q * 5 + 3, none⟩ = some (.int .u32 (Wa q)))
                    (first
                      | exact hS0
                      | exact HAS.out _ HB1.out)
                    (first
                      | (go_at_call 21
                         refine (c_Store2 w.heap.size gm gz k R C (mkT zC C0 k) C0 (mkT zC C0 k) (Aa q) (Na q) (Wa q) _ (HMC2.out.next (Below.refl _ _).drew) a0 a1 a4 a5).mono ?_
                         rintro e w1 ⟨c, rfl, hS, hb1⟩
                         have HB1 : Hid (Below w.heap.size w w1) := (HBr2.out.trans ((Below.refl _ _).drew)).trans hb1
                         have HM1 : Hid (∃ C, Two w1 w.heap.size gm gz k R C (mkT zC C0 k) C0 (mkT zC C0 k)) := hS))
                  go_wp2_with fail
                  go_roundw
                  case rel => exact ⟨q + 1, by omega, by go_num, HM1, HB1⟩
                  case measure => simp [intOf]; omega
                · obtain rfl : q = na := by omega
                  obtain ⟨C, hTr⟩ := HMr2.out
                  obtain ⟨A4, M4, hM4⟩ := hTr.fst
                  have HTr := Lib.hid hTr
                  clear hTr HMr2 hlq hq
                  go_wp2_with fail
                  refine (c_Changed A4 M4 gm k R _ _ _ (by exact hM4)).mono ?_
                  rintro e w4 ⟨v6, L, hi, rfl, hG6, hW6, hcov, hb6⟩
                  obtain ⟨a6, cap6, rfl, hcap6, hI6⟩ := hG6.gapIn
                  have HB4 : Hid (Below w.heap.size w w4) := below_on HBr2.out hb6 HBr2.out.size
                  have HT4 : Hid (Two w4 w.heap.size gm gz k R C (mkT zC C0 k) C0 (mkT zC C0 k)) := HTr.out.next hb6
                  have HW6 := Lib.hid hW6
                  have HCov := Lib.hid hcov
                  have HTl := Lib.hid hM4.tail
                  obtain ⟨hWf, hGb, hLl⟩ := ch_bd HOk.out hM4.tail hcov hW6
                  have HWf := Lib.hid hWf
                  have HGb := Lib.hid hGb
                  have HI6 := Lib.hid hI6
                  clear hG6 hW6 hcov hb6 hM4 hWf hGb hI6
                  go_wp2_with fail
                  go_loopw [15] (fun i wr => ∃ p : Nat, (p + 1 ≤ L.length ∨ p = 0) ∧ i = .int .i64 ((p : Int) + 1) ∧ Hid (GapIn wr a6 L) ∧ Hid (Two wr w.heap.size gm gz k R C (mkT zC C0 k) C0 (mkT zC C0 k)) ∧ Hid (Below w.heap.size w wr)) (fun i _ => L.length + 1 - (intOf i).toNat)
                  case atStart => exact ⟨0, .inr rfl, rfl, HI6, HT4, HB4⟩
                  case round =>
                    obtain ⟨p, hp, rfl, HIr, HTr5, HBr5⟩ := hrel
                    by_cases hlp : p + 1 < L.length
                    · obtain ⟨x, hx⟩ : ∃ x, L[p]? = some x := ⟨_, List.getElem?_eq_getElem (by omega)⟩
                      obtain ⟨y, hy⟩ : ∃ y, L[p + 1]? = some y := ⟨_, List.getElem?_eq_getElem hlp⟩
                      obtain ⟨g, off, rfl, hcell⟩ := HIr.out (by omega)
                      obtain ⟨c0, c1⟩ := hcell p x hx
                      obtain ⟨d0, d1⟩ := hcell (p + 1) y hy
                      have hxy := HWf.out.two hx hy
                      obtain ⟨x1, x2, x3⟩ := HGb.out x (List.mem_of_getElem? hx)
                      obtain ⟨y1, y2, y3⟩ := HGb.out y (List.mem_of_getElem? hy)
                      obtain ⟨xf, xs⟩ := x
                      obtain ⟨yf, ys⟩ := y
                      simp only at c0 c1 d0 hxy x1 x2 x3 y1 y2 y3
                      have hcmp : decide (yf ≤ xf + xs) = false := by simp; omega
                      have hp0 : (0 : Int) ≤ (p : Int) := by omega
                      have hp1 : (p : Int) < (L.length : Int) := by omega
                      have hp2 : (p : Int) + 1 < (L.length : Int) := by omega
                      have hll : (L.length : Int) ≤ 4294967296 := by omega
                      clear hx hy hcell d1 hxy hp
                      go_wp2_with fail
                      go_quiet (fail)
                      go_wp2_with fail
                      go_roundw
                      case rel => exact ⟨p + 1, by omega, by go_num, HIr.out.next (below_drewN (Below.refl _ _) _), HTr5.out.next (below_drewN (Below.refl _ _) _), below_drewN HBr5.out _⟩
                      case measure => simp [intOf]; omega
                    · have hge : decide ((p : Int) + 1 < (L.length : Int)) = false := by simp; omega
                      clear hlp hp
                      go_wp2_with fail
                      have HS : Hid (St w wr w.heap.size gm gz k R C (mkT zC C0 k) C0 (mkT zC C0 k) a6 L) := ⟨HIr.out, HTr5.out, HBr5.out⟩
                      clear hge HIr HTr5 HBr5
                      go_loopw [16, 17] (fun s i wr => ∃ q : Nat, q ≤ k ∧ i = .int .i64 q ∧ s = .int .i64 (toldI (difB C C0) (fun i => (R i).sz.toNat) q : Nat) ∧ Hid (St w wr w.heap.size gm gz k R C (mkT zC C0 k) C0 (mkT zC C0 k) a6 L)) (fun _ i _ => k - (intOf i).toNat)
                      case atStart => exact ⟨0, Nat.zero_le _, rfl, rfl, HS⟩
                      case round =>
                        obtain ⟨q, hq, rfl, rfl, HS5⟩ := hrel
                        have hI := told_bd (dif := difB C C0) (sz := fun i => (R i).sz.toNat) (fun i hi => by have := HSz.out i hi; show (R i).sz.toNat ≤ _; omega) q hq
                        by_cases hlq : q < k
                        · obtain ⟨b, off, rfl, hle, hRS⟩ : ∃ b off, a = some ⟨b, off, none⟩ ∧ k ≤ cap ∧ RS w b off k R := HR.out.resolve_left (by omega)
                          have HRS : Hid (∀ wx, Below w.heap.size w wx → wx.cell? ⟨b, off + q * 5 + 1, none⟩ = some (.int .i64 (R q).fr) ∧ wx.cell? ⟨b, off + q * 5 + 2, none⟩ = some (.int .i64 (R q).sz)) := fun wx hb => ⟨(hRS.next hb q hlq).2.1, (hRS.next hb q hlq).2.2.1⟩
                          obtain ⟨hs0, hs1⟩ := HSz.out q hlq
                          have hq0 : (0 : Int) ≤ (q : Int) := by omega
                          have hq1 : (q : Int) < (k : Int) := by omega
                          clear hRS
                          generalize hto : toldI (difB C C0) (fun i => (R i).sz.toNat) q = to at hI ⊢
                          have HTo := Lib.hid hto
                          clear hto
                          go_wp2_with fail
                          go_loopw [16, 18] (fun s i wr => ∃ y : Nat, (y : Int) ≤ (R q).sz ∧ i = .int .i64 y ∧ s = .int .i64 ((to + cnt (difB C C0 q) y : Nat) : Int) ∧ Hid (St w wr w.heap.size gm gz k R C (mkT zC C0 k) C0 (mkT zC C0 k) a6 L)) (fun _ i _ => (R q).sz.toNat - (intOf i).toNat)
                          case atStart => exact ⟨0, hs0, rfl, rfl, HS5⟩
                          case round =>
                            obtain ⟨y, hy, rfl, rfl, HS6⟩ := hrel
                            obtain ⟨c1, c2⟩ := HRS.out _ HS6.out.2.2
                            have hcl := cnt_le (difB C C0 q) y
                            by_cases hly : (y : Int) < (R q).sz
                            · have hrg := rg_bd (okTo_rg HOk.out q hlq)
                              have hat0 : 0 ≤ (R q).fr + (y : Int) := by omega
                              have hat1 : (R q).fr + (y : Int) ≤ 4294967295 := by omega
                              obtain ⟨A6, M6, hM6⟩ := HS6.out.2.1.fst
                              have HM6 := Lib.hid hM6
                              clear hM6
                              go_wp2_with fail
                              refine (c_byteM A6 M6 gm k R C (mkT zC C0 k) q y _ HM6.out hlq hly).mono ?_
                              rintro e w7 ⟨rfl, hb7⟩
                              have HS7 := Lib.hid (HS6.out.next hb7)
                              clear hb7
                              obtain ⟨A7, M7, hM7⟩ := HS7.out.2.1.snd
                              have HM7 := Lib.hid hM7
                              clear hM7
                              go_wp2_with fail
                              refine (c_byteM A7 M7 gz k R C0 (mkT zC C0 k) q y _ HM7.out hlq hly).mono ?_
                              rintro e w8 ⟨rfl, hb8⟩
                              have HS8 := Lib.hid (HS7.out.next hb8)
                              clear hb8
                              have hdf : difB C C0 q y = decide (byte C q y ≠ byte C0 q y) := rfl
                              have hcv : covB L ((R q).fr + (y : Int)) = difB C C0 q y := cov_at HOk.out HTl.out (fun i hi => mkT_in hi) HCov.out hlq hly
                              have hcn : cnt (difB C C0 q) (y + 1) = cnt (difB C C0 q) y + (if difB C C0 q y = true then 1 else 0) := rfl
                              generalize byte C q y = va at hdf ⊢
                              generalize byte C0 q y = vb at hdf ⊢
                              generalize hat : (R q).fr + (y : Int) = at' at hat0 hat1 hcv ⊢
                              have HDf := Lib.hid hdf
                              have HCv := Lib.hid hcv
                              have HCn := Lib.hid hcn
                              have HAt := Lib.hid hat
                              clear hdf hcv hcn hat c1 c2
                              go_wp2_with fail
                              go_loopw [24, 25] (fun s i wr => ∃ j : Nat, j ≤ L.length ∧ i = .int .i64 j ∧ s = .bool (covB (L.take j) at') ∧ Hid (St w wr w.heap.size gm gz k R C (mkT zC C0 k) C0 (mkT zC C0 k) a6 L)) (fun _ i _ => L.length - (intOf i).toNat)
                              case atStart => exact ⟨0, Nat.zero_le _, rfl, rfl, HS8⟩
                              case round =>
                                obtain ⟨j, hj, rfl, rfl, HS9⟩ := hrel
                                by_cases hlj : j < L.length
                                · obtain ⟨x, hx⟩ : ∃ x, L[j]? = some x := ⟨_, List.getElem?_eq_getElem hlj⟩
                                  have htk : covB (L.take (j + 1)) at' = (covB (L.take j) at' || (decide (x.1 ≤ at') && decide (at' < x.1 + x.2))) := by
                                    rw [List.take_add_one, hx, covB_app, show (some x).toList = [x] from rfl, covB_one]
                                  obtain ⟨g, goff, rfl, hcell⟩ := HS9.out.1 (by omega)
                                  obtain ⟨d0, d1⟩ := hcell j x hx
                                  obtain ⟨x1, x2, x3⟩ := HGb.out x (List.mem_of_getElem? hx)
                                  obtain ⟨xf, xs⟩ := x
                                  simp only at htk d0 d1 x1 x2 x3
                                  have hj0 : (0 : Int) ≤ (j : Int) := by omega
                                  have hj1 : (j : Int) < (L.length : Int) := by omega
                                  have hll : (L.length : Int) ≤ 4294967296 := by omega
                                  have HX : Hid (∀ n, St w (wr.drewN n) w.heap.size gm gz k R C (mkT zC C0 k) C0 (mkT zC C0 k) (some ⟨g, goff, none⟩) L) := fun n => HS9.out.next (below_drewN (Below.refl _ _) n)
                                  clear hx hcell
                                  cases hin : covB (L.take j) at'
                                  · by_cases h1 : xf ≤ at'
                                    · have e1 : decide (xf ≤ at') = true := by simp [h1]
                                      by_cases h2 : at' < xf + xs
                                      · have e2 : decide (at' < xf + xs) = true := by simp [h2]
                                        rw [hin, e1, e2] at htk
                                        have HTk := Lib.hid htk
                                        clear htk h1 h2
                                        go_wp2_with fail
                                        go_quiet (fail)
                                        go_wp2_with fail
                                        go_roundw
                                        case rel => exact ⟨j + 1, by omega, by go_num, by rw [HTk.out]; rfl, HX.out _⟩
                                        case measure => simp [intOf]; omega
                                      · have e2 : decide (at' < xf + xs) = false := by simp; omega
                                        rw [hin, e1, e2] at htk
                                        have HTk := Lib.hid htk
                                        clear htk h1 h2
                                        go_wp2_with fail
                                        go_quiet (fail)
                                        go_wp2_with fail
                                        go_roundw
                                        case rel => exact ⟨j + 1, by omega, by go_num, by rw [HTk.out]; rfl, HX.out _⟩
                                        case measure => simp [intOf]; omega
                                    · have e1 : decide (xf ≤ at') = false := by simp; omega
                                      rw [hin, e1] at htk
                                      have HTk := Lib.hid htk
                                      clear htk h1
                                      go_wp2_with fail
                                      go_quiet (fail)
                                      go_wp2_with fail
                                      go_roundw
                                      case rel => exact ⟨j + 1, by omega, by go_num, by rw [HTk.out]; rfl, HX.out _⟩
                                      case measure => simp [intOf]; omega
                                  · rw [hin] at htk
                                    have HTk := Lib.hid htk
                                    clear htk
                                    go_wp2_with fail
                                    go_quiet (fail)
                                    go_wp2_with fail
                                    go_roundw
                                    case rel => exact ⟨j + 1, by omega, by go_num, by rw [HTk.out]; rfl, HX.out _⟩
                                    case measure => simp [intOf]; omega
                                · obtain rfl : j = L.length := by omega
                                  rw [List.take_length, HCv.out]
                                  have hge : decide ((L.length : Int) < (L.length : Int)) = false := by simp
                                  clear hj hlj
                                  by_cases e : va = vb
                                  · subst e
                                    have hdf : difB C C0 q y = false := by rw [HDf.out]; simp
                                    have HCm : Hid (cnt (difB C C0 q) (y + 1) = cnt (difB C C0 q) y) := by show _ = _; rw [HCn.out, hdf]; rfl
                                    rw [hdf]
                                    clear hdf
                                    go_wp2_with fail
                                    go_roundw
                                    case rel => exact ⟨y + 1, by omega, by go_num, by rw [HCm.out]; go_num, HS9⟩
                                    case measure => simp [intOf]; omega
                                  · have hdf : difB C C0 q y = true := by rw [HDf.out]; simp [e]
                                    have HCm : Hid (cnt (difB C C0 q) (y + 1) = cnt (difB C C0 q) y + 1) := by show _ = _; rw [HCn.out, hdf]; rfl
                                    have hvv : (va == vb) = false := beq_no e
                                    have hvn : (va != vb) = true := by simp [e]
                                    have hvd : ¬ va = vb := e
                                    rw [hdf]
                                    clear hdf e
                                    go_wp2_with fail
                                    go_roundw
                                    case rel => exact ⟨y + 1, by omega, by go_num, by rw [HCm.out]; go_num, HS9⟩
                                    case measure => simp [intOf]; omega
                            · have hge : decide ((y : Int) < (R q).sz) = false := by simp; omega
                              obtain rfl : y = (R q).sz.toNat := by omega
                              have HNx : Hid (toldI (difB C C0) (fun i => (R i).sz.toNat) (q + 1) = to + cnt (difB C C0 q) (R q).sz.toNat) := by show _ = _; rw [← HTo.out]; rfl
                              clear hy hly
                              go_wp2_with fail
                              go_roundw
                              case rel => exact ⟨q + 1, by omega, by go_num, by rw [HNx.out], HS6⟩
                              case measure => simp [intOf]; omega
                        · have hqk : q = k := by omega
                          subst hqk
                          have HSum : Hid (sumG L = (toldI (difB C C0) (fun i => (R i).sz.toNat) q : Nat)) := ch_sum HOk.out HTl.out (fun i hi => mkT_in hi) HCov.out HWf.out
                          generalize toldI (difB C C0) (fun i => (R i).sz.toNat) q = to at hI HSum ⊢
                          have hge : decide ((q : Int) < (q : Int)) = false := by simp
                          clear hq hlq
                          go_wp2_with fail
                          go_loopw [26, 27] (fun s i wr => ∃ j : Nat, j ≤ L.length ∧ i = .int .i64 j ∧ s = .int .i64 (sumG (L.take j)) ∧ Hid (St w wr w.heap.size gm gz q R C (mkT zC C0 q) C0 (mkT zC C0 q) a6 L)) (fun _ i _ => L.length - (intOf i).toNat)
                          case atStart => exact ⟨0, Nat.zero_le _, rfl, rfl, HS5⟩
                          case round =>
                            obtain ⟨j, hj, rfl, rfl, HS9⟩ := hrel
                            have hsu := HSum.out
                            by_cases hlj : j < L.length
                            · obtain ⟨x, hx⟩ : ∃ x, L[j]? = some x := ⟨_, List.getElem?_eq_getElem hlj⟩
                              have htk := sumG_snoc hx
                              obtain ⟨st0, st1⟩ := sumG_take (fun g hg => (HGb.out g hg).2.1) j
                              obtain ⟨g, goff, rfl, hcell⟩ := HS9.out.1 (by omega)
                              obtain ⟨d0, d1⟩ := hcell j x hx
                              obtain ⟨x1, x2, x3⟩ := HGb.out x (List.mem_of_getElem? hx)
                              obtain ⟨xf, xs⟩ := x
                              simp only at htk d0 d1 x1 x2 x3
                              have hj0 : (0 : Int) ≤ (j : Int) := by omega
                              have hj1 : (j : Int) < (L.length : Int) := by omega
                              have hll : (L.length : Int) ≤ 4294967296 := by omega
                              generalize hsz : sumG (L.take j) = sz at htk st0 st1 ⊢
                              have hb1 : sz ≤ 4294967296 := by omega
                              have HTk := Lib.hid htk
                              clear hx hcell htk hsz st1 hsu
                              go_wp2_with fail
                              go_roundw
                              case rel => exact ⟨j + 1, by omega, by go_num, by rw [HTk.out], HS9⟩
                              case measure => simp [intOf]; omega
                            · obtain rfl : j = L.length := by omega
                              rw [List.take_length, hsu]
                              have hge : decide ((L.length : Int) < (L.length : Int)) = false := by simp
                              clear hj hlj hsu
                              go_wp2_with fail
                              go_ret
                              exact ⟨ret_b (by simp), HS9.out.2.2⟩
end Go.Proofs.Ytbfimedgichiiaa
