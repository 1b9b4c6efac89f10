/-
  The walk over a tree again: a round is asked only at the place that comes next.
-/
import Derived.Test.YtiodghbhllfhlaaGreatDoorZTrPx
import Derived.RangeFuncNested
import Derived.RangeFuncBound
import Derived.RangeFuncCalls
import Derived.RangeFuncLeaves
import Derived.Shelf.Abstract
import Derived.Shelf.RegionOpen
import Derived.WalkKit
import Derived.OwnWalkIn
import Derived.TacticsInMore
import Derived.LoopNIn
import Derived.LoopIn
import Derived.Test.YtiodghbhllfhlaaGreatDoorZTrPo
namespace Go.Proofs.YtiodghbhllfhlaaGreatDoor
set_option linter.unusedVariables false
set_option linter.unusedSimpArgs false

/-- The places of a part and how deep they are, each whole ahead of its parts (as deep as there is fuel). -/
def wk (ps : List (List Nat)) : Nat → Nat → Nat → List (Nat × Nat)
  | 0, _, _ => []
  | f + 1, a, d => (a, d) :: ((ps[a]?).getD []).flatMap (fun q => wk ps f q (d + 1))
theorem wk_succ (ps : List (List Nat)) (f a d : Nat) {p : List Nat} (h : ps[a]? = some p) : wk ps (f + 1) a d = (a, d) :: p.flatMap (fun q => wk ps f q (d + 1)) := by
  show _ :: ((ps[a]?).getD []).flatMap _ = _
  rw [h]
  rfl
theorem flatMap_congr_mem {α β : Type} {p : List α} {f g : α → List β} (h : ∀ q ∈ p, f q = g q) : p.flatMap f = p.flatMap g := by
  induction p with
  | nil => rfl
  | cons x p ih =>
    rw [List.flatMap_cons, List.flatMap_cons, h x (List.mem_cons_self ..), ih (fun q hq => h q (List.mem_cons_of_mem _ hq))]
/-- More fuel than the place is high tells no more. -/
theorem wk_fuel {ps : List (List Nat)} (hlt : ∀ (j : Nat) (p : List Nat), ps[j]? = some p → ∀ q ∈ p, q < j) : ∀ (f g a d : Nat), a < f → a < g → wk ps f a d = wk ps g a d
  | 0, _, _, _, h, _ => by omega
  | _ + 1, 0, _, _, _, h => by omega
  | f + 1, g + 1, a, d, hf, hg => by
    cases hp : ps[a]? with
    | none =>
      show _ :: ((ps[a]?).getD []).flatMap _ = _ :: ((ps[a]?).getD []).flatMap _
      rw [hp]
      rfl
    | some p =>
      rw [wk_succ ps f a d hp, wk_succ ps g a d hp]
      congr 1
      exact flatMap_congr_mem fun q hq => wk_fuel hlt f g q (d + 1) (by have := hlt a p hp q hq; omega) (by have := hlt a p hp q hq; omega)
/-- The places from one to another that are such. -/
def cnR (P : Nat → Bool) (lo hi : Nat) : Nat := (List.range' lo (hi - lo)).countP P
theorem cnR_self (P : Nat → Bool) (lo : Nat) : cnR P lo lo = 0 := by unfold cnR; rw [Nat.sub_self]; rfl
theorem cnR_add (P : Nat → Bool) {lo mid hi : Nat} (h1 : lo ≤ mid) (h2 : mid ≤ hi) : cnR P lo hi = cnR P lo mid + cnR P mid hi := by
  unfold cnR
  rw [← List.countP_append]
  congr 1
  have := List.range'_append (s := lo) (m := mid - lo) (n := hi - mid) (step := 1)
  rw [Nat.one_mul, show lo + (mid - lo) = mid by omega, show mid - lo + (hi - mid) = hi - lo by omega] at this
  exact this.symm
theorem cnR_one (P : Nat → Bool) (a : Nat) : cnR P a (a + 1) = if P a then 1 else 0 := by
  unfold cnR
  rw [show a + 1 - a = 1 by omega]
  show [a].countP P = _
  rw [List.countP_singleton]
/-- What is gone over are the places from the beginning to the end, each once. -/
theorem wk_count {t : List NdT} {ps : List (List Nat)} {fr : List Nat} (hG : PsG t t.length ps fr) (hfl : fr.length = t.length) (hfe : ∀ (k b : Nat), fr[k]? = some b → b ≤ k) (P : Nat → Bool) :
    ∀ (f a d F : Nat), a < f → a < t.length → fr[a]? = some F → (wk ps f a d).countP (fun x => P x.1) = cnR P F (a + 1)
  | 0, a, _, _, h, _, _ => by omega
  | f + 1, a, d, F, hf, ha, hF => by
    obtain ⟨p, e1, e2, e3, e4, e5⟩ := hG.2 a t[a] ha (List.getElem?_eq_getElem ha)
    rw [wk_succ ps f a d e1, List.countP_cons]
    -- the first i parts
    have hpre : ∀ (i : Nat), i ≤ p.length → ((p.take i).flatMap (fun q => wk ps f q (d + 1))).countP (fun x => P x.1) = match i with
        | 0 => 0
        | i + 1 => cnR P F ((p[i]?).getD 0 + 1) := by
      intro i
      induction i with
      | zero => intro _; rfl
      | succ i ih =>
        intro hi
        have hpi : p[i]? = some p[i] := List.getElem?_eq_getElem (by omega)
        have hq := e5.lt i _ hpi
        have hqf : p[i] < fr.length := by omega
        obtain ⟨G, hG2⟩ : ∃ G, fr[p[i]]? = some G := ⟨fr[p[i]], List.getElem?_eq_getElem hqf⟩
        have hrec := wk_count hG hfl hfe P f p[i] (d + 1) G (by omega) (by omega) hG2
        have hGe := hfe _ _ hG2
        rw [List.take_succ_eq_append_getElem (by omega), List.flatMap_append, List.countP_append, ih (by omega)]
        show _ + ((wk ps f p[i] (d + 1) ++ []).countP _) = _
        rw [List.append_nil, hrec]
        cases i with
        | zero =>
          have := e5.hd _ hpi
          rw [hF, hG2] at this
          cases this
          show 0 + cnR P F (p[0] + 1) = cnR P F ((p[0]?).getD 0 + 1)
          rw [hpi]
          exact Nat.zero_add _
        | succ i =>
          have hpj : p[i]? = some p[i] := List.getElem?_eq_getElem (by omega)
          have h3 := e5.nx i _ _ hpj hpi
          rw [hG2] at h3
          have hGv := Option.some.inj h3
          rw [hGv]
          show cnR P F ((p[i]?).getD 0 + 1) + _ = cnR P F ((p[i + 1]?).getD 0 + 1)
          rw [hpj, hpi]
          show cnR P F (p[i] + 1) + cnR P (p[i] + 1) (p[i + 1] + 1) = cnR P F (p[i + 1] + 1)
          refine (cnR_add P ?_ (by omega)).symm
          -- the beginning lies ahead
          have : ∀ j q, p[j]? = some q → j ≤ i → F ≤ q := by
            intro j
            induction j with
            | zero =>
              intro q hq0 _
              have h5 := e5.hd q hq0
              rw [hF] at h5
              exact hfe _ _ h5.symm
            | succ j ihj =>
              intro q hqj hji
              have hpj0 : p[j]? = some p[j] := List.getElem?_eq_getElem (by omega)
              have h6 := e5.nx j _ _ hpj0 hqj
              have h7 := hfe _ _ h6
              have h8 := ihj p[j] hpj0 (by omega)
              omega
          have := this i _ hpj (Nat.le_refl _)
          omega
    have hall := hpre p.length (Nat.le_refl _)
    rw [List.take_length] at hall
    rw [hall]
    cases hl : p.length with
    | zero =>
      have hpn : p[0]? = none := List.getElem?_eq_none (by omega)
      have := e5.hd0 hpn
      rw [hF] at this
      cases this
      show 0 + _ = _
      rw [cnR_one, Nat.zero_add]
    | succ i =>
      have hpi : p[i]? = some (p[i]'(by omega)) := List.getElem?_eq_getElem (by omega)
      have h9 := e5.last i _ hpi (by omega)
      show cnR P F ((p[i]?).getD 0 + 1) + _ = _
      rw [hpi]
      show cnR P F (p[i]'(by omega) + 1) + _ = _
      have hFa := hfe _ _ hF
      have hle : F ≤ a := hFa
      rw [h9, cnR_add P hle (Nat.le_succ a), cnR_one]
theorem cnR_zero_len (t : Nat) : cnR (fun _ => true) 0 t = t := by
  unfold cnR
  rw [List.countP_true]
  simp
/-- The whole begins at the first node. -/
theorem grow_root {t : List NdT} {ps : List (List Nat)} {fr : List Nat} (h : grow t = some ps) (hb : bgn t = some fr) : 0 < t.length ∧ fr[t.length - 1]? = some 0 := by
  have ha : ∀ x ∈ t, hpB x.kind x.n = true := by
    unfold grow at h
    cases hg : grF t 0 [] [] with
    | none => rw [hg] at h; cases h
    | some r => exact fun x hx => (gr_all t 0 [] [] r (Nat.le_refl _) hg x hx).1
  rcases gr_bg t t 0 [] [] [] [] rfl Ch.start ⟨rfl, fun j x h => by omega⟩ ha with ⟨h1, h2⟩ | ⟨f', p', s', r', h1, h2, h3, _⟩
  · unfold grow at h
    rw [h1] at h
    cases h
  · obtain ⟨hg, hc⟩ := gr_pr t t 0 [] [] [] [] _ _ _ _ rfl Ch.start (Nat.le_refl _) ⟨rfl, fun j x h => by omega⟩ h1 h2
    rw [Nat.zero_add] at hg hc
    unfold grow at h
    rw [h1] at h
    by_cases hl : f'.length = 1
    · have hf0 : f'[0]? = some (f'[0]'(by omega)) := List.getElem?_eq_getElem (by omega)
      have hlt := hc.lt _ _ hf0
      have hn := (hc.nx _ _ hf0).1 (by omega)
      have hbg := hc.bg _ _ hf0
      have hz : s'[0]? = some 0 := by
        rcases hc.z with h | h
        · exact h
        · omega
      have hr : fr = r' := by
        unfold bgn at hb
        rw [h2] at hb
        simp only [] at hb
        split at hb
        · exact (Option.some.inj hb).symm
        · cases hb
      rw [hr]
      refine ⟨by omega, ?_⟩
      rw [show t.length - 1 = f'[0]'(by omega) by omega, hbg, hz]
    · have h : (if f'.length = 1 then some p' else none) = some ps := h
      rw [if_neg hl] at h
      cases h
end Go.Proofs.YtiodghbhllfhlaaGreatDoor
namespace Go.Proofs.YtiodghbhllfhlaaGreatDoor
set_option linter.unusedVariables false
set_option linter.unusedSimpArgs false
set_option maxRecDepth 100000
open Go.RowKit
attribute [local go_sem] Oper.semAt_some

theorem room_none {F : Fence} (hd : F.depth = none) (k : Nat) : F.room k := fun d h => by rw [hd] at h; cases h
theorem round_any {F : Fence} (hd : F.depth = none) {m m' : Nat} {P : Program} {l : Nat} {f : FuncId} {tmps : Array Value} {assign body : Code} {w : World} {R : Ending → World → Prop}
    (h : RoundIn F m P l f tmps assign body w R) : RoundIn F m' P l f tmps assign body w R := ⟨h.1, fun c cs _ => h.2 c cs (room_none hd _)⟩
theorem yield_any {F : Fence} (hd : F.depth = none) {m : Nat} (m' : Nat) {P : Program} {l : Nat} {args : Array Value} {W : World} {R : Ending → World → Prop} (h : YieldAt F m P l args W R) : YieldAt F m' P l args W R := by
  obtain ⟨fn, tmps, assign, body, hy, hR⟩ := h
  exact ⟨fn, tmps, assign, body, hy, round_any hd hR⟩
/-- What a round is handed: a place (below N) and how deep it is. -/
abbrev ew (N : Nat) (x : Nat × Nat) : Array Value := #[.int .i64 ((min x.1 (N - 1) : Nat) : Int), .int .i64 (x.2 : Int)]
/-- The parts lie below n₀. -/
def PtB (n₀ : Nat) (ps : List (List Nat)) (P : Nat) (w : World) : Prop := P < n₀ ∧ PtIn (fun b => b < n₀) ps P w
theorem PtB.below {n₀ : Nat} {ps : List (List Nat)} {P : Nat} {A B : World} (h : PtB n₀ ps P A) (hb : Below n₀ A B) : PtB n₀ ps P B :=
  ⟨h.1, h.2.mono hb.size (hb.block P h.1) fun b hS _ => ⟨hS, hb.block b hS⟩⟩
def KpsOk (ps : List (List Nat)) (N : Nat) : Prop := ps.length = N ∧ N ≤ 4096 ∧ ∀ (j : Nat) (p : List Nat), ps[j]? = some p → p.length ≤ 4096 ∧ ∀ q ∈ p, q < j
set_option maxHeartbeats 2000000 in
theorem under_in (F : Fence) (hd : F.depth = none) (h48 : F.fn 34) (hro : F.round = none) (l n₀ N M : Nat) (ps : List (List Nat)) (P : Nat) (hk : KpsOk ps N) (J Jx : List (Nat × Nat) → World → Prop)
    (hY : ∀ m pre x W, J pre W → pre.length < M → YieldAt F m Tryz.prog l (ew N x) W fun e W' =>
      (e = .returned (.bool true) ∧ J (pre ++ [x]) W' ∧ Below n₀ W W') ∨ (e = .returned (.bool false) ∧ Jx (pre ++ [x]) W')) :
    ∀ (f n a d : Nat) (pre : List (Nat × Nat)) (W : World), a < f → a < N → d + f ≤ 10000 → PtB n₀ ps P W → J pre W → pre.length + (wk ps f a d).length ≤ M →
      CallsIn F n Tryz.prog 34 #[.slice (some ⟨P, 0, none⟩) N N, .int .i64 (a : Int), .int .i64 (d : Int), .func (.yield l) #[] #[]] W fun e W' =>
        (e = .returned (.bool true) ∧ J (pre ++ wk ps f a d) W' ∧ Below n₀ W W') ∨ (e = .returned (.bool false) ∧ ∃ q, q <+: wk ps f a d ∧ Jx (pre ++ q) W')
  | 0, _, _, _, _, _, h, _, _, _, _, _ => by omega
  | f + 1, n, a, d, pre, W, hf, ha, hdf, hP, hJ, hM => by
    have hdd : ∀ k : Nat, (F.depth.isSome = true → 1 ≤ k) := fun k h => by rw [hd] at h; cases h
    obtain ⟨p, hp⟩ : ∃ p, ps[a]? = some p := ⟨ps[a]'(by rw [hk.1]; exact ha), List.getElem?_eq_getElem (by rw [hk.1]; exact ha)⟩
    have hkp := hk.2.2 a p hp
    have hN4 := hk.2.1
    rw [wk_succ ps f a d hp] at hM ⊢
    have ih := fun n a d pre W => under_in F hd h48 hro l n₀ N M ps P hk J Jx hY f n a d pre W
    have hmin : min a (N - 1) = a := by omega
    obtain ⟨pa, pc, c0, hpc, hpi⟩ := hP.2.row a p hp
    obtain ⟨ml, hml⟩ : ∃ ml, p.length = ml := ⟨_, rfl⟩
    rw [hml] at c0
    have hy := YieldAt.mono (hY (n - 1) pre (a, d) W hJ (by simp at hM; omega)) (R' := fun e W1 =>
        (e = .returned (.bool true) ∧ W1.cell? ⟨P, a, none⟩ = some (.slice pa ml pc) ∧ J (pre ++ [(a, d)]) W1 ∧ Below n₀ W W1) ∨ (e = .returned (.bool false) ∧ Jx (pre ++ [(a, d)]) W1))
      (fun e W1 h => h.elim (fun ⟨he, hj, hb⟩ => .inl ⟨he, (hb.cell (p := ⟨P, a, none⟩) hP.1).trans c0, hj, hb⟩) .inr)
    unfold ew at hy
    simp only [hmin] at hy
    obtain ⟨fn, tmps, assign, body, hyr, hR⟩ := hy
    have ha0 : (0 : Int) ≤ (a : Int) := by omega
    have haN : (a : Int) < (N : Int) := by omega
    have HPI := Lib.hid hpi
    have HML := Lib.hid hml
    have HM := Lib.hid hM
    have HP := Lib.hid hP
    have HKP := Lib.hid hkp
    have HIH := Lib.hid ih
    have HF : Hid (a < f + 1 ∧ a < N ∧ d + (f + 1) ≤ 10000 ∧ N ≤ 4096) := ⟨hf, ha, hdf, hN4⟩
    clear hf hdf hP hJ hM hp hkp ih hmin hpc hpi hml hN4 hk hY
    refine callsIn_of_wp Tryz.func34 rfl h48 ?_ hro
    simp only [Tryz.ntmps34, List.size_toArray, List.length_cons, List.length_nil, Nat.reduceAdd, Nat.reduceSub, Array.replicate_succ, Array.replicate_zero, List.push_toArray, List.append_toArray, List.nil_append, List.cons_append]
    gi_wp2_with (first
      | ((try refine ⟨hdd _, ?_⟩); refine hR.mono ?_; clear hR hyr; rintro e W1 (⟨rfl, c1, hJ1, hb1⟩ | ⟨rfl, hx1⟩)))
    · gi_loopw [21] (fun v wr => ∃ k : Nat, k ≤ ml ∧ v = .int .i64 (k : Int) ∧ Hid (J (pre ++ (a, d) :: (p.take k).flatMap (fun q => wk ps f q (d + 1))) wr ∧ Below n₀ W wr))
        (fun v _ => ml - (intOf v).toNat)
      case atStart => exact ⟨0, Nat.zero_le _, rfl, by simpa using hJ1, hb1⟩
      case round =>
        obtain ⟨k, hkl, rfl, HH⟩ := hrel
        by_cases hlt : k < ml
        · have dk : decide ((k : Int) < (ml : Int)) = true := by simp; omega
          obtain ⟨rb, ro, hpa, hrn, _, hri⟩ := HPI.out (by rw [HML.out]; omega)
          subst hpa
          obtain ⟨r, hr⟩ : ∃ r, p[k]? = some r := ⟨p[k]'(by rw [HML.out]; exact hlt), List.getElem?_eq_getElem (by rw [HML.out]; exact hlt)⟩
          have z1 := (HH.out.2.cell (p := ⟨rb, ro + k, none⟩) hrn).trans (hri k r hr)
          have hra := HKP.out.2 r (List.mem_of_getElem? hr)
          have hk0 : (0 : Int) ≤ (k : Int) := by omega
          have hkm : (k : Int) < (ml : Int) := by omega
          have hwd : IntKind.i64.wrap ((d : Int) + 1) = ((d + 1 : Nat) : Int) := by have := HF.out; rw [IntKind.wrap_i64]; omega
          have hwk : IntKind.i64.wrap ((k : Int) + 1) = ((k + 1 : Nat) : Int) := by have := HKP.out.1; have := HML.out; rw [IntKind.wrap_i64]; omega
          have htk : p.take (k + 1) = p.take k ++ [r] := by
            have hkp : k < p.length := by rw [HML.out]; exact hlt
            rw [List.take_succ_eq_append_getElem hkp, List.getElem_eq_iff hkp |>.2 hr]
          have hfm : (p.take (k + 1)).flatMap (fun q => wk ps f q (d + 1)) = (p.take k).flatMap (fun q => wk ps f q (d + 1)) ++ wk ps f r (d + 1) := by
            rw [htk, List.flatMap_append]
            show _ ++ (_ ++ []) = _
            rw [List.append_nil]
          have hcat : p.flatMap (fun q => wk ps f q (d + 1)) = (p.take (k + 1)).flatMap (fun q => wk ps f q (d + 1)) ++ (p.drop (k + 1)).flatMap (fun q => wk ps f q (d + 1)) := by
            rw [← List.flatMap_append, List.take_append_drop]
          have HC := Lib.hid (And.intro hfm hcat)
          have HI := Lib.hid (HIH.out (n - 1) r (d + 1) (pre ++ (a, d) :: (p.take k).flatMap (fun q => wk ps f q (d + 1))) wr (by have := HF.out; omega) (by have := HF.out; omega) (by have := HF.out; omega) (HP.out.below HH.out.2) HH.out.1 (by
            have h1 := HM.out
            rw [hcat, hfm] at h1
            simp only [List.length_append, List.length_cons] at h1 ⊢
            omega))
          have HMi : Hid (ml - (k + 1) < ml - k ∧ k + 1 ≤ ml) := ⟨by omega, by omega⟩
          clear hri hr hra htk hfm hcat hlt
          gi_wp2_with (first
            | ((try refine ⟨hdd _, ?_⟩); gi_at_call 34; refine HI.out.mono ?_; clear HI; rintro e W3 (⟨rfl, hJ3, hb3⟩ | ⟨rfl, q, hq, hx3⟩)))
          · go_roundw
            case rel => exact ⟨k + 1, HMi.out.2, rfl, by rw [HC.out.1]; simpa using hJ3, HH.out.2.trans hb3⟩
            case measure => simp [intOf]; exact HMi.out.1
          · go_ret
            refine .inr ⟨rfl, (a, d) :: ((p.take k).flatMap (fun q => wk ps f q (d + 1)) ++ q), ?_, by simpa using hx3⟩
            obtain ⟨s, hs⟩ := hq
            exact ⟨s ++ (p.drop (k + 1)).flatMap (fun q => wk ps f q (d + 1)), by rw [HC.out.2, HC.out.1, ← hs]; simp⟩
        · obtain rfl : k = ml := by omega
          have hl : p.take k = p := by rw [← HML.out]; exact List.take_length
          have HL := Lib.hid hl
          clear hl
          gi_wp2
          go_ret
          have h := HH.out
          rw [HL.out] at h
          exact .inl ⟨rfl, h.1, h.2⟩
    · go_ret
      exact .inr ⟨rfl, [(a, d)], ⟨_, rfl⟩, hx1⟩
end Go.Proofs.YtiodghbhllfhlaaGreatDoor
namespace Go.Proofs.YtiodghbhllfhlaaGreatDoor
set_option linter.unusedVariables false
set_option linter.unusedSimpArgs false
set_option maxRecDepth 100000
open Go.RowKit
attribute [local go_sem] Oper.semAt_some

/-- What the rounds of a loop are handed, one behind the other: an iterator with a bound argument. -/
def GoesOn {α : Type} (F : Fence) (n : Nat) (P : Program) (gf : Nat) (bd : Value) (encs : α → Array Value) (n₀ : Nat) (S Sp : List α → Prop) (M : Nat) (w : World) : Prop :=
  ∀ (l : Nat) (J Jx : List α → World → Prop) (W : World), Below w.heap.size w W →
    (∀ pre x W1, J pre W1 → pre.length < M → YieldAt F (n - 1) P l (encs x) W1 fun e W' =>
      (e = .returned (.bool true) ∧ J (pre ++ [x]) W' ∧ Below n₀ W1 W') ∨ (e = .returned (.bool false) ∧ Jx (pre ++ [x]) W')) →
    J [] W → CallsIn F n P gf #[bd, .func (.yield l) #[] #[]] W fun e W' => (∃ v, e = .returned v) ∧ ((∃ xs, S xs ∧ J xs W') ∨ (∃ pre, Sp pre ∧ Jx pre W'))
/-- How a loop's two blocks lie. -/
def Bk (D : Nat) (r : Loop) (W : World) : Prop := W.heap[D + 1]? = some (.loop r) ∧ W.heap[D]? = some (.deferred (some []))
theorem Bk.turn {D : Nat} {r r' : Loop} {W : World} (h : Bk D r W) : Bk D r' (W.putObj (D + 1) (.loop r')) :=
  ⟨World.putObj_heap_same (Array.getElem?_eq_some_iff.1 h.1).1, (World.putObj_heap_other (by omega)).trans h.2⟩
theorem Bk.keeps {D : Nat} {r : Loop} {W W' : World} (h : Bk D r W) (k : KeepsFrom D W W') : Bk D r W' := ⟨k.same _ _ (by omega) h.1 rfl, k.same _ _ (Nat.le_refl _) h.2 rfl⟩
theorem Bk.own {α : Type} {D : Nat} {r r' : Loop} {W : World} {I : List α → World → Prop} (hI : OwnFrom D I) {xs : List α} (h : Bk D r W) (hi : I xs W) : I xs (W.putObj (D + 1) (.loop r')) := hI.putObj _ hi (by omega) h.1 rfl
theorem Bk.below {D n₀ : Nat} {r r' : Loop} {W : World} (hn : n₀ ≤ D) (h : Bk D r W) : Below n₀ W (W.putObj (D + 1) (.loop r')) :=
  (Below.refl n₀ W).grown (grownBy_putObj' W (D + 1) (.loop r')) (by have := (Array.getElem?_eq_some_iff.1 h.1).1; omega) (fun k e => by cases e; omega)
set_option maxHeartbeats 1000000 in
theorem range_bound {α : Type} {F : Fence} {n : Nat} {P : Program} {g : Operand} {ps : Array Tmp} {assign body : Code} {Q : Exit → Act → World → Prop} {a : Act} {w : World}
    (hro : F.round = none) (hd : F.depth = none) {gf : Nat} {bd : Value} (hg : a.eval g = .func (.func gf) #[bd] #[]) (hFg : F.fn gf) (eg : ∀ args w, (callFunc gf args).run P w = .ok (.enter gf args) w)
    {encs : α → Array Value} {n₀ M : Nat} {S Sp : List α → Prop} (hn : n₀ ≤ w.heap.size) (hseq : GoesOn F (n - 1) P gf bd encs n₀ S Sp M w) (hps : ∀ x, (encs x).size = ps.size)
    (I : List α → World → Prop) (Ix : Code → List α → World → Prop) (hI : OwnFrom w.heap.size I) (hIx : ∀ c, OwnFrom w.heap.size (Ix c)) (h0 : I [] w) (a₁ : α → Act)
    (hassign : ∀ (l : Nat) (x : α) (W : World) (K : Act → World → Prop), K (a₁ x) W →
      assign.wpIn (F.inRound l) (n - 1 - 1) P (Exit.then K (fun _ _ _ => False)) { tmps := (ps.zip (encs x)).foldl (fun t (p, v) => t.setIfInBounds p v) a.tmps, defers := [] } W)
    (hbody : ∀ (l : Nat) (pre : List α) (x : α) (W : World), I pre W → pre.length < M → body.wpIn (F.inRound l) (n - 1 - 1) P (ownPostG w.heap.size (Below n₀) I Ix (pre ++ [x]) W) (a₁ x) W)
    (hdone : ∀ (D : Nat) (xs : List α) (W : World), w.heap.size ≤ D → S xs → I xs W → W.heap[D]? = some (.deferred (some [])) → Q .normal { a with defers := { target := .collected D, args := #[] } :: a.defers } W)
    (hstop : ∀ (D : Nat) (c : Code) (pre : List α) (W : World), w.heap.size ≤ D → Sp pre → Ix c pre W → W.heap[D]? = some (.deferred (some [])) → c.wpIn F n P Q { a with defers := { target := .collected D, args := #[] } :: a.defers } W) :
    (Code.rangeFunc g ps assign body).wpIn F n P Q a w := by
  refine wpIn_rangeFunc fun fn hfn => ?_
  rw [hro]
  obtain ⟨D, hD⟩ : ∃ D, w.heap.size = D := ⟨_, rfl⟩
  obtain ⟨R, hR⟩ : ∃ R : LoopState → Option Code → Loop, R = fun s p => { state := s, pending := p, fn := fn, tmps := a.tmps, params := ps, assign := assign, body := body, defers := D } := ⟨_, rfl⟩
  have hent := run_enterLoop_outer (P := P) (w := w) fn a.tmps ps assign body
  rw [hD] at hent hI hn hbody hdone hstop
  have hIx : ∀ c, OwnFrom D (Ix c) := fun c => by rw [← hD]; exact hIx c
  obtain ⟨W1, hW1⟩ : ∃ W1, (w.alloc (.deferred (some []))).alloc (.loop (R .ready none)) = W1 := ⟨_, rfl⟩
  have hent' : (Instr.enterLoop fn a.tmps ps assign body none).run P w = .ok (D + 1, [{ target := .collected D, args := #[] }]) W1 := by
    rw [← hW1, hR]
    exact hent
  have hB1 : Bk D (R .ready none) W1 := by
    have e1 : (w.alloc (.deferred (some []))).heap.size = D + 1 := by simp [hD]
    refine ⟨?_, ?_⟩
    · rw [← hW1, ← e1]
      exact World.alloc_heap_new _ _
    · rw [← hW1]
      refine (Below.heap_alloc _ _ _ (by rw [e1]; omega)).trans ?_
      rw [← hD]
      exact World.alloc_heap_new _ _
  have hI1 : I [] W1 := by rw [← hW1]; exact hI.alloc _ (hI.alloc _ h0)
  have hb1 : Below w.heap.size w W1 := by rw [← hW1]; exact ((Below.refl _ w).alloc (Nat.le_refl _) _).alloc (by simp) _
  refine ⟨D + 1, _, W1, { target := .fn (.func gf) #[], args := #[bd, .func (.yield (D + 1)) #[] #[]] }, W1, gf, #[bd, .func (.yield (D + 1)) #[] #[]], W1, hent', ?_, ?_, ?_, fun h => (by rw [hd] at h; cases h), ?_⟩
  · simp only [resolve, hg]
    simp [go_sem]
  · intro f' hf'
    simp [Target.leads] at hf'
    subst hf'
    exact hFg
  · simp [invoke, go_sem, eg]
  · refine (hseq (D + 1) (fun pre W => I pre W ∧ Bk D (R .ready none) W) (fun pre W => ∃ c, Ix c pre W ∧ Bk D (R .done (some c)) W) W1 hb1 ?_ ⟨hI1, hB1⟩).mono ?_
    · rintro pre x W ⟨hi, hk⟩ hlen
      have hy := run_yield (P := P) (args := encs x) hk.1 (by rw [hR]; exact hps x)
      have hyf : (R .ready none).fn = fn := by rw [hR]
      have hyt : (R .ready none).tmps = a.tmps := by rw [hR]
      have hyp : (R .ready none).params = ps := by rw [hR]
      have hya : (R .ready none).assign = assign := by rw [hR]
      have hyb : (R .ready none).body = body := by rw [hR]
      have hys : (R .ready none).state = .ready := by rw [hR]
      rw [hyf, hyt, hyp, hya, hyb] at hy
      refine ⟨fn, _, assign, body, hy, roundIn_of_wpIn hfn (hassign _ x W _ ⟨_, run_beginRound hk.1 hys, ?_⟩)⟩
      have hk2 := hk.turn (r' := { R .ready none with state := .busy })
      have hw2 := hk.below (r' := { R .ready none with state := .busy }) hn
      refine wpIn_mono (hbody _ pre x _ (hk.own hI hi) hlen) ?_
      have fin : ∀ (j : Option Code) (W3 : World), KeepsFrom D (W.putObj (D + 1) (.loop { R .ready none with state := .busy })) W3 →
          Bk D { R .ready none with state := .busy } W3 ∧ (Instr.endRound (D + 1) j).run P W3 = .ok (.bool j.isNone) (W3.putObj (D + 1) (.loop (R (if j.isNone then .ready else .done) j))) := fun j W3 hk3 => by
        have h3 := hk2.keeps hk3
        refine ⟨h3, ?_⟩
        have := run_endRound (P := P) j h3.1
        rw [this, hR]
      have jump : ∀ (c : Code) (W3 : World), KeepsFrom D (W.putObj (D + 1) (.loop { R .ready none with state := .busy })) W3 → Ix c (pre ++ [x]) W3 → _ := fun c W3 hk3 hi3 =>
        have h := fin (some c) W3 hk3
        (⟨_, _, h.2, .inr ⟨rfl, c, h.1.own (hIx c) hi3, h.1.turn⟩⟩ : ∃ (v : Value) (W4 : World), (Instr.endRound (D + 1) (some c)).run P W3 = .ok v W4 ∧ ((Ending.returned v = .returned (.bool true) ∧ (I (pre ++ [x]) W4 ∧ Bk D (R .ready none) W4) ∧ Below n₀ W W4) ∨ (Ending.returned v = .returned (.bool false) ∧ ∃ c, Ix c (pre ++ [x]) W4 ∧ Bk D (R .done (some c)) W4)))
      rintro e a3 W3 hp
      cases e with
      | normal =>
        obtain ⟨hk3, hkp3, hi3⟩ := hp
        have h := fin none W3 hk3
        exact ⟨_, _, h.2, .inl ⟨rfl, ⟨h.1.own hI hi3, h.1.turn⟩, (hw2.trans hkp3).trans (h.1.below hn)⟩⟩
      | ret => exact jump _ W3 hp.1 hp.2
      | exit id => exact jump _ W3 hp.1 hp.2
      | goto t => exact jump _ W3 hp.1 hp.2
      | panic ch => exact hp.elim
      | outgrown => exact hp.elim
    · rintro e W2 ⟨⟨v, rfl⟩, (⟨xs, hS, hi, hk⟩ | ⟨pre, hSp, c, hi, hk⟩)⟩
      · refine ⟨none, _, (run_endLoop (P := P) hk.1 (by rw [hR]; simp)).trans (by rw [hR]), hdone D xs _ (Nat.le_refl _) hS (hk.own hI hi) hk.turn.2⟩
      · refine ⟨some c, _, (run_endLoop (P := P) hk.1 (by rw [hR]; simp)).trans (by rw [hR]), hstop D c pre _ (Nat.le_refl _) hSp (hk.own (hIx c) hi) hk.turn.2⟩
/-- The whole, gone over. -/
def wkA (ps : List (List Nat)) : List (Nat × Nat) := wk ps (ps.length - 1 + 1) (ps.length - 1) 1
set_option maxHeartbeats 1000000 in
theorem all_goes (F : Fence) (hd : F.depth = none) (h30 : F.fn 20) (h48 : F.fn 34) (hro : F.round = none) (n n₀ N P : Nat) (ps : List (List Nat)) (hk : KpsOk ps N) (hN : 0 < N) (w : World) (hn : n₀ ≤ w.heap.size) (hP : PtB n₀ ps P w) :
    GoesOn F n Tryz.prog 20 (.slice (some ⟨P, 0, none⟩) N N) (ew N) n₀ (fun xs => xs = wkA ps) (fun pre => pre <+: wkA ps) (wkA ps).length w := by
  intro l J Jx W hW hY h0
  have hdd : ∀ k : Nat, (F.depth.isSome = true → 1 ≤ k) := fun k h => by rw [hd] at h; cases h
  have hu := under_in F hd h48 hro l n₀ N (wkA ps).length ps P hk J Jx (fun m pre x W1 hj hl => yield_any hd m (hY pre x W1 hj hl)) (ps.length - 1 + 1) (n - 1) (ps.length - 1) 1 [] W (by omega) (by rw [hk.1]; omega) (by have := hk.1; have := hk.2.1; omega) (hP.below (hW.mono hn)) h0 (by simp [wkA])
  have hl : ps.length = N := hk.1
  have HL := Lib.hid hl
  rw [hl] at hu
  have hwN : IntKind.i64.wrap ((N : Int) - 1) = ((N - 1 : Nat) : Int) := by have := hk.2.1; rw [IntKind.wrap_i64]; omega
  have HU := Lib.hid hu
  have HS : Hid (wk ps (N - 1 + 1) (N - 1) 1 = wkA ps) := by show _ = _; unfold wkA; rw [hl]
  clear hu hY h0 hk hl hP
  refine callsIn_of_wp Tryz.func20 rfl h30 ?_ hro
  simp only [Tryz.ntmps20, List.size_toArray, List.length_cons, List.length_nil, Nat.reduceAdd, Nat.reduceSub, Array.replicate_succ, Array.replicate_zero, List.push_toArray, List.append_toArray, List.nil_append, List.cons_append]
  gi_wp2_with ((try refine ⟨hdd _, ?_⟩); gi_at_call 34; refine HU.out.mono ?_; clear HU; rintro e W1 (⟨rfl, hJ1, _⟩ | ⟨rfl, q, hq, hx⟩))
  · go_end0
    rw [HS.out] at hJ1
    exact ⟨⟨_, rfl⟩, .inl ⟨_, rfl, by simpa using hJ1⟩⟩
  · go_end0
    rw [HS.out] at hq
    exact ⟨⟨_, rfl⟩, .inr ⟨q, hq, by simpa using hx⟩⟩
end Go.Proofs.YtiodghbhllfhlaaGreatDoor
namespace Go.Proofs.YtiodghbhllfhlaaGreatDoor
set_option linter.unusedVariables false
set_option linter.unusedSimpArgs false
set_option maxRecDepth 100000
open Go.RowKit
attribute [local go_sem] Oper.semAt_some

abbrev ev (x : Nat × Nat) : Array Value := #[.int .i64 (x.1 : Int), .int .i64 (x.2 : Int)]
set_option maxHeartbeats 2000000 in
theorem under_nx (F : Fence) (hd : F.depth = none) (h48 : F.fn 34) (hro : F.round = none) (l n₀ N : Nat) (T : List (Nat × Nat)) (ps : List (List Nat)) (P : Nat) (hk : KpsOk ps N) (J Jx : List (Nat × Nat) → World → Prop)
    (hY : ∀ m pre x W, J pre W → pre ++ [x] <+: T → YieldAt F m Tryz.prog l (ev x) W fun e W' =>
      (e = .returned (.bool true) ∧ J (pre ++ [x]) W' ∧ Below n₀ W W') ∨ (e = .returned (.bool false) ∧ Jx (pre ++ [x]) W')) :
    ∀ (f n a d : Nat) (pre : List (Nat × Nat)) (W : World), a < f → a < N → d + f ≤ 10000 → PtB n₀ ps P W → J pre W → pre ++ wk ps f a d <+: T →
      CallsIn F n Tryz.prog 34 #[.slice (some ⟨P, 0, none⟩) N N, .int .i64 (a : Int), .int .i64 (d : Int), .func (.yield l) #[] #[]] W fun e W' =>
        (e = .returned (.bool true) ∧ J (pre ++ wk ps f a d) W' ∧ Below n₀ W W') ∨ (e = .returned (.bool false) ∧ ∃ q, q <+: wk ps f a d ∧ Jx (pre ++ q) W')
  | 0, _, _, _, _, _, h, _, _, _, _, _ => by omega
  | f + 1, n, a, d, pre, W, hf, ha, hdf, hP, hJ, hM => by
    have hdd : ∀ k : Nat, (F.depth.isSome = true → 1 ≤ k) := fun k h => by rw [hd] at h; cases h
    obtain ⟨p, hp⟩ : ∃ p, ps[a]? = some p := ⟨ps[a]'(by rw [hk.1]; exact ha), List.getElem?_eq_getElem (by rw [hk.1]; exact ha)⟩
    have hkp := hk.2.2 a p hp
    have hN4 := hk.2.1
    rw [wk_succ ps f a d hp] at hM ⊢
    have ih := fun n a d pre W => under_nx F hd h48 hro l n₀ N T ps P hk J Jx hY f n a d pre W
    obtain ⟨pa, pc, c0, hpc, hpi⟩ := hP.2.row a p hp
    obtain ⟨ml, hml⟩ : ∃ ml, p.length = ml := ⟨_, rfl⟩
    rw [hml] at c0
    have hpx : pre ++ [(a, d)] <+: T := List.IsPrefix.trans ⟨p.flatMap (fun q => wk ps f q (d + 1)), by simp⟩ hM
    have hy := YieldAt.mono (hY (n - 1) pre (a, d) W hJ hpx) (R' := fun e W1 =>
        (e = .returned (.bool true) ∧ W1.cell? ⟨P, a, none⟩ = some (.slice pa ml pc) ∧ J (pre ++ [(a, d)]) W1 ∧ Below n₀ W W1) ∨ (e = .returned (.bool false) ∧ Jx (pre ++ [(a, d)]) W1))
      (fun e W1 h => h.elim (fun ⟨he, hj, hb⟩ => .inl ⟨he, (hb.cell (p := ⟨P, a, none⟩) hP.1).trans c0, hj, hb⟩) .inr)
    unfold ev at hy
    simp only [] at hy
    obtain ⟨fn, tmps, assign, body, hyr, hR⟩ := hy
    have ha0 : (0 : Int) ≤ (a : Int) := by omega
    have haN : (a : Int) < (N : Int) := by omega
    have HPI := Lib.hid hpi
    have HML := Lib.hid hml
    have HM := Lib.hid hM
    have HP := Lib.hid hP
    have HKP := Lib.hid hkp
    have HIH := Lib.hid ih
    have HF : Hid (a < f + 1 ∧ a < N ∧ d + (f + 1) ≤ 10000 ∧ N ≤ 4096) := ⟨hf, ha, hdf, hN4⟩
    clear hf hdf hP hJ hM hp hkp ih hpx hpc hpi hml hN4 hk hY
    refine callsIn_of_wp Tryz.func34 rfl h48 ?_ hro
    simp only [Tryz.ntmps34, List.size_toArray, List.length_cons, List.length_nil, Nat.reduceAdd, Nat.reduceSub, Array.replicate_succ, Array.replicate_zero, List.push_toArray, List.append_toArray, List.nil_append, List.cons_append]
    gi_wp2_with (first
      | ((try refine ⟨hdd _, ?_⟩); refine hR.mono ?_; clear hR hyr; rintro e W1 (⟨rfl, c1, hJ1, hb1⟩ | ⟨rfl, hx1⟩)))
    · gi_loopw [21] (fun v wr => ∃ k : Nat, k ≤ ml ∧ v = .int .i64 (k : Int) ∧ Hid (J (pre ++ (a, d) :: (p.take k).flatMap (fun q => wk ps f q (d + 1))) wr ∧ Below n₀ W wr))
        (fun v _ => ml - (intOf v).toNat)
      case atStart => exact ⟨0, Nat.zero_le _, rfl, by simpa using hJ1, hb1⟩
      case round =>
        obtain ⟨k, hkl, rfl, HH⟩ := hrel
        by_cases hlt : k < ml
        · have dk : decide ((k : Int) < (ml : Int)) = true := by simp; omega
          obtain ⟨rb, ro, hpa, hrn, _, hri⟩ := HPI.out (by rw [HML.out]; omega)
          subst hpa
          obtain ⟨r, hr⟩ : ∃ r, p[k]? = some r := ⟨p[k]'(by rw [HML.out]; exact hlt), List.getElem?_eq_getElem (by rw [HML.out]; exact hlt)⟩
          have z1 := (HH.out.2.cell (p := ⟨rb, ro + k, none⟩) hrn).trans (hri k r hr)
          have hra := HKP.out.2 r (List.mem_of_getElem? hr)
          have hk0 : (0 : Int) ≤ (k : Int) := by omega
          have hkm : (k : Int) < (ml : Int) := by omega
          have hwd : IntKind.i64.wrap ((d : Int) + 1) = ((d + 1 : Nat) : Int) := by have := HF.out; rw [IntKind.wrap_i64]; omega
          have hwk : IntKind.i64.wrap ((k : Int) + 1) = ((k + 1 : Nat) : Int) := by have := HKP.out.1; have := HML.out; rw [IntKind.wrap_i64]; omega
          have htk : p.take (k + 1) = p.take k ++ [r] := by
            have hkp : k < p.length := by rw [HML.out]; exact hlt
            rw [List.take_succ_eq_append_getElem hkp, List.getElem_eq_iff hkp |>.2 hr]
          have hfm : (p.take (k + 1)).flatMap (fun q => wk ps f q (d + 1)) = (p.take k).flatMap (fun q => wk ps f q (d + 1)) ++ wk ps f r (d + 1) := by
            rw [htk, List.flatMap_append]
            show _ ++ (_ ++ []) = _
            rw [List.append_nil]
          have hcat : p.flatMap (fun q => wk ps f q (d + 1)) = (p.take (k + 1)).flatMap (fun q => wk ps f q (d + 1)) ++ (p.drop (k + 1)).flatMap (fun q => wk ps f q (d + 1)) := by
            rw [← List.flatMap_append, List.take_append_drop]
          have HC := Lib.hid (And.intro hfm hcat)
          have HI := Lib.hid (HIH.out (n - 1) r (d + 1) (pre ++ (a, d) :: (p.take k).flatMap (fun q => wk ps f q (d + 1))) wr (by have := HF.out; omega) (by have := HF.out; omega) (by have := HF.out; omega) (HP.out.below HH.out.2) HH.out.1 (by
            have h1 := HM.out
            rw [hcat, hfm] at h1
            refine List.IsPrefix.trans ⟨(p.drop (k + 1)).flatMap (fun q => wk ps f q (d + 1)), ?_⟩ h1
            simp))
          have HMi : Hid (ml - (k + 1) < ml - k ∧ k + 1 ≤ ml) := ⟨by omega, by omega⟩
          clear hri hr hra htk hfm hcat hlt
          gi_wp2_with (first
            | ((try refine ⟨hdd _, ?_⟩); gi_at_call 34; refine HI.out.mono ?_; clear HI; rintro e W3 (⟨rfl, hJ3, hb3⟩ | ⟨rfl, q, hq, hx3⟩)))
          · go_roundw
            case rel => exact ⟨k + 1, HMi.out.2, rfl, by rw [HC.out.1]; simpa using hJ3, HH.out.2.trans hb3⟩
            case measure => simp [intOf]; exact HMi.out.1
          · go_ret
            refine .inr ⟨rfl, (a, d) :: ((p.take k).flatMap (fun q => wk ps f q (d + 1)) ++ q), ?_, by simpa using hx3⟩
            obtain ⟨s, hs⟩ := hq
            exact ⟨s ++ (p.drop (k + 1)).flatMap (fun q => wk ps f q (d + 1)), by rw [HC.out.2, HC.out.1, ← hs]; simp⟩
        · obtain rfl : k = ml := by omega
          have hl : p.take k = p := by rw [← HML.out]; exact List.take_length
          have HL := Lib.hid hl
          clear hl
          gi_wp2
          go_ret
          have h := HH.out
          rw [HL.out] at h
          exact .inl ⟨rfl, h.1, h.2⟩
    · go_ret
      exact .inr ⟨rfl, [(a, d)], ⟨_, rfl⟩, hx1⟩
/-- What the rounds of a loop are handed, one behind the other: an iterator with a bound argument. -/
def GoesNx {α : Type} (F : Fence) (n : Nat) (P : Program) (gf : Nat) (bd : Value) (encs : α → Array Value) (n₀ : Nat) (S Sp : List α → Prop) (Nx : List α → α → Prop) (w : World) : Prop :=
  ∀ (l : Nat) (J Jx : List α → World → Prop) (W : World), Below w.heap.size w W →
    (∀ pre x W1, J pre W1 → Nx pre x → YieldAt F (n - 1) P l (encs x) W1 fun e W' =>
      (e = .returned (.bool true) ∧ J (pre ++ [x]) W' ∧ Below n₀ W1 W') ∨ (e = .returned (.bool false) ∧ Jx (pre ++ [x]) W')) →
    J [] W → CallsIn F n P gf #[bd, .func (.yield l) #[] #[]] W fun e W' => (∃ v, e = .returned v) ∧ ((∃ xs, S xs ∧ J xs W') ∨ (∃ pre, Sp pre ∧ Jx pre W'))
set_option maxHeartbeats 1000000 in
theorem range_nx {α : Type} {F : Fence} {n : Nat} {P : Program} {g : Operand} {ps : Array Tmp} {assign body : Code} {Q : Exit → Act → World → Prop} {a : Act} {w : World}
    (hro : F.round = none) (hd : F.depth = none) {gf : Nat} {bd : Value} (hg : a.eval g = .func (.func gf) #[bd] #[]) (hFg : F.fn gf) (eg : ∀ args w, (callFunc gf args).run P w = .ok (.enter gf args) w)
    {encs : α → Array Value} {n₀ : Nat} {Nx : List α → α → Prop} {S Sp : List α → Prop} (hn : n₀ ≤ w.heap.size) (hseq : GoesNx F (n - 1) P gf bd encs n₀ S Sp Nx w) (hps : ∀ x, (encs x).size = ps.size)
    (I : List α → World → Prop) (Ix : Code → List α → World → Prop) (hI : OwnFrom w.heap.size I) (hIx : ∀ c, OwnFrom w.heap.size (Ix c)) (h0 : I [] w) (a₁ : α → Act)
    (hassign : ∀ (l : Nat) (x : α) (W : World) (K : Act → World → Prop), K (a₁ x) W →
      assign.wpIn (F.inRound l) (n - 1 - 1) P (Exit.then K (fun _ _ _ => False)) { tmps := (ps.zip (encs x)).foldl (fun t (p, v) => t.setIfInBounds p v) a.tmps, defers := [] } W)
    (hbody : ∀ (l : Nat) (pre : List α) (x : α) (W : World), I pre W → Nx pre x → body.wpIn (F.inRound l) (n - 1 - 1) P (ownPostG w.heap.size (Below n₀) I Ix (pre ++ [x]) W) (a₁ x) W)
    (hdone : ∀ (D : Nat) (xs : List α) (W : World), w.heap.size ≤ D → S xs → I xs W → W.heap[D]? = some (.deferred (some [])) → Q .normal { a with defers := { target := .collected D, args := #[] } :: a.defers } W)
    (hstop : ∀ (D : Nat) (c : Code) (pre : List α) (W : World), w.heap.size ≤ D → Sp pre → Ix c pre W → W.heap[D]? = some (.deferred (some [])) → c.wpIn F n P Q { a with defers := { target := .collected D, args := #[] } :: a.defers } W) :
    (Code.rangeFunc g ps assign body).wpIn F n P Q a w := by
  refine wpIn_rangeFunc fun fn hfn => ?_
  rw [hro]
  obtain ⟨D, hD⟩ : ∃ D, w.heap.size = D := ⟨_, rfl⟩
  obtain ⟨R, hR⟩ : ∃ R : LoopState → Option Code → Loop, R = fun s p => { state := s, pending := p, fn := fn, tmps := a.tmps, params := ps, assign := assign, body := body, defers := D } := ⟨_, rfl⟩
  have hent := run_enterLoop_outer (P := P) (w := w) fn a.tmps ps assign body
  rw [hD] at hent hI hn hbody hdone hstop
  have hIx : ∀ c, OwnFrom D (Ix c) := fun c => by rw [← hD]; exact hIx c
  obtain ⟨W1, hW1⟩ : ∃ W1, (w.alloc (.deferred (some []))).alloc (.loop (R .ready none)) = W1 := ⟨_, rfl⟩
  have hent' : (Instr.enterLoop fn a.tmps ps assign body none).run P w = .ok (D + 1, [{ target := .collected D, args := #[] }]) W1 := by
    rw [← hW1, hR]
    exact hent
  have hB1 : Bk D (R .ready none) W1 := by
    have e1 : (w.alloc (.deferred (some []))).heap.size = D + 1 := by simp [hD]
    refine ⟨?_, ?_⟩
    · rw [← hW1, ← e1]
      exact World.alloc_heap_new _ _
    · rw [← hW1]
      refine (Below.heap_alloc _ _ _ (by rw [e1]; omega)).trans ?_
      rw [← hD]
      exact World.alloc_heap_new _ _
  have hI1 : I [] W1 := by rw [← hW1]; exact hI.alloc _ (hI.alloc _ h0)
  have hb1 : Below w.heap.size w W1 := by rw [← hW1]; exact ((Below.refl _ w).alloc (Nat.le_refl _) _).alloc (by simp) _
  refine ⟨D + 1, _, W1, { target := .fn (.func gf) #[], args := #[bd, .func (.yield (D + 1)) #[] #[]] }, W1, gf, #[bd, .func (.yield (D + 1)) #[] #[]], W1, hent', ?_, ?_, ?_, fun h => (by rw [hd] at h; cases h), ?_⟩
  · simp only [resolve, hg]
    simp [go_sem]
  · intro f' hf'
    simp [Target.leads] at hf'
    subst hf'
    exact hFg
  · simp [invoke, go_sem, eg]
  · refine (hseq (D + 1) (fun pre W => I pre W ∧ Bk D (R .ready none) W) (fun pre W => ∃ c, Ix c pre W ∧ Bk D (R .done (some c)) W) W1 hb1 ?_ ⟨hI1, hB1⟩).mono ?_
    · rintro pre x W ⟨hi, hk⟩ hlen
      have hy := run_yield (P := P) (args := encs x) hk.1 (by rw [hR]; exact hps x)
      have hyf : (R .ready none).fn = fn := by rw [hR]
      have hyt : (R .ready none).tmps = a.tmps := by rw [hR]
      have hyp : (R .ready none).params = ps := by rw [hR]
      have hya : (R .ready none).assign = assign := by rw [hR]
      have hyb : (R .ready none).body = body := by rw [hR]
      have hys : (R .ready none).state = .ready := by rw [hR]
      rw [hyf, hyt, hyp, hya, hyb] at hy
      refine ⟨fn, _, assign, body, hy, roundIn_of_wpIn hfn (hassign _ x W _ ⟨_, run_beginRound hk.1 hys, ?_⟩)⟩
      have hk2 := hk.turn (r' := { R .ready none with state := .busy })
      have hw2 := hk.below (r' := { R .ready none with state := .busy }) hn
      refine wpIn_mono (hbody _ pre x _ (hk.own hI hi) hlen) ?_
      have fin : ∀ (j : Option Code) (W3 : World), KeepsFrom D (W.putObj (D + 1) (.loop { R .ready none with state := .busy })) W3 →
          Bk D { R .ready none with state := .busy } W3 ∧ (Instr.endRound (D + 1) j).run P W3 = .ok (.bool j.isNone) (W3.putObj (D + 1) (.loop (R (if j.isNone then .ready else .done) j))) := fun j W3 hk3 => by
        have h3 := hk2.keeps hk3
        refine ⟨h3, ?_⟩
        have := run_endRound (P := P) j h3.1
        rw [this, hR]
      have jump : ∀ (c : Code) (W3 : World), KeepsFrom D (W.putObj (D + 1) (.loop { R .ready none with state := .busy })) W3 → Ix c (pre ++ [x]) W3 → _ := fun c W3 hk3 hi3 =>
        have h := fin (some c) W3 hk3
        (⟨_, _, h.2, .inr ⟨rfl, c, h.1.own (hIx c) hi3, h.1.turn⟩⟩ : ∃ (v : Value) (W4 : World), (Instr.endRound (D + 1) (some c)).run P W3 = .ok v W4 ∧ ((Ending.returned v = .returned (.bool true) ∧ (I (pre ++ [x]) W4 ∧ Bk D (R .ready none) W4) ∧ Below n₀ W W4) ∨ (Ending.returned v = .returned (.bool false) ∧ ∃ c, Ix c (pre ++ [x]) W4 ∧ Bk D (R .done (some c)) W4)))
      rintro e a3 W3 hp
      cases e with
      | normal =>
        obtain ⟨hk3, hkp3, hi3⟩ := hp
        have h := fin none W3 hk3
        exact ⟨_, _, h.2, .inl ⟨rfl, ⟨h.1.own hI hi3, h.1.turn⟩, (hw2.trans hkp3).trans (h.1.below hn)⟩⟩
      | ret => exact jump _ W3 hp.1 hp.2
      | exit id => exact jump _ W3 hp.1 hp.2
      | goto t => exact jump _ W3 hp.1 hp.2
      | panic ch => exact hp.elim
      | outgrown => exact hp.elim
    · rintro e W2 ⟨⟨v, rfl⟩, (⟨xs, hS, hi, hk⟩ | ⟨pre, hSp, c, hi, hk⟩)⟩
      · refine ⟨none, _, (run_endLoop (P := P) hk.1 (by rw [hR]; simp)).trans (by rw [hR]), hdone D xs _ (Nat.le_refl _) hS (hk.own hI hi) hk.turn.2⟩
      · refine ⟨some c, _, (run_endLoop (P := P) hk.1 (by rw [hR]; simp)).trans (by rw [hR]), hstop D c pre _ (Nat.le_refl _) hSp (hk.own (hIx c) hi) hk.turn.2⟩
set_option maxHeartbeats 1000000 in
theorem all_nx (F : Fence) (hd : F.depth = none) (h30 : F.fn 20) (h48 : F.fn 34) (hro : F.round = none) (n n₀ N P : Nat) (ps : List (List Nat)) (hk : KpsOk ps N) (hN : 0 < N) (w : World) (hn : n₀ ≤ w.heap.size) (hP : PtB n₀ ps P w) :
    GoesNx F n Tryz.prog 20 (.slice (some ⟨P, 0, none⟩) N N) ev n₀ (fun xs => xs = wkA ps) (fun pre => pre <+: wkA ps) (fun pre x => pre ++ [x] <+: wkA ps) w := by
  intro l J Jx W hW hY h0
  have hdd : ∀ k : Nat, (F.depth.isSome = true → 1 ≤ k) := fun k h => by rw [hd] at h; cases h
  have hu := under_nx F hd h48 hro l n₀ N (wkA ps) ps P hk J Jx (fun m pre x W1 hj hl => yield_any hd m (hY pre x W1 hj hl)) (ps.length - 1 + 1) (n - 1) (ps.length - 1) 1 [] W (by omega) (by rw [hk.1]; omega) (by have := hk.1; have := hk.2.1; omega) (hP.below (hW.mono hn)) h0 (by simp [wkA])
  have hl : ps.length = N := hk.1
  have HL := Lib.hid hl
  rw [hl] at hu
  have hwN : IntKind.i64.wrap ((N : Int) - 1) = ((N - 1 : Nat) : Int) := by have := hk.2.1; rw [IntKind.wrap_i64]; omega
  have HU := Lib.hid hu
  have HS : Hid (wk ps (N - 1 + 1) (N - 1) 1 = wkA ps) := by show _ = _; unfold wkA; rw [hl]
  clear hu hY h0 hk hl hP
  refine callsIn_of_wp Tryz.func20 rfl h30 ?_ hro
  simp only [Tryz.ntmps20, List.size_toArray, List.length_cons, List.length_nil, Nat.reduceAdd, Nat.reduceSub, Array.replicate_succ, Array.replicate_zero, List.push_toArray, List.append_toArray, List.nil_append, List.cons_append]
  gi_wp2_with ((try refine ⟨hdd _, ?_⟩); gi_at_call 34; refine HU.out.mono ?_; clear HU; rintro e W1 (⟨rfl, hJ1, _⟩ | ⟨rfl, q, hq, hx⟩))
  · go_end0
    rw [HS.out] at hJ1
    exact ⟨⟨_, rfl⟩, .inl ⟨_, rfl, by simpa using hJ1⟩⟩
  · go_end0
    rw [HS.out] at hq
    exact ⟨⟨_, rfl⟩, .inr ⟨q, hq, by simpa using hx⟩⟩
end Go.Proofs.YtiodghbhllfhlaaGreatDoor
