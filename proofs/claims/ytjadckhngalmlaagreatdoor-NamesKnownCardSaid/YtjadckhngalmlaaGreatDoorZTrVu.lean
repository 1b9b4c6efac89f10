/-
  The walk over a tree again: a round is asked only at the place that comes next.
-/
import Derived.Test.YtjadckhngalmlaaGreatDoorZTrPx
import Derived.RangeFuncNested
import Derived.RangeFuncBound
import Derived.RangeFuncCalls
import Derived.RangeFuncLeaves
import Derived.Shelf.Abstract
import Derived.Shelf.RegionOpen
import Derived.WalkKit
import Derived.OwnWalkIn
import Derived.TacticsInMore
import Derived.LoopNIn
import Derived.LoopIn
import Derived.Test.YtjadckhngalmlaaGreatDoorZTrPo
namespace Go.Proofs.YtjadckhngalmlaaGreatDoor
set_option linter.unusedVariables false
set_option linter.unusedSimpArgs false

/-- The places of a part and how deep they are, each whole ahead of its parts (as deep as there is fuel). -/
def wk (ps : List (List Nat)) : Nat → Nat → Nat → List (Nat × Nat)
  | 0, _, _ => []
  | f + 1, a, d => (a, d) :: ((ps[a]?).getD []).flatMap (fun q => wk ps f q (d + 1))
theorem wk_succ (ps : List (List Nat)) (f a d : Nat) {p : List Nat} (h : ps[a]? = some p) : wk ps (f + 1) a d = (a, d) :: p.flatMap (fun q => wk ps f q (d + 1)) := by
  show _ :: ((ps[a]?).getD []).flatMap _ = _
  rw [h]
  rfl
/-- The places from one to another that are such. -/
def cnR (P : Nat → Bool) (lo hi : Nat) : Nat := (List.range' lo (hi - lo)).countP P
theorem cnR_self (P : Nat → Bool) (lo : Nat) : cnR P lo lo = 0 := by unfold cnR; rw [Nat.sub_self]; rfl
theorem cnR_add (P : Nat → Bool) {lo mid hi : Nat} (h1 : lo ≤ mid) (h2 : mid ≤ hi) : cnR P lo hi = cnR P lo mid + cnR P mid hi := by
  unfold cnR
  rw [← List.countP_append]
  congr 1
  have := List.range'_append (s := lo) (m := mid - lo) (n := hi - mid) (step := 1)
  rw [Nat.one_mul, show lo + (mid - lo) = mid by omega, show mid - lo + (hi - mid) = hi - lo by omega] at this
  exact this.symm
theorem cnR_one (P : Nat → Bool) (a : Nat) : cnR P a (a + 1) = if P a then 1 else 0 := by
  unfold cnR
  rw [show a + 1 - a = 1 by omega]
  show [a].countP P = _
  rw [List.countP_singleton]
/-- What is gone over are the places from the beginning to the end, each once. -/
theorem wk_count {t : List NdT} {ps : List (List Nat)} {fr : List Nat} (hG : PsG t t.length ps fr) (hfl : fr.length = t.length) (hfe : ∀ (k b : Nat), fr[k]? = some b → b ≤ k) (P : Nat → Bool) :
    ∀ (f a d F : Nat), a < f → a < t.length → fr[a]? = some F → (wk ps f a d).countP (fun x => P x.1) = cnR P F (a + 1)
  | 0, a, _, _, h, _, _ => by omega
  | f + 1, a, d, F, hf, ha, hF => by
    obtain ⟨p, e1, e2, e3, e4, e5⟩ := hG.2 a t[a] ha (List.getElem?_eq_getElem ha)
    rw [wk_succ ps f a d e1, List.countP_cons]
    -- the first i parts
    have hpre : ∀ (i : Nat), i ≤ p.length → ((p.take i).flatMap (fun q => wk ps f q (d + 1))).countP (fun x => P x.1) = match i with
        | 0 => 0
        | i + 1 => cnR P F ((p[i]?).getD 0 + 1) := by
      intro i
      induction i with
      | zero => intro _; rfl
      | succ i ih =>
        intro hi
        have hpi : p[i]? = some p[i] := List.getElem?_eq_getElem (by omega)
        have hq := e5.lt i _ hpi
        have hqf : p[i] < fr.length := by omega
        obtain ⟨G, hG2⟩ : ∃ G, fr[p[i]]? = some G := ⟨fr[p[i]], List.getElem?_eq_getElem hqf⟩
        have hrec := wk_count hG hfl hfe P f p[i] (d + 1) G (by omega) (by omega) hG2
        have hGe := hfe _ _ hG2
        rw [List.take_succ_eq_append_getElem (by omega), List.flatMap_append, List.countP_append, ih (by omega)]
        show _ + ((wk ps f p[i] (d + 1) ++ []).countP _) = _
        rw [List.append_nil, hrec]
        cases i with
        | zero =>
          have := e5.hd _ hpi
          rw [hF, hG2] at this
          cases this
          show 0 + cnR P F (p[0] + 1) = cnR P F ((p[0]?).getD 0 + 1)
          rw [hpi]
          exact Nat.zero_add _
        | succ i =>
          have hpj : p[i]? = some p[i] := List.getElem?_eq_getElem (by omega)
          have h3 := e5.nx i _ _ hpj hpi
          rw [hG2] at h3
          have hGv := Option.some.inj h3
          rw [hGv]
          show cnR P F ((p[i]?).getD 0 + 1) + _ = cnR P F ((p[i + 1]?).getD 0 + 1)
          rw [hpj, hpi]
          show cnR P F (p[i] + 1) + cnR P (p[i] + 1) (p[i + 1] + 1) = cnR P F (p[i + 1] + 1)
          refine (cnR_add P ?_ (by omega)).symm
          -- the beginning lies ahead
          have : ∀ j q, p[j]? = some q → j ≤ i → F ≤ q := by
            intro j
            induction j with
            | zero =>
              intro q hq0 _
              have h5 := e5.hd q hq0
              rw [hF] at h5
              exact hfe _ _ h5.symm
            | succ j ihj =>
              intro q hqj hji
              have hpj0 : p[j]? = some p[j] := List.getElem?_eq_getElem (by omega)
              have h6 := e5.nx j _ _ hpj0 hqj
              have h7 := hfe _ _ h6
              have h8 := ihj p[j] hpj0 (by omega)
              omega
          have := this i _ hpj (Nat.le_refl _)
          omega
    have hall := hpre p.length (Nat.le_refl _)
    rw [List.take_length] at hall
    rw [hall]
    cases hl : p.length with
    | zero =>
      have hpn : p[0]? = none := List.getElem?_eq_none (by omega)
      have := e5.hd0 hpn
      rw [hF] at this
      cases this
      show 0 + _ = _
      rw [cnR_one, Nat.zero_add]
    | succ i =>
      have hpi : p[i]? = some (p[i]'(by omega)) := List.getElem?_eq_getElem (by omega)
      have h9 := e5.last i _ hpi (by omega)
      show cnR P F ((p[i]?).getD 0 + 1) + _ = _
      rw [hpi]
      show cnR P F (p[i]'(by omega) + 1) + _ = _
      have hFa := hfe _ _ hF
      have hle : F ≤ a := hFa
      rw [h9, cnR_add P hle (Nat.le_succ a), cnR_one]
theorem cnR_zero_len (t : Nat) : cnR (fun _ => true) 0 t = t := by
  unfold cnR
  rw [List.countP_true]
  simp
/-- The whole begins at the first node. -/
theorem grow_root {t : List NdT} {ps : List (List Nat)} {fr : List Nat} (h : grow t = some ps) (hb : bgn t = some fr) : 0 < t.length ∧ fr[t.length - 1]? = some 0 := by
  have ha : ∀ x ∈ t, hpB x.kind x.n = true := by
    unfold grow at h
    cases hg : grF t 0 [] [] with
    | none => rw [hg] at h; cases h
    | some r => exact fun x hx => (gr_all t 0 [] [] r (Nat.le_refl _) hg x hx).1
  rcases gr_bg t t 0 [] [] [] [] rfl Ch.start ⟨rfl, fun j x h => by omega⟩ ha with ⟨h1, h2⟩ | ⟨f', p', s', r', h1, h2, h3, _⟩
  · unfold grow at h
    rw [h1] at h
    cases h
  · obtain ⟨hg, hc⟩ := gr_pr t t 0 [] [] [] [] _ _ _ _ rfl Ch.start (Nat.le_refl _) ⟨rfl, fun j x h => by omega⟩ h1 h2
    rw [Nat.zero_add] at hg hc
    unfold grow at h
    rw [h1] at h
    by_cases hl : f'.length = 1
    · have hf0 : f'[0]? = some (f'[0]'(by omega)) := List.getElem?_eq_getElem (by omega)
      have hlt := hc.lt _ _ hf0
      have hn := (hc.nx _ _ hf0).1 (by omega)
      have hbg := hc.bg _ _ hf0
      have hz : s'[0]? = some 0 := by
        rcases hc.z with h | h
        · exact h
        · omega
      have hr : fr = r' := by
        unfold bgn at hb
        rw [h2] at hb
        simp only [] at hb
        split at hb
        · exact (Option.some.inj hb).symm
        · cases hb
      rw [hr]
      refine ⟨by omega, ?_⟩
      rw [show t.length - 1 = f'[0]'(by omega) by omega, hbg, hz]
    · have h : (if f'.length = 1 then some p' else none) = some ps := h
      rw [if_neg hl] at h
      cases h
end Go.Proofs.YtjadckhngalmlaaGreatDoor
namespace Go.Proofs.YtjadckhngalmlaaGreatDoor
set_option linter.unusedVariables false
set_option linter.unusedSimpArgs false
set_option maxRecDepth 100000
open Go.RowKit
attribute [local go_sem] Oper.semAt_some

theorem room_none {F : Fence} (hd : F.depth = none) (k : Nat) : F.room k := fun d h => by rw [hd] at h; cases h
theorem round_any {F : Fence} (hd : F.depth = none) {m m' : Nat} {P : Program} {l : Nat} {f : FuncId} {tmps : Array Value} {assign body : Code} {w : World} {R : Ending → World → Prop}
    (h : RoundIn F m P l f tmps assign body w R) : RoundIn F m' P l f tmps assign body w R := ⟨h.1, fun c cs _ => h.2 c cs (room_none hd _)⟩
theorem yield_any {F : Fence} (hd : F.depth = none) {m : Nat} (m' : Nat) {P : Program} {l : Nat} {args : Array Value} {W : World} {R : Ending → World → Prop} (h : YieldAt F m P l args W R) : YieldAt F m' P l args W R := by
  obtain ⟨fn, tmps, assign, body, hy, hR⟩ := h
  exact ⟨fn, tmps, assign, body, hy, round_any hd hR⟩
/-- The parts lie below n₀. -/
def PtB (n₀ : Nat) (ps : List (List Nat)) (P : Nat) (w : World) : Prop := P < n₀ ∧ PtIn (fun b => b < n₀) ps P w
theorem PtB.below {n₀ : Nat} {ps : List (List Nat)} {P : Nat} {A B : World} (h : PtB n₀ ps P A) (hb : Below n₀ A B) : PtB n₀ ps P B :=
  ⟨h.1, h.2.mono hb.size (hb.block P h.1) fun b hS _ => ⟨hS, hb.block b hS⟩⟩
def KpsOk (ps : List (List Nat)) (N : Nat) : Prop := ps.length = N ∧ N ≤ 4096 ∧ ∀ (j : Nat) (p : List Nat), ps[j]? = some p → p.length ≤ 4096 ∧ ∀ q ∈ p, q < j
end Go.Proofs.YtjadckhngalmlaaGreatDoor
namespace Go.Proofs.YtjadckhngalmlaaGreatDoor
set_option linter.unusedVariables false
set_option linter.unusedSimpArgs false
set_option maxRecDepth 100000
open Go.RowKit
attribute [local go_sem] Oper.semAt_some

/-- How a loop's two blocks lie. -/
def Bk (D : Nat) (r : Loop) (W : World) : Prop := W.heap[D + 1]? = some (.loop r) ∧ W.heap[D]? = some (.deferred (some []))
theorem Bk.turn {D : Nat} {r r' : Loop} {W : World} (h : Bk D r W) : Bk D r' (W.putObj (D + 1) (.loop r')) :=
  ⟨World.putObj_heap_same (Array.getElem?_eq_some_iff.1 h.1).1, (World.putObj_heap_other (by omega)).trans h.2⟩
theorem Bk.own {α : Type} {D : Nat} {r r' : Loop} {W : World} {I : List α → World → Prop} (hI : OwnFrom D I) {xs : List α} (h : Bk D r W) (hi : I xs W) : I xs (W.putObj (D + 1) (.loop r')) := hI.putObj _ hi (by omega) h.1 rfl
theorem Bk.below {D n₀ : Nat} {r r' : Loop} {W : World} (hn : n₀ ≤ D) (h : Bk D r W) : Below n₀ W (W.putObj (D + 1) (.loop r')) :=
  (Below.refl n₀ W).grown (grownBy_putObj' W (D + 1) (.loop r')) (by have := (Array.getElem?_eq_some_iff.1 h.1).1; omega) (fun k e => by cases e; omega)
/-- The whole, gone over. -/
def wkA (ps : List (List Nat)) : List (Nat × Nat) := wk ps (ps.length - 1 + 1) (ps.length - 1) 1
end Go.Proofs.YtjadckhngalmlaaGreatDoor
namespace Go.Proofs.YtjadckhngalmlaaGreatDoor
set_option linter.unusedVariables false
set_option linter.unusedSimpArgs false
set_option maxRecDepth 100000
open Go.RowKit
attribute [local go_sem] Oper.semAt_some

abbrev ev (x : Nat × Nat) : Array Value := #[.int .i64 (x.1 : Int), .int .i64 (x.2 : Int)]
end Go.Proofs.YtjadckhngalmlaaGreatDoor
