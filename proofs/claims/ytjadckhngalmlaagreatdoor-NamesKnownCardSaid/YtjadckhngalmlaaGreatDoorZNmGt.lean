/-
  A region that draws its order, in a round of a range over a function: its first operations read, the rest come in their order.
-/
import Derived.Test.YtjadckhngalmlaaGreatDoorZTrVu
import Derived.StillTail
import Derived.StillTailTactics
import Derived.RangeFuncCalls
namespace Go.Proofs.YtjadckhngalmlaaGreatDoor
set_option linter.unusedVariables false
set_option linter.unusedSimpArgs false
set_option maxRecDepth 100000
open Go.RowKit
attribute [local go_sem] Oper.semAt_some

/-- Some blocks stay. -/
structure Kz (Z : Nat → Prop) (W W' : World) : Prop where
  size : W.heap.size ≤ W'.heap.size
  same : ∀ b, Z b → W'.heap[b]? = W.heap[b]?
theorem Kz.refl (Z : Nat → Prop) (W : World) : Kz Z W W := ⟨Nat.le_refl _, fun _ _ => rfl⟩
theorem Kz.trans {Z : Nat → Prop} {A B C : World} (h : Kz Z A B) (k : Kz Z B C) : Kz Z A C := ⟨Nat.le_trans h.size k.size, fun b hb => (k.same b hb).trans (h.same b hb)⟩
theorem Kz.cell {Z : Nat → Prop} {W W' : World} (h : Kz Z W W') {p : Addr} (hp : Z p.block) : W'.cell? p = W.cell? p := by
  unfold World.cell?
  rw [h.same _ hp]
theorem Kz.below {Z : Nat → Prop} {n : Nat} (hZ : ∀ b, Z b → b < n) {W W' : World} (h : Below n W W') : Kz Z W W' := ⟨h.size, fun b hb => h.block b (hZ b hb)⟩
/-- The parts lie in such blocks. -/
def PtZ (Z : Nat → Prop) (ps : List (List Nat)) (P : Nat) (w : World) : Prop := Z P ∧ PtIn Z ps P w
theorem PtZ.kept {Z : Nat → Prop} {ps : List (List Nat)} {P : Nat} {A B : World} (h : PtZ Z ps P A) (hb : Kz Z A B) : PtZ Z ps P B :=
  ⟨h.1, h.2.mono hb.size (hb.same P h.1) fun b hS _ => ⟨hS, hb.same b hS⟩⟩
set_option maxHeartbeats 2000000 in
theorem under_nz (F : Fence) (hd : F.depth = none) (h48 : F.fn 59) (hro : F.round = none) (Z : Nat → Prop) (l N : Nat) (T : List (Nat × Nat)) (ps : List (List Nat)) (P : Nat) (hk : KpsOk ps N) (J Jx : List (Nat × Nat) → World → Prop)
    (hY : ∀ m pre x W, J pre W → pre ++ [x] <+: T → YieldAt F m Tryz.prog l (ev x) W fun e W' =>
      (e = .returned (.bool true) ∧ J (pre ++ [x]) W' ∧ Kz Z W W') ∨ (e = .returned (.bool false) ∧ Jx (pre ++ [x]) W')) :
    ∀ (f n a d : Nat) (pre : List (Nat × Nat)) (W : World), a < f → a < N → d + f ≤ 10000 → PtZ Z ps P W → J pre W → pre ++ wk ps f a d <+: T →
      CallsIn F n Tryz.prog 59 #[.slice (some ⟨P, 0, none⟩) N N, .int .i64 (a : Int), .int .i64 (d : Int), .func (.yield l) #[] #[]] W fun e W' =>
        (e = .returned (.bool true) ∧ J (pre ++ wk ps f a d) W' ∧ Kz Z W W') ∨ (e = .returned (.bool false) ∧ ∃ q, q <+: wk ps f a d ∧ Jx (pre ++ q) W')
  | 0, _, _, _, _, _, h, _, _, _, _, _ => by omega
  | f + 1, n, a, d, pre, W, hf, ha, hdf, hP, hJ, hM => by
    have hdd : ∀ k : Nat, (F.depth.isSome = true → 1 ≤ k) := fun k h => by rw [hd] at h; cases h
    obtain ⟨p, hp⟩ : ∃ p, ps[a]? = some p := ⟨ps[a]'(by rw [hk.1]; exact ha), List.getElem?_eq_getElem (by rw [hk.1]; exact ha)⟩
    have hkp := hk.2.2 a p hp
    have hN4 := hk.2.1
    rw [wk_succ ps f a d hp] at hM ⊢
    have ih := fun n a d pre W => under_nz F hd h48 hro Z l N T ps P hk J Jx hY f n a d pre W
    obtain ⟨pa, pc, c0, hpc, hpi⟩ := hP.2.row a p hp
    obtain ⟨ml, hml⟩ : ∃ ml, p.length = ml := ⟨_, rfl⟩
    rw [hml] at c0
    have hpx : pre ++ [(a, d)] <+: T := List.IsPrefix.trans ⟨p.flatMap (fun q => wk ps f q (d + 1)), by simp⟩ hM
    have hy := YieldAt.mono (hY (n - 1) pre (a, d) W hJ hpx) (R' := fun e W1 =>
        (e = .returned (.bool true) ∧ W1.cell? ⟨P, a, none⟩ = some (.slice pa ml pc) ∧ J (pre ++ [(a, d)]) W1 ∧ Kz Z W W1) ∨ (e = .returned (.bool false) ∧ Jx (pre ++ [(a, d)]) W1))
      (fun e W1 h => h.elim (fun ⟨he, hj, hb⟩ => .inl ⟨he, (hb.cell (p := ⟨P, a, none⟩) hP.1).trans c0, hj, hb⟩) .inr)
    unfold ev at hy
    simp only [] at hy
    obtain ⟨fn, tmps, assign, body, hyr, hR⟩ := hy
    have ha0 : (0 : Int) ≤ (a : Int) := by omega
    have haN : (a : Int) < (N : Int) := by omega
    have HPI := Lib.hid hpi
    have HML := Lib.hid hml
    have HM := Lib.hid hM
    have HP := Lib.hid hP
    have HKP := Lib.hid hkp
    have HIH := Lib.hid ih
    have HF : Hid (a < f + 1 ∧ a < N ∧ d + (f + 1) ≤ 10000 ∧ N ≤ 4096) := ⟨hf, ha, hdf, hN4⟩
    clear hf hdf hP hJ hM hp hkp ih hpx hpc hpi hml hN4 hk hY
    refine callsIn_of_wp Tryz.func59 rfl h48 ?_ hro
    simp only [Tryz.ntmps59, List.size_toArray, List.length_cons, List.length_nil, Nat.reduceAdd, Nat.reduceSub, Array.replicate_succ, Array.replicate_zero, List.push_toArray, List.append_toArray, List.nil_append, List.cons_append]
    gi_wp2_with (first
      | ((try refine ⟨hdd _, ?_⟩); refine hR.mono ?_; clear hR hyr; rintro e W1 (⟨rfl, c1, hJ1, hb1⟩ | ⟨rfl, hx1⟩)))
    · gi_loopw [21] (fun v wr => ∃ k : Nat, k ≤ ml ∧ v = .int .i64 (k : Int) ∧ Hid (J (pre ++ (a, d) :: (p.take k).flatMap (fun q => wk ps f q (d + 1))) wr ∧ Kz Z W wr))
        (fun v _ => ml - (intOf v).toNat)
      case atStart => exact ⟨0, Nat.zero_le _, rfl, by simpa using hJ1, hb1⟩
      case round =>
        obtain ⟨k, hkl, rfl, HH⟩ := hrel
        by_cases hlt : k < ml
        · have dk : decide ((k : Int) < (ml : Int)) = true := by simp; omega
          obtain ⟨rb, ro, hpa, hrn, _, hri⟩ := HPI.out (by rw [HML.out]; omega)
          subst hpa
          obtain ⟨r, hr⟩ : ∃ r, p[k]? = some r := ⟨p[k]'(by rw [HML.out]; exact hlt), List.getElem?_eq_getElem (by rw [HML.out]; exact hlt)⟩
          have z1 := (HH.out.2.cell (p := ⟨rb, ro + k, none⟩) hrn).trans (hri k r hr)
          have hra := HKP.out.2 r (List.mem_of_getElem? hr)
          have hk0 : (0 : Int) ≤ (k : Int) := by omega
          have hkm : (k : Int) < (ml : Int) := by omega
          have hwd : IntKind.i64.wrap ((d : Int) + 1) = ((d + 1 : Nat) : Int) := by have := HF.out; rw [IntKind.wrap_i64]; omega
          have hwk : IntKind.i64.wrap ((k : Int) + 1) = ((k + 1 : Nat) : Int) := by have := HKP.out.1; have := HML.out; rw [IntKind.wrap_i64]; omega
          have htk : p.take (k + 1) = p.take k ++ [r] := by
            have hkp : k < p.length := by rw [HML.out]; exact hlt
            rw [List.take_succ_eq_append_getElem hkp, List.getElem_eq_iff hkp |>.2 hr]
          have hfm : (p.take (k + 1)).flatMap (fun q => wk ps f q (d + 1)) = (p.take k).flatMap (fun q => wk ps f q (d + 1)) ++ wk ps f r (d + 1) := by
            rw [htk, List.flatMap_append]
            show _ ++ (_ ++ []) = _
            rw [List.append_nil]
          have hcat : p.flatMap (fun q => wk ps f q (d + 1)) = (p.take (k + 1)).flatMap (fun q => wk ps f q (d + 1)) ++ (p.drop (k + 1)).flatMap (fun q => wk ps f q (d + 1)) := by
            rw [← List.flatMap_append, List.take_append_drop]
          have HC := Lib.hid (And.intro hfm hcat)
          have HI := Lib.hid (HIH.out (n - 1) r (d + 1) (pre ++ (a, d) :: (p.take k).flatMap (fun q => wk ps f q (d + 1))) wr (by have := HF.out; omega) (by have := HF.out; omega) (by have := HF.out; omega) (HP.out.kept HH.out.2) HH.out.1 (by
            have h1 := HM.out
            rw [hcat, hfm] at h1
            refine List.IsPrefix.trans ⟨(p.drop (k + 1)).flatMap (fun q => wk ps f q (d + 1)), ?_⟩ h1
            simp))
          have HMi : Hid (ml - (k + 1) < ml - k ∧ k + 1 ≤ ml) := ⟨by omega, by omega⟩
          clear hri hr hra htk hfm hcat hlt
          gi_wp2_with (first
            | ((try refine ⟨hdd _, ?_⟩); gi_at_call 59; refine HI.out.mono ?_; clear HI; rintro e W3 (⟨rfl, hJ3, hb3⟩ | ⟨rfl, q, hq, hx3⟩)))
          · go_roundw
            case rel => exact ⟨k + 1, HMi.out.2, rfl, by rw [HC.out.1]; simpa using hJ3, HH.out.2.trans hb3⟩
            case measure => simp [intOf]; exact HMi.out.1
          · go_ret
            refine .inr ⟨rfl, (a, d) :: ((p.take k).flatMap (fun q => wk ps f q (d + 1)) ++ q), ?_, by simpa using hx3⟩
            obtain ⟨s, hs⟩ := hq
            exact ⟨s ++ (p.drop (k + 1)).flatMap (fun q => wk ps f q (d + 1)), by rw [HC.out.2, HC.out.1, ← hs]; simp⟩
        · obtain rfl : k = ml := by omega
          have hl : p.take k = p := by rw [← HML.out]; exact List.take_length
          have HL := Lib.hid hl
          clear hl
          gi_wp2
          go_ret
          have h := HH.out
          rw [HL.out] at h
          exact .inl ⟨rfl, h.1, h.2⟩
    · go_ret
      exact .inr ⟨rfl, [(a, d)], ⟨_, rfl⟩, hx1⟩
/-- What the rounds of a loop are handed, one behind the other: an iterator with a bound argument. -/
def GoesNz {α : Type} (F : Fence) (n : Nat) (P : Program) (gf : Nat) (bd : Value) (encs : α → Array Value) (Z : Nat → Prop) (S Sp : List α → Prop) (Nx : List α → α → Prop) (w : World) : Prop :=
  ∀ (l : Nat) (J Jx : List α → World → Prop) (W : World), Below w.heap.size w W →
    (∀ pre x W1, J pre W1 → Nx pre x → YieldAt F (n - 1) P l (encs x) W1 fun e W' =>
      (e = .returned (.bool true) ∧ J (pre ++ [x]) W' ∧ Kz Z W1 W') ∨ (e = .returned (.bool false) ∧ Jx (pre ++ [x]) W')) →
    J [] W → CallsIn F n P gf #[bd, .func (.yield l) #[] #[]] W fun e W' => (∃ v, e = .returned v) ∧ ((∃ xs, S xs ∧ J xs W') ∨ (∃ pre, Sp pre ∧ Jx pre W'))
/-- The loop's own two blocks stay. -/
structure KeepT (D : Nat) (W W' : World) : Prop where
  size : W.heap.size ≤ W'.heap.size
  b0 : W'.heap[D]? = W.heap[D]?
  b1 : W'.heap[D + 1]? = W.heap[D + 1]?
theorem Bk.keepT {D : Nat} {r : Loop} {W W' : World} (h : Bk D r W) (k : KeepT D W W') : Bk D r W' := ⟨k.b1.trans h.1, k.b0.trans h.2⟩
theorem Bk.kz {D : Nat} {Z : Nat → Prop} {r r' : Loop} {W : World} (hn : ∀ b, Z b → b < D) (h : Bk D r W) : Kz Z W (W.putObj (D + 1) (.loop r')) :=
  Kz.below hn (Bk.below (Nat.le_refl D) h)
/-- How the body of a round may be left. -/
def ownPostZ {α : Type} (D : Nat) (Z : Nat → Prop) (I : List α → World → Prop) (Ix : Code → List α → World → Prop) (xs : List α) (W : World) : Exit → Act → World → Prop
  | .normal, _, W' => KeepT D W W' ∧ Kz Z W W' ∧ I xs W'
  | .ret, _, W' => KeepT D W W' ∧ Ix .ret xs W'
  | .exit id, _, W' => KeepT D W W' ∧ Ix (.exit id) xs W'
  | .goto t, _, W' => KeepT D W W' ∧ Ix (.goto t) xs W'
  | .panic _, _, _ => False
  | .outgrown, _, _ => False
/-- What the loop itself turns. -/
def LpOwn {α : Type} (D : Nat) (I : List α → World → Prop) : Prop := ∀ xs W W', I xs W → W.grownBy W' (some (D + 1)) → I xs W'
theorem LpOwn.alloc {α : Type} {D : Nat} {I : List α → World → Prop} (h : LpOwn D I) {xs : List α} {W : World} (o : Obj) (hi : I xs W) : I xs (W.alloc o) := h _ _ _ hi (World.grownBy_alloc W o _)
theorem Bk.lp {α : Type} {D : Nat} {r r' : Loop} {W : World} {I : List α → World → Prop} (hI : LpOwn D I) {xs : List α} (h : Bk D r W) (hi : I xs W) : I xs (W.putObj (D + 1) (.loop r')) := hI _ _ _ hi (grownBy_putObj' W (D + 1) (.loop r'))
set_option maxHeartbeats 1000000 in
theorem range_nz {α : Type} {F : Fence} {n : Nat} {P : Program} {g : Operand} {ps : Array Tmp} {assign body : Code} {Q : Exit → Act → World → Prop} {a : Act} {w : World}
    (hro : F.round = none) (hd : F.depth = none) {gf : Nat} {bd : Value} (hg : a.eval g = .func (.func gf) #[bd] #[]) (hFg : F.fn gf) (eg : ∀ args w, (callFunc gf args).run P w = .ok (.enter gf args) w)
    {encs : α → Array Value} {Z : Nat → Prop} {Nx : List α → α → Prop} {S Sp : List α → Prop} (hn : ∀ b, Z b → b < w.heap.size) (hseq : GoesNz F (n - 1) P gf bd encs Z S Sp Nx w) (hps : ∀ x, (encs x).size = ps.size)
    (I : List α → World → Prop) (Ix : Code → List α → World → Prop) (hI : LpOwn w.heap.size I) (hIx : ∀ c, LpOwn w.heap.size (Ix c)) (h0 : I [] w) (a₁ : α → Act)
    (hassign : ∀ (l : Nat) (x : α) (W : World) (K : Act → World → Prop), K (a₁ x) W →
      assign.wpIn (F.inRound l) (n - 1 - 1) P (Exit.then K (fun _ _ _ => False)) { tmps := (ps.zip (encs x)).foldl (fun t (p, v) => t.setIfInBounds p v) a.tmps, defers := [] } W)
    (hbody : ∀ (l : Nat) (pre : List α) (x : α) (W : World), I pre W → Nx pre x → (∃ r, Bk w.heap.size r W) → body.wpIn (F.inRound l) (n - 1 - 1) P (ownPostZ w.heap.size Z I Ix (pre ++ [x]) W) (a₁ x) W)
    (hdone : ∀ (D : Nat) (xs : List α) (W : World), w.heap.size ≤ D → S xs → I xs W → W.heap[D]? = some (.deferred (some [])) → Q .normal { a with defers := { target := .collected D, args := #[] } :: a.defers } W)
    (hstop : ∀ (D : Nat) (c : Code) (pre : List α) (W : World), w.heap.size ≤ D → Sp pre → Ix c pre W → W.heap[D]? = some (.deferred (some [])) → c.wpIn F n P Q { a with defers := { target := .collected D, args := #[] } :: a.defers } W) :
    (Code.rangeFunc g ps assign body).wpIn F n P Q a w := by
  refine wpIn_rangeFunc fun fn hfn => ?_
  rw [hro]
  obtain ⟨D, hD⟩ : ∃ D, w.heap.size = D := ⟨_, rfl⟩
  obtain ⟨R, hR⟩ : ∃ R : LoopState → Option Code → Loop, R = fun s p => { state := s, pending := p, fn := fn, tmps := a.tmps, params := ps, assign := assign, body := body, defers := D } := ⟨_, rfl⟩
  have hent := run_enterLoop_outer (P := P) (w := w) fn a.tmps ps assign body
  rw [hD] at hent hI hn hbody hdone hstop
  have hIx : ∀ c, LpOwn D (Ix c) := fun c => by rw [← hD]; exact hIx c
  obtain ⟨W1, hW1⟩ : ∃ W1, (w.alloc (.deferred (some []))).alloc (.loop (R .ready none)) = W1 := ⟨_, rfl⟩
  have hent' : (Instr.enterLoop fn a.tmps ps assign body none).run P w = .ok (D + 1, [{ target := .collected D, args := #[] }]) W1 := by
    rw [← hW1, hR]
    exact hent
  have hB1 : Bk D (R .ready none) W1 := by
    have e1 : (w.alloc (.deferred (some []))).heap.size = D + 1 := by simp [hD]
    refine ⟨?_, ?_⟩
    · rw [← hW1, ← e1]
      exact World.alloc_heap_new _ _
    · rw [← hW1]
      refine (Below.heap_alloc _ _ _ (by rw [e1]; omega)).trans ?_
      rw [← hD]
      exact World.alloc_heap_new _ _
  have hI1 : I [] W1 := by rw [← hW1]; exact hI.alloc _ (hI.alloc _ h0)
  have hb1 : Below w.heap.size w W1 := by rw [← hW1]; exact ((Below.refl _ w).alloc (Nat.le_refl _) _).alloc (by simp) _
  refine ⟨D + 1, _, W1, { target := .fn (.func gf) #[], args := #[bd, .func (.yield (D + 1)) #[] #[]] }, W1, gf, #[bd, .func (.yield (D + 1)) #[] #[]], W1, hent', ?_, ?_, ?_, fun h => (by rw [hd] at h; cases h), ?_⟩
  · simp only [resolve, hg]
    simp [go_sem]
  · intro f' hf'
    simp [Target.leads] at hf'
    subst hf'
    exact hFg
  · simp [invoke, go_sem, eg]
  · refine (hseq (D + 1) (fun pre W => I pre W ∧ Bk D (R .ready none) W) (fun pre W => ∃ c, Ix c pre W ∧ Bk D (R .done (some c)) W) W1 hb1 ?_ ⟨hI1, hB1⟩).mono ?_
    · rintro pre x W ⟨hi, hk⟩ hlen
      have hy := run_yield (P := P) (args := encs x) hk.1 (by rw [hR]; exact hps x)
      have hyf : (R .ready none).fn = fn := by rw [hR]
      have hyt : (R .ready none).tmps = a.tmps := by rw [hR]
      have hyp : (R .ready none).params = ps := by rw [hR]
      have hya : (R .ready none).assign = assign := by rw [hR]
      have hyb : (R .ready none).body = body := by rw [hR]
      have hys : (R .ready none).state = .ready := by rw [hR]
      rw [hyf, hyt, hyp, hya, hyb] at hy
      refine ⟨fn, _, assign, body, hy, roundIn_of_wpIn hfn (hassign _ x W _ ⟨_, run_beginRound hk.1 hys, ?_⟩)⟩
      have hk2 := hk.turn (r' := { R .ready none with state := .busy })
      have hw2 := hk.kz (r' := { R .ready none with state := .busy }) hn
      refine wpIn_mono (hbody _ pre x _ (hk.lp hI hi) hlen ⟨_, hk2⟩) ?_
      have fin : ∀ (j : Option Code) (W3 : World), KeepT D (W.putObj (D + 1) (.loop { R .ready none with state := .busy })) W3 →
          Bk D { R .ready none with state := .busy } W3 ∧ (Instr.endRound (D + 1) j).run P W3 = .ok (.bool j.isNone) (W3.putObj (D + 1) (.loop (R (if j.isNone then .ready else .done) j))) := fun j W3 hk3 => by
        have h3 := hk2.keepT hk3
        refine ⟨h3, ?_⟩
        have := run_endRound (P := P) j h3.1
        rw [this, hR]
      have jump : ∀ (c : Code) (W3 : World), KeepT D (W.putObj (D + 1) (.loop { R .ready none with state := .busy })) W3 → Ix c (pre ++ [x]) W3 → _ := fun c W3 hk3 hi3 =>
        have h := fin (some c) W3 hk3
        (⟨_, _, h.2, .inr ⟨rfl, c, h.1.lp (hIx c) hi3, h.1.turn⟩⟩ : ∃ (v : Value) (W4 : World), (Instr.endRound (D + 1) (some c)).run P W3 = .ok v W4 ∧ ((Ending.returned v = .returned (.bool true) ∧ (I (pre ++ [x]) W4 ∧ Bk D (R .ready none) W4) ∧ Kz Z W W4) ∨ (Ending.returned v = .returned (.bool false) ∧ ∃ c, Ix c (pre ++ [x]) W4 ∧ Bk D (R .done (some c)) W4)))
      rintro e a3 W3 hp
      cases e with
      | normal =>
        obtain ⟨hk3, hkp3, hi3⟩ := hp
        have h := fin none W3 hk3
        exact ⟨_, _, h.2, .inl ⟨rfl, ⟨h.1.lp hI hi3, h.1.turn⟩, (hw2.trans hkp3).trans (h.1.kz hn)⟩⟩
      | ret => exact jump _ W3 hp.1 hp.2
      | exit id => exact jump _ W3 hp.1 hp.2
      | goto t => exact jump _ W3 hp.1 hp.2
      | panic ch => exact hp.elim
      | outgrown => exact hp.elim
    · rintro e W2 ⟨⟨v, rfl⟩, (⟨xs, hS, hi, hk⟩ | ⟨pre, hSp, c, hi, hk⟩)⟩
      · refine ⟨none, _, (run_endLoop (P := P) hk.1 (by rw [hR]; simp)).trans (by rw [hR]), hdone D xs _ (Nat.le_refl _) hS (hk.lp hI hi) hk.turn.2⟩
      · refine ⟨some c, _, (run_endLoop (P := P) hk.1 (by rw [hR]; simp)).trans (by rw [hR]), hstop D c pre _ (Nat.le_refl _) hSp (hk.lp (hIx c) hi) hk.turn.2⟩
set_option maxHeartbeats 1000000 in
theorem all_nz (F : Fence) (hd : F.depth = none) (h30 : F.fn 47) (h48 : F.fn 59) (hro : F.round = none) (Z : Nat → Prop) (n N P : Nat) (ps : List (List Nat)) (hk : KpsOk ps N) (hN : 0 < N) (w : World) (hn : ∀ b, Z b → b < w.heap.size) (hP : PtZ Z ps P w) :
    GoesNz F n Tryz.prog 47 (.slice (some ⟨P, 0, none⟩) N N) ev Z (fun xs => xs = wkA ps) (fun pre => pre <+: wkA ps) (fun pre x => pre ++ [x] <+: wkA ps) w := by
  intro l J Jx W hW hY h0
  have hdd : ∀ k : Nat, (F.depth.isSome = true → 1 ≤ k) := fun k h => by rw [hd] at h; cases h
  have hu := under_nz F hd h48 hro Z l N (wkA ps) ps P hk J Jx (fun m pre x W1 hj hl => yield_any hd m (hY pre x W1 hj hl)) (ps.length - 1 + 1) (n - 1) (ps.length - 1) 1 [] W (by omega) (by rw [hk.1]; omega) (by have := hk.1; have := hk.2.1; omega) (hP.kept (Kz.below hn hW)) h0 (by simp [wkA])
  have hl : ps.length = N := hk.1
  have HL := Lib.hid hl
  rw [hl] at hu
  have hwN : IntKind.i64.wrap ((N : Int) - 1) = ((N - 1 : Nat) : Int) := by have := hk.2.1; rw [IntKind.wrap_i64]; omega
  have HU := Lib.hid hu
  have HS : Hid (wk ps (N - 1 + 1) (N - 1) 1 = wkA ps) := by show _ = _; unfold wkA; rw [hl]
  clear hu hY h0 hk hl hP
  refine callsIn_of_wp Tryz.func47 rfl h30 ?_ hro
  simp only [Tryz.ntmps47, List.size_toArray, List.length_cons, List.length_nil, Nat.reduceAdd, Nat.reduceSub, Array.replicate_succ, Array.replicate_zero, List.push_toArray, List.append_toArray, List.nil_append, List.cons_append]
  gi_wp2_with ((try refine ⟨hdd _, ?_⟩); gi_at_call 59; refine HU.out.mono ?_; clear HU; rintro e W1 (⟨rfl, hJ1, _⟩ | ⟨rfl, q, hq, hx⟩))
  · go_end0
    rw [HS.out] at hJ1
    exact ⟨⟨_, rfl⟩, .inl ⟨_, rfl, by simpa using hJ1⟩⟩
  · go_end0
    rw [HS.out] at hq
    exact ⟨⟨_, rfl⟩, .inr ⟨q, hq, by simpa using hx⟩⟩
end Go.Proofs.YtjadckhngalmlaaGreatDoor
namespace Go.Proofs.YtjadckhngalmlaaGreatDoor
set_option linter.unusedVariables false
set_option linter.unusedSimpArgs false
set_option maxRecDepth 100000

def noDefB (o : Oper) : Bool := match o.op with
  | .defer _ => false
  | _ => true
theorem noDef {o : Oper} (h : noDefB o = true) : ∀ c, o.op ≠ .defer c := fun c e => by
  unfold noDefB at h
  rw [e] at h
  cases h
theorem wpIn_of_wp_op {P : Program} {l n : Nat} {o : Oper} (hd : ∀ c, o.op ≠ .defer c) {a : Act} {w : World} {K K' : Act → World → Prop} {Q : Exit → Act → World → Prop} (hK : ∀ a w, K a w → K' a w) (h : o.wp P a w K Q) : o.wpIn (Fence.wide.inRound l) n P a w K' Q := by
  unfold Oper.wpIn
  unfold Oper.wp at h
  refine ⟨fun _ _ => trivial, ?_⟩
  rw [Oper.semAt_eq _ _ _ hd]
  generalize (execOp a.eval o).run P w = r at h ⊢
  cases r with
  | ok x w' =>
    cases x with
    | value v => exact hK _ _ h
    | skip => exact hK _ _ h
    | defer d => exact hK _ _ h
    | enter f args => exact ⟨(fun e => by cases e), CallsIn.mono (CallsIn.inRound l (callsIn_wide.2 h)) (fun e w'' he => by cases e <;> first | exact hK _ _ he | exact he)⟩
    | row row args => exact ⟨(fun e => by cases e), fun c cs _ => by
        obtain ⟨v, w2, q, s⟩ := h c cs
        exact ⟨v, w2, hK _ _ q, stepsIn_wide.2 s⟩⟩
    | _ => exact h.elim
  | halt x w' => cases x <;> exact h
theorem wpAnyIn_of {P : Program} {l n : Nat} {md : Region.Mode} {ops : Array Oper} {Q : Exit → Act → World → Prop} (hno : ¬ LetsOut Q) (hd : ∀ (i : Nat) (o : Oper), ops[i]? = some o → ∀ c, o.op ≠ .defer c) :
    ∀ (fuel : Nat) (listed : Array Bool) (a : Act) (w : World), wpAny P md ops Q fuel listed a w → wpAnyIn (Fence.wide.inRound l) n P md ops Q fuel listed a w
  | 0, _, _, _, h => h
  | fuel + 1, listed, a, w, h => by
    refine ⟨h.1, fun i hi => ?_⟩
    have h2 := h.2 i hi
    unfold wpOp at h2
    unfold wpOpIn
    cases ho : ops[i]? with
    | none =>
      rw [ho] at h2
      exact wpAnyIn_of hno hd fuel _ a w h2
    | some o =>
      rw [ho] at h2
      simp only at h2 ⊢
      by_cases hw : Region.wanted o (yielded ops a.tmps) = true
      · rw [if_pos hw] at h2 ⊢
        rcases h2 with h2 | h2
        · exact wpIn_of_wp_op (hd i o ho) (fun a w h => wpAnyIn_of hno hd fuel _ a w h) h2
        · exact absurd h2.2 hno
      · rw [if_neg hw] at h2 ⊢
        exact ⟨fun _ _ => trivial, wpAnyIn_of hno hd fuel _ _ w h2⟩
theorem round_still_tail {P : Program} {l n : Nat} {id : Nat} {Q : Exit → Act → World → Prop} {a : Act} {w : World} {ops : List Oper} (k : Nat) (hm : P.follows .mixedOrders = true) (hB : Region.lexTailB .any ops.toArray k = true) (hnd : ops.all noDefB = true) (hno : ¬ LetsOut Q)
    (h : wpStill P ops.toArray { w with drawn := w.drawn + 1 } (fun a' => wpList P ops.toArray Q (ops.drop k) a' { w with drawn := w.drawn + 1 }) (ops.take k) a) : (Code.region id ops.toArray true).wpIn (Fence.wide.inRound l) n P Q a w := by
  simp only [Region.lexTailB, Bool.and_eq_true, decide_eq_true_eq] at hB
  obtain ⟨⟨⟨⟨hsel, hn⟩, hs⟩, hc⟩, hlex⟩ := hB
  have hn' : k < ops.length := by simpa using hn
  have htl : (ops.take k).length = k := by simp; omega
  have hdl : (ops.drop k).length = ops.toArray.size - k := by simp
  have inv0 : HeadInv .any ops.toArray k (Array.replicate ops.toArray.size false) :=
    ⟨by simp, fun j oj _ hl => (by rw [getD_replicate_false] at hl; cases hl), fun t _ ht => getD_in (by simpa using ht) (getD_replicate_false _ _)⟩
  have H := wpAnyL_lex (md := .any) (g := ops.toArray.size - k) hsel hs hc hn (ops.take k) 0 _ a (fun j hj => by
    have hj' : j < k := by rw [htl] at hj; exact hj
    simp [hj']) (by simpa using htl) inv0 (by rw [htl]; exact hlex) h
  refine wpIn_region_any hm ?_
  have := wpAny_of_head (Q' := Q) (g := ops.toArray.size - k) (fun listed a' hL => by
    have := wpAny_of_seq (md := .any) (Q' := Q) (ops.drop k) k listed a' { w with drawn := w.drawn + 1 } (fun j => by simp [List.getElem?_drop]) (by rw [hdl]; exact hL.1) hL.2
    rwa [hdl] at this) _ _ _ H
  rw [htl, show k + (ops.toArray.size - k) = ops.toArray.size by omega] at this
  exact wpAnyIn_of hno (fun i o hi => noDef (List.all_eq_true.1 hnd o (List.mem_of_getElem? (by simpa using hi)))) _ _ _ _ this
end Go.Proofs.YtjadckhngalmlaaGreatDoor
