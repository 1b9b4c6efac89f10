/-
  The law's play: one act on both memories: Load, Store, Fetch.
-/
import Derived.Test.YtbfimedgichiiaaMemPlay0
import Derived.Test.YtbfimedgichiiaaMemChY
namespace Go.Proofs.Ytbfimedgichiiaa
set_option linter.unusedVariables false
set_option linter.unusedSimpArgs false
set_option maxRecDepth 100000
open Go.ChangeShapes Go.WideShapes Go.ChangeAt Go.RowKit

/-- Both memories stand, and tell the same. -/
def Both (w : World) (N gm gy nb : Nat) (R : Nat → Rg) : Prop := ∃ C D c d, Du w (fun _ => False) N gm gy nb R C D c d ∧ TieB R nb C c ∧ TieB R nb D d
theorem Both.next {w w' : World} {N gm gy nb : Nat} {R : Nat → Rg} (h : Both w N gm gy nb R) (hb : Below w.heap.size w w') : Both w' N gm gy nb R := by
  obtain ⟨C, D, c, d, h1, h2, h3⟩ := h
  exact ⟨C, D, c, d, h1.next hb, h2, h3⟩
theorem Both.le {w : World} {N gm gy nb : Nat} {R : Nat → Rg} (h : Both w N gm gy nb R) : N ≤ w.heap.size := by
  obtain ⟨C, D, c, d, h1, h2, h3⟩ := h
  exact h1.le
/-- What play leaves. -/
def Played (w w' : World) (N gm gy nb : Nat) (R : Nat → Rg) (e : Ending) : Prop := e = .returned (.bool true) ∧ Both w' N gm gy nb R ∧ Below N w w'
abbrev actV (k a n v : Int) (p : Option Addr) (m cap : Nat) : Value := .agg #[.int .i64 k, .int .u32 a, .int .i64 n, .int .u32 v, .slice p m cap]
abbrev actO (k a n v : Int) (p : Option Addr) (m cap : Nat) : Obj := .cells #[.int .i64 k, .int .u32 a, .int .i64 n, .int .u32 v, .slice p m cap] 39
/-- The act, in a block. -/
def ActAt (w : World) (ga : Nat) (k a n v : Int) (p : Option Addr) (m cap : Nat) : Prop := w.cell? ⟨ga, 0, none⟩ = some (.int .i64 k) ∧ w.cell? ⟨ga, 1, none⟩ = some (.int .u32 a) ∧ w.cell? ⟨ga, 2, none⟩ = some (.int .i64 n) ∧ w.cell? ⟨ga, 3, none⟩ = some (.int .u32 v) ∧ w.cell? ⟨ga, 4, none⟩ = some (.slice p m cap)
theorem act_new (w : World) (k a n v : Int) (p : Option Addr) (m cap : Nat) : ActAt (w.alloc (actO k a n v p m cap)) w.heap.size k a n v p m cap := by
  refine ⟨?_, ?_, ?_, ?_, ?_⟩ <;> simp [go_sem]
theorem ActAt.fr {M : Nat → Prop} {w w' : World} {ga : Nat} {k a n v : Int} {p : Option Addr} {m cap : Nat} (h : ActAt w ga k a n v p m cap) (hf : Fr M w w') (hM : ¬ M ga) : ActAt w' ga k a n v p m cap := by
  obtain ⟨h0, h1, h2, h3, h4⟩ := h
  exact ⟨fr_cel hf hM h0, fr_cel hf hM h1, fr_cel hf hM h2, fr_cel hf hM h3, fr_cel hf hM h4⟩
theorem ActAt.next {w w' : World} {ga : Nat} {k a n v : Int} {p : Option Addr} {m cap : Nat} (h : ActAt w ga k a n v p m cap) (hb : Below w.heap.size w w') : ActAt w' ga k a n v p m cap := h.fr (M := fun _ => False) (Fr.of_below hb) (fun h => h)
/-- Where play stands behind the act's own block: both memories, neither in S. -/
def At (w w1 : World) (S : Nat → Prop) (N gm gy nb : Nat) (R : Nat → Rg) (C D : Nat → Nat → Nat → Int) (c d : Nat → Nat → Int) (ga : Nat) (k a n v : Int) (p : Option Addr) (m cap : Nat) : Prop :=
  ActAt w1 ga k a n v p m cap ∧ Du w1 S N gm gy nb R C D c d ∧ Below N w w1 ∧ S ga ∧ ∀ b, S b → N ≤ b
section
variable {w w1 w2 : World} {S : Nat → Prop} {N gm gy nb : Nat} {R : Nat → Rg} {C D C' D' : Nat → Nat → Nat → Int} {c d c' d' : Nat → Nat → Int} {ga : Nat} {k a n v : Int} {p : Option Addr} {m cap : Nat}
theorem At.start (h : Du w (fun _ => False) N gm gy nb R C D c d) (k a n v : Int) (p : Option Addr) (m cap : Nat) : At w (w.alloc (actO k a n v p m cap)) (fun b => b = w.heap.size) N gm gy nb R C D c d w.heap.size k a n v p m cap :=
  ⟨act_new w k a n v p m cap, (h.spare (below_new w _)).less (fun b e => .inr (by subst e; simp)), (below_new w _).mono h.le, rfl, fun b e => by rw [e]; exact h.le⟩
theorem At.next (h : At w w1 S N gm gy nb R C D c d ga k a n v p m cap) (hb : Below w1.heap.size w1 w2) : At w w2 S N gm gy nb R C D c d ga k a n v p m cap :=
  ⟨h.1.next hb, h.2.1.next hb, h.2.2.1.trans (hb.mono h.2.1.le), h.2.2.2⟩
theorem At.step (h : At w w1 S N gm gy nb R C D c d ga k a n v p m cap) (hD : Du w2 S N gm gy nb R C' D' c' d') (hf : Fr (Wr S N) w1 w2) : At w w2 S N gm gy nb R C' D' c' d' ga k a n v p m cap :=
  ⟨h.1.fr hf (fun e => e.2 h.2.2.2.1), hD, h.2.2.1.trans (Wr.below hf h.2.1.le), h.2.2.2⟩
theorem At.spare (h : At w w1 S N gm gy nb R C D c d ga k a n v p m cap) (hb : Below w1.heap.size w1 w2) : At w w2 (fun b => S b ∨ w1.heap.size ≤ b ∧ b < w2.heap.size) N gm gy nb R C D c d ga k a n v p m cap :=
  ⟨h.1.next hb, h.2.1.spare hb, h.2.2.1.trans (hb.mono h.2.1.le), .inl h.2.2.2.1, fun b hb => hb.elim (h.2.2.2.2 b) (fun hb => by have := h.2.1.le; omega)⟩
theorem At.frame {F : Nat → Prop} (h : At w w1 S N gm gy nb R C D c d ga k a n v p m cap) (hf : Fr F w1 w2) (hF : ∀ b, F b → S b) (hg : ¬ F ga) : At w w2 S N gm gy nb R C D c d ga k a n v p m cap :=
  ⟨h.1.fr hf hg, h.2.1.frame hf (fun b _ hb => hF b hb), h.2.2.1.trans (hf.below h.2.1.le (fun b hb => h.2.2.2.2 b (hF b hb))), h.2.2.2⟩
theorem At.ga_lt (h : At w w1 S N gm gy nb R C D c d ga k a n v p m cap) : ga < w1.heap.size := cell_lt h.1.1
theorem At.done (h : At w w1 S N gm gy nb R C D c d ga k a n v p m cap) (tC : TieB R nb C c) (tD : TieB R nb D d) : Played w w1 N gm gy nb R (.returned (.bool true)) :=
  ⟨rfl, ⟨C, D, c, d, h.2.1.less (fun b h => h.elim), tC, tD⟩, h.2.2.1⟩
end
set_option maxHeartbeats 4000000 in
theorem c_play0 (N gm gy nb : Nat) (R : Nat → Rg) (k a n v : Int) (p : Option Addr) (m cap : Nat) (w : World) (hB : Both w N gm gy nb R) (hnb : nb ≤ 16) (hok : okTo R nb = true) (hk : amP k 7 = 0) (k0 : -9223372036854775808 ≤ k) (k1 : k ≤ 9223372036854775807) (a0 : 0 ≤ a) (a1 : a ≤ 4294967295) :
    Calls Try.prog 15 #[.pointer (some ⟨gm, 0, none⟩), .pointer (some ⟨gy, 0, none⟩), actV k a n v p m cap] w fun e w' => Played w w' N gm gy nb R e := by
  obtain ⟨C, D, c, d, hD, tC, tD⟩ := hB
  have HA := Lib.hid (At.start hD k a n v p m cap)
  have HTC := Lib.hid tC
  have HTD := Lib.hid tD
  have HOk := Lib.hid hok
  have HK := Lib.hid hk
  clear hD tC tD hok hk
  go_enter Try.func15, Try.ntmps15
  go_wp2_with fail
  refine (c_among k 7 _ k0 k1 (by decide) (by decide)).mono ?_
  rintro e w1 ⟨rfl, rfl⟩
  rw [HK.out]
  go_wp2_with fail
  generalize w.heap.size = ga at HA ⊢
  generalize w.alloc _ = w1 at HA ⊢
  obtain ⟨A, M, hM⟩ := HA.out.2.1.fst
  refine (c_mLoad A M gm nb R C D a n _ hM a0 a1).mono ?_
  rintro e w2 ⟨v1, e1, rfl, hL, hb⟩
  have HL := Lib.hid hL
  have HA2 := Lib.hid (HA.out.next hb)
  obtain ⟨x0, x1, x2, x3, x4⟩ := HA2.out.1
  clear hL hb hM
  go_wp2_with fail
  obtain ⟨gl, gN, gW, rn, rw', y1, y2, _⟩ := HA2.out.2.1.snd
  refine (c_rLoad gy gl gN nb R rn c a n _ y1 y2 hnb HOk.out a0 a1).mono ?_
  rintro e w3 ⟨v2, e2, rfl, hL2, hb2⟩
  obtain ⟨rfl, rfl⟩ := tie_load HTC.out HOk.out HL.out hL2
  have HA3 := Lib.hid (HA2.out.next hb2)
  clear hL2 hb2 y1 y2 x0 x1 x2 x3 x4 HL
  go_wp2_with fail
  go_ret
  exact HA3.out.done HTC.out HTD.out
set_option maxHeartbeats 4000000 in
theorem c_play1 (N gm gy nb : Nat) (R : Nat → Rg) (k a n v : Int) (p : Option Addr) (m cap : Nat) (w : World) (hB : Both w N gm gy nb R) (hnb : nb ≤ 16) (hok : okTo R nb = true) (hk : amP k 7 = 1) (k0 : -9223372036854775808 ≤ k) (k1 : k ≤ 9223372036854775807) (a0 : 0 ≤ a) (a1 : a ≤ 4294967295) (v0 : 0 ≤ v) (v1 : v ≤ 4294967295) :
    Calls Try.prog 15 #[.pointer (some ⟨gm, 0, none⟩), .pointer (some ⟨gy, 0, none⟩), actV k a n v p m cap] w fun e w' => Played w w' N gm gy nb R e := by
  obtain ⟨C, D, c, d, hD, tC, tD⟩ := hB
  have HA := Lib.hid (At.start hD k a n v p m cap)
  have HTC := Lib.hid tC
  have HTD := Lib.hid tD
  have HOk := Lib.hid hok
  have HK := Lib.hid hk
  clear hD tC tD hok hk
  go_enter Try.func15, Try.ntmps15
  go_wp2_with fail
  refine (c_among k 7 _ k0 k1 (by decide) (by decide)).mono ?_
  rintro e w1 ⟨rfl, rfl⟩
  rw [HK.out]
  go_wp2_with fail
  generalize w.heap.size = ga at HA ⊢
  generalize w.alloc _ = w1 at HA ⊢
  have hS0 : w1.cell? ⟨ga, 1, none⟩ = some (.int .u32 a) ∧ w1.cell? ⟨ga, 2, none⟩ = some (.int .i64 n) ∧ w1.cell? ⟨ga, 3, none⟩ = some (.int .u32 v) := ⟨HA.out.1.2.1, HA.out.1.2.2.1, HA.out.1.2.2.2.1⟩
  go_region_held3 (fun w' => w'.cell? ⟨ga, 1, none⟩ = some (.int .u32 a) ∧ w'.cell? ⟨ga, 2, none⟩ = some (.int .i64 n) ∧ w'.cell? ⟨ga, 3, none⟩ = some (.int .u32 v))
    (first
      | exact hS0
      | exact ⟨HA2.out.1.2.1, HA2.out.1.2.2.1, HA2.out.1.2.2.2.1⟩
      | exact ⟨HA3.out.1.2.1, HA3.out.1.2.2.1, HA3.out.1.2.2.2.1⟩)
    (first
      | (go_at_call 21
         refine (d_Store (fun b => b = ga) N gm gy nb R C D c d a n v _ (HA.out.next (Below.refl _ _).drew).2.1 a0 a1 v0 v1).mono ?_
         rintro e w2 ⟨e1, rfl, ⟨C', hS, hD2⟩, hf⟩
         have HS := Lib.hid hS
         have HA2 := Lib.hid ((HA.out.next (Below.refl _ _).drew).step hD2 hf))
      | (go_at_call 34
         refine (d_rStore (fun b => b = ga) N gm gy nb R C' D c d a n v _ HA2.out.2.1 hnb HOk.out a0 a1 v0 v1).mono ?_
         rintro e w3 ⟨e2, rfl, ⟨c', hS2, hD3⟩, hf⟩
         have hTs := tie_store HOk.out HTC.out HS.out hS2
         obtain ⟨he, tC⟩ := hTs
         subst he
         have HTC' := Lib.hid tC
         have HA3 := Lib.hid (HA2.out.step hD3 hf)))
  go_wp2_with fail
  go_ret
  exact HA3.out.done HTC'.out HTD.out
set_option maxHeartbeats 4000000 in
theorem c_play2 (N gm gy nb : Nat) (R : Nat → Rg) (k a n v : Int) (p : Option Addr) (m cap : Nat) (w : World) (hB : Both w N gm gy nb R) (hnb : nb ≤ 16) (hok : okTo R nb = true) (hk : amP k 7 = 2) (k0 : -9223372036854775808 ≤ k) (k1 : k ≤ 9223372036854775807) (a0 : 0 ≤ a) (a1 : a ≤ 4294967295) :
    Calls Try.prog 15 #[.pointer (some ⟨gm, 0, none⟩), .pointer (some ⟨gy, 0, none⟩), actV k a n v p m cap] w fun e w' => Played w w' N gm gy nb R e := by
  obtain ⟨C, D, c, d, hD, tC, tD⟩ := hB
  have HA := Lib.hid (At.start hD k a n v p m cap)
  have HTC := Lib.hid tC
  have HTD := Lib.hid tD
  have HOk := Lib.hid hok
  have HK := Lib.hid hk
  clear hD tC tD hok hk
  go_enter Try.func15, Try.ntmps15
  go_wp2_with fail
  refine (c_among k 7 _ k0 k1 (by decide) (by decide)).mono ?_
  rintro e w1 ⟨rfl, rfl⟩
  rw [HK.out]
  go_wp2_with fail
  generalize w.heap.size = ga at HA ⊢
  generalize w.alloc _ = w1 at HA ⊢
  obtain ⟨x0, x1, x2, x3, x4⟩ := HA.out.1
  clear x0 x2 x3 x4
  go_wp2_with fail
  obtain ⟨A, M, hM⟩ := HA.out.2.1.fst
  refine (c_mFetch A M gm nb R C D a _ hM a0 a1).mono ?_
  rintro e w2 ⟨v1, e1, rfl, hL, hb⟩
  have HL := Lib.hid hL
  have HA2 := Lib.hid (HA.out.next hb)
  clear hL hb hM x1
  obtain ⟨x0, x1, x2, x3, x4⟩ := HA2.out.1
  clear x0 x2 x3 x4
  go_wp2_with fail
  obtain ⟨gl, gN, gW, rn, rw', y1, y2, _⟩ := HA2.out.2.1.snd
  refine (c_rFetch gy gl gN nb R rn c a _ y1 y2 hnb HOk.out a0 a1).mono ?_
  rintro e w3 ⟨v2, e2, rfl, hL2, hb2⟩
  obtain ⟨rfl, rfl⟩ := tie_fetch HTC.out HOk.out HL.out hL2
  have HA3 := Lib.hid (HA2.out.next hb2)
  clear hL2 hb2 y1 y2 x1 HL
  go_wp2_with fail
  go_ret
  exact HA3.out.done HTC.out HTD.out
set_option maxHeartbeats 4000000 in
theorem c_play5 (N gm gy nb : Nat) (R : Nat → Rg) (k a n v : Int) (p : Option Addr) (m cap : Nat) (w : World) (hB : Both w N gm gy nb R) (hnb : nb ≤ 16) (hok : okTo R nb = true) (hk : amP k 7 = 5) (k0 : -9223372036854775808 ≤ k) (k1 : k ≤ 9223372036854775807) (a0 : 0 ≤ a) (a1 : a ≤ 4294967295) :
    Calls Try.prog 15 #[.pointer (some ⟨gm, 0, none⟩), .pointer (some ⟨gy, 0, none⟩), actV k a n v p m cap] w fun e w' => Played w w' N gm gy nb R e := by
  obtain ⟨C, D, c, d, hD, tC, tD⟩ := hB
  have HA := Lib.hid (At.start hD k a n v p m cap)
  have HTC := Lib.hid tC
  have HTD := Lib.hid tD
  have HOk := Lib.hid hok
  have HK := Lib.hid hk
  clear hD tC tD hok hk
  go_enter Try.func15, Try.ntmps15
  go_wp2_with fail
  refine (c_among k 7 _ k0 k1 (by decide) (by decide)).mono ?_
  rintro e w1 ⟨rfl, rfl⟩
  rw [HK.out]
  go_wp2_with fail
  generalize w.heap.size = ga at HA ⊢
  generalize w.alloc _ = w1 at HA ⊢
  obtain ⟨x0, x1, x2, x3, x4⟩ := HA.out.1
  clear x0 x2 x3 x4
  go_wp2_with fail
  obtain ⟨A, M, hM⟩ := HA.out.2.1.fst
  refine (c_mOf A M gm nb R C D a _ hM a0 a1).mono ?_
  rintro e w2 ⟨hL, hb⟩
  have HL := Lib.hid hL
  have HA2 := Lib.hid (HA.out.next hb)
  clear hb hM x1
  obtain ⟨x0, x1, x2, x3, x4⟩ := HA2.out.1
  clear x0 x2 x3 x4
  obtain ⟨s1, k1', e1, rfl⟩ : ∃ s k1 e1, e = .returned (.tuple #[.string s, .int .i64 k1, .int .i64 e1]) := by
    rcases hL with ⟨i, _, _, rfl⟩ | ⟨_, rfl⟩ <;> exact ⟨_, _, _, rfl⟩
  clear hL
  go_wp2_with fail
  obtain ⟨gl, gN, gW, rn, rw', y1, y2, _⟩ := HA2.out.2.1.snd
  refine (c_rOf gy gl nb R a _ y1 hnb HOk.out a0 a1).mono ?_
  rintro e w3 ⟨s2, k2, e2, rfl, hL2, hb2⟩
  have hT := tie_of HOk.out HL.out hL2
  have HA3 := Lib.hid (HA2.out.next hb2)
  injection hT with hT
  injection hT with hT
  simp only [Array.mk.injEq, List.cons.injEq, Value.string.injEq, Value.int.injEq, true_and, and_true] at hT
  obtain ⟨rfl, rfl, rfl⟩ := hT
  clear hL2 hb2 y1 y2 x1 HL
  go_wp2_with fail
  go_ret
  exact HA3.out.done HTC.out HTD.out
set_option maxHeartbeats 4000000 in
theorem c_play6 (N gm gy nb : Nat) (R : Nat → Rg) (k a n v : Int) (p : Option Addr) (m cap : Nat) (w : World) (hB : Both w N gm gy nb R) (hnb : nb ≤ 16) (hok : okTo R nb = true) (hk : amP k 7 = 6) (k0 : -9223372036854775808 ≤ k) (k1 : k ≤ 9223372036854775807) (a0 : 0 ≤ a) (a1 : a ≤ 4294967295) :
    Calls Try.prog 15 #[.pointer (some ⟨gm, 0, none⟩), .pointer (some ⟨gy, 0, none⟩), actV k a n v p m cap] w fun e w' => Played w w' N gm gy nb R e := by
  obtain ⟨C, D, c, d, hD, tC, tD⟩ := hB
  have HA := Lib.hid (At.start hD k a n v p m cap)
  have HTC := Lib.hid tC
  have HTD := Lib.hid tD
  have HOk := Lib.hid hok
  have HK := Lib.hid hk
  clear hD tC tD hok hk
  go_enter Try.func15, Try.ntmps15
  go_wp2_with fail
  refine (c_among k 7 _ k0 k1 (by decide) (by decide)).mono ?_
  rintro e w1 ⟨rfl, rfl⟩
  rw [HK.out]
  go_wp2_with fail
  generalize w.heap.size = ga at HA ⊢
  generalize w.alloc _ = w1 at HA ⊢
  refine (d_Mark (fun b => b = ga) N gm gy nb R C D c d _ HA.out.2.1).mono ?_
  rintro e w2 ⟨rfl, hD2, hf⟩
  have HA2 := Lib.hid (HA.out.step hD2 hf)
  clear hD2 hf
  go_wp2_with fail
  refine (d_rMark (fun b => b = ga) N gm gy nb R C (mkT D C nb) c d _ HA2.out.2.1 hnb HOk.out).mono ?_
  rintro e w3 ⟨rfl, hD3, hf⟩
  have HA3 := Lib.hid (HA2.out.step hD3 hf)
  clear hD3 hf
  go_wp2_with fail
  go_ret
  exact HA3.out.done HTC.out (tie_mark HTC.out)
end Go.Proofs.Ytbfimedgichiiaa
