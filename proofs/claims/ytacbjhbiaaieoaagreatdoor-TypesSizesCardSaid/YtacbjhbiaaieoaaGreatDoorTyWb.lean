/-
  The contracts of the writer of declarations: any base, what stands ahead, a function's parameters, in the code.
-/
import Derived.Test.YtacbjhbiaaieoaaGreatDoorTyWr
import Derived.Test.YtacbjhbiaaieoaaGreatDoorTyAr
import Derived.Test.YtacbjhbiaaieoaaGreatDoorTyTw
import Derived.Shelf.Strconv.Itoa3
namespace Go.Proofs.YtacbjhbiaaieoaaGreatDoor
set_option linter.unusedVariables false
set_option linter.unusedSimpArgs false
set_option maxRecDepth 100000
open Go.RowKit

theorem c_Itoa (B k : Nat) (w : World) (h1 : (k : Int) ≤ 9223372036854775807) (hE : Env B w) :
    Calls Tryz.prog 112 #[.int .i64 k] w fun e w' => e = .returned (.string ⟨(Lib.decDigits k).toArray⟩) ∧ Below w.heap.size w w' :=
  (Any.strconv_Itoa Tryz.laysM171 k (by omega) h1 w (tab_of hE.pw _ (by kernel_rfl))).mono fun e w' ⟨he, m, os, hw⟩ => ⟨by rw [he]; simp [Lib.itoa], by
    rw [hw]
    have hb := below_drewN (Below.refl w.heap.size w) m
    exact below_grow hb os hb.size⟩
set_option maxHeartbeats 4000000 in
/-- A type that is made of no other one. -/
theorem c_base (B b : Nat) (l : List UInt8) (t : Ty) (hp : t.parts = []) (hwf : t.wf) (a : Option Addr) (n c : Nat) (w : World) (hW : WrAt B b l w) (hB : B ≤ w.heap.size) (hl : l.length + (bwT t).length ≤ 140737488355328) :
    Calls Tryz.prog 89 #[.pointer (some ⟨b, 0, none⟩), nV t.letter.toNat ⟨t.code.toArray⟩ t.count ⟨t.tag.toArray⟩ a n c] w fun e w' => e = .returned (.tuple #[]) ∧ WrAt B b (l ++ bwT t) w' ∧ FrB B b w w' := by
  have HW := Lib.hid (fun w' (hb : Below w.heap.size w w') (s : List UInt8) (hs : l.length + s.length ≤ 140737488355328) => c_WriteString B b l s w' (hW.next hb) hs (Nat.le_trans hB hb.size))
  cases t with
  | ptr t => cases hp
  | arr n t => cases hp
  | fn ps r => exact absurd hp (by simp [Ty.parts])
  | str s =>
    have HL := Lib.hid hl
    obtain ⟨s1, hs1⟩ : ∃ s1, (⟨(Ty.str s).code.toArray⟩ : ByteArray) = s1 := ⟨_, rfl⟩
    rw [hs1]
    show Calls _ _ #[_, nV 83 s1 0 ⟨s.toArray⟩ a n c] w _
    have hsl : s.length ≤ 140737488355328 := by have h : l.length + ([115, 116, 114, 117, 99, 116] ++ 32 :: s : List UInt8).length ≤ _ := hl; simp at h; omega
    have hj := add_s [115, 116, 114, 117, 99, 116, 32] s (by simp; omega)
    rw [show ([115, 116, 114, 117, 99, 116, 32] : List UInt8) ++ s = bwT (.str s) by simp [bwT]] at hj
    clear hp hwf hl hs1 hsl
    go_enter Tryz.func89, Tryz.ntmps89
    go_wp2_with fail
    go_region_with (go_at_call 60; refine (HW.out _ (below_a _ _).drew (bwT (.str s)) HL.out).mono ?_; rintro e w2 ⟨rfl, h2, hb2⟩)
    all_goals
      go_wp2_with fail
      go_end0
      exact ⟨rfl, h2, frb_on (below_a _ _).drew hb2 hB⟩
  | base x =>
    obtain ⟨s1, hs1⟩ : ∃ s1, (⟨(Ty.base x).code.toArray⟩ : ByteArray) = s1 := ⟨_, rfl⟩
    rw [hs1]
    have HL := Lib.hid hl
    have hx : x = 118 ∨ x = 99 ∨ x = 115 ∨ x = 105 ∨ x = 117 ∨ x = 106 := by
      have h : baseC x = true := hwf
      unfold baseC at h
      simp at h
      rcases h with ((((h | h) | h) | h) | h) | h <;> simp [h]
    clear hp hwf hl hs1
    rcases hx with rfl | rfl | rfl | rfl | rfl | rfl
    · show Calls _ _ #[_, nV 118 s1 0 ⟨#[]⟩ a n c] w _
      go_enter Tryz.func89, Tryz.ntmps89
      go_wp2_with fail
      refine (HW.out _ (below_a _ _) (bwT (.base 118)) HL.out).mono ?_
      rintro e w2 ⟨rfl, h2, hb2⟩
      go_wp2_with fail
      go_end0
      exact ⟨rfl, h2, frb_on (below_a _ _) hb2 hB⟩
    · show Calls _ _ #[_, nV 99 s1 0 ⟨#[]⟩ a n c] w _
      go_enter Tryz.func89, Tryz.ntmps89
      go_wp2_with fail
      refine (HW.out _ (below_a _ _) (bwT (.base 99)) HL.out).mono ?_
      rintro e w2 ⟨rfl, h2, hb2⟩
      go_wp2_with fail
      go_end0
      exact ⟨rfl, h2, frb_on (below_a _ _) hb2 hB⟩
    · show Calls _ _ #[_, nV 115 s1 0 ⟨#[]⟩ a n c] w _
      go_enter Tryz.func89, Tryz.ntmps89
      go_wp2_with fail
      refine (HW.out _ (below_a _ _) (bwT (.base 115)) HL.out).mono ?_
      rintro e w2 ⟨rfl, h2, hb2⟩
      go_wp2_with fail
      go_end0
      exact ⟨rfl, h2, frb_on (below_a _ _) hb2 hB⟩
    · show Calls _ _ #[_, nV 105 s1 0 ⟨#[]⟩ a n c] w _
      go_enter Tryz.func89, Tryz.ntmps89
      go_wp2_with fail
      refine (HW.out _ (below_a _ _) (bwT (.base 105)) HL.out).mono ?_
      rintro e w2 ⟨rfl, h2, hb2⟩
      go_wp2_with fail
      go_end0
      exact ⟨rfl, h2, frb_on (below_a _ _) hb2 hB⟩
    · show Calls _ _ #[_, nV 117 s1 0 ⟨#[]⟩ a n c] w _
      go_enter Tryz.func89, Tryz.ntmps89
      go_wp2_with fail
      refine (HW.out _ (below_a _ _) (bwT (.base 117)) HL.out).mono ?_
      rintro e w2 ⟨rfl, h2, hb2⟩
      go_wp2_with fail
      go_end0
      exact ⟨rfl, h2, frb_on (below_a _ _) hb2 hB⟩
    · show Calls _ _ #[_, nV 106 s1 0 ⟨#[]⟩ a n c] w _
      go_enter Tryz.func89, Tryz.ntmps89
      go_wp2_with fail
      refine (HW.out _ (below_a _ _) (bwT (.base 106)) HL.out).mono ?_
      rintro e w2 ⟨rfl, h2, hb2⟩
      go_wp2_with fail
      go_end0
      exact ⟨rfl, h2, frb_on (below_a _ _) hb2 hB⟩
theorem tight_br (u : Ty) (h : u.wf) : brI (u.letter.toNat : Int) = u.tight := by
  cases u with
  | base c =>
    have hc : baseC c = true := h
    unfold baseC at hc
    simp at hc
    rcases hc with ((((hc | hc) | hc) | hc) | hc) | hc <;> (subst hc; rfl)
  | _ => rfl
/-- What stands ahead, of any type. -/
theorem c_ahead (B b : Nat) (S : Nat → Prop) (l : List UInt8) (t : Ty) (hwf : t.wf) (a : Option Addr) (n c : Nat) (w : World) (hS : ∀ j, S j → j < w.heap.size) (hN : Nd S w t (.slice a n c)) (hW : WrAt B b l w) (hB : B ≤ w.heap.size) (hl : l.length + (ahT t).length ≤ 140737488355328) :
    Calls Tryz.prog 90 #[.pointer (some ⟨b, 0, none⟩), nV t.letter.toNat ⟨t.code.toArray⟩ t.count ⟨t.tag.toArray⟩ a n c] w fun e w' => e = .returned (.tuple #[]) ∧ WrAt B b (l ++ ahT t) w' ∧ FrB B b w w' := by
  have hz : ∀ (x : Int), (t.letter.toNat : Int) = x → (x == 112) = false → ahT t = [] → Calls Tryz.prog 90 #[.pointer (some ⟨b, 0, none⟩), nV t.letter.toNat ⟨t.code.toArray⟩ t.count ⟨t.tag.toArray⟩ a n c] w fun e w' => e = .returned (.tuple #[]) ∧ WrAt B b (l ++ ahT t) w' ∧ FrB B b w w' := fun x hx h1 h2 => by
    rw [h2, List.append_nil, hx]
    exact c_ahead0 B b l x _ _ _ _ _ _ h1 w hW hB
  cases t with
  | arr m t => exact hz 97 rfl rfl rfl
  | fn ps r => exact hz 102 rfl rfl rfl
  | str s => exact hz 83 rfl rfl rfl
  | base x =>
    have hc : baseC x = true := hwf
    unfold baseC at hc
    simp at hc
    rcases hc with ((((hc | hc) | hc) | hc) | hc) | hc <;> (subst hc; exact hz _ rfl rfl rfl)
  | ptr u =>
    have h := c_aheadP B b l ⟨(Ty.ptr u).code.toArray⟩ 0 ⟨#[]⟩ a n c u.tight w hW hB hl (fun w' hb => by
      have h := c_isBr (.ptr u) u [] rfl (by simp) 112 ⟨(Ty.ptr u).code.toArray⟩ 0 ⟨#[]⟩ a n c rfl _ rfl w' (Nd.mono hN (fun j hj => Nat.lt_of_lt_of_le (hS j hj) hb.size) (fun j hj => hb.block j (hS j hj)))
      rw [tight_br u hwf] at h
      exact h)
    exact h
/-- A function's parameters, as they lie. -/
structure PaAt (S : Nat → Prop) (A : List Ty) (g : Nat) (L : List (Ty × Value)) (w : World) : Prop where
  map : L.map Prod.fst = A
  blk : S g
  cells : ∀ k p, L[k]? = some p → ∀ i x, (ndC p.1 p.2)[i]? = some x → w.cell? ⟨g, k * 5 + i, none⟩ = some x
  kids : ∀ p ∈ L, Nd S w p.1 p.2
theorem PaAt.keep {S : Nat → Prop} {A : List Ty} {g : Nat} {L : List (Ty × Value)} {w w' : World} (h : PaAt S A g L w) (hw : ∀ j, S j → w'.heap[j]? = w.heap[j]?) : PaAt S A g L w' :=
  ⟨h.map, h.blk, fun k p hk i x hx => (cell_of_blk (hw g h.blk) _).trans (h.cells k p hk i x hx), fun p hp => (h.kids p hp).mono (fun j hj => hj) hw⟩
theorem Nd.pars {S : Nat → Prop} {w : World} {t : Ty} {v : Value} (h : Nd S w t v) {A : List Ty} {u : Ty} (ht : t.parts = A ++ [u]) :
    ∃ g cap L, v = .slice (some ⟨g, 0, none⟩) (A.length + 1) cap ∧ A.length + 1 ≤ cap ∧ PaAt S A g L w := by
  cases h with
  | leaf t h => rw [h] at ht; exact absurd ht (by simp)
  | row t g cap L h1 h2 h3 h4 h5 h6 =>
    have hl : L.length = A.length + 1 := by
      have := congrArg List.length (h1.symm.trans ht)
      simpa using this
    refine ⟨g, cap, L.take A.length, by rw [hl], by omega, ⟨?_, h4, fun k p hk i x hx => ?_, fun p hp => h6 p (List.mem_of_mem_take hp)⟩⟩
    · rw [List.map_take, ← h1, ht, List.take_left]
    · obtain ⟨t2, v2⟩ := p
      have hk2 : L[k]? = some (t2, v2) := by
        rw [List.getElem?_take] at hk
        split at hk
        · exact hk
        · cases hk
      have hi : i < 5 := by
        have := (List.getElem?_eq_some_iff.1 hx).1
        rwa [ndC_len] at this
      exact h5 _ _ ((ndCs_at L k t2 v2 hk2 i hi).trans hx)
set_option maxHeartbeats 2000000 in
theorem c_params (m : Nat) (x0 : Int) (s1 : ByteArray) (x2 : Int) (s3 : ByteArray) (g cap : Nat) (hc : m + 1 ≤ cap) (hm : m ≤ 65536) (w : World) :
    Calls Tryz.prog 58 #[nV x0 s1 x2 s3 (some ⟨g, 0, none⟩) (m + 1) cap] w fun e w' => e = .returned (.slice (some ⟨g, 0, none⟩) m cap) ∧ Below w.heap.size w w' := by
  have hw : IntKind.i64.wrap (m : Int) = m := by rw [IntKind.wrap_i64]; omega
  have h0 : (0 : Int) ≤ (m : Int) := by omega
  have h1 : (m : Int) ≤ (cap : Int) := by omega
  have h2 : m ≤ cap := by omega
  go_enter Tryz.func58, Tryz.ntmps58
  go_wp2_with fail
  go_ret
  exact ⟨rfl, below_a _ _⟩
end Go.Proofs.YtacbjhbiaaieoaaGreatDoor
