/-
  Plain: what is asked of types and structs: depth, form, what is lacking, what is too great, structs laid out.
-/
import Derived.Test.YtjadckhngalmlaaGreatDoorZTyOnh
import Derived.Test.YtjadckhngalmlaaGreatDoorZTyOne
import Derived.Test.YtjadckhngalmlaaGreatDoorShelf
import Derived.Shelf.Strings.Builder1
import Derived.Test.YtjadckhngalmlaaGreatDoorChecked
import Derived.WalkKit
import Derived.WalkSmall
import Derived.Below
import Derived.Lib.Hide
import Derived.Outline
import Derived.Deep.QuietTactic
import Derived.Laws.AppendOwn
import Derived.Lib.OthersKept
import Derived.Lib.OwnKind
import Derived.Test.YtjadckhngalmlaaGreatDoorZTyDe
import Derived.Shelf.Strconv.Itoa3
/-! The contracts of what is asked of one node, in the code. -/
namespace Go.Proofs.YtjadckhngalmlaaGreatDoor
set_option linter.unusedVariables false
set_option linter.unusedSimpArgs false
set_option maxRecDepth 100000
open Go.RowKit

theorem nd_val (t : Ty) (s : Value) : ndV t s = .agg #[.int .u8 t.letter.toNat, .string ⟨t.code.toArray⟩, .int .i64 t.count, .string ⟨t.tag.toArray⟩, s] := rfl
theorem Nd.last {S : Nat → Prop} {w : World} {t : Ty} {v : Value} (h : Nd S w t v) {A : List Ty} {u : Ty} (ht : t.parts = A ++ [u]) :
    ∃ g cap a n c, v = .slice (some ⟨g, 0, none⟩) (A.length + 1) cap ∧ A.length + 1 ≤ cap ∧ g < w.heap.size ∧ Nd S w u (.slice a n c) ∧ w.cell? ⟨g, A.length * 5, none⟩ = some (.int .u8 u.letter.toNat) ∧ w.cell? ⟨g, A.length * 5 + 1, none⟩ = some (.string ⟨u.code.toArray⟩) ∧ w.cell? ⟨g, A.length * 5 + 2, none⟩ = some (.int .i64 u.count) ∧ w.cell? ⟨g, A.length * 5 + 3, none⟩ = some (.string ⟨u.tag.toArray⟩) ∧ w.cell? ⟨g, A.length * 5 + 4, none⟩ = some (.slice a n c) := by
  obtain ⟨g, cap, s, hv, hc, hS, hn, hx⟩ := h.part (k := A.length) (u := u) (by rw [ht]; simp)
  have hl : t.parts.length = A.length + 1 := by rw [ht]; simp
  rw [hl] at hv hc
  obtain ⟨a, c, hs, _⟩ := hn.sl
  subst hs
  exact ⟨g, cap, a, _, c, hv, hc, World.block_lt_of_cell? w ⟨g, A.length * 5 + 0, none⟩ (hx 0 _ rfl), hn, hx 0 _ rfl, hx 1 _ rfl, hx 2 _ rfl, hx 3 _ rfl, hx 4 _ rfl⟩
set_option maxHeartbeats 4000000 in
theorem c_inner (S : Nat → Prop) (t : Ty) (s : Value) (w : World) (hN : Nd S w t s) (A : List Ty) (u : Ty) (ht : t.parts = A ++ [u]) (hA : A.length ≤ 65536) :
    Calls Tryz.prog 104 #[ndV t s] w fun e w' => (∃ a n c, e = .returned (ndV u (.slice a n c)) ∧ Nd S w u (.slice a n c)) ∧ Below w.heap.size w w' := by
  obtain ⟨g, cap, a, n, c, hv, hcap, hg, hn, n0, n1, n2, n3, n4⟩ := hN.last ht
  subst hv
  rw [nd_val]
  have HNd := Lib.hid hn
  obtain ⟨m, hm⟩ : ∃ m, A.length = m := ⟨_, rfl⟩
  rw [hm] at hcap n0 n1 n2 n3 n4 hA ⊢
  have hg1 : g < w.heap.size + 1 := by omega
  obtain ⟨x0, hx0⟩ : ∃ x0 : Int, (t.letter.toNat : Int) = x0 := ⟨_, rfl⟩
  obtain ⟨y0, hy0⟩ : ∃ y0 : Int, (u.letter.toNat : Int) = y0 := ⟨_, rfl⟩
  obtain ⟨y2, hy2⟩ : ∃ y2 : Int, (u.count : Int) = y2 := ⟨_, rfl⟩
  rw [hx0]
  have HY : Hid (ndV u (.slice a n c) = .agg #[.int .u8 y0, .string ⟨u.code.toArray⟩, .int .i64 y2, .string ⟨u.tag.toArray⟩, .slice a n c]) := by show _ = _; rw [nd_val, hy0, hy2]
  rw [hy0] at n0
  rw [hy2] at n2
  have hw : IntKind.i64.wrap (m : Int) = m := by rw [IntKind.wrap_i64]; omega
  have hlt : (m : Int) < (m : Int) + 1 := by omega
  have hlt0 : (0 : Int) ≤ (m : Int) := by omega
  clear hn hN ht hm hx0 hy0 hy2
  go_enter Tryz.func104, Tryz.ntmps104
  go_wp2_with fail
  refine bodyPost_ret (v := .agg #[.int .u8 y0, .string ⟨u.code.toArray⟩, .int .i64 y2, .string ⟨u.tag.toArray⟩, .slice a n c]) (by simp [results, Tryz.results104, go_sem]) rfl ?_
  exact ⟨⟨a, n, c, by rw [HY.out], HNd.out⟩, ((Below.refl _ _).alloc (Nat.le_refl _) _).alloc (by simp) _⟩
def intI (x : Int) : Bool := x == 99 || x == 115 || x == 105 || x == 117
def scaI (x : Int) : Bool := intI x || x == 112
def objI (x : Int) : Bool := x != 118 && x != 102
/-- A node as a value. -/
abbrev nV (x0 : Int) (s1 : ByteArray) (x2 : Int) (s3 : ByteArray) (a : Option Addr) (n c : Nat) : Value := .agg #[.int .u8 x0, .string s1, .int .i64 x2, .string s3, .slice a n c]
theorem below_a (w : World) (o : Obj) : Below w.heap.size w (w.alloc o) := (Below.refl _ _).alloc (Nat.le_refl _) o
theorem c_isInt (x0 : Int) (s1 : ByteArray) (x2 : Int) (s3 : ByteArray) (a : Option Addr) (n c : Nat) (w : World) :
    Calls Tryz.prog 135 #[nV x0 s1 x2 s3 a n c] w fun e w' => e = .returned (.bool (intI x0)) ∧ Below w.heap.size w w' := by
  go_enter Tryz.func135, Tryz.ntmps135
  go_wp2
  all_goals
    go_ret
    refine ⟨ret_b ?_, below_a _ _⟩
    unfold intI
    simp_all
theorem c_isScalar (x0 : Int) (s1 : ByteArray) (x2 : Int) (s3 : ByteArray) (a : Option Addr) (n c : Nat) (w : World) :
    Calls Tryz.prog 129 #[nV x0 s1 x2 s3 a n c] w fun e w' => e = .returned (.bool (scaI x0)) ∧ Below w.heap.size w w' := by
  have HI := Lib.hid (c_isInt x0 s1 x2 s3 a n c)
  unfold scaI
  cases hi : intI x0
  all_goals
    rw [hi] at HI
    go_enter Tryz.func129, Tryz.ntmps129
    go_wp2_with fail
    refine (HI.out _).mono ?_
    rintro e w2 ⟨rfl, hb⟩
    have n0 : w2.cell? ⟨w.heap.size, 0, none⟩ = some (.int .u8 x0) := (cell_of_blk (hb.block _ (by simp)) 0).trans (by simp)
    have HB := Lib.hid (((below_a w (.cells #[.int .u8 x0, .string s1, .int .i64 x2, .string s3, .slice a n c] 173)).trans (hb.mono (by simp))))
    clear hb
    go_wp2_with fail
    go_ret
    exact ⟨rfl, HB.out⟩
theorem c_isObject (x0 : Int) (s1 : ByteArray) (x2 : Int) (s3 : ByteArray) (a : Option Addr) (n c : Nat) (w : World) :
    Calls Tryz.prog 113 #[nV x0 s1 x2 s3 a n c] w fun e w' => e = .returned (.bool (objI x0)) ∧ Below w.heap.size w w' := by
  go_enter Tryz.func113, Tryz.ntmps113
  go_wp2
  all_goals
    go_ret
    refine ⟨ret_b ?_, below_a _ _⟩
    unfold objI
    simp_all
end Go.Proofs.YtjadckhngalmlaaGreatDoor
/-! The contracts of what is asked of a type's tree, at the trees that the chapter's first examples have, in the code. -/
namespace Go.Proofs.YtjadckhngalmlaaGreatDoor
set_option linter.unusedVariables false
set_option linter.unusedSimpArgs false
set_option maxRecDepth 100000
open Go.RowKit

end Go.Proofs.YtjadckhngalmlaaGreatDoor
/-! The contracts of a type that is right, and of an object's, in the code: where all that it asks answers so. -/
namespace Go.Proofs.YtjadckhngalmlaaGreatDoor
set_option linter.unusedVariables false
set_option linter.unusedSimpArgs false
set_option maxRecDepth 100000
open Go.RowKit

theorem Nd.nil {S : Nat → Prop} {w : World} {t : Ty} {v : Value} (h : Nd S w t v) (ht : t.parts = []) : v = .slice none 0 0 := by
  cases h with
  | leaf t h => rfl
  | row t g cap L h1 h2 h3 h4 h5 h6 =>
    rw [ht] at h1
    cases L with
    | nil => exact absurd rfl h2
    | cons p L => cases h1
theorem blk_next {w w' : World} {g : Nat} {o : Obj} (h : w.heap[g]? = some o) (hb : Below w.heap.size w w') : w'.heap[g]? = some o := (hb.block g (Array.getElem?_eq_some_iff.1 h).1).trans h
/-- Parts that lie in the world as it is. -/
def NdIn (t : Ty) (v : Value) (w : World) : Prop := Nd (fun j => j < w.heap.size) w t v
theorem NdIn.next {t : Ty} {v : Value} {w w' : World} (h : NdIn t v w) (hb : Below w.heap.size w w') : NdIn t v w' := Nd.mono h (fun j hj => Nat.lt_of_lt_of_le hj hb.size) (fun j hj => hb.block j hj)
theorem below_on {B : Nat} {w w1 w2 : World} (h : Below B w w1) (k : Below w1.heap.size w1 w2) (hB : B ≤ w1.heap.size) : Below B w w2 := h.trans (k.mono hB)
end Go.Proofs.YtjadckhngalmlaaGreatDoor
/-! The contract of takeApart at every text; of decay, promotion and the common type, in the code. -/
namespace Go.Proofs.YtjadckhngalmlaaGreatDoor
set_option linter.unusedVariables false
set_option linter.unusedSimpArgs false
set_option maxRecDepth 100000
open Go.RowKit

/-- A text as a type, if it is not too long. -/
def tk (l : List UInt8) : Option Ty := if l.length ≤ 65536 then tyR l else none
theorem tk_some {l : List UInt8} {t : Ty} (h : tk l = some t) : t.wf ∧ l = t.code ∧ l.length ≤ 65536 := by
  unfold tk at h
  split at h
  · rename_i hl
    have := tyR_some h
    exact ⟨this.1, this.2, hl⟩
  · cases h
/-- What takeApart answers. -/
def TkR (l : List UInt8) (w : World) (e : Ending) (w' : World) : Prop :=
  Below w.heap.size w w' ∧ ((∃ t a n c, tk l = some t ∧ e = .returned (.tuple #[nV t.letter.toNat ⟨t.code.toArray⟩ t.count ⟨t.tag.toArray⟩ a n c, .bool true]) ∧ Nd (Fm w.heap.size w') w' t (.slice a n c)) ∨ (tk l = none ∧ e = .returned (.tuple #[zV, .bool false])))
set_option maxHeartbeats 2000000 in
theorem c_tk (B : Nat) (l : List UInt8) (w : World) (hE : Env B w) (hB : B ≤ w.heap.size) (hm : l.length ≤ 9223372036854775807) :
    Calls Tryz.prog 102 #[.string ⟨l.toArray⟩] w fun e w' => TkR l w e w' := by
  by_cases hl : l.length ≤ 65536
  · refine (c_takeApart B l w hE hB hl).mono fun e w' h => ?_
    obtain ⟨hb, h⟩ := h
    refine ⟨hb, ?_⟩
    rcases h with ⟨t, s, h1, h2, h3⟩ | ⟨h1, h2⟩
    · obtain ⟨a, c, hs, _⟩ := h3.sl
      subst hs
      refine .inl ⟨t, a, _, c, by unfold tk; rw [if_pos hl, h1], ?_, h3⟩
      rw [h2]
      rfl
    · exact .inr ⟨by unfold tk; rw [if_pos hl, h1], h2⟩
  · have hgt : decide (65536 < (l.length : Int)) = true := by simp; omega
    have HT : Hid (tk l = none) := by show _ = _; unfold tk; rw [if_neg hl]
    clear hE hl
    go_enter Tryz.func102, Tryz.ntmps102
    go_wp2_with fail
    refine bodyPost_ret (v := .tuple #[zV, .bool false]) (by simp [zV, results, Tryz.results102, go_sem]) rfl ?_
    refine ⟨?_, .inr ⟨HT.out, rfl⟩⟩
    first
      | exact below_a _ _
      | (refine Below.alloc ?_ ?_ _; · exact below_stp (below_a _ _) (Stp.five0 w.heap.size _ (.int .u8 0) (.string ⟨#[]⟩) (.int .i64 0) (.string ⟨#[]⟩) (.slice none 0 0)) (Nat.le_refl _); · simp)
      | exact below_stp (below_a _ _) (Stp.five0 w.heap.size _ (.int .u8 0) (.string ⟨#[]⟩) (.int .i64 0) (.string ⟨#[]⟩) (.slice none 0 0)) (Nat.le_refl _)
      | (refine below_stp ?_ (Stp.five0 w.heap.size _ (.int .u8 0) (.string ⟨#[]⟩) (.int .i64 0) (.string ⟨#[]⟩) (.slice none 0 0)) (Nat.le_refl _); exact (below_a _ _).alloc (by simp) _)
theorem c_tkS (B : Nat) (l : List UInt8) (w : World) (hE : Env B w) (hB : B ≤ w.heap.size) (hm : l.length ≤ 9223372036854775807) (t : Ty) (ht : tk l = some t) :
    Calls Tryz.prog 102 #[.string ⟨l.toArray⟩] w fun e w' => (∃ a n c, e = .returned (.tuple #[nV t.letter.toNat ⟨t.code.toArray⟩ t.count ⟨t.tag.toArray⟩ a n c, .bool true]) ∧ Nd (Fm w.heap.size w') w' t (.slice a n c)) ∧ Below w.heap.size w w' :=
  (c_tk B l w hE hB hm).mono fun e w' h => by
    obtain ⟨hb, ⟨t', a, n, c, h1, h2, h3⟩ | ⟨h1, _⟩⟩ := h
    · rw [ht] at h1
      cases h1
      exact ⟨⟨a, n, c, h2, h3⟩, hb⟩
    · rw [ht] at h1
      cases h1
theorem c_tkN (B : Nat) (l : List UInt8) (w : World) (hE : Env B w) (hB : B ≤ w.heap.size) (hm : l.length ≤ 9223372036854775807) (ht : tk l = none) :
    Calls Tryz.prog 102 #[.string ⟨l.toArray⟩] w fun e w' => e = .returned (.tuple #[nV 0 ⟨#[]⟩ 0 ⟨#[]⟩ none 0 0, .bool false]) ∧ Below w.heap.size w w' :=
  (c_tk B l w hE hB hm).mono fun e w' h => by
    obtain ⟨hb, ⟨t', a, n, c, h1, h2, h3⟩ | ⟨_, h2⟩⟩ := h
    · rw [ht] at h1
      cases h1
    · exact ⟨h2, hb⟩
end Go.Proofs.YtjadckhngalmlaaGreatDoor
/-! The contracts of decay and of the common type, in the code; what holds of them. -/
namespace Go.Proofs.YtjadckhngalmlaaGreatDoor
set_option linter.unusedVariables false
set_option linter.unusedSimpArgs false
set_option maxRecDepth 100000
open Go.RowKit

end Go.Proofs.YtjadckhngalmlaaGreatDoor
/-! The contracts of the common type and of form, in the code. -/
namespace Go.Proofs.YtjadckhngalmlaaGreatDoor
set_option linter.unusedVariables false
set_option linter.unusedSimpArgs false
set_option maxRecDepth 100000
open Go.RowKit

end Go.Proofs.YtjadckhngalmlaaGreatDoor
namespace Go.Proofs.YtjadckhngalmlaaGreatDoor
set_option linter.unusedVariables false
set_option linter.unusedSimpArgs false
set_option maxRecDepth 100000
open Go.RowKit

/-- What a write into the builder in block b leaves as it was: what lies below B; every block but b that is no row of bytes. -/
structure FrB (B b : Nat) (w w' : World) : Prop where
  bel : Below B w w'
  oth : Lib.OthersKept 5 (some b) w w'
theorem FrB.refl (B b : Nat) (w : World) : FrB B b w w := ⟨Below.refl _ _, Lib.OthersKept.refl _ _ _⟩
theorem FrB.trans {B b : Nat} {a c d : World} (h : FrB B b a c) (k : FrB B b c d) : FrB B b a d := ⟨h.bel.trans k.bel, h.oth.trans k.oth⟩
theorem FrB.drew {B b : Nat} {a c : World} (h : FrB B b a c) : FrB B b a c.drew := ⟨h.bel.drew, h.oth.drew⟩
theorem FrB.drewN {B b : Nat} {a c : World} (h : FrB B b a c) (n : Nat) : FrB B b a (c.drewN n) := ⟨_root_.Go.below_drewN h.bel n, h.oth⟩
theorem FrB.size {B b : Nat} {a c : World} (h : FrB B b a c) : a.heap.size ≤ c.heap.size := h.bel.size
theorem FrB.alloc {B b : Nat} {a c : World} (h : FrB B b a c) (hB : B ≤ c.heap.size) (o : Obj) : FrB B b a (c.alloc o) := ⟨h.bel.alloc hB o, h.oth.alloc o⟩
theorem FrB.of {B b : Nat} {w w' : World} (h : Below w.heap.size w w') (hB : B ≤ w.heap.size) : FrB B b w w' :=
  ⟨⟨h.os, h.tape, h.output, h.size, fun k hk => h.block k (by omega)⟩, fun k o hk _ _ => (h.block k (Array.getElem?_eq_some_iff.1 hk).1).trans hk⟩
theorem FrB.keep {B b : Nat} {w w' : World} (h : FrB B b w w') {k : Nat} {c : Array Value} {T : TypeId} {fz : Nat × Nat} (hk : w.heap[k]? = some (.cells c T fz)) (hb : k ≠ b) (hT : T ≠ 5) : w'.heap[k]? = some (.cells c T fz) :=
  h.oth k _ hk (fun e => hb (by simpa using e)) (fun c' fz' e => by injection e with _ e2 _; exact hT e2)
end Go.Proofs.YtjadckhngalmlaaGreatDoor
namespace Go.Proofs.YtjadckhngalmlaaGreatDoor
set_option linter.unusedVariables false
set_option linter.unusedSimpArgs false
set_option maxRecDepth 100000
open Go.RowKit

end Go.Proofs.YtjadckhngalmlaaGreatDoor
namespace Go.Proofs.YtjadckhngalmlaaGreatDoor
set_option linter.unusedVariables false
set_option linter.unusedSimpArgs false
set_option maxRecDepth 100000
open Go.RowKit

theorem nd_nV (t : Ty) (a : Option Addr) (n c : Nat) : ndV t (.slice a n c) = nV t.letter.toNat ⟨t.code.toArray⟩ t.count ⟨t.tag.toArray⟩ a n c := rfl
theorem five_set {w : World} {g : Nat} {a0 a1 a2 a3 a4 : Value} {T : TypeId} (h : w.heap[g]? = some (.cells #[a0, a1, a2, a3, a4] T)) (c0 c1 c2 c3 c4 : Value) :
    (((((w.setCell ⟨g, 0, none⟩ c0).setCell ⟨g, 1, none⟩ c1).setCell ⟨g, 2, none⟩ c2).setCell ⟨g, 3, none⟩ c3).setCell ⟨g, 4, none⟩ c4).heap[g]? = some (.cells #[c0, c1, c2, c3, c4] T) :=
  heap_setCell_same _ g 4 _ _ c4 (heap_setCell_same _ g 3 _ _ c3 (heap_setCell_same _ g 2 _ _ c2 (heap_setCell_same _ g 1 _ _ c1 (heap_setCell_same w g 0 _ _ c0 h))))
end Go.Proofs.YtjadckhngalmlaaGreatDoor
namespace Go.Proofs.YtjadckhngalmlaaGreatDoor
set_option linter.unusedVariables false
set_option linter.unusedSimpArgs false
set_option maxRecDepth 100000
open Go.RowKit

/-- A function's parameters, as they lie. -/
structure PaAt (S : Nat → Prop) (A : List Ty) (g : Nat) (L : List (Ty × Value)) (w : World) : Prop where
  map : L.map Prod.fst = A
  blk : S g
  cells : ∀ k p, L[k]? = some p → ∀ i x, (ndC p.1 p.2)[i]? = some x → w.cell? ⟨g, k * 5 + i, none⟩ = some x
  kids : ∀ p ∈ L, Nd S w p.1 p.2
theorem PaAt.keep {S : Nat → Prop} {A : List Ty} {g : Nat} {L : List (Ty × Value)} {w w' : World} (h : PaAt S A g L w) (hw : ∀ j, S j → w'.heap[j]? = w.heap[j]?) : PaAt S A g L w' :=
  ⟨h.map, h.blk, fun k p hk i x hx => (cell_of_blk (hw g h.blk) _).trans (h.cells k p hk i x hx), fun p hp => (h.kids p hp).mono (fun j hj => hj) hw⟩
theorem Nd.pars {S : Nat → Prop} {w : World} {t : Ty} {v : Value} (h : Nd S w t v) {A : List Ty} {u : Ty} (ht : t.parts = A ++ [u]) :
    ∃ g cap L, v = .slice (some ⟨g, 0, none⟩) (A.length + 1) cap ∧ A.length + 1 ≤ cap ∧ PaAt S A g L w := by
  cases h with
  | leaf t h => rw [h] at ht; exact absurd ht (by simp)
  | row t g cap L h1 h2 h3 h4 h5 h6 =>
    have hl : L.length = A.length + 1 := by
      have := congrArg List.length (h1.symm.trans ht)
      simpa using this
    refine ⟨g, cap, L.take A.length, by rw [hl], by omega, ⟨?_, h4, fun k p hk i x hx => ?_, fun p hp => h6 p (List.mem_of_mem_take hp)⟩⟩
    · rw [List.map_take, ← h1, ht, List.take_left]
    · obtain ⟨t2, v2⟩ := p
      have hk2 : L[k]? = some (t2, v2) := by
        rw [List.getElem?_take] at hk
        split at hk
        · exact hk
        · cases hk
      have hi : i < 5 := by
        have := (List.getElem?_eq_some_iff.1 hx).1
        rwa [ndC_len] at this
      exact h5 _ _ ((ndCs_at L k t2 v2 hk2 i hi).trans hx)
set_option maxHeartbeats 2000000 in
theorem c_params (m : Nat) (x0 : Int) (s1 : ByteArray) (x2 : Int) (s3 : ByteArray) (g cap : Nat) (hc : m + 1 ≤ cap) (hm : m ≤ 65536) (w : World) :
    Calls Tryz.prog 103 #[nV x0 s1 x2 s3 (some ⟨g, 0, none⟩) (m + 1) cap] w fun e w' => e = .returned (.slice (some ⟨g, 0, none⟩) m cap) ∧ Below w.heap.size w w' := by
  have hw : IntKind.i64.wrap (m : Int) = m := by rw [IntKind.wrap_i64]; omega
  have h0 : (0 : Int) ≤ (m : Int) := by omega
  have h1 : (m : Int) ≤ (cap : Int) := by omega
  have h2 : m ≤ cap := by omega
  go_enter Tryz.func103, Tryz.ntmps103
  go_wp2_with fail
  go_ret
  exact ⟨rfl, below_a _ _⟩
end Go.Proofs.YtjadckhngalmlaaGreatDoor
namespace Go.Proofs.YtjadckhngalmlaaGreatDoor
set_option linter.unusedVariables false
set_option linter.unusedSimpArgs false
set_option maxRecDepth 100000
open Go.RowKit

theorem FrB.pa {B b : Nat} {w w' : World} {S : Nat → Prop} {A : List Ty} {g : Nat} {L : List (Ty × Value)} (h : FrB B b w w') (hS : ∀ j, S j → j < B) (hP : PaAt S A g L w) : PaAt S A g L w' := hP.keep fun j hj => h.bel.block j (hS j hj)
/-- A part's cells. -/
theorem PaAt.at {S : Nat → Prop} {A : List Ty} {g : Nat} {L : List (Ty × Value)} {w : World} (h : PaAt S A g L w) {k : Nat} {u : Ty} (hk : A[k]? = some u) :
    ∃ a n c, Nd S w u (.slice a n c) ∧ g < w.heap.size ∧ w.cell? ⟨g, k * 5, none⟩ = some (.int .u8 u.letter.toNat) ∧ w.cell? ⟨g, k * 5 + 1, none⟩ = some (.string ⟨u.code.toArray⟩) ∧ w.cell? ⟨g, k * 5 + 2, none⟩ = some (.int .i64 u.count) ∧ w.cell? ⟨g, k * 5 + 3, none⟩ = some (.string ⟨u.tag.toArray⟩) ∧ w.cell? ⟨g, k * 5 + 4, none⟩ = some (.slice a n c) := by
  rw [← h.map, List.getElem?_map] at hk
  obtain ⟨⟨u', v⟩, hp, hu⟩ := Option.map_eq_some_iff.1 hk
  have hu' : u' = u := hu
  subst hu'
  have hn := h.kids _ (List.mem_of_getElem? hp)
  obtain ⟨a, c, hv, _⟩ := hn.sl
  have hv' : v = .slice a u'.parts.length c := hv
  have hx := h.cells k _ hp
  have hn' : Nd S w u' v := hn
  rw [hv'] at hn' hx
  exact ⟨a, _, c, hn', World.block_lt_of_cell? w ⟨g, k * 5 + 0, none⟩ (hx 0 _ rfl), hx 0 _ rfl, hx 1 _ rfl, hx 2 _ rfl, hx 3 _ rfl, hx 4 _ rfl⟩
end Go.Proofs.YtjadckhngalmlaaGreatDoor
namespace Go.Proofs.YtjadckhngalmlaaGreatDoor
set_option linter.unusedVariables false
set_option linter.unusedSimpArgs false

mutual
def Ty.dep : Ty → Nat
  | .base _ => 1
  | .str _ => 1
  | .ptr t => t.dep + 1
  | .arr _ t => t.dep + 1
  | .fn ps r => max ps.dep r.dep + 1
def Tys.dep : Tys → Nat
  | .nil => 0
  | .cons t ts => max t.dep ts.dep
end
def depL : List Ty → Nat
  | [] => 0
  | t :: l => max t.dep (depL l)
theorem depL_snoc : ∀ (l : List Ty) (u : Ty), depL (l ++ [u]) = max (depL l) u.dep
  | [], u => by show max u.dep 0 = max 0 u.dep; omega
  | t :: l, u => by
    show max t.dep (depL (l ++ [u])) = max (max t.dep (depL l)) u.dep
    rw [depL_snoc l u]
    omega
theorem depL_list : ∀ (ts : Tys), depL ts.list = ts.dep
  | .nil => rfl
  | .cons t ts => by
    show max t.dep (depL ts.list) = max t.dep ts.dep
    rw [depL_list ts]
theorem dep_parts (t : Ty) : t.dep = depL t.parts + 1 := by
  cases t with
  | base c => rfl
  | str s => rfl
  | ptr u => show u.dep + 1 = max u.dep 0 + 1; omega
  | arr n u => show u.dep + 1 = max u.dep 0 + 1; omega
  | fn ps r =>
    show max ps.dep r.dep + 1 = depL (ps.list ++ [r]) + 1
    rw [depL_snoc, depL_list]
theorem depL_take {l : List Ty} {q : Nat} {u : Ty} (h : l[q]? = some u) : depL (l.take (q + 1)) = max (depL (l.take q)) u.dep := by
  have hk := (List.getElem?_eq_some_iff.1 h).1
  rw [List.take_succ_eq_append_getElem hk, (List.getElem?_eq_some_iff.1 h).2, depL_snoc]
mutual
theorem dep_size : ∀ (t : Ty), t.dep ≤ t.size
  | .base _ => Nat.le_refl _
  | .str _ => Nat.le_refl _
  | .ptr t => by have := dep_size t; show t.dep + 1 ≤ t.size + 1; omega
  | .arr _ t => by have := dep_size t; show t.dep + 1 ≤ t.size + 1; omega
  | .fn ps r => by
    have h1 := deps_size ps
    have h2 := dep_size r
    show max ps.dep r.dep + 1 ≤ ps.size + r.size + 2
    omega
theorem deps_size : ∀ (ts : Tys), ts.dep ≤ ts.size
  | .nil => Nat.le_refl _
  | .cons t ts => by
    have h1 := dep_size t
    have h2 := deps_size ts
    show max t.dep ts.dep ≤ t.size + ts.size + 1
    omega
end
mutual
/-- Is a type, or one in it, such a one? -/
def anyT (f : Ty → Bool) : Ty → Bool
  | .base c => f (.base c)
  | .str s => f (.str s)
  | .ptr t => f (.ptr t) || anyT f t
  | .arr n t => f (.arr n t) || anyT f t
  | .fn ps r => f (.fn ps r) || (anyL f ps || anyT f r)
def anyL (f : Ty → Bool) : Tys → Bool
  | .nil => false
  | .cons t ts => anyT f t || anyL f ts
end
theorem anyL_list (f : Ty → Bool) : ∀ (ts : Tys), anyL f ts = ts.list.any (anyT f)
  | .nil => rfl
  | .cons t ts => by
    show (anyT f t || anyL f ts) = (anyT f t || ts.list.any (anyT f))
    rw [anyL_list f ts]
theorem anyT_eq (f : Ty → Bool) (t : Ty) : anyT f t = (f t || t.parts.any (anyT f)) := by
  cases t with
  | base c => show f _ = (f _ || false); simp
  | str s => show f _ = (f _ || false); simp
  | ptr u => show (f _ || anyT f u) = (f _ || (anyT f u || false)); simp
  | arr n u => show (f _ || anyT f u) = (f _ || (anyT f u || false)); simp
  | fn ps r =>
    show (f _ || (anyL f ps || anyT f r)) = (f _ || (ps.list ++ [r]).any (anyT f))
    rw [anyL_list, List.any_append]
    simp
theorem any_take {l : List Ty} {f : Ty → Bool} {q : Nat} {u : Ty} (h : l[q]? = some u) : (l.take (q + 1)).any f = ((l.take q).any f || f u) := by
  have hk := (List.getElem?_eq_some_iff.1 h).1
  rw [List.take_succ_eq_append_getElem hk, (List.getElem?_eq_some_iff.1 h).2, List.any_append]
  simp
/-- An array, a function that may not be. -/
def badT : Ty → Bool
  | .arr n u => !(decide (1 ≤ n) && decide (n ≤ 65536) && objI u.letter.toNat)
  | .fn ps r => !(ps.list.all (fun u => scaI u.letter.toNat) && decide (ps.list.length ≤ 8) && (scaI r.letter.toNat || (r.letter.toNat : Int) == 118))
  | _ => false
structure MemP where
  ty : Ty
  name : List UInt8
  at' : Nat
structure LayP where
  bytes : Nat
  align : Nat
  scal : Nat
  name : List UInt8
  mems : List MemP
def findL (L : List LayP) (s : List UInt8) : Option LayP := L.find? fun x => x.name == s
def lackT (L : List LayP) : Ty → Bool
  | .str s => (findL L s).isNone
  | .arr _ u => lackT L u
  | _ => false
/-- What an object takes: bytes, alignment, scalars; and whether it is one. -/
def extT (L : List LayP) : Ty → Nat × Nat × Nat × Bool
  | .base c => if c = 99 then (1, 1, 1, true) else if c = 115 then (2, 2, 1, true) else if c = 105 ∨ c = 117 then (4, 4, 1, true) else if c = 106 then (64, 4, 0, true) else (0, 0, 0, false)
  | .ptr _ => (4, 4, 1, true)
  | .str s => match findL L s with
    | some x => (x.bytes, x.align, x.scal, true)
    | none => (0, 0, 0, false)
  | .arr n u => (min ((extT L u).1 * n) 65537, (extT L u).2.1, min ((extT L u).2.2.1 * n) 65537, (extT L u).2.2.2)
  | .fn _ _ => (0, 0, 0, false)
/-- Structs that are laid out are not too great. -/
def GdL (L : List LayP) : Prop := ∀ x ∈ L, 1 ≤ x.align ∧ x.align ≤ 4 ∧ x.bytes ≤ 65536 ∧ x.scal ≤ x.bytes
theorem find_mem {L : List LayP} {s : List UInt8} {x : LayP} (h : findL L s = some x) : x ∈ L ∧ x.name = s := by
  unfold findL at h
  refine ⟨List.mem_of_find?_eq_some h, ?_⟩
  have := List.find?_some h
  simpa using this
theorem ext_bd {L : List LayP} (hL : GdL L) : ∀ (t : Ty), (extT L t).1 ≤ 65537 ∧ (extT L t).2.1 ≤ 4 ∧ (extT L t).2.2.1 ≤ (extT L t).1
  | .base c => by
    unfold extT
    (repeat' split) <;> simp
  | .ptr _ => by simp [extT]
  | .str s => by
    unfold extT
    split
    · rename_i x h
      have := hL x (find_mem h).1
      exact ⟨by show x.bytes ≤ _; omega, this.2.1, this.2.2.2⟩
    · simp
  | .arr n u => by
    have := ext_bd hL u
    have h2 := Nat.mul_le_mul_right n this.2.2
    show min _ 65537 ≤ 65537 ∧ (extT L u).2.1 ≤ 4 ∧ min _ 65537 ≤ min _ 65537
    omega
  | .fn _ _ => by simp [extT]
theorem ext_al {L : List LayP} (hL : GdL L) : ∀ (t : Ty), (extT L t).2.2.2 = true → 1 ≤ (extT L t).2.1
  | .base c => by
    unfold extT
    (repeat' split) <;> simp
  | .ptr _ => by simp [extT]
  | .str s => by
    unfold extT
    split
    · rename_i x h
      exact fun _ => (hL x (find_mem h).1).1
    · simp
  | .arr n u => fun h => ext_al hL u h
  | .fn _ _ => by simp [extT]
def grE (L : List LayP) (t : Ty) : Bool := (extT L t).2.2.2 && decide (65536 < (extT L t).1)
/-- What is wrong with a type, structs being given. -/
def rgT (L : List LayP) (t : Ty) : Nat := if 48 < t.dep then 3 else if anyT badT t = true then 5 else if lackT L t = true then 4 else if anyT (grE L) t = true then 3 else 0
def rgA (L : List LayP) (l : List UInt8) : Nat := match tk l with
  | none => 2
  | some t => rgT L t
def ojT (L : List LayP) (t : Ty) : Nat := if rgT L t = 0 then if objI t.letter.toNat = true then 0 else 5 else rgT L t
def ojA (L : List LayP) (l : List UInt8) : Nat := match tk l with
  | none => 2
  | some t => ojT L t
structure StP where
  name : List UInt8
  mems : List (List UInt8 × List UInt8)
structure AcP where
  mems : List MemP
  b : Nat
  a : Nat
  s : Nat
def upN (n a : Nat) : Nat := (n + a - 1) / a * a
def tkD (l : List UInt8) : Ty := (tk l).getD (.base 118)
def addM (L : List LayP) (x : AcP) (m : List UInt8 × List UInt8) : AcP :=
  ⟨x.mems ++ [⟨tkD m.2, m.1, upN x.b (extT L (tkD m.2)).2.1⟩], upN x.b (extT L (tkD m.2)).2.1 + (extT L (tkD m.2)).1, max x.a (extT L (tkD m.2)).2.1, x.s + (extT L (tkD m.2)).2.2.1⟩
def hasM (M : List MemP) (n : List UInt8) : Bool := M.any fun y => y.name == n
def memE (L : List LayP) (M : List MemP) (m : List UInt8 × List UInt8) : Nat := if nameB m.1 = true then if hasM M m.1 = true then 6 else ojA L m.2 else 2
def goM (L : List LayP) : AcP → List (List UInt8 × List UInt8) → Nat × AcP
  | x, [] => (0, x)
  | x, m :: ms => if memE L x.mems m = 0 then goM L (addM L x m) ms else (memE L x.mems m, x)
def ac0 : AcP := ⟨[], 0, 0, 0⟩
def layM (s : StP) (r : AcP) : LayP := ⟨upN r.b r.a, r.a, r.s, s.name, r.mems⟩
def nxE (L : List LayP) (s : StP) : Nat :=
  if nameB s.name = true then if (findL L s.name).isSome = true then 6 else if 64 < s.mems.length then 3 else if s.mems = [] then 5 else
    if (goM L ac0 s.mems).1 = 0 then if 65536 < upN (goM L ac0 s.mems).2.b (goM L ac0 s.mems).2.a then 3 else 0 else (goM L ac0 s.mems).1
  else 2
def nxL (L : List LayP) (s : StP) : LayP := layM s (goM L ac0 s.mems).2
def goS : List LayP → List StP → Nat × Nat × List LayP
  | L, [] => (0, 0, L)
  | L, s :: ss => if nxE L s = 0 then goS (L ++ [nxL L s]) ss else (L.length, nxE L s, [])
def loA (l : List StP) : Nat × Nat × List LayP := if 64 < l.length then (0, 3, []) else goS [] l
def chA (l : List StP) (t : List UInt8) : Nat := if (loA l).2.1 = 0 then rgA (loA l).2.2 t else (loA l).2.1
/-! ### Bounds -/
theorem up_bd (n a : Nat) (h : 1 ≤ a) (h4 : a ≤ 4) : n ≤ upN n a ∧ upN n a ≤ n + 3 := by
  unfold upN
  have : a = 1 ∨ a = 2 ∨ a = 3 ∨ a = 4 := by omega
  rcases this with rfl | rfl | rfl | rfl <;> omega
theorem oj_obj {L : List LayP} {t : Ty} (h : ojT L t = 0) : rgT L t = 0 ∧ objI t.letter.toNat = true := by
  unfold ojT at h
  split at h
  · rename_i h1
    split at h
    · rename_i h2
      exact ⟨h1, h2⟩
    · cases h
  · exact absurd h (by assumption)
theorem rg_ok {L : List LayP} {t : Ty} (h : rgT L t = 0) : t.dep ≤ 48 ∧ anyT badT t = false ∧ lackT L t = false ∧ anyT (grE L) t = false := by
  unfold rgT at h
  split at h
  · cases h
  · split at h
    · cases h
    · split at h
      · cases h
      · split at h
        · cases h
        · rename_i h1 h2 h3 h4
          exact ⟨by omega, by simpa using h2, by simpa using h3, by simpa using h4⟩
/-- An object of which nothing is lacking takes room. -/
theorem ext_obj {L : List LayP} : ∀ (t : Ty), t.wf → objI t.letter.toNat = true → anyT badT t = false → lackT L t = false → (extT L t).2.2.2 = true
  | .base c, hw, ho, hb, hl => by
    have hc : baseC c = true := hw
    unfold baseC at hc
    simp at hc
    rcases hc with ((((hc | hc) | hc) | hc) | hc) | hc <;> subst hc
    · exact absurd ho (by show ¬ objI (118 : Int) = true; decide)
    all_goals rfl
  | .ptr _, _, _, _, _ => rfl
  | .str s, _, _, _, hl => by
    have h1 : (findL L s).isNone = false := hl
    unfold extT
    cases h2 : findL L s with
    | none => rw [h2] at h1; cases h1
    | some x => rfl
  | .arr n u, hw, ho, hb, hl => by
    rw [anyT_eq] at hb
    have hb1 : badT (.arr n u) = false := by cases h : badT (.arr n u); rfl; rw [h] at hb; cases hb
    have hb2 : anyT badT u = false := by
      rw [hb1] at hb
      have : (false || ([u] : List Ty).any (anyT badT)) = false := hb
      simpa using this
    have ho2 : objI u.letter.toNat = true := by
      have : (!(decide (1 ≤ n) && decide (n ≤ 65536) && objI u.letter.toNat)) = false := hb1
      simp only [Bool.not_eq_false', Bool.and_eq_true] at this
      exact this.2
    exact ext_obj u hw.2 ho2 hb2 hl
  | .fn _ _, _, ho, _, _ => absurd ho (by show ¬ objI (102 : Int) = true; decide)
theorem ext_small {L : List LayP} {t : Ty} (h : anyT (grE L) t = false) (h2 : (extT L t).2.2.2 = true) : (extT L t).1 ≤ 65536 := by
  rw [anyT_eq] at h
  have h1 : grE L t = false := by cases hg : grE L t; rfl; rw [hg] at h; cases h
  unfold grE at h1
  rw [h2] at h1
  simpa using h1
/-- While members are laid out. -/
structure AcB (x : AcP) : Prop where
  b : x.b ≤ x.mems.length * 65539
  a : x.a ≤ 4
  a1 : 0 < x.mems.length → 1 ≤ x.a
  s : x.s ≤ x.b
theorem acb0 : AcB ac0 := ⟨Nat.zero_le _, Nat.zero_le _, fun h => by simp [ac0] at h, Nat.zero_le _⟩
/-- A member that is right. -/
theorem mem_ok {L : List LayP} (hL : GdL L) {M : List MemP} {m : List UInt8 × List UInt8} (h : memE L M m = 0) : ∃ t, tk m.2 = some t ∧ t.wf ∧ nameB m.1 = true ∧ hasM M m.1 = false ∧ ojT L t = 0 ∧ 1 ≤ (extT L t).2.1 ∧ (extT L t).1 ≤ 65536 ∧ tkD m.2 = t := by
  unfold memE at h
  split at h
  · rename_i h1
    split at h
    · cases h
    · rename_i h2
      unfold ojA at h
      cases ht : tk m.2 with
      | none => rw [ht] at h; cases h
      | some t =>
        rw [ht] at h
        obtain ⟨r1, r2⟩ := oj_obj h
        obtain ⟨g1, g2, g3, g4⟩ := rg_ok r1
        have hw := (tk_some ht).1
        have hx := ext_obj t hw r2 g2 g3
        exact ⟨t, rfl, hw, h1, by simpa using h2, h, ext_al hL t hx, ext_small g4 hx, by unfold tkD; rw [ht]; rfl⟩
  · cases h
theorem AcB.add {L : List LayP} (hL : GdL L) {x : AcP} (hx : AcB x) {m : List UInt8 × List UInt8} (h : memE L x.mems m = 0) : AcB (addM L x m) := by
  obtain ⟨t, _, _, _, _, _, h1, h2, h3⟩ := mem_ok hL h
  have hb := ext_bd hL t
  have hu := up_bd x.b (extT L t).2.1 h1 hb.2.1
  obtain ⟨b, a, a1, s⟩ := hx
  unfold addM
  rw [h3]
  refine ⟨?_, ?_, ?_, ?_⟩
  · show _ + _ ≤ (x.mems ++ [_]).length * 65539
    rw [List.length_append, List.length_singleton, Nat.add_mul]
    omega
  · show max _ _ ≤ 4
    omega
  · intro _
    show 1 ≤ max _ _
    omega
  · show _ + _ ≤ _ + _
    omega
theorem goM_b {L : List LayP} (hL : GdL L) : ∀ (ms : List (List UInt8 × List UInt8)) (x : AcP), AcB x → AcB (goM L x ms).2
  | [], x, h => h
  | m :: ms, x, h => by
    unfold goM
    split
    · rename_i h1
      exact goM_b hL ms _ (h.add hL h1)
    · exact h
theorem goM_all {L : List LayP} : ∀ (ms : List (List UInt8 × List UInt8)) (x : AcP), (goM L x ms).1 = 0 → (goM L x ms).2.mems.length = x.mems.length + ms.length
  | [], x, _ => rfl
  | m :: ms, x, h => by
    unfold goM at h ⊢
    split at h
    · rename_i h1
      rw [if_pos h1]
      have := goM_all ms _ h
      rw [this]
      unfold addM
      simp
      omega
    · rename_i h1
      exact absurd h h1
theorem nx_ok {L : List LayP} {s : StP} (h : nxE L s = 0) : nameB s.name = true ∧ findL L s.name = none ∧ s.mems.length ≤ 64 ∧ s.mems ≠ [] ∧ (goM L ac0 s.mems).1 = 0 ∧ upN (goM L ac0 s.mems).2.b (goM L ac0 s.mems).2.a ≤ 65536 := by
  unfold nxE at h
  split at h
  · rename_i h1
    split at h
    · cases h
    · rename_i h2
      split at h
      · cases h
      · split at h
        · cases h
        · rename_i h4
          split at h
          · rename_i h5
            split at h
            · cases h
            · exact ⟨h1, by simpa using h2, by omega, h4, h5, by omega⟩
          · exact absurd h (by assumption)
  · cases h
theorem GdL.add {L : List LayP} (hL : GdL L) {s : StP} (h : nxE L s = 0) : GdL (L ++ [nxL L s]) := fun x hx => by
  rcases List.mem_append.1 hx with hx | hx
  · exact hL x hx
  · rw [List.mem_singleton] at hx
    subst hx
    obtain ⟨_, _, h3, h4, h5, h6⟩ := nx_ok h
    have hb := goM_b hL s.mems ac0 acb0
    have hl := goM_all s.mems ac0 h5
    have h0 : ac0.mems.length = 0 := rfl
    have hp : 0 < s.mems.length := List.length_pos_iff.2 h4
    refine ⟨hb.a1 (by omega), hb.a, h6, ?_⟩
    have h7 : (goM L ac0 s.mems).2.b ≤ 65536 := Nat.le_trans (up_bd _ _ (hb.a1 (by omega)) hb.a).1 h6
    have := hb.s
    show (goM L ac0 s.mems).2.s ≤ upN _ _
    exact Nat.le_trans hb.s (up_bd _ _ (hb.a1 (by omega)) hb.a).1
end Go.Proofs.YtjadckhngalmlaaGreatDoor
