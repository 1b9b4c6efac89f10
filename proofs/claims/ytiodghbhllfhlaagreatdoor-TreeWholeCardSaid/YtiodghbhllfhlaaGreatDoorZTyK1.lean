/-
  Plain: what is asked of types and structs: depth, form, what is lacking, what is too great, structs laid out.
-/
import Derived.Test.YtiodghbhllfhlaaGreatDoorZTyOnh
import Derived.Test.YtiodghbhllfhlaaGreatDoorZTyOne
import Derived.Test.YtiodghbhllfhlaaGreatDoorShelf
import Derived.Shelf.Strings.Builder1
import Derived.Test.YtiodghbhllfhlaaGreatDoorChecked
import Derived.WalkKit
import Derived.WalkSmall
import Derived.Below
import Derived.Lib.Hide
import Derived.Outline
import Derived.Deep.QuietTactic
import Derived.Laws.AppendOwn
import Derived.Lib.OthersKept
import Derived.Lib.OwnKind
import Derived.Test.YtiodghbhllfhlaaGreatDoorZTyDe
import Derived.Shelf.Strconv.Itoa3
/-! The contracts of what is asked of one node, in the code. -/
namespace Go.Proofs.YtiodghbhllfhlaaGreatDoor
set_option linter.unusedVariables false
set_option linter.unusedSimpArgs false
set_option maxRecDepth 100000
open Go.RowKit

theorem nd_val (t : Ty) (s : Value) : ndV t s = .agg #[.int .u8 t.letter.toNat, .string ⟨t.code.toArray⟩, .int .i64 t.count, .string ⟨t.tag.toArray⟩, s] := rfl
theorem Nd.last {S : Nat → Prop} {w : World} {t : Ty} {v : Value} (h : Nd S w t v) {A : List Ty} {u : Ty} (ht : t.parts = A ++ [u]) :
    ∃ g cap a n c, v = .slice (some ⟨g, 0, none⟩) (A.length + 1) cap ∧ A.length + 1 ≤ cap ∧ g < w.heap.size ∧ Nd S w u (.slice a n c) ∧ w.cell? ⟨g, A.length * 5, none⟩ = some (.int .u8 u.letter.toNat) ∧ w.cell? ⟨g, A.length * 5 + 1, none⟩ = some (.string ⟨u.code.toArray⟩) ∧ w.cell? ⟨g, A.length * 5 + 2, none⟩ = some (.int .i64 u.count) ∧ w.cell? ⟨g, A.length * 5 + 3, none⟩ = some (.string ⟨u.tag.toArray⟩) ∧ w.cell? ⟨g, A.length * 5 + 4, none⟩ = some (.slice a n c) := by
  obtain ⟨g, cap, s, hv, hc, hS, hn, hx⟩ := h.part (k := A.length) (u := u) (by rw [ht]; simp)
  have hl : t.parts.length = A.length + 1 := by rw [ht]; simp
  rw [hl] at hv hc
  obtain ⟨a, c, hs, _⟩ := hn.sl
  subst hs
  exact ⟨g, cap, a, _, c, hv, hc, World.block_lt_of_cell? w ⟨g, A.length * 5 + 0, none⟩ (hx 0 _ rfl), hn, hx 0 _ rfl, hx 1 _ rfl, hx 2 _ rfl, hx 3 _ rfl, hx 4 _ rfl⟩
set_option maxHeartbeats 4000000 in
theorem c_inner (S : Nat → Prop) (t : Ty) (s : Value) (w : World) (hN : Nd S w t s) (A : List Ty) (u : Ty) (ht : t.parts = A ++ [u]) (hA : A.length ≤ 65536) :
    Calls Tryz.prog 104 #[ndV t s] w fun e w' => (∃ a n c, e = .returned (ndV u (.slice a n c)) ∧ Nd S w u (.slice a n c)) ∧ Below w.heap.size w w' := by
  obtain ⟨g, cap, a, n, c, hv, hcap, hg, hn, n0, n1, n2, n3, n4⟩ := hN.last ht
  subst hv
  rw [nd_val]
  have HNd := Lib.hid hn
  obtain ⟨m, hm⟩ : ∃ m, A.length = m := ⟨_, rfl⟩
  rw [hm] at hcap n0 n1 n2 n3 n4 hA ⊢
  have hg1 : g < w.heap.size + 1 := by omega
  obtain ⟨x0, hx0⟩ : ∃ x0 : Int, (t.letter.toNat : Int) = x0 := ⟨_, rfl⟩
  obtain ⟨y0, hy0⟩ : ∃ y0 : Int, (u.letter.toNat : Int) = y0 := ⟨_, rfl⟩
  obtain ⟨y2, hy2⟩ : ∃ y2 : Int, (u.count : Int) = y2 := ⟨_, rfl⟩
  rw [hx0]
  have HY : Hid (ndV u (.slice a n c) = .agg #[.int .u8 y0, .string ⟨u.code.toArray⟩, .int .i64 y2, .string ⟨u.tag.toArray⟩, .slice a n c]) := by show _ = _; rw [nd_val, hy0, hy2]
  rw [hy0] at n0
  rw [hy2] at n2
  have hw : IntKind.i64.wrap (m : Int) = m := by rw [IntKind.wrap_i64]; omega
  have hlt : (m : Int) < (m : Int) + 1 := by omega
  have hlt0 : (0 : Int) ≤ (m : Int) := by omega
  clear hn hN ht hm hx0 hy0 hy2
  go_enter Tryz.func104, Tryz.ntmps104
  go_wp2_with fail
  refine bodyPost_ret (v := .agg #[.int .u8 y0, .string ⟨u.code.toArray⟩, .int .i64 y2, .string ⟨u.tag.toArray⟩, .slice a n c]) (by simp [results, Tryz.results104, go_sem]) rfl ?_
  exact ⟨⟨a, n, c, by rw [HY.out], HNd.out⟩, ((Below.refl _ _).alloc (Nat.le_refl _) _).alloc (by simp) _⟩
def intI (x : Int) : Bool := x == 99 || x == 115 || x == 105 || x == 117
def scaI (x : Int) : Bool := intI x || x == 112
def objI (x : Int) : Bool := x != 118 && x != 102
/-- A node as a value. -/
abbrev nV (x0 : Int) (s1 : ByteArray) (x2 : Int) (s3 : ByteArray) (a : Option Addr) (n c : Nat) : Value := .agg #[.int .u8 x0, .string s1, .int .i64 x2, .string s3, .slice a n c]
theorem below_a (w : World) (o : Obj) : Below w.heap.size w (w.alloc o) := (Below.refl _ _).alloc (Nat.le_refl _) o
theorem c_isInt (x0 : Int) (s1 : ByteArray) (x2 : Int) (s3 : ByteArray) (a : Option Addr) (n c : Nat) (w : World) :
    Calls Tryz.prog 156 #[nV x0 s1 x2 s3 a n c] w fun e w' => e = .returned (.bool (intI x0)) ∧ Below w.heap.size w w' := by
  go_enter Tryz.func156, Tryz.ntmps156
  go_wp2
  all_goals
    go_ret
    refine ⟨ret_b ?_, below_a _ _⟩
    unfold intI
    simp_all
theorem c_isScalar (x0 : Int) (s1 : ByteArray) (x2 : Int) (s3 : ByteArray) (a : Option Addr) (n c : Nat) (w : World) :
    Calls Tryz.prog 140 #[nV x0 s1 x2 s3 a n c] w fun e w' => e = .returned (.bool (scaI x0)) ∧ Below w.heap.size w w' := by
  have HI := Lib.hid (c_isInt x0 s1 x2 s3 a n c)
  unfold scaI
  cases hi : intI x0
  all_goals
    rw [hi] at HI
    go_enter Tryz.func140, Tryz.ntmps140
    go_wp2_with fail
    refine (HI.out _).mono ?_
    rintro e w2 ⟨rfl, hb⟩
    have n0 : w2.cell? ⟨w.heap.size, 0, none⟩ = some (.int .u8 x0) := (cell_of_blk (hb.block _ (by simp)) 0).trans (by simp)
    have HB := Lib.hid (((below_a w (.cells #[.int .u8 x0, .string s1, .int .i64 x2, .string s3, .slice a n c] 127)).trans (hb.mono (by simp))))
    clear hb
    go_wp2_with fail
    go_ret
    exact ⟨rfl, HB.out⟩
theorem c_isObject (x0 : Int) (s1 : ByteArray) (x2 : Int) (s3 : ByteArray) (a : Option Addr) (n c : Nat) (w : World) :
    Calls Tryz.prog 139 #[nV x0 s1 x2 s3 a n c] w fun e w' => e = .returned (.bool (objI x0)) ∧ Below w.heap.size w w' := by
  go_enter Tryz.func139, Tryz.ntmps139
  go_wp2
  all_goals
    go_ret
    refine ⟨ret_b ?_, below_a _ _⟩
    unfold objI
    simp_all
end Go.Proofs.YtiodghbhllfhlaaGreatDoor
/-! The contracts of what is asked of a type's tree, at the trees that the chapter's first examples have, in the code. -/
namespace Go.Proofs.YtiodghbhllfhlaaGreatDoor
set_option linter.unusedVariables false
set_option linter.unusedSimpArgs false
set_option maxRecDepth 100000
open Go.RowKit

set_option maxHeartbeats 2000000 in
theorem c_depth0 (x0 : Int) (s1 : ByteArray) (x2 : Int) (s3 : ByteArray) (w : World) :
    Calls Tryz.prog 99 #[nV x0 s1 x2 s3 none 0 0] w fun e w' => e = .returned (.int .i64 1) ∧ Below w.heap.size w w' := by
  go_enter Tryz.func99, Tryz.ntmps99
  go_wp2_with fail
  go_rounds 1
  go_ret
  exact ⟨rfl, below_a _ _⟩
set_option maxHeartbeats 2000000 in
theorem c_wm0 (x0 : Int) (s1 : ByteArray) (x2 : Int) (s3 : ByteArray) (w : World) (ha : (x0 == 97) = false) (hf : (x0 == 102) = false) :
    Calls Tryz.prog 100 #[nV x0 s1 x2 s3 none 0 0] w fun e w' => e = .returned (.bool true) ∧ Below w.heap.size w w' := by
  go_enter Tryz.func100, Tryz.ntmps100
  go_wp2_with fail
  go_rounds 1
  go_ret
  exact ⟨rfl, below_a _ _⟩
/-- A base type's bytes. -/
def bsz (x : Int) : Int := if x = 99 then 1 else if x = 115 then 2 else 4
set_option maxHeartbeats 2000000 in
theorem c_extent0 (la : Option Addr) (ln lc : Nat) (x0 : Int) (s1 : ByteArray) (x2 : Int) (s3 : ByteArray) (w : World) (h : x0 = 99 ∨ x0 = 105) :
    Calls Tryz.prog 115 #[.slice la ln lc, nV x0 s1 x2 s3 none 0 0] w fun e w' => e = .returned (.tuple #[.agg #[.int .i64 (bsz x0), .int .i64 (bsz x0), .int .i64 1], .bool true]) ∧ Below w.heap.size w w' := by
  rcases h with rfl | rfl
  all_goals
    go_enter Tryz.func115, Tryz.ntmps115
    go_wp2_with fail
  · refine bodyPost_ret (v := .tuple #[.agg #[.int .i64 1, .int .i64 1, .int .i64 1], .bool true]) (by simp [results, Tryz.results115, go_sem]) rfl ?_
    exact ⟨rfl, (below_a _ _).alloc (by simp) _⟩
  · refine bodyPost_ret (v := .tuple #[.agg #[.int .i64 4, .int .i64 4, .int .i64 1], .bool true]) (by simp [results, Tryz.results115, go_sem]) rfl ?_
    exact ⟨rfl, (below_a _ _).alloc (by simp) _⟩
set_option maxHeartbeats 2000000 in
theorem c_lacks0 (la : Option Addr) (ln lc : Nat) (x0 : Int) (s1 : ByteArray) (x2 : Int) (s3 : ByteArray) (w : World) (ha : (x0 == 97) = false) (hf : (x0 == 83) = false) :
    Calls Tryz.prog 101 #[.slice la ln lc, nV x0 s1 x2 s3 none 0 0] w fun e w' => e = .returned (.bool false) ∧ Below w.heap.size w w' := by
  go_enter Tryz.func101, Tryz.ntmps101
  go_wp2_with fail
  go_ret
  exact ⟨rfl, below_a _ _⟩
set_option maxHeartbeats 2000000 in
theorem c_great0 (la : Option Addr) (ln lc : Nat) (x0 : Int) (s1 : ByteArray) (x2 : Int) (s3 : ByteArray) (w : World) (y z : Int) (q : Bool) (u : Int) (hy : decide (65536 < y) = false)
    (hx : ∀ w', Below w.heap.size w w' → Calls Tryz.prog 115 #[.slice la ln lc, nV x0 s1 x2 s3 none 0 0] w' fun e w'' => e = .returned (.tuple #[.agg #[.int .i64 y, .int .i64 z, .int .i64 u], .bool q]) ∧ Below w'.heap.size w' w'') :
    Calls Tryz.prog 102 #[.slice la ln lc, nV x0 s1 x2 s3 none 0 0] w fun e w' => e = .returned (.bool false) ∧ Below w.heap.size w w' := by
  have HX := Lib.hid hx
  clear hx
  go_enter Tryz.func102, Tryz.ntmps102
  go_wp2_with fail
  refine (HX.out _ (below_a _ _)).mono ?_
  rintro e w2 ⟨rfl, hb⟩
  have n4 : w2.cell? ⟨w.heap.size, 4, none⟩ = some (.slice none 0 0) := (cell_of_blk (hb.block _ (by simp)) 4).trans (by simp)
  have HB := Lib.hid (((below_a w (.cells #[.int .u8 x0, .string s1, .int .i64 x2, .string s3, .slice none 0 0] 127)).trans (hb.mono (by simp))))
  have hlt : w.heap.size < w2.heap.size := by have := hb.size; simp at this; omega
  clear hb
  cases q
  all_goals
    go_wp2_with fail
    go_rounds 1
    go_ret
    exact ⟨rfl, HB.out.alloc (by omega) _⟩
end Go.Proofs.YtiodghbhllfhlaaGreatDoor
/-! The contracts of a type that is right, and of an object's, in the code: where all that it asks answers so. -/
namespace Go.Proofs.YtiodghbhllfhlaaGreatDoor
set_option linter.unusedVariables false
set_option linter.unusedSimpArgs false
set_option maxRecDepth 100000
open Go.RowKit

theorem Nd.nil {S : Nat → Prop} {w : World} {t : Ty} {v : Value} (h : Nd S w t v) (ht : t.parts = []) : v = .slice none 0 0 := by
  cases h with
  | leaf t h => rfl
  | row t g cap L h1 h2 h3 h4 h5 h6 =>
    rw [ht] at h1
    cases L with
    | nil => exact absurd rfl h2
    | cons p L => cases h1
theorem blk_next {w w' : World} {g : Nat} {o : Obj} (h : w.heap[g]? = some o) (hb : Below w.heap.size w w') : w'.heap[g]? = some o := (hb.block g (Array.getElem?_eq_some_iff.1 h).1).trans h
/-- Parts that lie in the world as it is. -/
def NdIn (t : Ty) (v : Value) (w : World) : Prop := Nd (fun j => j < w.heap.size) w t v
theorem NdIn.next {t : Ty} {v : Value} {w w' : World} (h : NdIn t v w) (hb : Below w.heap.size w w') : NdIn t v w' := Nd.mono h (fun j hj => Nat.lt_of_lt_of_le hj hb.size) (fun j hj => hb.block j hj)
theorem below_on {B : Nat} {w w1 w2 : World} (h : Below B w w1) (k : Below w1.heap.size w1 w2) (hB : B ≤ w1.heap.size) : Below B w w2 := h.trans (k.mono hB)
theorem ndC_eq {t : Ty} {x0 : Int} {s1 : ByteArray} {x2 : Int} {s3 : ByteArray} {a : Option Addr} {n c : Nat} (h0 : (t.letter.toNat : Int) = x0) (h1 : (⟨t.code.toArray⟩ : ByteArray) = s1) (h2 : (t.count : Int) = x2) (h3 : (⟨t.tag.toArray⟩ : ByteArray) = s3) : ndV t (.slice a n c) = nV x0 s1 x2 s3 a n c := by
  subst h0 h1 h2 h3
  rfl
set_option maxHeartbeats 4000000 in
/-- Where all that right asks answers well. -/
theorem c_right (B : Nat) (la : Option Addr) (ln lc : Nat) (tx : List UInt8) (t : Ty) (x0 : Int) (s1 : ByteArray) (x2 : Int) (s3 : ByteArray) (h0 : (t.letter.toNat : Int) = x0) (h1 : (⟨t.code.toArray⟩ : ByteArray) = s1) (h2 : (t.count : Int) = x2) (h3 : (⟨t.tag.toArray⟩ : ByteArray) = s3) (d : Int) (hd48 : decide (48 < d) = false) (w : World) (hE : Env B w) (hB : B ≤ w.heap.size) (hx : tx.length ≤ 65536) (ht : tyR tx = some t) (P : World → Prop) (hP : P w) (hPk : ∀ w1 w2, P w1 → Below w1.heap.size w1 w2 → P w2)
    (hd : ∀ a n c w', P w' → NdIn t (.slice a n c) w' → Calls Tryz.prog 99 #[nV x0 s1 x2 s3 a n c] w' fun e w'' => e = .returned (.int .i64 d) ∧ Below w'.heap.size w' w'')
    (hw : ∀ a n c w', P w' → NdIn t (.slice a n c) w' → Calls Tryz.prog 100 #[nV x0 s1 x2 s3 a n c] w' fun e w'' => e = .returned (.bool true) ∧ Below w'.heap.size w' w'')
    (hl : ∀ a n c w', P w' → NdIn t (.slice a n c) w' → Calls Tryz.prog 101 #[.slice la ln lc, nV x0 s1 x2 s3 a n c] w' fun e w'' => e = .returned (.bool false) ∧ Below w'.heap.size w' w'')
    (hg : ∀ a n c w', P w' → NdIn t (.slice a n c) w' → Calls Tryz.prog 102 #[.slice la ln lc, nV x0 s1 x2 s3 a n c] w' fun e w'' => e = .returned (.bool false) ∧ Below w'.heap.size w' w'') :
    Calls Tryz.prog 87 #[.slice la ln lc, .string ⟨tx.toArray⟩] w fun e w' => (∃ a n c, e = .returned (.tuple #[nV x0 s1 x2 s3 a n c, .int .i64 0]) ∧ Nd (Fm w.heap.size w') w' t (.slice a n c)) ∧ Below w.heap.size w w' := by
  have HT : Hid (Calls Tryz.prog 98 #[.string ⟨tx.toArray⟩] (w.alloc zOb) fun e w1 => ∃ a n c, e = .returned (.tuple #[nV x0 s1 x2 s3 a n c, .bool true]) ∧ Below (w.alloc zOb).heap.size (w.alloc zOb) w1 ∧ Nd (Fm (w.heap.size + 1) w1) w1 t (.slice a n c)) :=
    (c_takeApart B tx (w.alloc zOb) (hE.next ((below_a w zOb).mono hB)) (by simp; omega) hx).mono fun e w1 h => by
      obtain ⟨hb, hr⟩ := h
      rcases hr with ⟨t', s, h4, h5, h6⟩ | ⟨h4, _⟩
      · rw [ht] at h4
        cases h4
        obtain ⟨a, c, hs, _⟩ := h6.sl
        subst hs
        refine ⟨a, _, c, ?_, hb, h6.mono (fun j hj => ⟨by have := hj.1; simp at this; omega, hj.2⟩) (fun _ _ => rfl)⟩
        rw [h5, ndC_eq h0 h1 h2 h3]
      · rw [ht] at h4
        cases h4
  have HP := Lib.hid hP
  have HPk := Lib.hid hPk
  have HD := Lib.hid hd
  have HW := Lib.hid hw
  have HL := Lib.hid hl
  have HG := Lib.hid hg
  clear hd hw hl hg h0 h1 h2 h3 hE hP hPk
  go_enter Tryz.func87, Tryz.ntmps87
  go_wp2_with fail
  refine HT.out.mono ?_
  rintro e w1 ⟨a, n, c, rfl, hb1, hq1⟩
  have HB1 : Hid (Below w.heap.size w w1) := (below_a w zOb).trans (hb1.mono (by simp))
  have hs1 : w.heap.size < w1.heap.size := by have := hb1.size; simp at this; omega
  have hR1 : w1.heap[w.heap.size]? = some zOb := (hb1.block _ (by simp)).trans (heap_alloc_new w zOb)
  have HR1 := Lib.hid hR1
  have HF1 := Lib.hid hq1
  have HQ1 : Hid (P w1 ∧ NdIn t (.slice a n c) w1) := ⟨HPk.out _ _ (HPk.out _ _ HP.out (below_a w zOb)) hb1, hq1.mono (fun j hj => hj.2) (fun _ _ => rfl)⟩
  have HF : Hid (∀ w2, (∀ j, j < w1.heap.size → j ≠ w.heap.size → w2.heap[j]? = w1.heap[j]?) → w1.heap.size ≤ w2.heap.size → Nd (Fm w.heap.size w2) w2 t (.slice a n c)) := fun w2 h hs => hq1.mono (fun j hj => ⟨by have := hj.1; omega, by have := hj.2; omega⟩) (fun j hj => h j hj.2 (by have := hj.1; omega))
  clear hb1 hq1 hR1
  go_wp2_with fail
  have HQ2 := Lib.hid (And.intro (HPk.out _ _ HQ1.out.1 (below_a w1 (.cells #[.int .u8 x0, .string s1, .int .i64 x2, .string s3, .slice a n c] 127))) (HQ1.out.2.next (below_a w1 (.cells #[.int .u8 x0, .string s1, .int .i64 x2, .string s3, .slice a n c] 127))))
  have HK2 := Lib.hid (below_on (Below.refl w1.heap.size w1) (below_a w1 (.cells #[.int .u8 x0, .string s1, .int .i64 x2, .string s3, .slice a n c] 127)) (by have := 1; simp <;> omega))
  have HN2 := Lib.hid (heap_alloc_new w1 (.cells #[.int .u8 x0, .string s1, .int .i64 x2, .string s3, .slice a n c] 127))
  have HR2 := Lib.hid (blk_next HR1.out (below_a w1 (.cells #[.int .u8 x0, .string s1, .int .i64 x2, .string s3, .slice a n c] 127)))
  have HB2 := Lib.hid (below_on HB1.out (below_a w1 (.cells #[.int .u8 x0, .string s1, .int .i64 x2, .string s3, .slice a n c] 127)) (by omega))
  refine (HD.out _ _ _ _ HQ2.out.1 HQ2.out.2).mono ?_
  rintro e w3 ⟨rfl, hb3⟩
  have HQ3 := Lib.hid (And.intro (HPk.out _ _ HQ2.out.1 hb3) (HQ2.out.2.next hb3))
  have HK3 := Lib.hid (below_on HK2.out hb3 (by have := 1; simp <;> omega))
  have HN3 := Lib.hid (blk_next HN2.out hb3)
  have HR3 := Lib.hid (blk_next HR2.out hb3)
  have HB3 := Lib.hid (below_on HB2.out hb3 (by simp; omega))
  have hs3 : w1.heap.size < w3.heap.size := by have := hb3.size; simp at this; omega
  clear hb3 HD HT HB1 HR1 HQ1 HQ2 HN2 HR2 HB2
  obtain ⟨n0, n1, n2, n3, n4, nf⟩ := five_cells HN3.out
  go_wp2_with fail
  refine (HW.out _ _ _ _ HQ3.out.1 HQ3.out.2).mono ?_
  rintro e w4 ⟨rfl, hb4⟩
  have HQ4 := Lib.hid (And.intro (HPk.out _ _ HQ3.out.1 hb4) (HQ3.out.2.next hb4))
  have HK4 := Lib.hid (below_on HK3.out hb4 (by have := 1; simp <;> omega))
  have HN4 := Lib.hid (blk_next HN3.out hb4)
  have HR4 := Lib.hid (blk_next HR3.out hb4)
  have HB4 := Lib.hid (below_on HB3.out hb4 (by omega))
  have hs4 : w1.heap.size < w4.heap.size := by have := hb4.size; omega
  clear hb4 HW HQ3 HN3 HR3 HB3 n0 n1 n2 n3 n4 nf
  obtain ⟨n0, n1, n2, n3, n4, nf⟩ := five_cells HN4.out
  go_wp2_with fail
  refine (HL.out _ _ _ _ HQ4.out.1 HQ4.out.2).mono ?_
  rintro e w5 ⟨rfl, hb5⟩
  have HQ5 := Lib.hid (And.intro (HPk.out _ _ HQ4.out.1 hb5) (HQ4.out.2.next hb5))
  have HK5 := Lib.hid (below_on HK4.out hb5 (by have := 1; simp <;> omega))
  have HN5 := Lib.hid (blk_next HN4.out hb5)
  have HR5 := Lib.hid (blk_next HR4.out hb5)
  have HB5 := Lib.hid (below_on HB4.out hb5 (by omega))
  have hs5 : w1.heap.size < w5.heap.size := by have := hb5.size; omega
  clear hb5 HL HQ4 HN4 HR4 HB4 n0 n1 n2 n3 n4 nf
  obtain ⟨n0, n1, n2, n3, n4, nf⟩ := five_cells HN5.out
  go_wp2_with fail
  refine (HG.out _ _ _ _ HQ5.out.1 HQ5.out.2).mono ?_
  rintro e w6 ⟨rfl, hb6⟩
  have HQ6 := Lib.hid (And.intro (HPk.out _ _ HQ5.out.1 hb6) (HQ5.out.2.next hb6))
  have HK6 := Lib.hid (below_on HK5.out hb6 (by have := 1; simp <;> omega))
  have HN6 := Lib.hid (blk_next HN5.out hb6)
  have HR6 := Lib.hid (blk_next HR5.out hb6)
  have HB6 := Lib.hid (below_on HB5.out hb6 (by omega))
  clear hb6 HG HQ5 HN5 HR5 HB5 n0 n1 n2 n3 n4 nf
  obtain ⟨n0, n1, n2, n3, n4, nf⟩ := five_cells HN6.out
  obtain ⟨r0, r1, r2, r3, r4, rf⟩ := five_cells HR6.out
  have rf0 := rf 0
  have rf1 := rf 1
  have rf2 := rf 2
  have rf3 := rf 3
  have rf4 := rf 4
  clear rf nf
  go_wp2_with fail
  refine bodyPost_ret (v := .tuple #[nV x0 s1 x2 s3 a n c, .int .i64 0]) (by simp [results, Tryz.results87, go_sem, r0, r1, r2, r3, r4]) rfl ?_
  have hst := Stp.five0 w.heap.size w6 (.int .u8 x0) (.string s1) (.int .i64 x2) (.string s3) (.slice a n c)
  exact ⟨⟨a, n, c, rfl, HF.out _ (fun j hj hne => (hst.blk j hne).trans (HK6.out.block j hj)) (by rw [hst.size]; exact HK6.out.size)⟩, below_stp HB6.out hst (Nat.le_refl _)⟩
end Go.Proofs.YtiodghbhllfhlaaGreatDoor
/-! The contract of takeApart at every text; of decay, promotion and the common type, in the code. -/
namespace Go.Proofs.YtiodghbhllfhlaaGreatDoor
set_option linter.unusedVariables false
set_option linter.unusedSimpArgs false
set_option maxRecDepth 100000
open Go.RowKit

theorem add_s (x y : List UInt8) (h : x.length + y.length ≤ 9223372036854775807) (W : World) : (Op.stringOp .add ⟨x.toArray⟩ ⟨y.toArray⟩).run Tryz.prog W = .ok (.string ⟨(x ++ y).toArray⟩) W := by
  have e : (⟨x.toArray⟩ : ByteArray) ++ ⟨y.toArray⟩ = ⟨(x ++ y).toArray⟩ := by
    apply ByteArray.ext
    simp [ByteArray.data_append]
  have h' : ¬ ((9223372036854775807 : Int) < ((⟨x.toArray⟩ : ByteArray).size : Int) + ((⟨y.toArray⟩ : ByteArray).size : Int)) := by
    show ¬ ((9223372036854775807 : Int) < ((x.toArray.size : Nat) : Int) + ((y.toArray.size : Nat) : Int))
    simp only [List.size_toArray]
    omega
  simp [Op.stringOp, h', e]
/-- A text as a type, if it is not too long. -/
def tk (l : List UInt8) : Option Ty := if l.length ≤ 65536 then tyR l else none
theorem tk_some {l : List UInt8} {t : Ty} (h : tk l = some t) : t.wf ∧ l = t.code ∧ l.length ≤ 65536 := by
  unfold tk at h
  split at h
  · rename_i hl
    have := tyR_some h
    exact ⟨this.1, this.2, hl⟩
  · cases h
theorem tk_code {t : Ty} (h : t.wf) (hl : t.code.length ≤ 65536) : tk t.code = some t := by
  unfold tk
  rw [if_pos hl, tyR_code h]
/-- What takeApart answers. -/
def TkR (l : List UInt8) (w : World) (e : Ending) (w' : World) : Prop :=
  Below w.heap.size w w' ∧ ((∃ t a n c, tk l = some t ∧ e = .returned (.tuple #[nV t.letter.toNat ⟨t.code.toArray⟩ t.count ⟨t.tag.toArray⟩ a n c, .bool true]) ∧ Nd (Fm w.heap.size w') w' t (.slice a n c)) ∨ (tk l = none ∧ e = .returned (.tuple #[zV, .bool false])))
set_option maxHeartbeats 2000000 in
theorem c_tk (B : Nat) (l : List UInt8) (w : World) (hE : Env B w) (hB : B ≤ w.heap.size) (hm : l.length ≤ 9223372036854775807) :
    Calls Tryz.prog 98 #[.string ⟨l.toArray⟩] w fun e w' => TkR l w e w' := by
  by_cases hl : l.length ≤ 65536
  · refine (c_takeApart B l w hE hB hl).mono fun e w' h => ?_
    obtain ⟨hb, h⟩ := h
    refine ⟨hb, ?_⟩
    rcases h with ⟨t, s, h1, h2, h3⟩ | ⟨h1, h2⟩
    · obtain ⟨a, c, hs, _⟩ := h3.sl
      subst hs
      refine .inl ⟨t, a, _, c, by unfold tk; rw [if_pos hl, h1], ?_, h3⟩
      rw [h2]
      rfl
    · exact .inr ⟨by unfold tk; rw [if_pos hl, h1], h2⟩
  · have hgt : decide (65536 < (l.length : Int)) = true := by simp; omega
    have HT : Hid (tk l = none) := by show _ = _; unfold tk; rw [if_neg hl]
    clear hE hl
    go_enter Tryz.func98, Tryz.ntmps98
    go_wp2_with fail
    refine bodyPost_ret (v := .tuple #[zV, .bool false]) (by simp [zV, results, Tryz.results98, go_sem]) rfl ?_
    refine ⟨?_, .inr ⟨HT.out, rfl⟩⟩
    first
      | exact below_a _ _
      | (refine Below.alloc ?_ ?_ _; · exact below_stp (below_a _ _) (Stp.five0 w.heap.size _ (.int .u8 0) (.string ⟨#[]⟩) (.int .i64 0) (.string ⟨#[]⟩) (.slice none 0 0)) (Nat.le_refl _); · simp)
      | exact below_stp (below_a _ _) (Stp.five0 w.heap.size _ (.int .u8 0) (.string ⟨#[]⟩) (.int .i64 0) (.string ⟨#[]⟩) (.slice none 0 0)) (Nat.le_refl _)
      | (refine below_stp ?_ (Stp.five0 w.heap.size _ (.int .u8 0) (.string ⟨#[]⟩) (.int .i64 0) (.string ⟨#[]⟩) (.slice none 0 0)) (Nat.le_refl _); exact (below_a _ _).alloc (by simp) _)
theorem c_tkS (B : Nat) (l : List UInt8) (w : World) (hE : Env B w) (hB : B ≤ w.heap.size) (hm : l.length ≤ 9223372036854775807) (t : Ty) (ht : tk l = some t) :
    Calls Tryz.prog 98 #[.string ⟨l.toArray⟩] w fun e w' => (∃ a n c, e = .returned (.tuple #[nV t.letter.toNat ⟨t.code.toArray⟩ t.count ⟨t.tag.toArray⟩ a n c, .bool true]) ∧ Nd (Fm w.heap.size w') w' t (.slice a n c)) ∧ Below w.heap.size w w' :=
  (c_tk B l w hE hB hm).mono fun e w' h => by
    obtain ⟨hb, ⟨t', a, n, c, h1, h2, h3⟩ | ⟨h1, _⟩⟩ := h
    · rw [ht] at h1
      cases h1
      exact ⟨⟨a, n, c, h2, h3⟩, hb⟩
    · rw [ht] at h1
      cases h1
theorem c_tkN (B : Nat) (l : List UInt8) (w : World) (hE : Env B w) (hB : B ≤ w.heap.size) (hm : l.length ≤ 9223372036854775807) (ht : tk l = none) :
    Calls Tryz.prog 98 #[.string ⟨l.toArray⟩] w fun e w' => e = .returned (.tuple #[nV 0 ⟨#[]⟩ 0 ⟨#[]⟩ none 0 0, .bool false]) ∧ Below w.heap.size w w' :=
  (c_tk B l w hE hB hm).mono fun e w' h => by
    obtain ⟨hb, ⟨t', a, n, c, h1, h2, h3⟩ | ⟨_, h2⟩⟩ := h
    · rw [ht] at h1
      cases h1
    · exact ⟨h2, hb⟩
def prA (l : List UInt8) : List UInt8 × Int := match tk l with
  | none => ([], 2)
  | some t => (if ((t.letter.toNat : Int) == 99 || (t.letter.toNat : Int) == 115) = true then [105] else t.code, 0)
end Go.Proofs.YtiodghbhllfhlaaGreatDoor
/-! The contracts of decay and of the common type, in the code; what holds of them. -/
namespace Go.Proofs.YtiodghbhllfhlaaGreatDoor
set_option linter.unusedVariables false
set_option linter.unusedSimpArgs false
set_option maxRecDepth 100000
open Go.RowKit

def dcT (t : Ty) (l : List UInt8) : List UInt8 × Int := match t with
  | .arr _ u => (112 :: u.code, 0)
  | .fn _ _ => if l.length + 1 ≤ 65536 then (112 :: l, 0) else ([], 3)
  | .base c => if c = 106 then if l.length + 1 ≤ 65536 then (112 :: l, 0) else ([], 3) else (l, 0)
  | _ => (l, 0)
def dcA (l : List UInt8) : List UInt8 × Int := match tk l with
  | none => ([], 2)
  | some t => dcT t l
def cmA (l m : List UInt8) : List UInt8 × Int := match tk l, tk m with
  | some t, some u => if (intI t.letter.toNat && intI u.letter.toNat) = true then (if t.letter = 117 ∨ u.letter = 117 then [117] else [105], 0) else ([], 5)
  | _, _ => ([], 2)
theorem wf_letter {t : Ty} (h : t.wf) : intI t.letter.toNat = true → ∃ c, t = .base c ∧ (c = 99 ∨ c = 115 ∨ c = 105 ∨ c = 117) := by
  cases t with
  | base c =>
    intro h2
    have hc : baseC c = true := h
    unfold baseC at hc
    simp at hc
    rcases hc with ((((hc | hc) | hc) | hc) | hc) | hc
    · subst hc; exact absurd h2 (by decide)
    · exact ⟨c, rfl, .inl hc⟩
    · exact ⟨c, rfl, .inr (.inl hc)⟩
    · exact ⟨c, rfl, .inr (.inr (.inl hc))⟩
    · exact ⟨c, rfl, .inr (.inr (.inr hc))⟩
    · subst hc; exact absurd h2 (by decide)
  | ptr t => intro h2; exact absurd (show intI _ = true from h2) (by show ¬ intI (112 : Int) = true; decide)
  | arr n t => intro h2; exact absurd (show intI _ = true from h2) (by show ¬ intI (97 : Int) = true; decide)
  | str s => intro h2; exact absurd (show intI _ = true from h2) (by show ¬ intI (83 : Int) = true; decide)
  | fn ps r => intro h2; exact absurd (show intI _ = true from h2) (by show ¬ intI (102 : Int) = true; decide)
theorem tk_b (c : UInt8) (h : baseC c = true) : tk [c] = some (.base c) := tk_code (t := .base c) h (by show 1 ≤ 65536; decide)
theorem pr_i : prA [105] = ([105], 0) := by unfold prA; rw [tk_b 105 rfl]; rfl
theorem pr_u : prA [117] = ([117], 0) := by unfold prA; rw [tk_b 117 rfl]; rfl
theorem tw_common {l m c : List UInt8} (h : cmA l m = (c, 0)) : cmA m l = (c, 0) ∧ prA c = (c, 0) ∧ ∃ q, prA l = (q, 0) ∧ (c = q ∨ c = [117]) := by
  unfold cmA at h
  cases hl : tk l with
  | none => rw [hl] at h; cases h
  | some t =>
    cases hm : tk m with
    | none => rw [hl, hm] at h; cases h
    | some u =>
      rw [hl, hm] at h
      simp only at h
      split at h
      · rename_i hi
        rw [Bool.and_eq_true] at hi
        obtain ⟨c1, rfl, h1⟩ := wf_letter (tk_some hl).1 hi.1
        obtain ⟨c2, rfl, h2⟩ := wf_letter (tk_some hm).1 hi.2
        have e1 : cmA m l = (if c2 = 117 ∨ c1 = 117 then [117] else [105], 0) := by
          unfold cmA
          rw [hl, hm]
          simp only
          rw [if_pos (by rw [Bool.and_eq_true]; exact ⟨hi.2, hi.1⟩)]
          rfl
        have e2 : (if c1 = 117 ∨ c2 = 117 then ([117] : List UInt8) else [105]) = c := (Prod.mk.inj h).1
        have e3 : prA l = (if c1 = 99 ∨ c1 = 115 then [105] else [c1], 0) := by
          unfold prA
          rw [hl]
          rcases h1 with rfl | rfl | rfl | rfl <;> rfl
        refine ⟨by rw [e1, ← e2]; simp only [or_comm], ?_, _, e3, ?_⟩
        · rw [← e2]
          split
          · exact pr_u
          · exact pr_i
        · rw [← e2]
          rcases h1 with rfl | rfl | rfl | rfl <;> rcases h2 with rfl | rfl | rfl | rfl <;> decide
      · cases h
theorem tw_prom {l p : List UInt8} (h : prA l = (p, 0)) : prA p = (p, 0) := by
  have h0 := h
  unfold prA at h
  cases hl : tk l with
  | none => rw [hl] at h; cases h
  | some t =>
    rw [hl] at h
    simp only at h
    have e := (Prod.mk.inj h).1
    split at e
    · rw [← e]
      exact pr_i
    · rw [← (tk_some hl).2.1] at e
      rw [← e] at h0 ⊢
      exact h0
theorem dc_ptr {u : Ty} (h : u.wf) (hl : (112 :: u.code).length ≤ 65536) : dcA (112 :: u.code) = (112 :: u.code, 0) := by
  unfold dcA
  rw [show tk (112 :: u.code) = some (.ptr u) from tk_code (t := .ptr u) h hl]
  rfl
theorem arr_len (m : Nat) (u : Ty) : u.code.length + 2 ≤ (Ty.arr m u).code.length := by
  show _ ≤ (97 :: (Lib.decDigits m ++ 58 :: u.code)).length
  simp only [List.length_cons, List.length_append]
  omega
theorem tw_decay {l d : List UInt8} (h : dcA l = (d, 0)) : dcA d = (d, 0) := by
  have h0 := h
  unfold dcA at h
  cases hl : tk l with
  | none => rw [hl] at h; cases h
  | some t =>
    rw [hl] at h
    obtain ⟨hw, hc, hlen⟩ := tk_some hl
    have hsame : (l, (0 : Int)) = (d, 0) → dcA d = (d, 0) := fun e => by
      rw [← (Prod.mk.inj e).1] at h0 ⊢
      exact h0
    have hp : (if l.length + 1 ≤ 65536 then (112 :: l, (0 : Int)) else ([], 3)) = (d, 0) → dcA d = (d, 0) := fun e => by
      split at e
      · rw [← (Prod.mk.inj e).1, hc]
        exact dc_ptr hw (by rw [List.length_cons, ← hc]; assumption)
      · cases e
    cases t with
    | arr m u =>
      have e : 112 :: u.code = d := (Prod.mk.inj h).1
      rw [← e]
      have := arr_len m u
      rw [hc] at hlen
      exact dc_ptr hw.2 (by rw [List.length_cons]; omega)
    | fn ps r => exact hp h
    | base c =>
      have h2 : (if c = 106 then if l.length + 1 ≤ 65536 then (112 :: l, (0 : Int)) else ([], 3) else (l, 0)) = (d, 0) := h
      split at h2
      · exact hp h2
      · exact hsame h2
    | ptr t => exact hsame h
    | str s => exact hsame h
end Go.Proofs.YtiodghbhllfhlaaGreatDoor
/-! The contracts of the common type and of form, in the code. -/
namespace Go.Proofs.YtiodghbhllfhlaaGreatDoor
set_option linter.unusedVariables false
set_option linter.unusedSimpArgs false
set_option maxRecDepth 100000
open Go.RowKit

/-- What takeApart answers, in either case: a letter, and whether it is a type. -/
def TkI (l : List UInt8) (w : World) (e : Ending) (w' : World) : Prop :=
  (∃ (x0 : Int) (s1 : ByteArray) (x2 : Int) (s3 : ByteArray) (a : Option Addr) (n c : Nat) (q : Bool), e = .returned (.tuple #[nV x0 s1 x2 s3 a n c, .bool q]) ∧ q = (tk l).isSome ∧ (∀ t, tk l = some t → x0 = t.letter.toNat)) ∧ Below w.heap.size w w'
theorem c_tkI (B : Nat) (l : List UInt8) (w : World) (hE : Env B w) (hB : B ≤ w.heap.size) (hm : l.length ≤ 9223372036854775807) :
    Calls Tryz.prog 98 #[.string ⟨l.toArray⟩] w fun e w' => TkI l w e w' :=
  (c_tk B l w hE hB hm).mono fun e w' h => by
    obtain ⟨hb, ⟨t', a, n, c, h1, h2, h3⟩ | ⟨h1, h2⟩⟩ := h
    · exact ⟨⟨_, _, _, _, a, n, c, true, h2, by rw [h1]; rfl, fun t ht => by rw [h1] at ht; cases ht; rfl⟩, hb⟩
    · exact ⟨⟨0, ⟨#[]⟩, 0, ⟨#[]⟩, none, 0, 0, false, h2, by rw [h1]; rfl, fun t ht => by rw [h1] at ht; cases ht⟩, hb⟩
end Go.Proofs.YtiodghbhllfhlaaGreatDoor
namespace Go.Proofs.YtiodghbhllfhlaaGreatDoor
set_option linter.unusedVariables false
set_option linter.unusedSimpArgs false
set_option maxRecDepth 100000
open Go.RowKit

theorem infoByte : (Tryz.prog.info? 5).map (fun i => (i.zero, i.size, i.bytes)) = some (some (.int .u8 0), 1, 1) := by kernel_rfl
theorem sizeBuilder : (Tryz.prog.info? 64).map (·.size) = some 2 := by kernel_rfl
theorem liesWriter : liesAt Tryz.prog Tryz.prog.depth 177 (2 / Tryz.prog.cellsOf 177) 0 64 1 = true := by kernel_rfl
theorem cellsByte : Tryz.prog.cellsOf 5 = 1 := by kernel_rfl
/-- A writer in block b, of the call's own (from B on), that holds these bytes. -/
abbrev WrAt (B b : Nat) (l : List UInt8) (w : World) : Prop := Lib.IsBuilder 177 5 B b (Lib.byteCells l) w
theorem WrAt.used {B b : Nat} {l : List UInt8} {w : World} (h : Lib.BuilderAt 177 5 B b (.pointer (some ⟨b, 0, none⟩)) (Lib.byteCells l) w) : WrAt B b l w := Or.inr h

/-- What a write into the builder in block b leaves as it was: what lies below B; every block but b that is no row of bytes. -/
structure FrB (B b : Nat) (w w' : World) : Prop where
  bel : Below B w w'
  oth : Lib.OthersKept 5 (some b) w w'
theorem FrB.refl (B b : Nat) (w : World) : FrB B b w w := ⟨Below.refl _ _, Lib.OthersKept.refl _ _ _⟩
theorem FrB.trans {B b : Nat} {a c d : World} (h : FrB B b a c) (k : FrB B b c d) : FrB B b a d := ⟨h.bel.trans k.bel, h.oth.trans k.oth⟩
theorem FrB.drew {B b : Nat} {a c : World} (h : FrB B b a c) : FrB B b a c.drew := ⟨h.bel.drew, h.oth.drew⟩
theorem FrB.drewN {B b : Nat} {a c : World} (h : FrB B b a c) (n : Nat) : FrB B b a (c.drewN n) := ⟨_root_.Go.below_drewN h.bel n, h.oth⟩
theorem FrB.size {B b : Nat} {a c : World} (h : FrB B b a c) : a.heap.size ≤ c.heap.size := h.bel.size
theorem FrB.alloc {B b : Nat} {a c : World} (h : FrB B b a c) (hB : B ≤ c.heap.size) (o : Obj) : FrB B b a (c.alloc o) := ⟨h.bel.alloc hB o, h.oth.alloc o⟩
theorem FrB.of {B b : Nat} {w w' : World} (h : Below w.heap.size w w') (hB : B ≤ w.heap.size) : FrB B b w w' :=
  ⟨⟨h.os, h.tape, h.output, h.size, fun k hk => h.block k (by omega)⟩, fun k o hk _ _ => (h.block k (Array.getElem?_eq_some_iff.1 hk).1).trans hk⟩
theorem FrB.keep {B b : Nat} {w w' : World} (h : FrB B b w w') {k : Nat} {c : Array Value} {T : TypeId} {fz : Nat × Nat} (hk : w.heap[k]? = some (.cells c T fz)) (hb : k ≠ b) (hT : T ≠ 5) : w'.heap[k]? = some (.cells c T fz) :=
  h.oth k _ hk (fun e => hb (by simpa using e)) (fun c' fz' e => by injection e with _ e2 _; exact hT e2)
set_option maxHeartbeats 1000000 in
theorem c_copyCheck (B b : Nat) (bs : List Value) (w : World) (h : Lib.IsBuilder 177 5 B b bs w) :
    Calls Tryz.prog 79 #[.pointer (some ⟨b, 0, none⟩)] w fun e w' => e = .returned (.tuple #[]) ∧ (Lib.BuilderAt 177 5 B b (.pointer (some ⟨b, 0, none⟩)) bs w' ∧ FrB B b w w') := by
  obtain ⟨j, hj, hjs⟩ := Option.map_eq_some_iff.1 sizeBuilder
  rcases h with h | h
  · have h0 := h.cell0
    have hsh := h.shape
    have hfz := h.frozen0
    have HH := Lib.hid h
    clear h
    go_enter Tryz.func79, Tryz.ntmps79
    go_wp2
    rw [Lib.run_to_unsafe w ⟨b, 0, none⟩ Tryz.underlying61 Tryz.underlying148 hj (by rw [hjs]; decide) hsh (Nat.zero_lt_succ 1)]
    simp only [Result.andThen]
    rw [Oper.upon_value]
    go_wp2
    rw [run_callFunc_extern Tryz.func89 (by kernel_rfl) (by kernel_rfl) (by kernel_rfl) (e := Extern.AbiNoEscape.same) (by kernel_rfl)]
    rw [Lib.run_noEscape]
    simp only [Result.andThen]
    rw [Oper.upon_value]
    go_wp2
    rw [Lib.run_from_unsafe w ⟨b, 0, none⟩ Tryz.underlying148 Tryz.underlying61 hj hsh liesWriter]
    simp only [Result.andThen]
    rw [Oper.upon_value]
    go_wp2
    go_end0
    exact ⟨rfl, HH.out.used _, (Below.refl B w).setCell (p := ⟨b, 0, none⟩) HH.out.1 _, (Lib.OthersKept.refl _ _ w).setCell ⟨b, 0, none⟩ rfl _⟩
  · have h0 := h.cell0
    have HH := Lib.hid h
    clear h
    go_enter Tryz.func79, Tryz.ntmps79
    go_wp2
    rw [Lib.run_neq_ptr_same w _ Tryz.underlying61 hj]
    go_wp2
    go_end0
    exact ⟨rfl, HH.out, FrB.refl _ _ _⟩

set_option maxHeartbeats 2000000 in
theorem c_WriteString (B b : Nat) (l s : List UInt8) (w : World) (h : WrAt B b l w) (hlen : l.length + s.length ≤ 140737488355328) (hBw : B ≤ w.heap.size) :
    Calls Tryz.prog 70 #[.pointer (some ⟨b, 0, none⟩), .string ⟨s.toArray⟩] w fun e w' => e = .returned (.tuple #[.int .i64 s.length, .nilIface]) ∧ WrAt B b (l ++ s) w' ∧ FrB B b w w' := by
  obtain ⟨i0, hi, hz0, hz1, hz2⟩ := info_parts infoByte
  have HL : Hid ((Lib.byteCells l).length = l.length) := Lib.byteCells_length l
  go_enter Tryz.func70, Tryz.ntmps70
  go_wp2_with (go_at_call 79; refine (c_copyCheck B b _ _ h).mono ?_)
  rintro e w1 ⟨rfl, h1, hfr⟩
  obtain ⟨hb1, hk1⟩ := hfr
  obtain ⟨hB, v, hbk, hown, hne⟩ := h1
  have c0 : w1.cell? ⟨b, 0, none⟩ = some (.pointer (some ⟨b, 0, none⟩)) := by rw [Lib.cell_of_heap hbk]; rfl
  have c1 : w1.cell? ⟨b, 1, none⟩ = some v := by rw [Lib.cell_of_heap hbk]; rfl
  have HS : Hid ((⟨s.toArray⟩ : ByteArray).size = s.length) := by show s.toArray.size = _; simp
  go_wp2_with (at_builtin; refine Lib.wpList_append_own_string _ rfl _ _ 62 9 rfl B 5 i0 Tryz.underlying62 Tryz.underlying9 hi hz0 hz1 hz2 _ _ _ rfl hown ⟨s.toArray⟩ rfl ?c3 ?c4 ?c5 ?_)
  case c3 => rw [HL.out, HS.out]; unfold maxLen; omega
  case c4 => rw [HL.out, HS.out]; omega
  case c5 => have := hb1.size; omega
  intro v' w2 hown' hgrow _
  have hlt : b < w1.heap.size := by
    rcases Nat.lt_or_ge b w1.heap.size with h' | h'
    · exact h'
    · simp [Array.getElem?_eq_none h'] at hbk
  have hb2 : w2.heap[b]? = some (.cells #[.pointer (some ⟨b, 0, none⟩), v] 177 (0, 0)) := by
    rw [hgrow.block b hlt (fun e => hne e.symm)]
    exact hbk
  have d0 : w2.cell? ⟨b, 0, none⟩ = some (.pointer (some ⟨b, 0, none⟩)) := by rw [Lib.cell_of_heap hb2]; rfl
  have d1 : w2.cell? ⟨b, 1, none⟩ = some v := by rw [Lib.cell_of_heap hb2]; rfl
  have f1 : w2.frozen? ⟨b, 1, none⟩ = false := Lib.frozen_of_heap hb2 1
  obtain ⟨ao, n', cap, rfl⟩ : ∃ ao n' cap, v' = .slice ao n' cap := by
    rcases hown'.2 with ⟨hv, _⟩ | ⟨g, cap, cur, hv, _⟩
    · exact ⟨_, _, _, hv⟩
    · exact ⟨_, _, _, hv⟩
  go_wp2
  go_ret2
  refine ⟨rfl, WrAt.used ?_, ?_, (hk1.grown hgrow (Lib.ownsRow_kind hown)).setCell ⟨b, 1, none⟩ rfl _⟩
  · refine Lib.BuilderAt.put (T := 177) (e := 5) hB hb2 (bs' := Lib.byteCells (l ++ s)) ?_ (by decide)
    have e : Lib.byteCells (l ++ s) = Lib.byteCells l ++ Lib.strCells ⟨s.toArray⟩ := by rw [Lib.byteCells_append]; rfl
    rw [e]
    have e2 : (Lib.byteCells l ++ Lib.strCells ⟨s.toArray⟩).length = (Lib.byteCells l).length + (⟨s.toArray⟩ : ByteArray).size := by rw [List.length_append, Lib.strCells_length]
    rw [e2]
    exact hown'
  · exact (hb1.grown hgrow (by have := hb1.size; omega) (fun k hk => (hown.lt k hk).1)).setCell (p := ⟨b, 1, none⟩) hB _

set_option maxHeartbeats 1000000 in
theorem c_BString (B b : Nat) (l : List UInt8) (w : World) (h : WrAt B b l w) (h0 : l ≠ []) :
    Calls Tryz.prog 26 #[.pointer (some ⟨b, 0, none⟩)] w fun e w' => e = .returned (.string ⟨l.toArray⟩) ∧ Below B w w' := by
  obtain ⟨p, hB, v, hbk, hown, hne⟩ : ∃ p, Lib.BuilderAt 177 5 B b p (Lib.byteCells l) w := by
    rcases h with h | h
    · exact ⟨_, h⟩
    · exact ⟨_, h⟩
  have hl0 : l.length ≠ 0 := by simpa using h0
  rw [Lib.byteCells_length] at hown
  obtain ⟨g, cap, cur, rfl, hbg, hg, hnc, hcm, hcs, htake⟩ : ∃ g cap cur, v = .slice (some ⟨g, 0, none⟩) l.length cap ∧ B ≤ g ∧ w.heap[g]? = some (.cells cur 5 (0, 0)) ∧ l.length ≤ cap ∧ cap ≤ maxLen ∧ cur.size = cap * 1 ∧ cur.toList.take (l.length * 1) = Lib.byteCells l := by
    rcases hown.2 with ⟨_, hz⟩ | ⟨g, cap, cur, hv, r⟩
    · exact absurd hz hl0
    · exact ⟨g, cap, cur, hv, r⟩
  have c1 : w.drew.cell? ⟨b, 1, none⟩ = some (.slice (some ⟨g, 0, none⟩) l.length cap) := by
    have : w.drew.heap[b]? = some (.cells #[p, .slice (some ⟨g, 0, none⟩) l.length cap] 177 (0, 0)) := hbk
    rw [Lib.cell_of_heap this]; rfl
  have hSD : (Builtin.unsafeSliceData_ #[62] 84 #[.slice (some ⟨g, 0, none⟩) l.length cap]).run Tryz.prog w.drew = .ok (.pointer (some ⟨g, 0, none⟩)) w.drew :=
    Lib.run_unsafeSliceData_row _ _ _ _ _ _ (by omega)
  have hUS : (Builtin.unsafeString_ #[84, 3] 9 #[.pointer (some ⟨g, 0, none⟩), .int .i64 l.length]).run Tryz.prog w.drew = .ok (.string ⟨l.toArray⟩) (w.drew.freeze ⟨g, 0, none⟩ l.length) := by
    refine Lib.run_unsafeString_row w.drew 84 3 9 5 Tryz.underlying84 cellsByte g cur.size (by have hg' : w.drew.heap[g]? = some (.cells cur 5 (0, 0)) := hg; simp [World.shape?, hg']) l h0 (by omega) (by unfold maxLen at hcm; omega) ?_
    intro j x hx
    have := hown.cells (g := g) rfl j (.int .u8 x.toNat) (by simp [Lib.byteCells, hx])
    exact this
  have HBg := Lib.hid hbg
  clear hne hown hg hnc hcm hcs htake hbg h h0 hl0 hbk
  go_enter Tryz.func26, Tryz.ntmps26
  go_wp2
  go_region
  all_goals (go_wp2; go_ret; exact ⟨rfl, Lib.below_freeze (Below.drew (Below.refl B w)) (p := ⟨g, 0, none⟩) HBg.out _⟩)
end Go.Proofs.YtiodghbhllfhlaaGreatDoor
namespace Go.Proofs.YtiodghbhllfhlaaGreatDoor
set_option linter.unusedVariables false
set_option linter.unusedSimpArgs false
set_option maxRecDepth 100000
open Go.RowKit

theorem bAt_next {T e : TypeId} {B b : Nat} {p : Value} {bs : List Value} {w w' : World} (h : Lib.BuilderAt T e B b p bs w) (hb : Below w.heap.size w w') : Lib.BuilderAt T e B b p bs w' := by
  have hlt := h.lt
  obtain ⟨hB, v, hbk, hown, hne⟩ := h
  exact ⟨hB, v, (hb.block b hlt).trans hbk, own_far hown (fun g hg _ => hb.block g (hown.lt g hg).2), hne⟩
theorem WrAt.next {B b : Nat} {l : List UInt8} {w w' : World} (h : WrAt B b l w) (hb : Below w.heap.size w w') : WrAt B b l w' := by
  rcases h with h | h
  · exact .inl (bAt_next h hb)
  · exact .inr (bAt_next h hb)
theorem frb_on {B b : Nat} {w w1 w2 : World} (h : Below w.heap.size w w1) (k : FrB B b w1 w2) (hB : B ≤ w.heap.size) : FrB B b w w2 := (FrB.of h hB).trans k
theorem frb_at {B b : Nat} {w w1 : World} (h : FrB B b w w1) (hB : B ≤ w.heap.size) : B ≤ w1.heap.size := Nat.le_trans hB h.size
set_option maxHeartbeats 2000000 in
theorem c_base0 (B b : Nat) (l : List UInt8) (x0 : Int) (s1 : ByteArray) (x2 : Int) (s3 : ByteArray) (a : Option Addr) (n c : Nat) (h : x0 = 99 ∨ x0 = 105) (w : World) (hW : WrAt B b l w) (hB : B ≤ w.heap.size) (hl : l.length + 4 ≤ 140737488355328) :
    Calls Tryz.prog 124 #[.pointer (some ⟨b, 0, none⟩), nV x0 s1 x2 s3 a n c] w fun e w' => e = .returned (.tuple #[]) ∧ WrAt B b (l ++ (if x0 = 99 then [99, 104, 97, 114] else [105, 110, 116])) w' ∧ FrB B b w w' := by
  have HW := Lib.hid (fun w' (hb : Below w.heap.size w w') (s : List UInt8) (hs : s.length ≤ 4) => c_WriteString B b l s w' (hW.next hb) (by omega) (Nat.le_trans hB hb.size))
  rcases h with rfl | rfl
  all_goals
    go_enter Tryz.func124, Tryz.ntmps124
    go_wp2_with fail
  · refine (HW.out _ (below_a _ _) [99, 104, 97, 114] (by decide)).mono ?_
    rintro e w2 ⟨rfl, h2, hb2⟩
    go_wp2_with fail
    go_end0
    exact ⟨rfl, h2, frb_on (below_a _ _) hb2 hB⟩
  · refine (HW.out _ (below_a _ _) [105, 110, 116] (by decide)).mono ?_
    rintro e w2 ⟨rfl, h2, hb2⟩
    go_wp2_with fail
    go_end0
    exact ⟨rfl, h2, frb_on (below_a _ _) hb2 hB⟩
def brI (x : Int) : Bool := x == 97 || x == 102
set_option maxHeartbeats 2000000 in
theorem c_isBr (t u : Ty) (A : List Ty) (ht : t.parts = A ++ [u]) (hA : A.length ≤ 65536) (x0 : Int) (s1 : ByteArray) (x2 : Int) (s3 : ByteArray) (a : Option Addr) (n c : Nat) (hV : ndV t (.slice a n c) = nV x0 s1 x2 s3 a n c) (y : Int) (hy : (u.letter.toNat : Int) = y) (w : World) (hN : NdIn t (.slice a n c) w) :
    Calls Tryz.prog 142 #[nV x0 s1 x2 s3 a n c] w fun e w' => e = .returned (.bool (brI y)) ∧ Below w.heap.size w w' := by
  have HI := Lib.hid (c_inner _ t _ _ (hN.next (below_a w (.cells #[.int .u8 x0, .string s1, .int .i64 x2, .string s3, .slice a n c] 127))) A u ht hA)
  rw [hV] at HI
  have HV : Hid (∀ a' n' c', ndV u (.slice a' n' c') = .agg #[.int .u8 y, .string ⟨u.code.toArray⟩, .int .i64 u.count, .string ⟨u.tag.toArray⟩, .slice a' n' c']) := fun a' n' c' => by rw [nd_val, hy]
  clear hN hV
  unfold brI
  go_enter Tryz.func142, Tryz.ntmps142
  go_wp2_with fail
  refine HI.out.mono ?_
  rintro e w2 ⟨⟨a', n', c', rfl, hn⟩, hb⟩
  have HB := Lib.hid (below_on (below_a w (.cells #[.int .u8 x0, .string s1, .int .i64 x2, .string s3, .slice a n c] 127)) hb (by simp))
  rw [HV.out]
  have hfd : ∀ W : World, (Instr.field 127 (.agg #[.int .u8 y, .string ⟨u.code.toArray⟩, .int .i64 u.count, .string ⟨u.tag.toArray⟩, .slice a' n' c']) 0).run Tryz.prog W = .ok (.int .u8 y) W := fun _ => by kernel_rfl
  clear hb hn HI HV
  cases h97 : y == 97
  all_goals
    go_wp2_with fail
    go_ret
    refine ⟨?_, HB.out⟩
    rw [h97]
    rfl
set_option maxHeartbeats 2000000 in
theorem c_ahead0 (B b : Nat) (l : List UInt8) (x0 : Int) (s1 : ByteArray) (x2 : Int) (s3 : ByteArray) (a : Option Addr) (n c : Nat) (h : (x0 == 112) = false) (w : World) (hW : WrAt B b l w) (hB : B ≤ w.heap.size) :
    Calls Tryz.prog 125 #[.pointer (some ⟨b, 0, none⟩), nV x0 s1 x2 s3 a n c] w fun e w' => e = .returned (.tuple #[]) ∧ WrAt B b l w' ∧ FrB B b w w' := by
  have HW := Lib.hid (fun w' (hb : Below w.heap.size w w') => hW.next hb)
  have h2 : ¬ x0 = 112 := by simpa using h
  clear hW
  go_enter Tryz.func125, Tryz.ntmps125
  go_wp2_with fail
  refine bodyPost_ret (v := .tuple #[]) (by simp [results, Tryz.results125, go_sem]) rfl ?_
  exact ⟨rfl, HW.out _ (below_a _ _), FrB.of (below_a _ _) hB⟩
set_option maxHeartbeats 2000000 in
/-- What stands ahead of a pointer. -/
theorem c_aheadP (B b : Nat) (l : List UInt8) (s1 : ByteArray) (x2 : Int) (s3 : ByteArray) (a : Option Addr) (n c : Nat) (q : Bool) (w : World) (hW : WrAt B b l w) (hB : B ≤ w.heap.size) (hl : l.length + (if q then [40, 42] else [42] : List UInt8).length ≤ 140737488355328)
    (hI : ∀ w', Below w.heap.size w w' → Calls Tryz.prog 142 #[nV 112 s1 x2 s3 a n c] w' fun e w'' => e = .returned (.bool q) ∧ Below w'.heap.size w' w'') :
    Calls Tryz.prog 125 #[.pointer (some ⟨b, 0, none⟩), nV 112 s1 x2 s3 a n c] w fun e w' => e = .returned (.tuple #[]) ∧ WrAt B b (l ++ (if q then [40, 42] else [42])) w' ∧ FrB B b w w' := by
  have HW := Lib.hid (fun w' (hb : Below w.heap.size w w') => hW.next hb)
  have HI := Lib.hid (hI _ (below_a w (.cells #[.int .u8 112, .string s1, .int .i64 x2, .string s3, .slice a n c] 127)))
  clear hW hI
  go_enter Tryz.func125, Tryz.ntmps125
  go_wp2_with fail
  refine HI.out.mono ?_
  rintro e w2 ⟨rfl, hb⟩
  have HB2 := Lib.hid (below_on (below_a w (.cells #[.int .u8 112, .string s1, .int .i64 x2, .string s3, .slice a n c] 127)) hb (by simp))
  clear hb HI
  cases q
  · have hl1 : l.length + 1 ≤ 140737488355328 := hl
    go_wp2_with fail
    refine (c_WriteString B b l [42] _ (HW.out _ HB2.out) (by simp; omega) (Nat.le_trans hB HB2.out.size)).mono ?_
    rintro e w3 ⟨rfl, h3, hb3⟩
    go_wp2_with fail
    go_end0
    exact ⟨rfl, h3, frb_on HB2.out hb3 hB⟩
  · have hl2 : l.length + 2 ≤ 140737488355328 := hl
    go_wp2_with fail
    refine (c_WriteString B b l [40] _ (HW.out _ HB2.out) (by simp; omega) (Nat.le_trans hB HB2.out.size)).mono ?_
    rintro e w3 ⟨rfl, h3, hb3⟩
    have HF3 := Lib.hid (frb_on HB2.out hb3 hB)
    have HW3 := Lib.hid h3
    clear h3 hb3
    go_wp2_with fail
    refine (c_WriteString B b (l ++ [40]) [42] _ HW3.out (by simp; omega) (frb_at HF3.out hB)).mono ?_
    rintro e w4 ⟨rfl, h4, hb4⟩
    go_wp2_with fail
    go_end0
    exact ⟨rfl, by simpa using h4, HF3.out.trans hb4⟩
end Go.Proofs.YtiodghbhllfhlaaGreatDoor
namespace Go.Proofs.YtiodghbhllfhlaaGreatDoor
set_option linter.unusedVariables false
set_option linter.unusedSimpArgs false
set_option maxRecDepth 100000
open Go.RowKit

theorem nw2 (w : World) (a b : Obj) : ((w.alloc a).alloc b).heap[w.heap.size + 1]? = some b := by
  have h := heap_alloc_new (w.alloc a) b
  rw [show (w.alloc a).heap.size = w.heap.size + 1 by simp] at h
  exact h
theorem nw3 (w : World) (a b c : Obj) : (((w.alloc a).alloc b).alloc c).heap[w.heap.size + 2]? = some c := by
  have h := heap_alloc_new ((w.alloc a).alloc b) c
  rw [show ((w.alloc a).alloc b).heap.size = w.heap.size + 2 by simp] at h
  exact h
theorem nd_nV (t : Ty) (a : Option Addr) (n c : Nat) : ndV t (.slice a n c) = nV t.letter.toNat ⟨t.code.toArray⟩ t.count ⟨t.tag.toArray⟩ a n c := rfl
/-- What around answers: a row of its own, of nodes that were there. -/
def ArR (S : Nat → Prop) (t : Ty) (w : World) (e : Ending) (w' : World) : Prop :=
  ∃ (L : List (Ty × Value)) (v : Value) (a : Option Addr) (n c : Nat), e = .returned (.tuple #[v, ndV (spn t).2 (.slice a n c)]) ∧ L.map Prod.fst = (spn t).1 ∧ w'.ownsRow w.heap.size 127 5 v L.length (ndCs L) ∧ (∀ p ∈ L, Nd S w p.1 p.2) ∧ Nd S w (spn t).2 (.slice a n c) ∧ Below w.heap.size w w'
/-- While it goes inward. -/
structure ArI (S : Nat → Prop) (t : Ty) (w : World) (L : List (Ty × Value)) (v : Value) (u : Ty) (a : Option Addr) (n c : Nat) (wr : World) : Prop where
  blk : wr.heap[w.heap.size]? = some (.cells #[.int .u8 u.letter.toNat, .string ⟨u.code.toArray⟩, .int .i64 u.count, .string ⟨u.tag.toArray⟩, .slice a n c] 127)
  res : wr.heap[w.heap.size + 1]? = some zOb
  own : wr.ownsRow (w.heap.size + 2) 127 5 v L.length (ndCs L)
  kids : ∀ p ∈ L, Nd S w p.1 p.2
  node : Nd S w u (.slice a n c)
  lst : L.map Prod.fst ++ (spn u).1 = (spn t).1
  bas : (spn u).2 = (spn t).2
  bel : Below w.heap.size w wr
theorem l5_one (x : Int) (y : ByteArray) (z : Int) (nm : ByteArray) (a : Option Addr) (n c : Nat) : ∀ u ∈ [Value.int .u8 x, .string y, .int .i64 z, .string nm, .slice a n c], u.oneCell' = true := by
  intro u hu
  simp only [List.mem_cons, List.not_mem_nil, or_false] at hu
  rcases hu with rfl | rfl | rfl | rfl | rfl <;> rfl
theorem own_formA {w : World} {N : Nat} {T : TypeId} {z : Nat} {v : Value} {n : Nat} {xs : List Value} (h : w.ownsRow N T z v (n + 1) xs) : ∃ g cap, v = .slice (some ⟨g, 0, none⟩) (n + 1) cap ∧ N ≤ g ∧ n + 1 ≤ cap ∧ g < w.heap.size := by
  rcases h.2 with ⟨_, hz⟩ | ⟨g, cap, cur, hv, hb, hg, h1, _⟩
  · omega
  · exact ⟨g, cap, hv, hb, h1, (Array.getElem?_eq_some_iff.1 hg).1⟩
theorem stp_drew {g : Nat} {w w' : World} (h : Stp g w w') : Stp g w w'.drew := ⟨h.blk, h.frz, h.size, h.os, h.tape, h.output⟩
theorem five_set {w : World} {g : Nat} {a0 a1 a2 a3 a4 : Value} {T : TypeId} (h : w.heap[g]? = some (.cells #[a0, a1, a2, a3, a4] T)) (c0 c1 c2 c3 c4 : Value) :
    (((((w.setCell ⟨g, 0, none⟩ c0).setCell ⟨g, 1, none⟩ c1).setCell ⟨g, 2, none⟩ c2).setCell ⟨g, 3, none⟩ c3).setCell ⟨g, 4, none⟩ c4).heap[g]? = some (.cells #[c0, c1, c2, c3, c4] T) :=
  heap_setCell_same _ g 4 _ _ c4 (heap_setCell_same _ g 3 _ _ c3 (heap_setCell_same _ g 2 _ _ c2 (heap_setCell_same _ g 1 _ _ c1 (heap_setCell_same w g 0 _ _ c0 h))))
theorem own_low {w : World} {N : Nat} {T : TypeId} {z : Nat} {v : Value} {n : Nat} {xs : List Value} (h : w.ownsRow (N + 2) T z v n xs) : w.ownsRow N T z v n xs := by
  refine ⟨h.1, ?_⟩
  rcases h.2 with hn | ⟨g, cap, cur, hv, hb, rest⟩
  · exact .inl hn
  · exact .inr ⟨g, cap, cur, hv, by omega, rest⟩
set_option maxHeartbeats 4000000 in
theorem c_around (S : Nat → Prop) (t : Ty) (s : Value) (w : World) (hS : ∀ j, S j → j < w.heap.size) (hN : Nd S w t s) (hs : t.code.length ≤ 65536) :
    Calls Tryz.prog 123 #[ndV t s] w fun e w' => ArR S t w e w' := by
  obtain ⟨a0, c0, rfl, _⟩ := hN.sl
  have HS := Lib.hid hS
  obtain ⟨i0, hi, hz0, hz1, hz2⟩ := info_parts infoNode
  have HI : Hid (ArI S t w [] (.slice none 0 0) t a0 t.parts.length c0 ((w.alloc (.cells #[.int .u8 t.letter.toNat, .string ⟨t.code.toArray⟩, .int .i64 t.count, .string ⟨t.tag.toArray⟩, .slice a0 t.parts.length c0] 127)).alloc zOb)) :=
    ⟨(Below.heap_alloc _ _ _ (by simp)).trans (heap_alloc_new w _), nw2 w _ _, World.ownsRow_nil _ _ _ _, (fun p hp => by cases hp), hN, rfl, rfl, (below_a w _).alloc (by simp) _⟩
  rw [nd_nV]
  go_enter Tryz.func123, Tryz.ntmps123
  go_wp2_with fail
  have HT := Lib.hid (size_code t)
  have HL6 := Lib.hid hs
  have HPl := Lib.hid (parts_le)
  go_loopg [4] t.size (fun g lv wr => ∃ (L : List (Ty × Value)) (u : Ty) (a : Option Addr) (n c : Nat) (ao : Option Addr) (co : Nat), L.length + u.size ≤ t.size ∧ u.size = g ∧ n = u.parts.length ∧ lv = .slice ao L.length co ∧ Hid (ArI S t w L lv u a n c wr))
  case atStart => exact ⟨[], t, a0, _, c0, none, 0, by simp, rfl, rfl, rfl, HI.out⟩
  case round =>
    obtain ⟨L, u, a, n, c, ao, co, hsz, hg, hn, rfl, HR⟩ := hrel
    obtain ⟨n0, n1, n2, n3, n4, nf⟩ := five_cells HR.out.blk
    by_cases hp : u.parts = []
    · have hn0 : n = 0 := by rw [hn, hp]; rfl
      subst hn0
      obtain ⟨r0, r1, r2, r3, r4, rf⟩ := five_cells HR.out.res
      have rf0 := rf 0
      have rf1 := rf 1
      have rf2 := rf 2
      have rf3 := rf 3
      have rf4 := rf 4
      have HSp := Lib.hid (spn_nil hp)
      clear nf rf hp hn
      go_wp2_with fail
      go_region
      all_goals
        go_wp2_with fail
        refine bodyPost_ret (v := .tuple #[.slice ao L.length co, .agg #[.int .u8 u.letter.toNat, .string ⟨u.code.toArray⟩, .int .i64 u.count, .string ⟨u.tag.toArray⟩, .slice a 0 c]]) (by simp [results, Tryz.results123, go_sem, r0, r1, r2, r3, r4]) rfl ?_
        have hst0 := Stp.five0 (w.heap.size + 1) wr (.int .u8 u.letter.toNat) (.string ⟨u.code.toArray⟩) (.int .i64 u.count) (.string ⟨u.tag.toArray⟩) (.slice a 0 c)
        have hst : Stp (w.heap.size + 1) wr _ := stp_drew hst0
        have hN0 := HR.out.node
        have hL := HR.out.lst
        have hB := HR.out.bas
        rw [HSp.out] at hL hB
        rw [List.append_nil] at hL
        refine ⟨L, .slice ao L.length co, a, 0, c, ?_, hL, ?_, HR.out.kids, ?_, below_stp HR.out.bel hst (by omega)⟩
        · rw [← hB]
          rfl
        · exact own_far (own_low HR.out.own) (fun g hg hNg => hst.blk g (by have := (HR.out.own.lt g hg).1; omega))
        · rw [← hB]
          exact hN0
    · obtain ⟨A, u', hA, hsp, hlt⟩ := spn_cons hp
      have hn1 : n = A.length + 1 := by rw [hn, hA]; simp
      have hpos : (0 : Int) < (n : Int) := by omega
      have hus := HT.out
      have HA := Lib.hid hA
      have HSp := Lib.hid hsp
      have hwn : w.heap.size < wr.heap.size := World.block_lt_of_cell? wr ⟨w.heap.size, 0, none⟩ n0
      have HIn := Lib.hid (fun w' (hb : Below w.heap.size w w') => c_inner S u (.slice a n c) w' (Nd.mono HR.out.node (fun j hj => hj) (fun j hj => hb.block j (HS.out j hj))) A u' hA (by have := HL6.out; have := HT.out; have := HPl.out u; rw [hA] at this; simp at this; omega))
      have hmL : L.length + 1 ≤ 65536 := by have := HL6.out; have := HT.out; have h0 : 1 ≤ u'.size := (by cases u' <;> (unfold Ty.size; omega)); omega
      clear hp nf hA hsp hn hn1
      go_wp2_with (at_builtin; refine wpList_append_own _ rfl _ _ 125 rfl (w.heap.size + 2) 127 i0 (.agg #[.int .u8 0, .string ByteArray.empty, .int .i64 0, .string ByteArray.empty, .slice none 0 0]) 5 72 Tryz.underlying125 hi hz0 hz1 hz2 rfl (by decide) (.slice ao L.length co) L.length (ndCs L) rfl (HR.out.own.alloc _) ⟨wr.heap.size, 0, none⟩ 1 1 [.int .u8 u.letter.toNat, .string ⟨u.code.toArray⟩, .int .i64 u.count, .string ⟨u.tag.toArray⟩, .slice a n c] rfl rfl ?cc1 ?cc2 ?cc3 ?cc4 ?cc5 ?_)
      case cc1 => exact World.news_of_block (heap_alloc_new wr (.cells #[.int .u8 u.letter.toNat, .string ⟨u.code.toArray⟩, .int .i64 u.count, .string ⟨u.tag.toArray⟩, .slice a n c] 127))
      case cc2 => exact l5_one _ _ _ _ _ _ _
      case cc3 => unfold maxLen; omega
      case cc4 => omega
      case cc5 => have := HR.out.bel.size; have := (Array.getElem?_eq_some_iff.1 HR.out.res).1; simp; omega
      intro v1 wd hown hgrow _
      obtain ⟨gl, cap, rfl, hgN, hcap, hglt⟩ := own_formA (n := L.length) hown
      have HOw := Lib.hid hown
      have hrw : ∀ j, (Value.slice ao L.length co).ownBlock = some j → w.heap.size + 2 ≤ j := fun j hj => (HR.out.own.lt j hj).1
      have hk : ∀ j, j < wr.heap.size → j < w.heap.size + 2 → wd.heap[j]? = wr.heap[j]? := fun j hj hj2 => (hgrow.block j (by simp; omega) (fun e => by have := hrw j e.symm; omega)).trans (Below.heap_alloc _ _ _ hj)
      have HBd : Hid (Below w.heap.size w wd) := (HR.out.bel.alloc HR.out.bel.size _).grown hgrow (by have := HR.out.bel.size; simp; omega) (fun j hj => by have := hrw j hj; omega)
      have HNd : Hid (wd.heap[w.heap.size]? = _) := (hk _ hwn (by omega)).trans HR.out.blk
      have HZd : Hid (wd.heap[w.heap.size + 1]? = some zOb) := (hk _ (Array.getElem?_eq_some_iff.1 HR.out.res).1 (by omega)).trans HR.out.res
      clear hown hgrow hrw hk n0 n1 n2 n3 n4 hwn
      obtain ⟨n0, n1, n2, n3, n4, nf⟩ := five_cells HNd.out
      clear nf
      go_wp2_with fail
      refine (HIn.out _ HBd.out).mono ?_
      rintro e w5 ⟨⟨a', n', c', rfl, hn5⟩, hb⟩
      have HB5 := Lib.hid (below_on HBd.out hb HBd.out.size)
      have HN5 := Lib.hid (blk_next HNd.out hb)
      have HZ5 := Lib.hid (blk_next HZd.out hb)
      have HO5 := Lib.hid (own_far HOw.out (fun g hg _ => hb.block g (HOw.out.lt g hg).2))
      have hn5b : Nd S w u' (.slice a' n' c') := Nd.mono hn5 (fun j hj => hj) (fun j hj => (HBd.out.block j (HS.out j hj)).symm)
      have hn6 : n' = u'.parts.length := by
        obtain ⟨a6, c6, h6, _⟩ := hn5b.sl
        cases h6
        rfl
      have HN6 := Lib.hid hn5b
      clear hb hn5 hn5b n0 n1 n2 n3 n4 HIn HBd HNd HZd HOw
      obtain ⟨n0, n1, n2, n3, n4, nf⟩ := five_cells HN5.out
      have nf0 := nf 0
      have nf1 := nf 1
      have nf2 := nf 2
      have nf3 := nf 3
      have nf4 := nf 4
      clear nf
      rw [nd_nV]
      have hn7 := Lib.hid hn6
      clear hn6
      go_wp2_with fail
      have hst := Stp.five0 w.heap.size w5 (.int .u8 u'.letter.toNat) (.string ⟨u'.code.toArray⟩) (.int .i64 u'.count) (.string ⟨u'.tag.toArray⟩) (.slice a' n' c')
      have hfs := five_set HN5.out (.int .u8 u'.letter.toNat) (.string ⟨u'.code.toArray⟩) (.int .i64 u'.count) (.string ⟨u'.tag.toArray⟩) (.slice a' n' c')
      have hls := HR.out.lst
      have hbs := HR.out.bas
      rw [HSp.out] at hls hbs
      have HNew : Hid (ArI S t w (L ++ [(u, .slice a n c)]) (.slice (some ⟨gl, 0, none⟩) (L.length + 1) cap) u' a' n' c' _) :=
        ⟨hfs, (hst.blk _ (by omega)).trans HZ5.out, by
          rw [ndCs_snoc, List.length_append]
          exact own_far HO5.out (fun g hg hNg => hst.blk g (by omega)), fun p hp => by
          rcases List.mem_append.1 hp with h | h
          · exact HR.out.kids p h
          · rw [List.mem_singleton] at h
            rw [h]
            exact HR.out.node, HN6.out, by rw [← hls, List.map_append]; simp, hbs, below_stp HB5.out hst (Nat.le_refl _)⟩
      clear hst hfs hls hbs n0 n1 n2 n3 n4 nf0 nf1 nf2 nf3 nf4
      go_roundg u'.size
      case measure => omega
      case rel => exact ⟨L ++ [(u, .slice a n c)], u', a', n', c', some ⟨gl, 0, none⟩, cap, by rw [List.length_append]; simp; omega, rfl, hn7.out, by rw [List.length_append]; rfl, HNew⟩
end Go.Proofs.YtiodghbhllfhlaaGreatDoor
namespace Go.Proofs.YtiodghbhllfhlaaGreatDoor
set_option linter.unusedVariables false
set_option linter.unusedSimpArgs false
set_option maxRecDepth 100000
open Go.RowKit

theorem c_Itoa (B k : Nat) (w : World) (h1 : (k : Int) ≤ 9223372036854775807) (hE : Env B w) :
    Calls Tryz.prog 106 #[.int .i64 k] w fun e w' => e = .returned (.string ⟨(Lib.decDigits k).toArray⟩) ∧ Below w.heap.size w w' :=
  (Any.strconv_Itoa Tryz.laysM171 k (by omega) h1 w (tab_of hE.pw _ (by kernel_rfl))).mono fun e w' ⟨he, m, os, hw⟩ => ⟨by rw [he]; simp [Lib.itoa], by
    rw [hw]
    have hb := _root_.Go.below_drewN (Below.refl w.heap.size w) m
    exact below_grow hb os hb.size⟩
set_option maxHeartbeats 4000000 in
/-- A type that is made of no other one. -/
theorem c_base (B b : Nat) (l : List UInt8) (t : Ty) (hp : t.parts = []) (hwf : t.wf) (a : Option Addr) (n c : Nat) (w : World) (hW : WrAt B b l w) (hB : B ≤ w.heap.size) (hl : l.length + (bwT t).length ≤ 140737488355328) :
    Calls Tryz.prog 124 #[.pointer (some ⟨b, 0, none⟩), nV t.letter.toNat ⟨t.code.toArray⟩ t.count ⟨t.tag.toArray⟩ a n c] w fun e w' => e = .returned (.tuple #[]) ∧ WrAt B b (l ++ bwT t) w' ∧ FrB B b w w' := by
  have HW := Lib.hid (fun w' (hb : Below w.heap.size w w') (s : List UInt8) (hs : l.length + s.length ≤ 140737488355328) => c_WriteString B b l s w' (hW.next hb) hs (Nat.le_trans hB hb.size))
  cases t with
  | ptr t => cases hp
  | arr n t => cases hp
  | fn ps r => exact absurd hp (by simp [Ty.parts])
  | str s =>
    have HL := Lib.hid hl
    obtain ⟨s1, hs1⟩ : ∃ s1, (⟨(Ty.str s).code.toArray⟩ : ByteArray) = s1 := ⟨_, rfl⟩
    rw [hs1]
    show Calls _ _ #[_, nV 83 s1 0 ⟨s.toArray⟩ a n c] w _
    have hsl : s.length ≤ 140737488355328 := by have h : l.length + ([115, 116, 114, 117, 99, 116] ++ 32 :: s : List UInt8).length ≤ _ := hl; simp at h; omega
    have hj := add_s [115, 116, 114, 117, 99, 116, 32] s (by simp; omega)
    rw [show ([115, 116, 114, 117, 99, 116, 32] : List UInt8) ++ s = bwT (.str s) by simp [bwT]] at hj
    clear hp hwf hl hs1 hsl
    go_enter Tryz.func124, Tryz.ntmps124
    go_wp2_with fail
    go_region_with (go_at_call 70; refine (HW.out _ (below_a _ _).drew (bwT (.str s)) HL.out).mono ?_; rintro e w2 ⟨rfl, h2, hb2⟩)
    all_goals
      go_wp2_with fail
      go_end0
      exact ⟨rfl, h2, frb_on (below_a _ _).drew hb2 hB⟩
  | base x =>
    obtain ⟨s1, hs1⟩ : ∃ s1, (⟨(Ty.base x).code.toArray⟩ : ByteArray) = s1 := ⟨_, rfl⟩
    rw [hs1]
    have HL := Lib.hid hl
    have hx : x = 118 ∨ x = 99 ∨ x = 115 ∨ x = 105 ∨ x = 117 ∨ x = 106 := by
      have h : baseC x = true := hwf
      unfold baseC at h
      simp at h
      rcases h with ((((h | h) | h) | h) | h) | h <;> simp [h]
    clear hp hwf hl hs1
    rcases hx with rfl | rfl | rfl | rfl | rfl | rfl
    · show Calls _ _ #[_, nV 118 s1 0 ⟨#[]⟩ a n c] w _
      go_enter Tryz.func124, Tryz.ntmps124
      go_wp2_with fail
      refine (HW.out _ (below_a _ _) (bwT (.base 118)) HL.out).mono ?_
      rintro e w2 ⟨rfl, h2, hb2⟩
      go_wp2_with fail
      go_end0
      exact ⟨rfl, h2, frb_on (below_a _ _) hb2 hB⟩
    · show Calls _ _ #[_, nV 99 s1 0 ⟨#[]⟩ a n c] w _
      go_enter Tryz.func124, Tryz.ntmps124
      go_wp2_with fail
      refine (HW.out _ (below_a _ _) (bwT (.base 99)) HL.out).mono ?_
      rintro e w2 ⟨rfl, h2, hb2⟩
      go_wp2_with fail
      go_end0
      exact ⟨rfl, h2, frb_on (below_a _ _) hb2 hB⟩
    · show Calls _ _ #[_, nV 115 s1 0 ⟨#[]⟩ a n c] w _
      go_enter Tryz.func124, Tryz.ntmps124
      go_wp2_with fail
      refine (HW.out _ (below_a _ _) (bwT (.base 115)) HL.out).mono ?_
      rintro e w2 ⟨rfl, h2, hb2⟩
      go_wp2_with fail
      go_end0
      exact ⟨rfl, h2, frb_on (below_a _ _) hb2 hB⟩
    · show Calls _ _ #[_, nV 105 s1 0 ⟨#[]⟩ a n c] w _
      go_enter Tryz.func124, Tryz.ntmps124
      go_wp2_with fail
      refine (HW.out _ (below_a _ _) (bwT (.base 105)) HL.out).mono ?_
      rintro e w2 ⟨rfl, h2, hb2⟩
      go_wp2_with fail
      go_end0
      exact ⟨rfl, h2, frb_on (below_a _ _) hb2 hB⟩
    · show Calls _ _ #[_, nV 117 s1 0 ⟨#[]⟩ a n c] w _
      go_enter Tryz.func124, Tryz.ntmps124
      go_wp2_with fail
      refine (HW.out _ (below_a _ _) (bwT (.base 117)) HL.out).mono ?_
      rintro e w2 ⟨rfl, h2, hb2⟩
      go_wp2_with fail
      go_end0
      exact ⟨rfl, h2, frb_on (below_a _ _) hb2 hB⟩
    · show Calls _ _ #[_, nV 106 s1 0 ⟨#[]⟩ a n c] w _
      go_enter Tryz.func124, Tryz.ntmps124
      go_wp2_with fail
      refine (HW.out _ (below_a _ _) (bwT (.base 106)) HL.out).mono ?_
      rintro e w2 ⟨rfl, h2, hb2⟩
      go_wp2_with fail
      go_end0
      exact ⟨rfl, h2, frb_on (below_a _ _) hb2 hB⟩
theorem tight_br (u : Ty) (h : u.wf) : brI (u.letter.toNat : Int) = u.tight := by
  cases u with
  | base c =>
    have hc : baseC c = true := h
    unfold baseC at hc
    simp at hc
    rcases hc with ((((hc | hc) | hc) | hc) | hc) | hc <;> (subst hc; rfl)
  | _ => rfl
/-- What stands ahead, of any type. -/
theorem c_ahead (B b : Nat) (S : Nat → Prop) (l : List UInt8) (t : Ty) (hwf : t.wf) (a : Option Addr) (n c : Nat) (w : World) (hS : ∀ j, S j → j < w.heap.size) (hN : Nd S w t (.slice a n c)) (hW : WrAt B b l w) (hB : B ≤ w.heap.size) (hl : l.length + (ahT t).length ≤ 140737488355328) :
    Calls Tryz.prog 125 #[.pointer (some ⟨b, 0, none⟩), nV t.letter.toNat ⟨t.code.toArray⟩ t.count ⟨t.tag.toArray⟩ a n c] w fun e w' => e = .returned (.tuple #[]) ∧ WrAt B b (l ++ ahT t) w' ∧ FrB B b w w' := by
  have hz : ∀ (x : Int), (t.letter.toNat : Int) = x → (x == 112) = false → ahT t = [] → Calls Tryz.prog 125 #[.pointer (some ⟨b, 0, none⟩), nV t.letter.toNat ⟨t.code.toArray⟩ t.count ⟨t.tag.toArray⟩ a n c] w fun e w' => e = .returned (.tuple #[]) ∧ WrAt B b (l ++ ahT t) w' ∧ FrB B b w w' := fun x hx h1 h2 => by
    rw [h2, List.append_nil, hx]
    exact c_ahead0 B b l x _ _ _ _ _ _ h1 w hW hB
  cases t with
  | arr m t => exact hz 97 rfl rfl rfl
  | fn ps r => exact hz 102 rfl rfl rfl
  | str s => exact hz 83 rfl rfl rfl
  | base x =>
    have hc : baseC x = true := hwf
    unfold baseC at hc
    simp at hc
    rcases hc with ((((hc | hc) | hc) | hc) | hc) | hc <;> (subst hc; exact hz _ rfl rfl rfl)
  | ptr u =>
    have h := c_aheadP B b l ⟨(Ty.ptr u).code.toArray⟩ 0 ⟨#[]⟩ a n c u.tight w hW hB hl (fun w' hb => by
      have h := c_isBr (.ptr u) u [] rfl (by simp) 112 ⟨(Ty.ptr u).code.toArray⟩ 0 ⟨#[]⟩ a n c rfl _ rfl w' (Nd.mono hN (fun j hj => Nat.lt_of_lt_of_le (hS j hj) hb.size) (fun j hj => hb.block j (hS j hj)))
      rw [tight_br u hwf] at h
      exact h)
    exact h
/-- A function's parameters, as they lie. -/
structure PaAt (S : Nat → Prop) (A : List Ty) (g : Nat) (L : List (Ty × Value)) (w : World) : Prop where
  map : L.map Prod.fst = A
  blk : S g
  cells : ∀ k p, L[k]? = some p → ∀ i x, (ndC p.1 p.2)[i]? = some x → w.cell? ⟨g, k * 5 + i, none⟩ = some x
  kids : ∀ p ∈ L, Nd S w p.1 p.2
theorem PaAt.keep {S : Nat → Prop} {A : List Ty} {g : Nat} {L : List (Ty × Value)} {w w' : World} (h : PaAt S A g L w) (hw : ∀ j, S j → w'.heap[j]? = w.heap[j]?) : PaAt S A g L w' :=
  ⟨h.map, h.blk, fun k p hk i x hx => (cell_of_blk (hw g h.blk) _).trans (h.cells k p hk i x hx), fun p hp => (h.kids p hp).mono (fun j hj => hj) hw⟩
theorem Nd.pars {S : Nat → Prop} {w : World} {t : Ty} {v : Value} (h : Nd S w t v) {A : List Ty} {u : Ty} (ht : t.parts = A ++ [u]) :
    ∃ g cap L, v = .slice (some ⟨g, 0, none⟩) (A.length + 1) cap ∧ A.length + 1 ≤ cap ∧ PaAt S A g L w := by
  cases h with
  | leaf t h => rw [h] at ht; exact absurd ht (by simp)
  | row t g cap L h1 h2 h3 h4 h5 h6 =>
    have hl : L.length = A.length + 1 := by
      have := congrArg List.length (h1.symm.trans ht)
      simpa using this
    refine ⟨g, cap, L.take A.length, by rw [hl], by omega, ⟨?_, h4, fun k p hk i x hx => ?_, fun p hp => h6 p (List.mem_of_mem_take hp)⟩⟩
    · rw [List.map_take, ← h1, ht, List.take_left]
    · obtain ⟨t2, v2⟩ := p
      have hk2 : L[k]? = some (t2, v2) := by
        rw [List.getElem?_take] at hk
        split at hk
        · exact hk
        · cases hk
      have hi : i < 5 := by
        have := (List.getElem?_eq_some_iff.1 hx).1
        rwa [ndC_len] at this
      exact h5 _ _ ((ndCs_at L k t2 v2 hk2 i hi).trans hx)
set_option maxHeartbeats 2000000 in
theorem c_params (m : Nat) (x0 : Int) (s1 : ByteArray) (x2 : Int) (s3 : ByteArray) (g cap : Nat) (hc : m + 1 ≤ cap) (hm : m ≤ 65536) (w : World) :
    Calls Tryz.prog 103 #[nV x0 s1 x2 s3 (some ⟨g, 0, none⟩) (m + 1) cap] w fun e w' => e = .returned (.slice (some ⟨g, 0, none⟩) m cap) ∧ Below w.heap.size w w' := by
  have hw : IntKind.i64.wrap (m : Int) = m := by rw [IntKind.wrap_i64]; omega
  have h0 : (0 : Int) ≤ (m : Int) := by omega
  have h1 : (m : Int) ≤ (cap : Int) := by omega
  have h2 : m ≤ cap := by omega
  go_enter Tryz.func103, Tryz.ntmps103
  go_wp2_with fail
  go_ret
  exact ⟨rfl, below_a _ _⟩
end Go.Proofs.YtiodghbhllfhlaaGreatDoor
namespace Go.Proofs.YtiodghbhllfhlaaGreatDoor
set_option linter.unusedVariables false
set_option linter.unusedSimpArgs false
set_option maxRecDepth 100000
open Go.RowKit

def DcC (n : Nat) : Prop := ∀ (B b : Nat) (S : Nat → Prop) (t : Ty) (a : Option Addr) (k c : Nat) (x l : List UInt8) (w : World), t.size ≤ n → t.wf → t.code.length ≤ 65536 → l.length + (dcl t x).length ≤ 140737488355328 → Env B w → (∀ j, S j → j < B) → Nd S w t (.slice a k c) → WrAt B b l w → B ≤ w.heap.size →
  Calls Tryz.prog 108 #[.pointer (some ⟨b, 0, none⟩), nV t.letter.toNat ⟨t.code.toArray⟩ t.count ⟨t.tag.toArray⟩ a k c, .string ⟨x.toArray⟩] w fun e w' => e = .returned (.tuple #[]) ∧ WrAt B b (l ++ dcl t x) w' ∧ FrB B b w w'
def parsL (A : List Ty) : List UInt8 := if A = [] then [118, 111, 105, 100] else parsF A
theorem pars_L (ps : Tys) : pars ps = parsL ps.list := by
  cases ps with
  | nil => rfl
  | cons t ts =>
    unfold parsL
    rw [if_neg (by show ¬ (t :: ts.list) = []; simp)]
    exact parsF_pars _ (by simp)
theorem FrB.env {B b : Nat} {w w' : World} (h : FrB B b w w') (hE : Env B w) : Env B w' := hE.next h.bel
theorem FrB.pa {B b : Nat} {w w' : World} {S : Nat → Prop} {A : List Ty} {g : Nat} {L : List (Ty × Value)} (h : FrB B b w w') (hS : ∀ j, S j → j < B) (hP : PaAt S A g L w) : PaAt S A g L w' := hP.keep fun j hj => h.bel.block j (hS j hj)
/-- A part's cells. -/
theorem PaAt.at {S : Nat → Prop} {A : List Ty} {g : Nat} {L : List (Ty × Value)} {w : World} (h : PaAt S A g L w) {k : Nat} {u : Ty} (hk : A[k]? = some u) :
    ∃ a n c, Nd S w u (.slice a n c) ∧ g < w.heap.size ∧ w.cell? ⟨g, k * 5, none⟩ = some (.int .u8 u.letter.toNat) ∧ w.cell? ⟨g, k * 5 + 1, none⟩ = some (.string ⟨u.code.toArray⟩) ∧ w.cell? ⟨g, k * 5 + 2, none⟩ = some (.int .i64 u.count) ∧ w.cell? ⟨g, k * 5 + 3, none⟩ = some (.string ⟨u.tag.toArray⟩) ∧ w.cell? ⟨g, k * 5 + 4, none⟩ = some (.slice a n c) := by
  rw [← h.map, List.getElem?_map] at hk
  obtain ⟨⟨u', v⟩, hp, hu⟩ := Option.map_eq_some_iff.1 hk
  have hu' : u' = u := hu
  subst hu'
  have hn := h.kids _ (List.mem_of_getElem? hp)
  obtain ⟨a, c, hv, _⟩ := hn.sl
  have hv' : v = .slice a u'.parts.length c := hv
  have hx := h.cells k _ hp
  have hn' : Nd S w u' v := hn
  rw [hv'] at hn' hx
  exact ⟨a, _, c, hn', World.block_lt_of_cell? w ⟨g, k * 5 + 0, none⟩ (hx 0 _ rfl), hx 0 _ rfl, hx 1 _ rfl, hx 2 _ rfl, hx 3 _ rfl, hx 4 _ rfl⟩
set_option maxHeartbeats 4000000 in
theorem c_wlist (n : Nat) (hD : DcC n) (B b : Nat) (S : Nat → Prop) (A : List Ty) (g cap : Nat) (L : List (Ty × Value)) (l : List UInt8) (w : World) (hA : ∀ u ∈ A, u.size ≤ n ∧ u.wf ∧ u.code.length ≤ 65536) (hE : Env B w) (hS : ∀ j, S j → j < B) (hP : PaAt S A g L w) (hW : WrAt B b l w) (hB : B ≤ w.heap.size) (hc : A.length ≤ cap) (hm : A.length ≤ 65536) (hl : l.length + (parsL A).length + 2 ≤ 140737488355328) :
    Calls Tryz.prog 143 #[.pointer (some ⟨b, 0, none⟩), .slice (some ⟨g, 0, none⟩) A.length cap] w fun e w' => e = .returned (.tuple #[]) ∧ WrAt B b (l ++ 40 :: (parsL A ++ [41])) w' ∧ FrB B b w w' := by
  have HD := Lib.hid hD
  have HE := Lib.hid hE
  have HS := Lib.hid hS
  have HP := Lib.hid hP
  have HA := Lib.hid hA
  have HL := Lib.hid hl
  have HM := Lib.hid hm
  have HBw := Lib.hid hB
  have HW1 := Lib.hid (c_WriteString B b l [40] w hW (by simp; omega) hB)
  clear hE hS hP hA hl hW hD hB
  by_cases hz : A = []
  · subst hz
    have hl4 : l.length + 4 + 2 ≤ 140737488355328 := HL.out
    go_enter Tryz.func143, Tryz.ntmps143
    go_wp2_with fail
    refine HW1.out.mono ?_
    rintro e w1 ⟨rfl, h1, hb1⟩
    have HF1 := Lib.hid hb1
    have HR1 := Lib.hid h1
    clear h1 hb1
    go_wp2_with fail
    refine (c_WriteString B b (l ++ [40]) [118, 111, 105, 100] w1 HR1.out (by simp; omega) (frb_at HF1.out HBw.out)).mono ?_
    rintro e w2 ⟨rfl, h2, hb2⟩
    have HF2 := Lib.hid (HF1.out.trans hb2)
    have HR2 := Lib.hid h2
    clear h2 hb2
    go_wp2_with fail
    refine wp_loop_rounds 1 ?_
    rw [rounds_succ]
    go_wp2_with fail
    refine (c_WriteString B b (l ++ [40] ++ [118, 111, 105, 100]) [41] w2 HR2.out (by simp; omega) (frb_at HF2.out HBw.out)).mono ?_
    rintro e w3 ⟨rfl, h3, hb3⟩
    go_wp2_with fail
    go_end0
    exact ⟨rfl, by simpa [parsL] using h3, HF2.out.trans hb3⟩
  · have hpos : A.length ≠ 0 := fun e => hz (List.length_eq_zero_iff.1 e)
    have hlz : ((A.length : Int) == 0) = false := by rw [beq_eq_false_iff_ne]; omega
    have HPl : Hid (parsL A = parsF A) := by show _ = _; unfold parsL; rw [if_neg hz]
    clear hz
    go_enter Tryz.func143, Tryz.ntmps143
    go_wp2_with fail
    refine HW1.out.mono ?_
    rintro e w1 ⟨rfl, h1, hb1⟩
    have HF1 := Lib.hid hb1
    have HR1 := Lib.hid h1
    clear h1 hb1 HW1
    go_wp2_with fail
    have HG := Lib.hid (fun (k : Nat) (hk : k ≤ A.length) => show l.length + 1 + (parsF (A.take k)).length + 1 ≤ 140737488355328 by
      have h1 := HL.out
      rw [HPl.out] at h1
      have h2 := parsF_take_le A k
      omega)
    go_loopg [19] A.length (fun m v wr => ∃ k : Nat, k + m = A.length ∧ v = .int .i64 (k : Int) ∧ Hid (FrB B b w wr ∧ WrAt B b (l ++ 40 :: parsF (A.take k)) wr))
    case atStart => exact ⟨0, by omega, rfl, HF1.out, by simpa [parsF] using HR1.out⟩
    case round =>
      obtain ⟨k, hk, rfl, HR⟩ := hrel
      by_cases hlt : k < A.length
      · have hd : decide ((k : Int) < (A.length : Int)) = true := by simp; omega
        have hkA : A[k]? = some A[k] := List.getElem?_eq_getElem hlt
        obtain ⟨u, hu⟩ : ∃ u, A[k] = u := ⟨_, rfl⟩
        rw [hu] at hkA
        have HU := Lib.hid (And.intro hkA (HA.out u (List.mem_of_getElem? hkA)))
        have HPr := Lib.hid (HR.out.1.pa HS.out HP.out)
        obtain ⟨a, n', c, hn, hg, n0, n1, n2, n3, n4⟩ := HPr.out.at hkA
        have HN := Lib.hid hn
        have HT := Lib.hid (parsF_take hkA)
        obtain ⟨y0, hy0⟩ : ∃ y0 : Int, (u.letter.toNat : Int) = y0 := ⟨_, rfl⟩
        obtain ⟨y2, hy2⟩ : ∃ y2 : Int, (u.count : Int) = y2 := ⟨_, rfl⟩
        rw [hy0] at n0
        rw [hy2] at n2
        have HY := Lib.hid (And.intro hy0 hy2)
        have hk0 : (0 : Int) ≤ (k : Int) := by omega
        have HGk := HG.out (k + 1) hlt
        rw [HT.out] at HGk
        have HGs := Lib.hid HGk
        obtain ⟨wa, hwa⟩ : ∃ wa, wr.alloc (.cells #[.int .u8 y0, .string ⟨u.code.toArray⟩, .int .i64 y2, .string ⟨u.tag.toArray⟩, .slice a n' c] 127) = wa := ⟨_, rfl⟩
        have HBr := Lib.hid (frb_at HR.out.1 HBw.out)
        have HFa : Hid (FrB B b w wa ∧ WrAt B b (l ++ 40 :: parsF (A.take k)) wa) := by rw [← hwa]; exact ⟨HR.out.1.alloc HBr.out _, HR.out.2.next (below_a _ _)⟩
        have HBa : Hid (wa.heap[wr.heap.size]? = some (.cells #[.int .u8 y0, .string ⟨u.code.toArray⟩, .int .i64 y2, .string ⟨u.tag.toArray⟩, .slice a n' c] 127)) := by rw [← hwa]; exact heap_alloc_new _ _
        have HNa : Hid (Nd S wa u (.slice a n' c)) := by rw [← hwa]; exact Nd.mono HN.out (fun j hj => hj) (fun j hj => Below.heap_alloc _ _ _ (by have := HS.out j hj; have := HBr.out; omega))
        have hbr : wr.heap.size ≠ b := by
          have h : b < wr.heap.size := by rcases HR.out.2 with h | h <;> exact h.lt
          omega
        have HD2 := Lib.hid (fun (w5 : World) (l5 : List UInt8) (h1 : FrB B b wa w5) (h2 : WrAt B b l5 w5) (h3 : l5.length + (dcl u []).length ≤ 140737488355328) => HD.out B b S u a n' c [] l5 w5 HU.out.2.1 HU.out.2.2.1 HU.out.2.2.2 h3 ((HFa.out.1.trans h1).env HE.out) HS.out (Nd.mono HNa.out (fun j hj => hj) (fun j hj => h1.bel.block j (HS.out j hj))) h2 (frb_at (HFa.out.1.trans h1) HBw.out))
        rw [HY.out.1, HY.out.2] at HD2
        have hwk : IntKind.i64.wrap ((k : Int) + 1) = ((k + 1 : Nat) : Int) := by rw [IntKind.wrap_i64]; omega
        have hgk : A.length - (k + 1) < gk := by omega
        have HK := Lib.hid hk
        clear hu hkA hn hy0 hy2 HGk hk
        obtain ⟨m0, m1, m2, m3, m4, mf⟩ := five_cells HBa.out
        have hlta := (Array.getElem?_eq_some_iff.1 HBa.out).1
        clear mf
        go_wp2_with fail
        · have hkz : k ≠ 0 := by omega
          refine (c_WriteString B b (l ++ 40 :: parsF (A.take k)) [44, 32] wa HFa.out.2 (by have := HGs.out; rw [if_neg hkz] at this; simp at this ⊢; omega) (frb_at HFa.out.1 HBw.out)).mono ?_
          rintro e w5 ⟨rfl, h5, hb5⟩
          have HF5 := Lib.hid hb5
          have HW5 := Lib.hid h5
          have HB5 := Lib.hid (hb5.keep HBa.out hbr (by decide))
          clear h5 hb5 m0 m1 m2 m3 m4 n0 n1 n2 n3 n4 hlta
          obtain ⟨m0, m1, m2, m3, m4, mf⟩ := five_cells HB5.out
          have hlta := (Array.getElem?_eq_some_iff.1 HB5.out).1
          clear mf
          go_wp2_with fail
          refine (HD2.out w5 _ HF5.out HW5.out (by have := HGs.out; rw [if_neg hkz] at this; simp at this ⊢; omega)).mono ?_
          rintro e w6 ⟨rfl, h6, hb6⟩
          have HN6 : Hid (FrB B b w w6 ∧ WrAt B b (l ++ 40 :: parsF (A.take (k + 1))) w6) := ⟨(HFa.out.1.trans HF5.out).trans hb6, by rw [HT.out, if_neg hkz]; simpa using h6⟩
          clear h6 hb6
          go_wp2_with fail
          go_roundg (A.length - (k + 1))
          case measure => omega
          case rel => exact ⟨k + 1, by omega, rfl, HN6⟩
        · have hkz : k = 0 := by omega
          refine (HD2.out wa _ (FrB.refl _ _ _) HFa.out.2 (by have := HGs.out; simp at this ⊢; omega)).mono ?_
          rintro e w6 ⟨rfl, h6, hb6⟩
          have HN6 : Hid (FrB B b w w6 ∧ WrAt B b (l ++ 40 :: parsF (A.take (k + 1))) w6) := ⟨HFa.out.1.trans hb6, by rw [HT.out, if_pos hkz]; simpa using h6⟩
          clear h6 hb6
          go_wp2_with fail
          go_roundg (A.length - (k + 1))
          case measure => omega
          case rel => exact ⟨k + 1, by omega, by rw [hkz]; rfl, HN6⟩
      · have hd : decide ((k : Int) < (A.length : Int)) = false := by simp; omega
        have hkl : k = A.length := by omega
        subst hkl
        have HR' : Hid (FrB B b w wr ∧ WrAt B b (l ++ 40 :: parsF A) wr) := by
          have h := HR.out
          rw [List.take_length] at h
          exact h
        go_wp2_with fail
        refine (c_WriteString B b (l ++ 40 :: parsF A) [41] wr HR'.out.2 (by have h1 := HL.out; rw [HPl.out] at h1; simp; omega) (frb_at HR'.out.1 HBw.out)).mono ?_
        rintro e w3 ⟨rfl, h3, hb3⟩
        go_wp2_with fail
        go_end0
        exact ⟨rfl, by rw [HPl.out]; simpa using h3, HR'.out.1.trans hb3⟩
set_option maxHeartbeats 4000000 in
/-- What stands behind, of any type. -/
theorem c_behind (n : Nat) (hD : DcC n) (B b : Nat) (S : Nat → Prop) (l : List UInt8) (t : Ty) (hwf : t.wf) (hsz : t.size ≤ n + 1) (hcl : t.code.length ≤ 65536) (a : Option Addr) (k c : Nat) (w : World) (hE : Env B w) (hS : ∀ j, S j → j < B) (hN : Nd S w t (.slice a k c)) (hW : WrAt B b l w) (hB : B ≤ w.heap.size) (hl : l.length + (bhT t).length ≤ 140737488355328) :
    Calls Tryz.prog 126 #[.pointer (some ⟨b, 0, none⟩), nV t.letter.toNat ⟨t.code.toArray⟩ t.count ⟨t.tag.toArray⟩ a k c] w fun e w' => e = .returned (.tuple #[]) ∧ WrAt B b (l ++ bhT t) w' ∧ FrB B b w w' := by
  have HW := Lib.hid (fun w' (hb : Below w.heap.size w w') => hW.next hb)
  have HL := Lib.hid hl
  have hSw : ∀ j, S j → j < w.heap.size := fun j hj => Nat.lt_of_lt_of_le (hS j hj) hB
  cases t with
  | base x =>
    have hx : ((x.toNat : Int) == 112) = false ∧ ((x.toNat : Int) == 97) = false ∧ ((x.toNat : Int) == 102) = false := by
      have hc : baseC x = true := hwf
      unfold baseC at hc
      simp at hc
      rcases hc with ((((hc | hc) | hc) | hc) | hc) | hc <;> (subst hc; decide)
    obtain ⟨x0, hx0⟩ : ∃ x0 : Int, (x.toNat : Int) = x0 := ⟨_, rfl⟩
    obtain ⟨s1, hs1⟩ : ∃ s1, (⟨(Ty.base x).code.toArray⟩ : ByteArray) = s1 := ⟨_, rfl⟩
    show Calls _ _ #[_, nV (x.toNat : Int) ⟨(Ty.base x).code.toArray⟩ 0 ⟨#[]⟩ a k c] w fun e w' => e = .returned (.tuple #[]) ∧ WrAt B b (l ++ []) w' ∧ FrB B b w w'
    rw [hx0] at hx ⊢
    rw [hs1, List.append_nil]
    obtain ⟨z1, z2, z3⟩ := hx
    clear hwf hsz hcl hE hS hN hW hl hx0 hs1 hSw hD
    go_enter Tryz.func126, Tryz.ntmps126
    go_wp2_with fail
    go_end0
    exact ⟨rfl, HW.out _ (below_a _ _), FrB.of (below_a _ _) hB⟩
  | str s =>
    obtain ⟨s1, hs1⟩ : ∃ s1, (⟨(Ty.str s).code.toArray⟩ : ByteArray) = s1 := ⟨_, rfl⟩
    show Calls _ _ #[_, nV 83 ⟨(Ty.str s).code.toArray⟩ 0 ⟨s.toArray⟩ a k c] w fun e w' => e = .returned (.tuple #[]) ∧ WrAt B b (l ++ []) w' ∧ FrB B b w w'
    rw [hs1, List.append_nil]
    clear hwf hsz hcl hE hS hN hW hl hs1 hSw hD
    go_enter Tryz.func126, Tryz.ntmps126
    go_wp2_with fail
    go_end0
    exact ⟨rfl, HW.out _ (below_a _ _), FrB.of (below_a _ _) hB⟩
  | ptr u =>
    have HI : Hid (∀ w', Below w.heap.size w w' → Calls Tryz.prog 142 #[nV 112 ⟨(Ty.ptr u).code.toArray⟩ 0 ⟨#[]⟩ a k c] w' fun e w'' => e = .returned (.bool u.tight) ∧ Below w'.heap.size w' w'') := fun w' hb => by
      have h := c_isBr (.ptr u) u [] rfl (by simp) 112 ⟨(Ty.ptr u).code.toArray⟩ 0 ⟨#[]⟩ a k c rfl _ rfl w' (Nd.mono hN (fun j hj => Nat.lt_of_lt_of_le (hSw j hj) hb.size) (fun j hj => hb.block j (hSw j hj)))
      rw [tight_br u hwf] at h
      exact h
    obtain ⟨s1, hs1⟩ : ∃ s1, (⟨(Ty.ptr u).code.toArray⟩ : ByteArray) = s1 := ⟨_, rfl⟩
    have hb0 : bhT (.ptr u) = if u.tight then [41] else [] := rfl
    rw [hb0] at HL ⊢
    show Calls _ _ #[_, nV 112 ⟨(Ty.ptr u).code.toArray⟩ 0 ⟨#[]⟩ a k c] w fun e w' => e = .returned (.tuple #[]) ∧ WrAt B b (l ++ if u.tight = true then [41] else []) w' ∧ FrB B b w w'
    rw [hs1] at HI ⊢
    clear hwf hsz hcl hE hS hN hW hl hs1 hSw hD hb0
    cases hq : u.tight
    · rw [hq] at HI
      rw [if_neg (by simp), List.append_nil]
      go_enter Tryz.func126, Tryz.ntmps126
      go_wp2_with fail
      refine (HI.out _ (below_a _ _)).mono ?_
      rintro e w2 ⟨rfl, hb⟩
      have HB2 := Lib.hid (below_on (below_a w (.cells #[.int .u8 112, .string s1, .int .i64 0, .string ⟨#[]⟩, .slice a k c] 127)) hb (by simp))
      clear hb HI
      go_wp2_with fail
      go_end0
      exact ⟨rfl, HW.out _ HB2.out, FrB.of HB2.out hB⟩
    · rw [hq] at HI
      rw [hq, if_pos rfl] at HL
      rw [if_pos rfl]
      go_enter Tryz.func126, Tryz.ntmps126
      go_wp2_with fail
      refine (HI.out _ (below_a _ _)).mono ?_
      rintro e w2 ⟨rfl, hb⟩
      have HB2 := Lib.hid (below_on (below_a w (.cells #[.int .u8 112, .string s1, .int .i64 0, .string ⟨#[]⟩, .slice a k c] 127)) hb (by simp))
      clear hb HI
      go_wp2_with fail
      refine (c_WriteString B b l [41] _ (HW.out _ HB2.out) HL.out (Nat.le_trans hB HB2.out.size)).mono ?_
      rintro e w3 ⟨rfl, h3, hb3⟩
      go_wp2_with fail
      go_end0
      exact ⟨rfl, h3, frb_on HB2.out hb3 hB⟩
  | arr m u =>
    have hm : m ≤ 1099511627776 := hwf.1
    have hdl : (Lib.decDigits m).length ≤ 65536 := by
      have h : (97 :: (Lib.decDigits m ++ 58 :: u.code)).length ≤ 65536 := hcl
      simp at h
      omega
    have ha1 := add_s [91] (Lib.decDigits m) (by simp; omega)
    have ha2 := add_s ([91] ++ Lib.decDigits m) [93] (by simp; omega)
    rw [show [91] ++ Lib.decDigits m ++ [93] = bhT (.arr m u) by simp [bhT]] at ha2
    have HI := Lib.hid (fun w' (hb : Below w.heap.size w w') => c_Itoa B m w' (by omega) (hE.next (hb.mono hB)))
    obtain ⟨mI, hmI⟩ : ∃ mI : Int, (m : Int) = mI := ⟨_, rfl⟩
    obtain ⟨s1, hs1⟩ : ∃ s1, (⟨(Ty.arr m u).code.toArray⟩ : ByteArray) = s1 := ⟨_, rfl⟩
    show Calls _ _ #[_, nV 97 ⟨(Ty.arr m u).code.toArray⟩ (m : Int) ⟨#[]⟩ a k c] w _
    rw [hmI] at HI ⊢
    rw [hs1]
    clear hwf hsz hcl hE hS hN hW hl hs1 hSw hD hmI
    go_enter Tryz.func126, Tryz.ntmps126
    go_wp2_with fail
    have HA := Lib.hid (below_a w (.cells #[.int .u8 97, .string s1, .int .i64 mI, .string ⟨#[]⟩, .slice a k c] 127)).drew
    go_region_with (first
      | (go_at_call 106; refine (HI.out _ HA.out).mono ?_; rintro e w2 ⟨rfl, hb⟩; have HB2 := Lib.hid (below_on HA.out hb HA.out.size); clear hb)
      | (go_at_call 70; refine (c_WriteString B b l (bhT (.arr m u)) _ (HW.out _ HB2.out) HL.out (Nat.le_trans hB HB2.out.size)).mono ?_; rintro e w3 ⟨rfl, h3, hb3⟩))
    all_goals
      go_wp2_with fail
      go_end0
      exact ⟨rfl, h3, frb_on HB2.out hb3 hB⟩
  | fn ps r =>
    obtain ⟨g, cap, L, hv, hcap, hP⟩ := hN.pars (A := ps.list) (u := r) rfl
    cases hv
    have hb0 : bhT (.fn ps r) = 40 :: (parsL ps.list ++ [41]) := by rw [← pars_L]; rfl
    rw [hb0] at HL ⊢
    have hpl : ps.list.length ≤ 65536 := by
      have h1 := parts_le (.fn ps r)
      have h2 := size_code (.fn ps r)
      have h3 : (ps.list ++ [r]).length ≤ (Ty.fn ps r).size := h1
      simp at h3
      omega
    have hfc : ∀ u ∈ ps.list, u.size ≤ n ∧ u.wf ∧ u.code.length ≤ 65536 := fun u hu => by
      have h1 := lst_size_le ps u hu
      have h2 : ps.size + r.size + 2 ≤ n + 1 := hsz
      refine ⟨by omega, lst_wf ps u hwf.1 hu, ?_⟩
      have h3 := lst_code_le ps r u hu
      omega
    have HPa := Lib.hid (fun w' (hb : Below w.heap.size w w') => c_params ps.list.length 102 ⟨(Ty.fn ps r).code.toArray⟩ 0 ⟨#[]⟩ g c hcap hpl w')
    have HLs := Lib.hid (fun w' (hb : Below w.heap.size w w') => c_wlist n hD B b S ps.list g c L l w' hfc (hE.next (hb.mono hB)) hS (hP.keep (fun j hj => hb.block j (hSw j hj))) (hW.next hb) (Nat.le_trans hB hb.size) (by omega) hpl (by have := HL.out; simp at this; omega))
    obtain ⟨s1, hs1⟩ : ∃ s1, (⟨(Ty.fn ps r).code.toArray⟩ : ByteArray) = s1 := ⟨_, rfl⟩
    show Calls _ _ #[_, nV 102 ⟨(Ty.fn ps r).code.toArray⟩ 0 ⟨#[]⟩ (some ⟨g, 0, none⟩) (ps.list.length + 1) c] w _
    rw [hs1] at HPa ⊢
    obtain ⟨R, hR⟩ : ∃ R, 40 :: (parsL ps.list ++ [41]) = R := ⟨_, rfl⟩
    rw [hR] at HLs ⊢
    obtain ⟨pm, hpm⟩ : ∃ pm, ps.list.length = pm := ⟨_, rfl⟩
    rw [hpm] at HPa HLs ⊢
    clear hwf hsz hcl hE hS hN hW hl hs1 hSw hD hfc hP hpl hb0 hcap hpm hR HL
    go_enter Tryz.func126, Tryz.ntmps126
    go_wp2_with fail
    refine (HPa.out _ (below_a _ _)).mono ?_
    rintro e w2 ⟨rfl, hb⟩
    have HB2 := Lib.hid (below_on (below_a w (.cells #[.int .u8 102, .string s1, .int .i64 0, .string ⟨#[]⟩, .slice (some ⟨g, 0, none⟩) (pm + 1) c] 127)) hb (by simp))
    clear hb HPa
    go_wp2_with fail
    refine (HLs.out _ HB2.out).mono ?_
    rintro e w3 ⟨rfl, h3, hb3⟩
    go_wp2_with fail
    go_end0
    exact ⟨rfl, h3, frb_on HB2.out hb3 hB⟩
end Go.Proofs.YtiodghbhllfhlaaGreatDoor
namespace Go.Proofs.YtiodghbhllfhlaaGreatDoor
set_option linter.unusedVariables false
set_option linter.unusedSimpArgs false

mutual
def Ty.dep : Ty → Nat
  | .base _ => 1
  | .str _ => 1
  | .ptr t => t.dep + 1
  | .arr _ t => t.dep + 1
  | .fn ps r => max ps.dep r.dep + 1
def Tys.dep : Tys → Nat
  | .nil => 0
  | .cons t ts => max t.dep ts.dep
end
def depL : List Ty → Nat
  | [] => 0
  | t :: l => max t.dep (depL l)
theorem depL_snoc : ∀ (l : List Ty) (u : Ty), depL (l ++ [u]) = max (depL l) u.dep
  | [], u => by show max u.dep 0 = max 0 u.dep; omega
  | t :: l, u => by
    show max t.dep (depL (l ++ [u])) = max (max t.dep (depL l)) u.dep
    rw [depL_snoc l u]
    omega
theorem depL_list : ∀ (ts : Tys), depL ts.list = ts.dep
  | .nil => rfl
  | .cons t ts => by
    show max t.dep (depL ts.list) = max t.dep ts.dep
    rw [depL_list ts]
theorem dep_parts (t : Ty) : t.dep = depL t.parts + 1 := by
  cases t with
  | base c => rfl
  | str s => rfl
  | ptr u => show u.dep + 1 = max u.dep 0 + 1; omega
  | arr n u => show u.dep + 1 = max u.dep 0 + 1; omega
  | fn ps r =>
    show max ps.dep r.dep + 1 = depL (ps.list ++ [r]) + 1
    rw [depL_snoc, depL_list]
theorem depL_take {l : List Ty} {q : Nat} {u : Ty} (h : l[q]? = some u) : depL (l.take (q + 1)) = max (depL (l.take q)) u.dep := by
  have hk := (List.getElem?_eq_some_iff.1 h).1
  rw [List.take_succ_eq_append_getElem hk, (List.getElem?_eq_some_iff.1 h).2, depL_snoc]
mutual
theorem dep_size : ∀ (t : Ty), t.dep ≤ t.size
  | .base _ => Nat.le_refl _
  | .str _ => Nat.le_refl _
  | .ptr t => by have := dep_size t; show t.dep + 1 ≤ t.size + 1; omega
  | .arr _ t => by have := dep_size t; show t.dep + 1 ≤ t.size + 1; omega
  | .fn ps r => by
    have h1 := deps_size ps
    have h2 := dep_size r
    show max ps.dep r.dep + 1 ≤ ps.size + r.size + 2
    omega
theorem deps_size : ∀ (ts : Tys), ts.dep ≤ ts.size
  | .nil => Nat.le_refl _
  | .cons t ts => by
    have h1 := dep_size t
    have h2 := deps_size ts
    show max t.dep ts.dep ≤ t.size + ts.size + 1
    omega
end
mutual
/-- Is a type, or one in it, such a one? -/
def anyT (f : Ty → Bool) : Ty → Bool
  | .base c => f (.base c)
  | .str s => f (.str s)
  | .ptr t => f (.ptr t) || anyT f t
  | .arr n t => f (.arr n t) || anyT f t
  | .fn ps r => f (.fn ps r) || (anyL f ps || anyT f r)
def anyL (f : Ty → Bool) : Tys → Bool
  | .nil => false
  | .cons t ts => anyT f t || anyL f ts
end
theorem anyL_list (f : Ty → Bool) : ∀ (ts : Tys), anyL f ts = ts.list.any (anyT f)
  | .nil => rfl
  | .cons t ts => by
    show (anyT f t || anyL f ts) = (anyT f t || ts.list.any (anyT f))
    rw [anyL_list f ts]
theorem anyT_eq (f : Ty → Bool) (t : Ty) : anyT f t = (f t || t.parts.any (anyT f)) := by
  cases t with
  | base c => show f _ = (f _ || false); simp
  | str s => show f _ = (f _ || false); simp
  | ptr u => show (f _ || anyT f u) = (f _ || (anyT f u || false)); simp
  | arr n u => show (f _ || anyT f u) = (f _ || (anyT f u || false)); simp
  | fn ps r =>
    show (f _ || (anyL f ps || anyT f r)) = (f _ || (ps.list ++ [r]).any (anyT f))
    rw [anyL_list, List.any_append]
    simp
theorem any_take {l : List Ty} {f : Ty → Bool} {q : Nat} {u : Ty} (h : l[q]? = some u) : (l.take (q + 1)).any f = ((l.take q).any f || f u) := by
  have hk := (List.getElem?_eq_some_iff.1 h).1
  rw [List.take_succ_eq_append_getElem hk, (List.getElem?_eq_some_iff.1 h).2, List.any_append]
  simp
/-- An array, a function that may not be. -/
def badT : Ty → Bool
  | .arr n u => !(decide (1 ≤ n) && decide (n ≤ 65536) && objI u.letter.toNat)
  | .fn ps r => !(ps.list.all (fun u => scaI u.letter.toNat) && decide (ps.list.length ≤ 8) && (scaI r.letter.toNat || (r.letter.toNat : Int) == 118))
  | _ => false
structure MemP where
  ty : Ty
  name : List UInt8
  at' : Nat
structure LayP where
  bytes : Nat
  align : Nat
  scal : Nat
  name : List UInt8
  mems : List MemP
def findL (L : List LayP) (s : List UInt8) : Option LayP := L.find? fun x => x.name == s
def lackT (L : List LayP) : Ty → Bool
  | .str s => (findL L s).isNone
  | .arr _ u => lackT L u
  | _ => false
/-- What an object takes: bytes, alignment, scalars; and whether it is one. -/
def extT (L : List LayP) : Ty → Nat × Nat × Nat × Bool
  | .base c => if c = 99 then (1, 1, 1, true) else if c = 115 then (2, 2, 1, true) else if c = 105 ∨ c = 117 then (4, 4, 1, true) else if c = 106 then (64, 4, 0, true) else (0, 0, 0, false)
  | .ptr _ => (4, 4, 1, true)
  | .str s => match findL L s with
    | some x => (x.bytes, x.align, x.scal, true)
    | none => (0, 0, 0, false)
  | .arr n u => (min ((extT L u).1 * n) 65537, (extT L u).2.1, min ((extT L u).2.2.1 * n) 65537, (extT L u).2.2.2)
  | .fn _ _ => (0, 0, 0, false)
/-- Structs that are laid out are not too great. -/
def GdL (L : List LayP) : Prop := ∀ x ∈ L, 1 ≤ x.align ∧ x.align ≤ 4 ∧ x.bytes ≤ 65536 ∧ x.scal ≤ x.bytes
theorem find_mem {L : List LayP} {s : List UInt8} {x : LayP} (h : findL L s = some x) : x ∈ L ∧ x.name = s := by
  unfold findL at h
  refine ⟨List.mem_of_find?_eq_some h, ?_⟩
  have := List.find?_some h
  simpa using this
theorem ext_bd {L : List LayP} (hL : GdL L) : ∀ (t : Ty), (extT L t).1 ≤ 65537 ∧ (extT L t).2.1 ≤ 4 ∧ (extT L t).2.2.1 ≤ (extT L t).1
  | .base c => by
    unfold extT
    (repeat' split) <;> simp
  | .ptr _ => by simp [extT]
  | .str s => by
    unfold extT
    split
    · rename_i x h
      have := hL x (find_mem h).1
      exact ⟨by show x.bytes ≤ _; omega, this.2.1, this.2.2.2⟩
    · simp
  | .arr n u => by
    have := ext_bd hL u
    have h2 := Nat.mul_le_mul_right n this.2.2
    show min _ 65537 ≤ 65537 ∧ (extT L u).2.1 ≤ 4 ∧ min _ 65537 ≤ min _ 65537
    omega
  | .fn _ _ => by simp [extT]
theorem ext_al {L : List LayP} (hL : GdL L) : ∀ (t : Ty), (extT L t).2.2.2 = true → 1 ≤ (extT L t).2.1
  | .base c => by
    unfold extT
    (repeat' split) <;> simp
  | .ptr _ => by simp [extT]
  | .str s => by
    unfold extT
    split
    · rename_i x h
      exact fun _ => (hL x (find_mem h).1).1
    · simp
  | .arr n u => fun h => ext_al hL u h
  | .fn _ _ => by simp [extT]
def grE (L : List LayP) (t : Ty) : Bool := (extT L t).2.2.2 && decide (65536 < (extT L t).1)
/-- What is wrong with a type, structs being given. -/
def rgT (L : List LayP) (t : Ty) : Nat := if 48 < t.dep then 3 else if anyT badT t = true then 5 else if lackT L t = true then 4 else if anyT (grE L) t = true then 3 else 0
def rgA (L : List LayP) (l : List UInt8) : Nat := match tk l with
  | none => 2
  | some t => rgT L t
def ojT (L : List LayP) (t : Ty) : Nat := if rgT L t = 0 then if objI t.letter.toNat = true then 0 else 5 else rgT L t
def ojA (L : List LayP) (l : List UInt8) : Nat := match tk l with
  | none => 2
  | some t => ojT L t
structure StP where
  name : List UInt8
  mems : List (List UInt8 × List UInt8)
structure AcP where
  mems : List MemP
  b : Nat
  a : Nat
  s : Nat
def upN (n a : Nat) : Nat := (n + a - 1) / a * a
def tkD (l : List UInt8) : Ty := (tk l).getD (.base 118)
def addM (L : List LayP) (x : AcP) (m : List UInt8 × List UInt8) : AcP :=
  ⟨x.mems ++ [⟨tkD m.2, m.1, upN x.b (extT L (tkD m.2)).2.1⟩], upN x.b (extT L (tkD m.2)).2.1 + (extT L (tkD m.2)).1, max x.a (extT L (tkD m.2)).2.1, x.s + (extT L (tkD m.2)).2.2.1⟩
def hasM (M : List MemP) (n : List UInt8) : Bool := M.any fun y => y.name == n
def memE (L : List LayP) (M : List MemP) (m : List UInt8 × List UInt8) : Nat := if nameB m.1 = true then if hasM M m.1 = true then 6 else ojA L m.2 else 2
def goM (L : List LayP) : AcP → List (List UInt8 × List UInt8) → Nat × AcP
  | x, [] => (0, x)
  | x, m :: ms => if memE L x.mems m = 0 then goM L (addM L x m) ms else (memE L x.mems m, x)
def ac0 : AcP := ⟨[], 0, 0, 0⟩
def layM (s : StP) (r : AcP) : LayP := ⟨upN r.b r.a, r.a, r.s, s.name, r.mems⟩
def nxE (L : List LayP) (s : StP) : Nat :=
  if nameB s.name = true then if (findL L s.name).isSome = true then 6 else if 64 < s.mems.length then 3 else if s.mems = [] then 5 else
    if (goM L ac0 s.mems).1 = 0 then if 65536 < upN (goM L ac0 s.mems).2.b (goM L ac0 s.mems).2.a then 3 else 0 else (goM L ac0 s.mems).1
  else 2
def nxL (L : List LayP) (s : StP) : LayP := layM s (goM L ac0 s.mems).2
def goS : List LayP → List StP → Nat × Nat × List LayP
  | L, [] => (0, 0, L)
  | L, s :: ss => if nxE L s = 0 then goS (L ++ [nxL L s]) ss else (L.length, nxE L s, [])
def loA (l : List StP) : Nat × Nat × List LayP := if 64 < l.length then (0, 3, []) else goS [] l
def chA (l : List StP) (t : List UInt8) : Nat := if (loA l).2.1 = 0 then rgA (loA l).2.2 t else (loA l).2.1
/-! ### Bounds -/
theorem up_bd (n a : Nat) (h : 1 ≤ a) (h4 : a ≤ 4) : n ≤ upN n a ∧ upN n a ≤ n + 3 := by
  unfold upN
  have : a = 1 ∨ a = 2 ∨ a = 3 ∨ a = 4 := by omega
  rcases this with rfl | rfl | rfl | rfl <;> omega
theorem oj_obj {L : List LayP} {t : Ty} (h : ojT L t = 0) : rgT L t = 0 ∧ objI t.letter.toNat = true := by
  unfold ojT at h
  split at h
  · rename_i h1
    split at h
    · rename_i h2
      exact ⟨h1, h2⟩
    · cases h
  · exact absurd h (by assumption)
theorem rg_ok {L : List LayP} {t : Ty} (h : rgT L t = 0) : t.dep ≤ 48 ∧ anyT badT t = false ∧ lackT L t = false ∧ anyT (grE L) t = false := by
  unfold rgT at h
  split at h
  · cases h
  · split at h
    · cases h
    · split at h
      · cases h
      · split at h
        · cases h
        · rename_i h1 h2 h3 h4
          exact ⟨by omega, by simpa using h2, by simpa using h3, by simpa using h4⟩
/-- An object of which nothing is lacking takes room. -/
theorem ext_obj {L : List LayP} : ∀ (t : Ty), t.wf → objI t.letter.toNat = true → anyT badT t = false → lackT L t = false → (extT L t).2.2.2 = true
  | .base c, hw, ho, hb, hl => by
    have hc : baseC c = true := hw
    unfold baseC at hc
    simp at hc
    rcases hc with ((((hc | hc) | hc) | hc) | hc) | hc <;> subst hc
    · exact absurd ho (by show ¬ objI (118 : Int) = true; decide)
    all_goals rfl
  | .ptr _, _, _, _, _ => rfl
  | .str s, _, _, _, hl => by
    have h1 : (findL L s).isNone = false := hl
    unfold extT
    cases h2 : findL L s with
    | none => rw [h2] at h1; cases h1
    | some x => rfl
  | .arr n u, hw, ho, hb, hl => by
    rw [anyT_eq] at hb
    have hb1 : badT (.arr n u) = false := by cases h : badT (.arr n u); rfl; rw [h] at hb; cases hb
    have hb2 : anyT badT u = false := by
      rw [hb1] at hb
      have : (false || ([u] : List Ty).any (anyT badT)) = false := hb
      simpa using this
    have ho2 : objI u.letter.toNat = true := by
      have : (!(decide (1 ≤ n) && decide (n ≤ 65536) && objI u.letter.toNat)) = false := hb1
      simp only [Bool.not_eq_false', Bool.and_eq_true] at this
      exact this.2
    exact ext_obj u hw.2 ho2 hb2 hl
  | .fn _ _, _, ho, _, _ => absurd ho (by show ¬ objI (102 : Int) = true; decide)
theorem ext_small {L : List LayP} {t : Ty} (h : anyT (grE L) t = false) (h2 : (extT L t).2.2.2 = true) : (extT L t).1 ≤ 65536 := by
  rw [anyT_eq] at h
  have h1 : grE L t = false := by cases hg : grE L t; rfl; rw [hg] at h; cases h
  unfold grE at h1
  rw [h2] at h1
  simpa using h1
/-- While members are laid out. -/
structure AcB (x : AcP) : Prop where
  b : x.b ≤ x.mems.length * 65539
  a : x.a ≤ 4
  a1 : 0 < x.mems.length → 1 ≤ x.a
  s : x.s ≤ x.b
theorem acb0 : AcB ac0 := ⟨Nat.zero_le _, Nat.zero_le _, fun h => by simp [ac0] at h, Nat.zero_le _⟩
/-- A member that is right. -/
theorem mem_ok {L : List LayP} (hL : GdL L) {M : List MemP} {m : List UInt8 × List UInt8} (h : memE L M m = 0) : ∃ t, tk m.2 = some t ∧ t.wf ∧ nameB m.1 = true ∧ hasM M m.1 = false ∧ ojT L t = 0 ∧ 1 ≤ (extT L t).2.1 ∧ (extT L t).1 ≤ 65536 ∧ tkD m.2 = t := by
  unfold memE at h
  split at h
  · rename_i h1
    split at h
    · cases h
    · rename_i h2
      unfold ojA at h
      cases ht : tk m.2 with
      | none => rw [ht] at h; cases h
      | some t =>
        rw [ht] at h
        obtain ⟨r1, r2⟩ := oj_obj h
        obtain ⟨g1, g2, g3, g4⟩ := rg_ok r1
        have hw := (tk_some ht).1
        have hx := ext_obj t hw r2 g2 g3
        exact ⟨t, rfl, hw, h1, by simpa using h2, h, ext_al hL t hx, ext_small g4 hx, by unfold tkD; rw [ht]; rfl⟩
  · cases h
theorem AcB.add {L : List LayP} (hL : GdL L) {x : AcP} (hx : AcB x) {m : List UInt8 × List UInt8} (h : memE L x.mems m = 0) : AcB (addM L x m) := by
  obtain ⟨t, _, _, _, _, _, h1, h2, h3⟩ := mem_ok hL h
  have hb := ext_bd hL t
  have hu := up_bd x.b (extT L t).2.1 h1 hb.2.1
  obtain ⟨b, a, a1, s⟩ := hx
  unfold addM
  rw [h3]
  refine ⟨?_, ?_, ?_, ?_⟩
  · show _ + _ ≤ (x.mems ++ [_]).length * 65539
    rw [List.length_append, List.length_singleton, Nat.add_mul]
    omega
  · show max _ _ ≤ 4
    omega
  · intro _
    show 1 ≤ max _ _
    omega
  · show _ + _ ≤ _ + _
    omega
theorem goM_len {L : List LayP} : ∀ (ms : List (List UInt8 × List UInt8)) (x : AcP), (goM L x ms).2.mems.length ≤ x.mems.length + ms.length
  | [], x => Nat.le_refl _
  | m :: ms, x => by
    unfold goM
    split
    · have := goM_len (L := L) ms (addM L x m)
      have h2 : (addM L x m).mems.length = x.mems.length + 1 := by unfold addM; simp
      rw [List.length_cons]
      omega
    · show x.mems.length ≤ _
      omega
theorem goM_b {L : List LayP} (hL : GdL L) : ∀ (ms : List (List UInt8 × List UInt8)) (x : AcP), AcB x → AcB (goM L x ms).2
  | [], x, h => h
  | m :: ms, x, h => by
    unfold goM
    split
    · rename_i h1
      exact goM_b hL ms _ (h.add hL h1)
    · exact h
theorem goM_all {L : List LayP} : ∀ (ms : List (List UInt8 × List UInt8)) (x : AcP), (goM L x ms).1 = 0 → (goM L x ms).2.mems.length = x.mems.length + ms.length
  | [], x, _ => rfl
  | m :: ms, x, h => by
    unfold goM at h ⊢
    split at h
    · rename_i h1
      rw [if_pos h1]
      have := goM_all ms _ h
      rw [this]
      unfold addM
      simp
      omega
    · rename_i h1
      exact absurd h h1
theorem nx_ok {L : List LayP} {s : StP} (h : nxE L s = 0) : nameB s.name = true ∧ findL L s.name = none ∧ s.mems.length ≤ 64 ∧ s.mems ≠ [] ∧ (goM L ac0 s.mems).1 = 0 ∧ upN (goM L ac0 s.mems).2.b (goM L ac0 s.mems).2.a ≤ 65536 := by
  unfold nxE at h
  split at h
  · rename_i h1
    split at h
    · cases h
    · rename_i h2
      split at h
      · cases h
      · split at h
        · cases h
        · rename_i h4
          split at h
          · rename_i h5
            split at h
            · cases h
            · exact ⟨h1, by simpa using h2, by omega, h4, h5, by omega⟩
          · exact absurd h (by assumption)
  · cases h
theorem GdL.add {L : List LayP} (hL : GdL L) {s : StP} (h : nxE L s = 0) : GdL (L ++ [nxL L s]) := fun x hx => by
  rcases List.mem_append.1 hx with hx | hx
  · exact hL x hx
  · rw [List.mem_singleton] at hx
    subst hx
    obtain ⟨_, _, h3, h4, h5, h6⟩ := nx_ok h
    have hb := goM_b hL s.mems ac0 acb0
    have hl := goM_all s.mems ac0 h5
    have h0 : ac0.mems.length = 0 := rfl
    have hp : 0 < s.mems.length := List.length_pos_iff.2 h4
    refine ⟨hb.a1 (by omega), hb.a, h6, ?_⟩
    have h7 : (goM L ac0 s.mems).2.b ≤ 65536 := Nat.le_trans (up_bd _ _ (hb.a1 (by omega)) hb.a).1 h6
    have := hb.s
    show (goM L ac0 s.mems).2.s ≤ upN _ _
    exact Nat.le_trans hb.s (up_bd _ _ (hb.a1 (by omega)) hb.a).1
end Go.Proofs.YtiodghbhllfhlaaGreatDoor
