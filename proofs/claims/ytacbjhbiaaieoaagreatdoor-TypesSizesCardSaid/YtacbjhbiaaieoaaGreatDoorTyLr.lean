/-
  Several contracts on types, in the code.
-/
import Derived.Test.YtacbjhbiaaieoaaGreatDoorTyOnh
import Derived.Test.YtacbjhbiaaieoaaGreatDoorTyOne
/-! The contracts of what is asked of one node, in the code. -/
namespace Go.Proofs.YtacbjhbiaaieoaaGreatDoor
set_option linter.unusedVariables false
set_option linter.unusedSimpArgs false
set_option maxRecDepth 100000
open Go.RowKit

theorem nd_val (t : Ty) (s : Value) : ndV t s = .agg #[.int .u8 t.letter.toNat, .string ⟨t.code.toArray⟩, .int .i64 t.count, .string ⟨t.tag.toArray⟩, s] := rfl
theorem Nd.last {S : Nat → Prop} {w : World} {t : Ty} {v : Value} (h : Nd S w t v) {A : List Ty} {u : Ty} (ht : t.parts = A ++ [u]) :
    ∃ g cap a n c, v = .slice (some ⟨g, 0, none⟩) (A.length + 1) cap ∧ A.length + 1 ≤ cap ∧ g < w.heap.size ∧ Nd S w u (.slice a n c) ∧ w.cell? ⟨g, A.length * 5, none⟩ = some (.int .u8 u.letter.toNat) ∧ w.cell? ⟨g, A.length * 5 + 1, none⟩ = some (.string ⟨u.code.toArray⟩) ∧ w.cell? ⟨g, A.length * 5 + 2, none⟩ = some (.int .i64 u.count) ∧ w.cell? ⟨g, A.length * 5 + 3, none⟩ = some (.string ⟨u.tag.toArray⟩) ∧ w.cell? ⟨g, A.length * 5 + 4, none⟩ = some (.slice a n c) := by
  obtain ⟨g, cap, s, hv, hc, hS, hn, hx⟩ := h.part (k := A.length) (u := u) (by rw [ht]; simp)
  have hl : t.parts.length = A.length + 1 := by rw [ht]; simp
  rw [hl] at hv hc
  obtain ⟨a, c, hs, _⟩ := hn.sl
  subst hs
  exact ⟨g, cap, a, _, c, hv, hc, World.block_lt_of_cell? w ⟨g, A.length * 5 + 0, none⟩ (hx 0 _ rfl), hn, hx 0 _ rfl, hx 1 _ rfl, hx 2 _ rfl, hx 3 _ rfl, hx 4 _ rfl⟩
set_option maxHeartbeats 4000000 in
theorem c_inner (S : Nat → Prop) (t : Ty) (s : Value) (w : World) (hN : Nd S w t s) (A : List Ty) (u : Ty) (ht : t.parts = A ++ [u]) (hA : A.length ≤ 65536) :
    Calls Tryz.prog 55 #[ndV t s] w fun e w' => (∃ a n c, e = .returned (ndV u (.slice a n c)) ∧ Nd S w u (.slice a n c)) ∧ Below w.heap.size w w' := by
  obtain ⟨g, cap, a, n, c, hv, hcap, hg, hn, n0, n1, n2, n3, n4⟩ := hN.last ht
  subst hv
  rw [nd_val]
  have HNd := Lib.hid hn
  obtain ⟨m, hm⟩ : ∃ m, A.length = m := ⟨_, rfl⟩
  rw [hm] at hcap n0 n1 n2 n3 n4 hA ⊢
  have hg1 : g < w.heap.size + 1 := by omega
  obtain ⟨x0, hx0⟩ : ∃ x0 : Int, (t.letter.toNat : Int) = x0 := ⟨_, rfl⟩
  obtain ⟨y0, hy0⟩ : ∃ y0 : Int, (u.letter.toNat : Int) = y0 := ⟨_, rfl⟩
  obtain ⟨y2, hy2⟩ : ∃ y2 : Int, (u.count : Int) = y2 := ⟨_, rfl⟩
  rw [hx0]
  have HY : Hid (ndV u (.slice a n c) = .agg #[.int .u8 y0, .string ⟨u.code.toArray⟩, .int .i64 y2, .string ⟨u.tag.toArray⟩, .slice a n c]) := by show _ = _; rw [nd_val, hy0, hy2]
  rw [hy0] at n0
  rw [hy2] at n2
  have hw : IntKind.i64.wrap (m : Int) = m := by rw [IntKind.wrap_i64]; omega
  have hlt : (m : Int) < (m : Int) + 1 := by omega
  have hlt0 : (0 : Int) ≤ (m : Int) := by omega
  clear hn hN ht hm hx0 hy0 hy2
  go_enter Tryz.func55, Tryz.ntmps55
  go_wp2_with fail
  refine bodyPost_ret (v := .agg #[.int .u8 y0, .string ⟨u.code.toArray⟩, .int .i64 y2, .string ⟨u.tag.toArray⟩, .slice a n c]) (by simp [results, Tryz.results55, go_sem]) rfl ?_
  exact ⟨⟨a, n, c, by rw [HY.out], HNd.out⟩, ((Below.refl _ _).alloc (Nat.le_refl _) _).alloc (by simp) _⟩
def intI (x : Int) : Bool := x == 99 || x == 115 || x == 105 || x == 117
def scaI (x : Int) : Bool := intI x || x == 112
def objI (x : Int) : Bool := x != 118 && x != 102
/-- A node as a value. -/
abbrev nV (x0 : Int) (s1 : ByteArray) (x2 : Int) (s3 : ByteArray) (a : Option Addr) (n c : Nat) : Value := .agg #[.int .u8 x0, .string s1, .int .i64 x2, .string s3, .slice a n c]
theorem below_a (w : World) (o : Obj) : Below w.heap.size w (w.alloc o) := (Below.refl _ _).alloc (Nat.le_refl _) o
theorem c_isInt (x0 : Int) (s1 : ByteArray) (x2 : Int) (s3 : ByteArray) (a : Option Addr) (n c : Nat) (w : World) :
    Calls Tryz.prog 64 #[nV x0 s1 x2 s3 a n c] w fun e w' => e = .returned (.bool (intI x0)) ∧ Below w.heap.size w w' := by
  go_enter Tryz.func64, Tryz.ntmps64
  go_wp2
  all_goals
    go_ret
    refine ⟨ret_b ?_, below_a _ _⟩
    unfold intI
    simp_all
theorem c_isScalar (x0 : Int) (s1 : ByteArray) (x2 : Int) (s3 : ByteArray) (a : Option Addr) (n c : Nat) (w : World) :
    Calls Tryz.prog 69 #[nV x0 s1 x2 s3 a n c] w fun e w' => e = .returned (.bool (scaI x0)) ∧ Below w.heap.size w w' := by
  have HI := Lib.hid (c_isInt x0 s1 x2 s3 a n c)
  unfold scaI
  cases hi : intI x0
  all_goals
    rw [hi] at HI
    go_enter Tryz.func69, Tryz.ntmps69
    go_wp2_with fail
    refine (HI.out _).mono ?_
    rintro e w2 ⟨rfl, hb⟩
    have n0 : w2.cell? ⟨w.heap.size, 0, none⟩ = some (.int .u8 x0) := (cell_of_blk (hb.block _ (by simp)) 0).trans (by simp)
    have HB := Lib.hid (((below_a w (.cells #[.int .u8 x0, .string s1, .int .i64 x2, .string s3, .slice a n c] 68)).trans (hb.mono (by simp))))
    clear hb
    go_wp2_with fail
    go_ret
    exact ⟨rfl, HB.out⟩
theorem c_isObject (x0 : Int) (s1 : ByteArray) (x2 : Int) (s3 : ByteArray) (a : Option Addr) (n c : Nat) (w : World) :
    Calls Tryz.prog 107 #[nV x0 s1 x2 s3 a n c] w fun e w' => e = .returned (.bool (objI x0)) ∧ Below w.heap.size w w' := by
  go_enter Tryz.func107, Tryz.ntmps107
  go_wp2
  all_goals
    go_ret
    refine ⟨ret_b ?_, below_a _ _⟩
    unfold objI
    simp_all
theorem c_promoted (x0 : Int) (s1 : ByteArray) (x2 : Int) (s3 : ByteArray) (a : Option Addr) (n c : Nat) (w : World) :
    Calls Tryz.prog 63 #[nV x0 s1 x2 s3 a n c] w fun e w' => e = .returned (.string (if (x0 == 99 || x0 == 115) = true then ⟨#[105]⟩ else s1)) ∧ Below w.heap.size w w' := by
  cases h : x0 == 99
  all_goals
    cases h2 : x0 == 115
    all_goals
      go_enter Tryz.func63, Tryz.ntmps63
      go_wp2
      go_ret
      exact ⟨rfl, below_a _ _⟩
end Go.Proofs.YtacbjhbiaaieoaaGreatDoor
/-! The contracts of what is asked of a type's tree, at the trees that the chapter's first examples have, in the code. -/
namespace Go.Proofs.YtacbjhbiaaieoaaGreatDoor
set_option linter.unusedVariables false
set_option linter.unusedSimpArgs false
set_option maxRecDepth 100000
open Go.RowKit

set_option maxHeartbeats 2000000 in
theorem c_depth0 (x0 : Int) (s1 : ByteArray) (x2 : Int) (s3 : ByteArray) (w : World) :
    Calls Tryz.prog 97 #[nV x0 s1 x2 s3 none 0 0] w fun e w' => e = .returned (.int .i64 1) ∧ Below w.heap.size w w' := by
  go_enter Tryz.func97, Tryz.ntmps97
  go_wp2_with fail
  go_rounds 1
  go_ret
  exact ⟨rfl, below_a _ _⟩
set_option maxHeartbeats 2000000 in
theorem c_wm0 (x0 : Int) (s1 : ByteArray) (x2 : Int) (s3 : ByteArray) (w : World) (ha : (x0 == 97) = false) (hf : (x0 == 102) = false) :
    Calls Tryz.prog 98 #[nV x0 s1 x2 s3 none 0 0] w fun e w' => e = .returned (.bool true) ∧ Below w.heap.size w w' := by
  go_enter Tryz.func98, Tryz.ntmps98
  go_wp2_with fail
  go_rounds 1
  go_ret
  exact ⟨rfl, below_a _ _⟩
/-- A base type's bytes. -/
def bsz (x : Int) : Int := if x = 99 then 1 else if x = 115 then 2 else 4
set_option maxHeartbeats 2000000 in
theorem c_extent0 (la : Option Addr) (ln lc : Nat) (x0 : Int) (s1 : ByteArray) (x2 : Int) (s3 : ByteArray) (w : World) (h : x0 = 99 ∨ x0 = 105) :
    Calls Tryz.prog 48 #[.slice la ln lc, nV x0 s1 x2 s3 none 0 0] w fun e w' => e = .returned (.tuple #[.agg #[.int .i64 (bsz x0), .int .i64 (bsz x0), .int .i64 1], .bool true]) ∧ Below w.heap.size w w' := by
  rcases h with rfl | rfl
  all_goals
    go_enter Tryz.func48, Tryz.ntmps48
    go_wp2_with fail
  · refine bodyPost_ret (v := .tuple #[.agg #[.int .i64 1, .int .i64 1, .int .i64 1], .bool true]) (by simp [results, Tryz.results48, go_sem]) rfl ?_
    exact ⟨rfl, (below_a _ _).alloc (by simp) _⟩
  · refine bodyPost_ret (v := .tuple #[.agg #[.int .i64 4, .int .i64 4, .int .i64 1], .bool true]) (by simp [results, Tryz.results48, go_sem]) rfl ?_
    exact ⟨rfl, (below_a _ _).alloc (by simp) _⟩
set_option maxHeartbeats 2000000 in
theorem c_lacks0 (la : Option Addr) (ln lc : Nat) (x0 : Int) (s1 : ByteArray) (x2 : Int) (s3 : ByteArray) (w : World) (ha : (x0 == 97) = false) (hf : (x0 == 83) = false) :
    Calls Tryz.prog 99 #[.slice la ln lc, nV x0 s1 x2 s3 none 0 0] w fun e w' => e = .returned (.bool false) ∧ Below w.heap.size w w' := by
  go_enter Tryz.func99, Tryz.ntmps99
  go_wp2_with fail
  go_ret
  exact ⟨rfl, below_a _ _⟩
set_option maxHeartbeats 2000000 in
theorem c_great0 (la : Option Addr) (ln lc : Nat) (x0 : Int) (s1 : ByteArray) (x2 : Int) (s3 : ByteArray) (w : World) (y z : Int) (q : Bool) (u : Int) (hy : decide (65536 < y) = false)
    (hx : ∀ w', Below w.heap.size w w' → Calls Tryz.prog 48 #[.slice la ln lc, nV x0 s1 x2 s3 none 0 0] w' fun e w'' => e = .returned (.tuple #[.agg #[.int .i64 y, .int .i64 z, .int .i64 u], .bool q]) ∧ Below w'.heap.size w' w'') :
    Calls Tryz.prog 100 #[.slice la ln lc, nV x0 s1 x2 s3 none 0 0] w fun e w' => e = .returned (.bool false) ∧ Below w.heap.size w w' := by
  have HX := Lib.hid hx
  clear hx
  go_enter Tryz.func100, Tryz.ntmps100
  go_wp2_with fail
  refine (HX.out _ (below_a _ _)).mono ?_
  rintro e w2 ⟨rfl, hb⟩
  have n4 : w2.cell? ⟨w.heap.size, 4, none⟩ = some (.slice none 0 0) := (cell_of_blk (hb.block _ (by simp)) 4).trans (by simp)
  have HB := Lib.hid (((below_a w (.cells #[.int .u8 x0, .string s1, .int .i64 x2, .string s3, .slice none 0 0] 68)).trans (hb.mono (by simp))))
  have hlt : w.heap.size < w2.heap.size := by have := hb.size; simp at this; omega
  clear hb
  cases q
  all_goals
    go_wp2_with fail
    go_rounds 1
    go_ret
    exact ⟨rfl, HB.out.alloc (by omega) _⟩
end Go.Proofs.YtacbjhbiaaieoaaGreatDoor
/-! The contracts of a type that is right, and of an object's, in the code: where all that it asks answers so. -/
namespace Go.Proofs.YtacbjhbiaaieoaaGreatDoor
set_option linter.unusedVariables false
set_option linter.unusedSimpArgs false
set_option maxRecDepth 100000
open Go.RowKit

theorem Nd.nil {S : Nat → Prop} {w : World} {t : Ty} {v : Value} (h : Nd S w t v) (ht : t.parts = []) : v = .slice none 0 0 := by
  cases h with
  | leaf t h => rfl
  | row t g cap L h1 h2 h3 h4 h5 h6 =>
    rw [ht] at h1
    cases L with
    | nil => exact absurd rfl h2
    | cons p L => cases h1
theorem blk_next {w w' : World} {g : Nat} {o : Obj} (h : w.heap[g]? = some o) (hb : Below w.heap.size w w') : w'.heap[g]? = some o := (hb.block g (Array.getElem?_eq_some_iff.1 h).1).trans h
/-- Parts that lie in the world as it is. -/
def NdIn (t : Ty) (v : Value) (w : World) : Prop := Nd (fun j => j < w.heap.size) w t v
theorem NdIn.next {t : Ty} {v : Value} {w w' : World} (h : NdIn t v w) (hb : Below w.heap.size w w') : NdIn t v w' := Nd.mono h (fun j hj => Nat.lt_of_lt_of_le hj hb.size) (fun j hj => hb.block j hj)
theorem below_on {B : Nat} {w w1 w2 : World} (h : Below B w w1) (k : Below w1.heap.size w1 w2) (hB : B ≤ w1.heap.size) : Below B w w2 := h.trans (k.mono hB)
theorem ndC_eq {t : Ty} {x0 : Int} {s1 : ByteArray} {x2 : Int} {s3 : ByteArray} {a : Option Addr} {n c : Nat} (h0 : (t.letter.toNat : Int) = x0) (h1 : (⟨t.code.toArray⟩ : ByteArray) = s1) (h2 : (t.count : Int) = x2) (h3 : (⟨t.tag.toArray⟩ : ByteArray) = s3) : ndV t (.slice a n c) = nV x0 s1 x2 s3 a n c := by
  subst h0 h1 h2 h3
  rfl
set_option maxHeartbeats 4000000 in
/-- Where all that right asks answers well. -/
theorem c_right (B : Nat) (la : Option Addr) (ln lc : Nat) (tx : List UInt8) (t : Ty) (x0 : Int) (s1 : ByteArray) (x2 : Int) (s3 : ByteArray) (h0 : (t.letter.toNat : Int) = x0) (h1 : (⟨t.code.toArray⟩ : ByteArray) = s1) (h2 : (t.count : Int) = x2) (h3 : (⟨t.tag.toArray⟩ : ByteArray) = s3) (d : Int) (hd48 : decide (48 < d) = false) (w : World) (hE : Env B w) (hB : B ≤ w.heap.size) (hx : tx.length ≤ 65536) (ht : tyR tx = some t) (P : World → Prop) (hP : P w) (hPk : ∀ w1 w2, P w1 → Below w1.heap.size w1 w2 → P w2)
    (hd : ∀ a n c w', P w' → NdIn t (.slice a n c) w' → Calls Tryz.prog 97 #[nV x0 s1 x2 s3 a n c] w' fun e w'' => e = .returned (.int .i64 d) ∧ Below w'.heap.size w' w'')
    (hw : ∀ a n c w', P w' → NdIn t (.slice a n c) w' → Calls Tryz.prog 98 #[nV x0 s1 x2 s3 a n c] w' fun e w'' => e = .returned (.bool true) ∧ Below w'.heap.size w' w'')
    (hl : ∀ a n c w', P w' → NdIn t (.slice a n c) w' → Calls Tryz.prog 99 #[.slice la ln lc, nV x0 s1 x2 s3 a n c] w' fun e w'' => e = .returned (.bool false) ∧ Below w'.heap.size w' w'')
    (hg : ∀ a n c w', P w' → NdIn t (.slice a n c) w' → Calls Tryz.prog 100 #[.slice la ln lc, nV x0 s1 x2 s3 a n c] w' fun e w'' => e = .returned (.bool false) ∧ Below w'.heap.size w' w'') :
    Calls Tryz.prog 71 #[.slice la ln lc, .string ⟨tx.toArray⟩] w fun e w' => (∃ a n c, e = .returned (.tuple #[nV x0 s1 x2 s3 a n c, .int .i64 0]) ∧ Nd (Fm w.heap.size w') w' t (.slice a n c)) ∧ Below w.heap.size w w' := by
  have HT : Hid (Calls Tryz.prog 43 #[.string ⟨tx.toArray⟩] (w.alloc zOb) fun e w1 => ∃ a n c, e = .returned (.tuple #[nV x0 s1 x2 s3 a n c, .bool true]) ∧ Below (w.alloc zOb).heap.size (w.alloc zOb) w1 ∧ Nd (Fm (w.heap.size + 1) w1) w1 t (.slice a n c)) :=
    (c_takeApart B tx (w.alloc zOb) (hE.next ((below_a w zOb).mono hB)) (by simp; omega) hx).mono fun e w1 h => by
      obtain ⟨hb, hr⟩ := h
      rcases hr with ⟨t', s, h4, h5, h6⟩ | ⟨h4, _⟩
      · rw [ht] at h4
        cases h4
        obtain ⟨a, c, hs, _⟩ := h6.sl
        subst hs
        refine ⟨a, _, c, ?_, hb, h6.mono (fun j hj => ⟨by have := hj.1; simp at this; omega, hj.2⟩) (fun _ _ => rfl)⟩
        rw [h5, ndC_eq h0 h1 h2 h3]
      · rw [ht] at h4
        cases h4
  have HP := Lib.hid hP
  have HPk := Lib.hid hPk
  have HD := Lib.hid hd
  have HW := Lib.hid hw
  have HL := Lib.hid hl
  have HG := Lib.hid hg
  clear hd hw hl hg h0 h1 h2 h3 hE hP hPk
  go_enter Tryz.func71, Tryz.ntmps71
  go_wp2_with fail
  refine HT.out.mono ?_
  rintro e w1 ⟨a, n, c, rfl, hb1, hq1⟩
  have HB1 : Hid (Below w.heap.size w w1) := (below_a w zOb).trans (hb1.mono (by simp))
  have hs1 : w.heap.size < w1.heap.size := by have := hb1.size; simp at this; omega
  have hR1 : w1.heap[w.heap.size]? = some zOb := (hb1.block _ (by simp)).trans (heap_alloc_new w zOb)
  have HR1 := Lib.hid hR1
  have HF1 := Lib.hid hq1
  have HQ1 : Hid (P w1 ∧ NdIn t (.slice a n c) w1) := ⟨HPk.out _ _ (HPk.out _ _ HP.out (below_a w zOb)) hb1, hq1.mono (fun j hj => hj.2) (fun _ _ => rfl)⟩
  have HF : Hid (∀ w2, (∀ j, j < w1.heap.size → j ≠ w.heap.size → w2.heap[j]? = w1.heap[j]?) → w1.heap.size ≤ w2.heap.size → Nd (Fm w.heap.size w2) w2 t (.slice a n c)) := fun w2 h hs => hq1.mono (fun j hj => ⟨by have := hj.1; omega, by have := hj.2; omega⟩) (fun j hj => h j hj.2 (by have := hj.1; omega))
  clear hb1 hq1 hR1
  go_wp2_with fail
  have HQ2 := Lib.hid (And.intro (HPk.out _ _ HQ1.out.1 (below_a w1 (.cells #[.int .u8 x0, .string s1, .int .i64 x2, .string s3, .slice a n c] 68))) (HQ1.out.2.next (below_a w1 (.cells #[.int .u8 x0, .string s1, .int .i64 x2, .string s3, .slice a n c] 68))))
  have HK2 := Lib.hid (below_on (Below.refl w1.heap.size w1) (below_a w1 (.cells #[.int .u8 x0, .string s1, .int .i64 x2, .string s3, .slice a n c] 68)) (by have := 1; simp <;> omega))
  have HN2 := Lib.hid (heap_alloc_new w1 (.cells #[.int .u8 x0, .string s1, .int .i64 x2, .string s3, .slice a n c] 68))
  have HR2 := Lib.hid (blk_next HR1.out (below_a w1 (.cells #[.int .u8 x0, .string s1, .int .i64 x2, .string s3, .slice a n c] 68)))
  have HB2 := Lib.hid (below_on HB1.out (below_a w1 (.cells #[.int .u8 x0, .string s1, .int .i64 x2, .string s3, .slice a n c] 68)) (by omega))
  refine (HD.out _ _ _ _ HQ2.out.1 HQ2.out.2).mono ?_
  rintro e w3 ⟨rfl, hb3⟩
  have HQ3 := Lib.hid (And.intro (HPk.out _ _ HQ2.out.1 hb3) (HQ2.out.2.next hb3))
  have HK3 := Lib.hid (below_on HK2.out hb3 (by have := 1; simp <;> omega))
  have HN3 := Lib.hid (blk_next HN2.out hb3)
  have HR3 := Lib.hid (blk_next HR2.out hb3)
  have HB3 := Lib.hid (below_on HB2.out hb3 (by simp; omega))
  have hs3 : w1.heap.size < w3.heap.size := by have := hb3.size; simp at this; omega
  clear hb3 HD HT HB1 HR1 HQ1 HQ2 HN2 HR2 HB2
  obtain ⟨n0, n1, n2, n3, n4, nf⟩ := five_cells HN3.out
  go_wp2_with fail
  refine (HW.out _ _ _ _ HQ3.out.1 HQ3.out.2).mono ?_
  rintro e w4 ⟨rfl, hb4⟩
  have HQ4 := Lib.hid (And.intro (HPk.out _ _ HQ3.out.1 hb4) (HQ3.out.2.next hb4))
  have HK4 := Lib.hid (below_on HK3.out hb4 (by have := 1; simp <;> omega))
  have HN4 := Lib.hid (blk_next HN3.out hb4)
  have HR4 := Lib.hid (blk_next HR3.out hb4)
  have HB4 := Lib.hid (below_on HB3.out hb4 (by omega))
  have hs4 : w1.heap.size < w4.heap.size := by have := hb4.size; omega
  clear hb4 HW HQ3 HN3 HR3 HB3 n0 n1 n2 n3 n4 nf
  obtain ⟨n0, n1, n2, n3, n4, nf⟩ := five_cells HN4.out
  go_wp2_with fail
  refine (HL.out _ _ _ _ HQ4.out.1 HQ4.out.2).mono ?_
  rintro e w5 ⟨rfl, hb5⟩
  have HQ5 := Lib.hid (And.intro (HPk.out _ _ HQ4.out.1 hb5) (HQ4.out.2.next hb5))
  have HK5 := Lib.hid (below_on HK4.out hb5 (by have := 1; simp <;> omega))
  have HN5 := Lib.hid (blk_next HN4.out hb5)
  have HR5 := Lib.hid (blk_next HR4.out hb5)
  have HB5 := Lib.hid (below_on HB4.out hb5 (by omega))
  have hs5 : w1.heap.size < w5.heap.size := by have := hb5.size; omega
  clear hb5 HL HQ4 HN4 HR4 HB4 n0 n1 n2 n3 n4 nf
  obtain ⟨n0, n1, n2, n3, n4, nf⟩ := five_cells HN5.out
  go_wp2_with fail
  refine (HG.out _ _ _ _ HQ5.out.1 HQ5.out.2).mono ?_
  rintro e w6 ⟨rfl, hb6⟩
  have HQ6 := Lib.hid (And.intro (HPk.out _ _ HQ5.out.1 hb6) (HQ5.out.2.next hb6))
  have HK6 := Lib.hid (below_on HK5.out hb6 (by have := 1; simp <;> omega))
  have HN6 := Lib.hid (blk_next HN5.out hb6)
  have HR6 := Lib.hid (blk_next HR5.out hb6)
  have HB6 := Lib.hid (below_on HB5.out hb6 (by omega))
  clear hb6 HG HQ5 HN5 HR5 HB5 n0 n1 n2 n3 n4 nf
  obtain ⟨n0, n1, n2, n3, n4, nf⟩ := five_cells HN6.out
  obtain ⟨r0, r1, r2, r3, r4, rf⟩ := five_cells HR6.out
  have rf0 := rf 0
  have rf1 := rf 1
  have rf2 := rf 2
  have rf3 := rf 3
  have rf4 := rf 4
  clear rf nf
  go_wp2_with fail
  refine bodyPost_ret (v := .tuple #[nV x0 s1 x2 s3 a n c, .int .i64 0]) (by simp [results, Tryz.results71, go_sem, r0, r1, r2, r3, r4]) rfl ?_
  have hst := Stp.five0 w.heap.size w6 (.int .u8 x0) (.string s1) (.int .i64 x2) (.string s3) (.slice a n c)
  exact ⟨⟨a, n, c, rfl, HF.out _ (fun j hj hne => (hst.blk j hne).trans (HK6.out.block j hj)) (by rw [hst.size]; exact HK6.out.size)⟩, below_stp HB6.out hst (Nat.le_refl _)⟩
end Go.Proofs.YtacbjhbiaaieoaaGreatDoor
