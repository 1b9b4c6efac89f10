/-
  The contract of which part of a node may be what.
-/
import Derived.Test.YtjadckhngalmlaaGreatDoorZTrPx
import Derived.Test.YtjadckhngalmlaaGreatDoorZTyNd
import Derived.Deep.AppendLies
import Derived.Laws.AppendOwnNone
import Derived.Laws.OwnMore
import Derived.Laws.Rows
import Derived.OneCell
import Derived.Test.YtjadckhngalmlaaGreatDoorZTyK1
namespace Go.Proofs.YtjadckhngalmlaaGreatDoor
set_option linter.unusedVariables false
set_option linter.unusedSimpArgs false
set_option maxRecDepth 100000
open Go.RowKit

theorem c_isExpr (k : Int) (w : World) : Calls Tryz.prog 67 #[.int .i64 k] w fun e w' => e = .returned (.bool (exB k)) ∧ w' = w := by
  go_enter Tryz.func67, Tryz.ntmps67
  go_wp2_with fail
  all_goals
    go_ret
    refine ⟨ret_b ?_, rfl⟩
    unfold exB
    first | rfl | (rw [Bool.eq_iff_iff]; simp; omega) | (rw [Bool.eq_iff_iff]; simp; done) | (simp_all; done)
theorem c_isStat (k : Int) (w : World) : Calls Tryz.prog 93 #[.int .i64 k] w fun e w' => e = .returned (.bool (stB k)) ∧ w' = w := by
  go_enter Tryz.func93, Tryz.ntmps93
  go_wp2_with fail
  all_goals
    go_ret
    refine ⟨ret_b ?_, rfl⟩
    unfold stB
    first | rfl | (rw [Bool.eq_iff_iff]; simp; omega) | (rw [Bool.eq_iff_iff]; simp; done) | (simp_all; done)
set_option maxHeartbeats 4000000 in
theorem c_hasParts (k n : Int) (w : World) : Calls Tryz.prog 71 #[.int .i64 k, .int .i64 n] w fun e w' => e = .returned (.bool (hpB k n)) ∧ w' = w := by
  go_enter Tryz.func71, Tryz.ntmps71
  go_wp2_with fail
  all_goals
    go_ret
    refine ⟨ret_b ?_, rfl⟩
    first | (simp_all [hpB]; done) | (simp_all [hpB]; omega)
set_option maxHeartbeats 4000000 in
theorem c_may (k p : Int) (w : World) : Calls Tryz.prog 76 #[.int .i64 k, .int .i64 p] w fun e w' => e = .returned (.bool (mayB k p)) ∧ w' = w := by
  have H1 := Lib.hid (c_isExpr k)
  have H2 := Lib.hid (c_isStat k)
  obtain ⟨a, ha⟩ : ∃ a, exB k = a := ⟨_, rfl⟩
  obtain ⟨b, hb⟩ : ∃ b, stB k = b := ⟨_, rfl⟩
  rw [ha] at H1
  rw [hb] at H2
  go_enter Tryz.func76, Tryz.ntmps76
  go_wp2_with (first | (refine (H1.out _).mono ?_; rintro e w2 ⟨rfl, rfl⟩) | (refine (H2.out _).mono ?_; rintro e w2 ⟨rfl, rfl⟩))
  all_goals
    go_ret
    refine ⟨ret_b ?_, rfl⟩
    first | (simp_all [mayB]; done) | (unfold mayB; rw [ha, hb]; simp_all; done) | (simp_all [mayB]; omega)
theorem c_isPlace (k : Int) (w : World) : Calls Tryz.prog 63 #[.int .i64 k] w fun e w' => e = .returned (.bool (decide (0 ≤ k) && decide (k ≤ 65536))) ∧ w' = w := by
  go_enter Tryz.func63, Tryz.ntmps63
  go_wp2_with fail
  all_goals
    go_ret
    refine ⟨ret_b ?_, rfl⟩
    first | rfl | (rw [Bool.eq_iff_iff]; simp; omega) | (rw [Bool.eq_iff_iff]; simp; done) | (simp_all; done)
end Go.Proofs.YtjadckhngalmlaaGreatDoor
namespace Go.Proofs.YtjadckhngalmlaaGreatDoor
set_option linter.unusedVariables false
set_option linter.unusedSimpArgs false
set_option maxRecDepth 100000
open Go.RowKit

theorem blk_cell {w w' : World} {b : Nat} (h : w'.heap[b]? = w.heap[b]?) (k : Nat) : w'.cell? ⟨b, k, none⟩ = w.cell? ⟨b, k, none⟩ := by
  unfold World.cell?
  simp only []
  rw [h]
theorem two_cells {w : World} {g : Nat} {c0 c1 : Value} {T : TypeId} (h : w.heap[g]? = some (.cells #[c0, c1] T)) : w.cell? ⟨g, 0, none⟩ = some c0 ∧ w.cell? ⟨g, 1, none⟩ = some c1 ∧ ∀ i, w.frozen? ⟨g, i, none⟩ = false := by
  refine ⟨?_, ?_, fun i => Lib.frozen_of_heap h i⟩ <;> (rw [Lib.cell_of_heap h]; rfl)
theorem six_cells {w : World} {g : Nat} {c0 c1 c2 c3 c4 c5 : Value} {T : TypeId} (h : w.heap[g]? = some (.cells #[c0, c1, c2, c3, c4, c5] T)) : w.cell? ⟨g, 0, none⟩ = some c0 ∧ w.cell? ⟨g, 1, none⟩ = some c1 ∧ w.cell? ⟨g, 2, none⟩ = some c2 ∧ w.cell? ⟨g, 3, none⟩ = some c3 ∧ w.cell? ⟨g, 4, none⟩ = some c4 ∧ w.cell? ⟨g, 5, none⟩ = some c5 ∧ ∀ i, w.frozen? ⟨g, i, none⟩ = false := by
  refine ⟨?_, ?_, ?_, ?_, ?_, ?_, fun i => Lib.frozen_of_heap h i⟩ <;> (rw [Lib.cell_of_heap h]; rfl)
theorem row_cells {w : World} {g n : Nat} {T : TypeId} (h : ∃ cur, w.heap[g]? = some (.cells cur T) ∧ cur.size = n) {k : Nat} (hk : k < n) : ∃ u, w.cell? ⟨g, k, none⟩ = some u ∧ w.frozen? ⟨g, k, none⟩ = false := by
  obtain ⟨cur, h1, h2⟩ := h
  exact ⟨cur[k]'(by omega), by rw [Lib.cell_of_heap h1]; exact Array.getElem?_eq_getElem _, Lib.frozen_of_heap h1 k⟩
theorem below_o (w : World) (o : Obj) : Below w.heap.size w (w.alloc o) := (Below.refl _ _).alloc (Nat.le_refl _) o
theorem below_t {B : Nat} {w w1 w2 : World} (h : Below B w w1) (k : Below w1.heap.size w1 w2) (hB : B ≤ w1.heap.size) : Below B w w2 := h.trans (k.mono hB)
theorem blk_on {w w' : World} {g : Nat} {o : Obj} (h : w.heap[g]? = some o) (hb : Below w.heap.size w w') : w'.heap[g]? = some o := (hb.block g (Array.getElem?_eq_some_iff.1 h).1).trans h
theorem heap_alloc_at {w : World} (o : Obj) (n : Nat) (h : n = w.heap.size) : (w.alloc o).heap[n]? = some o := by
  subst h
  show (w.heap.push o)[w.heap.size]? = some o
  exact Array.getElem?_push_size
theorem two_put {w : World} {g : Nat} {a0 a1 : Value} {T : TypeId} (h : w.heap[g]? = some (.cells #[a0, a1] T)) (c0 c1 : Value) :
    ((w.setCell ⟨g, 0, none⟩ c0).setCell ⟨g, 1, none⟩ c1).heap[g]? = some (.cells #[c0, c1] T) := heap_setCell_same _ g 1 _ _ c1 (heap_setCell_same _ g 0 _ _ c0 h)
theorem two_below {B : Nat} {w0 w : World} {g : Nat} (h : Below B w0 w) (hB : B ≤ g) (c0 c1 : Value) : Below B w0 ((w.setCell ⟨g, 0, none⟩ c0).setCell ⟨g, 1, none⟩ c1) := (h.setCell (p := ⟨g, 0, none⟩) hB c0).setCell (p := ⟨g, 1, none⟩) hB c1
/-- A node as a value. -/
abbrev noV (k n a i : Int) (s t : ByteArray) : Value := .agg #[.int .i64 k, .int .i64 n, .int .i64 a, .int .i64 i, .string s, .string t]
abbrev noX (x : NdT) : Value := noV x.kind x.n x.at' x.int ⟨x.text.toArray⟩ ⟨x.type.toArray⟩
def noC (x : NdT) : List Value := [.int .i64 x.kind, .int .i64 x.n, .int .i64 x.at', .int .i64 x.int, .string ⟨x.text.toArray⟩, .string ⟨x.type.toArray⟩]
theorem noC_len (x : NdT) : (noC x).length = 6 := rfl
/-- The nodes of a tree lie in a row. -/
def TrIn (t : List NdT) (a : Option Addr) (w : World) : Prop := 0 < t.length → ∃ b off, a = some ⟨b, off, none⟩ ∧ b < w.heap.size ∧ ∀ (k : Nat) (x : NdT), t[k]? = some x → ∀ (i : Nat) (v : Value), (noC x)[i]? = some v → w.cell? ⟨b, off + k * 6 + i, none⟩ = some v
theorem TrIn.next {t : List NdT} {a : Option Addr} {w w' : World} (h : TrIn t a w) (hb : Below w.heap.size w w') : TrIn t a w' := fun h0 => by
  obtain ⟨b, off, h1, h2, h3⟩ := h h0
  exact ⟨b, off, h1, Nat.lt_of_lt_of_le h2 hb.size, fun k x hk i v hi => (blk_cell (hb.block b h2) _).trans (h3 k x hk i v hi)⟩
theorem TrIn.nil (w : World) (a : Option Addr) : TrIn [] a w := fun h => by cases h
/-- Numbers lie in a row that is one of some blocks. -/
def IntIn (S : Nat → Prop) (p : List Nat) (a : Option Addr) (w : World) : Prop := 0 < p.length → ∃ b off, a = some ⟨b, off, none⟩ ∧ S b ∧ b < w.heap.size ∧ ∀ (k q : Nat), p[k]? = some q → w.cell? ⟨b, off + k, none⟩ = some (.int .i64 (q : Int))
theorem IntIn.mono {S S' : Nat → Prop} {p : List Nat} {a : Option Addr} {w w' : World} (h : IntIn S p a w) (hs : w.heap.size ≤ w'.heap.size) (hS : ∀ b, S b → b < w.heap.size → S' b ∧ w'.heap[b]? = w.heap[b]?) : IntIn S' p a w' := fun h0 => by
  obtain ⟨b, off, h1, h2, h3, h4⟩ := h h0
  obtain ⟨g1, g2⟩ := hS b h2 h3
  exact ⟨b, off, h1, g1, Nat.lt_of_lt_of_le h3 hs, fun k q hk => (blk_cell g2 _).trans (h4 k q hk)⟩
theorem IntIn.next {S : Nat → Prop} {p : List Nat} {a : Option Addr} {w w' : World} (h : IntIn S p a w) (hb : Below w.heap.size w w') : IntIn S p a w' :=
  h.mono hb.size fun b hS hlt => ⟨hS, hb.block b hlt⟩
theorem IntIn.nil (S : Nat → Prop) (a : Option Addr) (w : World) : IntIn S [] a w := fun h => by cases h
def any_ : Nat → Prop := fun _ => True
theorem IntIn.any {S : Nat → Prop} {p : List Nat} {a : Option Addr} {w : World} (h : IntIn S p a w) : IntIn any_ p a w :=
  h.mono (Nat.le_refl _) fun b _ _ => ⟨trivial, rfl⟩
/-- The parts of nodes: a row of rows, in some blocks. -/
structure PtIn (S : Nat → Prop) (ps : List (List Nat)) (P : Nat) (w : World) : Prop where
  lt : P < w.heap.size
  row : ∀ (k : Nat) (p : List Nat), ps[k]? = some p → ∃ pa pc, w.cell? ⟨P, k, none⟩ = some (.slice pa p.length pc) ∧ p.length ≤ pc ∧ IntIn S p pa w
theorem PtIn.mono {S S' : Nat → Prop} {ps : List (List Nat)} {P : Nat} {w w' : World} (h : PtIn S ps P w) (hs : w.heap.size ≤ w'.heap.size) (hP : w'.heap[P]? = w.heap[P]?) (hS : ∀ b, S b → b < w.heap.size → S' b ∧ w'.heap[b]? = w.heap[b]?) : PtIn S' ps P w' :=
  ⟨Nat.lt_of_lt_of_le h.lt hs, fun k p hk => by
    obtain ⟨pa, pc, h1, h2, h3⟩ := h.row k p hk
    exact ⟨pa, pc, (blk_cell hP _).trans h1, h2, h3.mono hs hS⟩⟩
theorem PtIn.next {S : Nat → Prop} {ps : List (List Nat)} {P : Nat} {w w' : World} (h : PtIn S ps P w) (hb : Below w.heap.size w w') : PtIn S ps P w' :=
  h.mono hb.size (hb.block P h.lt) fun b hS hlt => ⟨hS, hb.block b hlt⟩
theorem PtIn.any {S : Nat → Prop} {ps : List (List Nat)} {P : Nat} {w : World} (h : PtIn S ps P w) : PtIn any_ ps P w :=
  h.mono (Nat.le_refl _) rfl fun b _ _ => ⟨trivial, rfl⟩
/-- The ends' numbers as cells. -/
def nuC (l : List Nat) : List Value := l.map fun (q : Nat) => Value.int .i64 (q : Int)
theorem nuC_app (l m : List Nat) : nuC (l ++ m) = nuC l ++ nuC m := by unfold nuC; rw [List.map_append]
theorem nuC_at {l : List Nat} {k q : Nat} (h : l[k]? = some q) : (nuC l)[k]? = some (.int .i64 (q : Int)) := by unfold nuC; rw [List.getElem?_map, h]; rfl
theorem nuC_take (l : List Nat) (k : Nat) : nuC (l.take k) = (nuC l).take k := by unfold nuC; rw [List.map_take]
/-- A row that is cut holds what is left. -/
theorem own_take {w : World} {base : Nat} {e : TypeId} {a : Option Addr} {n cap k : Nat} {xs : List Value} (h : w.ownsRow base e 1 (.slice a n cap) n xs) (hk : k ≤ n) (ha : a = none → cap = 0) : w.ownsRow base e 1 (.slice a k cap) k (xs.take k) := by
  obtain ⟨h1, h2⟩ := h
  refine ⟨by rw [List.length_take]; omega, ?_⟩
  rcases h2 with ⟨h0, hz⟩ | ⟨g', cap', cur, hv, hg, hh, hn, hcap, hsz, htake⟩
  · cases h0
    have : k = 0 := by omega
    subst this
    exact .inl ⟨by rw [ha rfl], rfl⟩
  · cases hv
    exact .inr ⟨g', cap, cur, rfl, hg, hh, by omega, hcap, hsz, by
      rw [← htake, List.take_take]
      congr 1
      omega⟩
theorem own_on {w w' : World} {base : Nat} {e : TypeId} {size : Nat} {v : Value} {n : Nat} {xs : List Value} (h : w.ownsRow base e size v n xs) (hb : Below w.heap.size w w') : w'.ownsRow base e size v n xs :=
  h.kept (row := none) ⟨hb.os, hb.tape, hb.output, hb.size, fun i hi _ => hb.block i hi⟩ (by cases v.ownBlock <;> simp)
theorem ob_len (fa : Option Addr) (n m c d : Nat) : (Value.slice fa n c).ownBlock = (Value.slice fa m d).ownBlock := by cases fa <;> rfl
/-- A row of numbers of the call's own, read. -/
theorem int_of_own {w : World} {base : Nat} {e : TypeId} {v : Value} {l : List Nat} (h : w.ownsRow base e 1 v l.length (nuC l)) : ∃ a c, v = .slice a l.length c ∧ l.length ≤ c ∧ (a = none → c = 0) ∧ IntIn (fun b => base ≤ b ∧ v.ownBlock = some b) l a w := by
  have h' := h
  rcases h.2 with ⟨hv, hz⟩ | ⟨g, cap, cur, hv, hg, hh, hn, hcap, hsz, htake⟩
  · subst hv
    exact ⟨none, 0, by rw [hz], by omega, fun _ => rfl, fun h0 => by omega⟩
  · subst hv
    refine ⟨_, cap, rfl, hn, (fun h0 => by cases h0), fun _ => ⟨g, 0, rfl, ⟨hg, rfl⟩, (Array.getElem?_eq_some_iff.1 hh).1, fun k q hk => ?_⟩⟩
    have hx := h'.cells (g := g) rfl k _ (nuC_at hk)
    have ea : (⟨g, 0, none⟩ : Addr).add k = ⟨g, 0 + k, none⟩ := by unfold Addr.add; split <;> simp_all
    rw [ea] at hx
    exact hx
/-- The last numbers of a row, as a part of its slice. -/
theorem int_sub {S : Nat → Prop} {l : List Nat} {fa : Option Addr} {w : World} (h : IntIn S l fa w) {k fc : Nat} (hk : k ≤ l.length) (hc : l.length ≤ fc) : IntIn S (l.drop k) (if fc = k then fa else Option.map (fun x => x.add k) fa) w := fun h0 => by
  rw [List.length_drop] at h0
  obtain ⟨b, off, h1, h2, h3, h4⟩ := h (by omega)
  subst h1
  rw [if_neg (by omega)]
  refine ⟨b, off + k, by show some (Addr.add _ _) = _; unfold Addr.add; split <;> simp_all, h2, h3, fun j q hj => ?_⟩
  rw [List.getElem?_drop] at hj
  rw [Nat.add_assoc]
  exact h4 _ _ hj
end Go.Proofs.YtjadckhngalmlaaGreatDoor
namespace Go.Proofs.YtjadckhngalmlaaGreatDoor
set_option linter.unusedVariables false
set_option linter.unusedSimpArgs false

def unM : List (List UInt8) := [[45], [126], [33], [38], [42]]
def ppM : List (List UInt8) := [[43, 43], [45, 45]]
def asM : List (List UInt8) := [[61], [42, 61], [47, 61], [37, 61], [43, 61], [45, 61], [60, 60, 61], [62, 62, 61], [38, 61], [94, 61], [124, 61]]
def biM : List (List UInt8) := [[42], [47], [37], [43], [45], [60, 60], [62, 62], [60], [62], [60, 61], [62, 61], [61, 61], [33, 61], [38], [94], [124], [38, 38], [124, 124]]
/-- Is a text one of the marks of a kind? -/
@[irreducible] def mkB (k : Int) (s : List UInt8) : Bool := if k = 4 then unM.contains s else if k = 5 ∨ k = 6 then ppM.contains s else if k = 8 then asM.contains s else biM.contains s
/-- A node's number. -/
def niB (k n : Int) : Bool := if k = 1 then decide (-128 ≤ n) && decide (n ≤ 4294967295) else if k = 22 then n == 0 || n == 1 else n == 0
/-- A node's text. -/
def txB (k : Int) (s : List UInt8) : Bool :=
  if k = 2 then decide (s.length ≤ 4096) else if k = 3 ∨ k = 13 ∨ k = 14 ∨ k = 22 then nameB s else if k = 4 ∨ k = 5 ∨ k = 6 ∨ k = 7 ∨ k = 8 then mkB k s else s == []
/-- Is a code that of a function? -/
@[irreducible] def fnB (l : List UInt8) : Bool := match tk l with
  | some (.fn _ _) => true
  | _ => false
/-- A type that may be, whatever structs there are. -/
@[irreducible] def rtB (l : List UInt8) : Bool := rgA [] l == 0 || rgA [] l == 4
/-- Neither void nor a function. -/
@[irreducible] def vrB (l : List UInt8) : Bool := !(l == [118]) && !fnB l
/-- A node's type. -/
def tyB (k i : Int) (l : List UInt8) : Bool :=
  if k = 1 then (l == [105] && decide (i < 2147483648)) || (l == [117] && decide (0 ≤ i))
  else if k = 15 ∨ k = 17 then rtB l else if k = 22 then rtB l && vrB l else l == []
def plB (a : Int) : Bool := decide (0 ≤ a) && decide (a ≤ 65536)
def wlB (x : NdT) : Bool := plB x.at' && niB x.kind x.int && txB x.kind x.text && tyB x.kind x.int x.type
end Go.Proofs.YtjadckhngalmlaaGreatDoor
namespace Go.Proofs.YtjadckhngalmlaaGreatDoor
set_option linter.unusedVariables false
set_option linter.unusedSimpArgs false
set_option maxRecDepth 100000
open Go.RowKit

theorem c_of (m : Nat) (M1 : Int) (hm0 : m = 2 ∧ M1 = 1 ∨ m = 4 ∧ M1 = 3) (i : Nat) (q : Nat) (hq : min (i : Int) M1 = (q : Int)) (x : Int) (B : Nat) (w : World) (h0 : w.cell? ⟨B, q, none⟩ = some (.int .i64 x)) : Calls Tryz.prog 94 #[.int .i64 i, .slice (some ⟨B, 0, none⟩) m m] w fun e w' => e = .returned (.int .i64 x) ∧ w' = w := by
  obtain ⟨iI, hiI⟩ : ∃ z : Int, (i : Int) = z := ⟨_, rfl⟩
  rw [hiI] at hq ⊢
  have hq0 : (0 : Int) ≤ (q : Int) := by omega
  have hB := World.block_lt_of_cell? _ ⟨B, q, none⟩ h0
  rcases hm0 with ⟨rfl, rfl⟩ | ⟨rfl, rfl⟩
  · have hq1 : (q : Int) < 2 := by omega
    clear hiI
    go_enter Tryz.func94, Tryz.ntmps94
    go_wp2_with fail
    go_ret
    exact ⟨rfl, rfl⟩
  · have hq1 : (q : Int) < 4 := by omega
    clear hiI
    go_enter Tryz.func94, Tryz.ntmps94
    go_wp2_with fail
    go_ret
    exact ⟨rfl, rfl⟩
theorem c_hasRightInt (k n a i : Int) (s t : ByteArray) (w : World) : Calls Tryz.prog 90 #[noV k n a i s t] w fun e w' => e = .returned (.bool (niB k i)) ∧ Below w.heap.size w w' := by
  go_enter Tryz.func90, Tryz.ntmps90
  go_wp2_with fail
  all_goals
    go_ret
    refine ⟨ret_b ?_, (Below.refl _ _).alloc (Nat.le_refl _) _⟩
    first | (simp_all [niB]; done) | (simp_all [niB]; omega) | (unfold niB; rw [Bool.eq_iff_iff]; simp_all; omega)
end Go.Proofs.YtjadckhngalmlaaGreatDoor
namespace Go.Proofs.YtjadckhngalmlaaGreatDoor
set_option linter.unusedVariables false
set_option linter.unusedSimpArgs false
set_option maxRecDepth 100000
open Go.RowKit

theorem c_of2 (i : Nat) (a b : Int) (B : Nat) (w : World) (h0 : w.cell? ⟨B, 0, none⟩ = some (.int .i64 a)) (h1 : w.cell? ⟨B, 1, none⟩ = some (.int .i64 b)) :
    Calls Tryz.prog 94 #[.int .i64 i, .slice (some ⟨B, 0, none⟩) 2 2] w fun e w' => e = .returned (.int .i64 (if i = 0 then a else b)) ∧ w' = w := by
  by_cases hi : i = 0
  · subst hi
    exact c_of 2 1 (.inl ⟨rfl, rfl⟩) 0 0 (by omega) a B w h0
  · rw [if_neg hi]
    exact c_of 2 1 (.inl ⟨rfl, rfl⟩) i 1 (by omega) b B w h1
theorem c_of4 (i : Nat) (a b c d : Int) (B : Nat) (w : World) (h0 : w.cell? ⟨B, 0, none⟩ = some (.int .i64 a)) (h1 : w.cell? ⟨B, 1, none⟩ = some (.int .i64 b)) (h2 : w.cell? ⟨B, 2, none⟩ = some (.int .i64 c)) (h3 : w.cell? ⟨B, 3, none⟩ = some (.int .i64 d)) :
    Calls Tryz.prog 94 #[.int .i64 i, .slice (some ⟨B, 0, none⟩) 4 4] w fun e w' => e = .returned (.int .i64 (if i = 0 then a else if i = 1 then b else if i = 2 then c else d)) ∧ w' = w := by
  by_cases hi : i = 0
  · subst hi
    exact c_of 4 3 (.inr ⟨rfl, rfl⟩) 0 0 (by omega) a B w h0
  by_cases hi1 : i = 1
  · subst hi1
    exact c_of 4 3 (.inr ⟨rfl, rfl⟩) 1 1 (by omega) b B w h1
  by_cases hi2 : i = 2
  · subst hi2
    exact c_of 4 3 (.inr ⟨rfl, rfl⟩) 2 2 (by omega) c B w h2
  · rw [if_neg hi, if_neg hi1, if_neg hi2]
    exact c_of 4 3 (.inr ⟨rfl, rfl⟩) i 3 (by omega) d B w h3
theorem po_26 (i : Nat) : poB 26 i = (if i = 0 then (4 : Int) else if i = 1 then 1 else if i = 2 then 1 else 2) := by
  have h : poB 26 i = (if i = 0 then (4 : Int) else if i = 1 ∨ i = 2 then 1 else 2) := rfl
  rw [h]
  by_cases h0 : i = 0
  · rw [if_pos h0, if_pos h0]
  · rw [if_neg h0, if_neg h0]
    by_cases h1 : i = 1
    · rw [if_pos (.inl h1), if_pos h1]
    · rw [if_neg h1]
      by_cases h2 : i = 2
      · rw [if_pos (.inr h2), if_pos h2]
      · rw [if_neg (by omega), if_neg h2]
set_option maxHeartbeats 2000000 in
theorem c_partOf (k : Int) (i : Nat) (w : World) :
    Calls Tryz.prog 77 #[.int .i64 k, .int .i64 i] w fun e w' => e = .returned (.int .i64 (poB k i)) ∧ Below w.heap.size w w' := by
  obtain ⟨r, hr⟩ : ∃ r, poB k i = r := ⟨_, rfl⟩
  have HR := Lib.hid hr
  rw [hr]
  clear hr
  by_cases h1 : k = 21
  · subst h1
    have hv : (3 : Int) = r := by rw [← HR.out]; rfl
    subst hv
    go_enter Tryz.func77, Tryz.ntmps77
    go_wp2_with fail
    go_ret
    exact ⟨rfl, Below.refl _ _⟩
  by_cases h2 : k = 29
  · subst h2
    have hv : (2 : Int) = r := by rw [← HR.out]; rfl
    subst hv
    go_enter Tryz.func77, Tryz.ntmps77
    go_wp2_with fail
    go_ret
    exact ⟨rfl, Below.refl _ _⟩
  by_cases h3 : k = 23 ∨ k = 24 ∨ k = 27 ∨ k = 28
  · have hv : Hid ((if i = 0 then (0 : Int) else 2) = r) := by rw [← HR.out]; unfold poB; rw [if_neg h1, if_neg h2, if_pos h3]; exact rfl
    clear h1 h2 HR
    obtain ⟨iI, hiI⟩ : ∃ z : Int, (i : Int) = z := ⟨_, rfl⟩
    have HC := Lib.hid (fun B w => c_of2 i 0 2 B w)
    rw [hiI, hv.out] at HC
    rw [hiI]
    clear hiI
    rcases h3 with rfl | rfl | rfl | rfl
    all_goals
      go_enter Tryz.func77, Tryz.ntmps77
      go_wp2_with fail
      refine (HC.out _ _ (by simp) (by simp)).mono ?_
      rintro e w2 ⟨rfl, rfl⟩
      go_wp2_with fail
      go_ret
      exact ⟨rfl, below_o _ _⟩
  by_cases h4 : k = 25
  · subst h4
    have hv : Hid ((if i = 0 then (2 : Int) else 0) = r) := by rw [← HR.out]; exact rfl
    clear h1 h2 h3 HR
    obtain ⟨iI, hiI⟩ : ∃ z : Int, (i : Int) = z := ⟨_, rfl⟩
    have HC := Lib.hid (fun B w => c_of2 i 2 0 B w)
    rw [hiI, hv.out] at HC
    rw [hiI]
    clear hiI
    go_enter Tryz.func77, Tryz.ntmps77
    go_wp2_with fail
    refine (HC.out _ _ (by simp) (by simp)).mono ?_
    rintro e w2 ⟨rfl, rfl⟩
    go_wp2_with fail
    go_ret
    exact ⟨rfl, below_o _ _⟩
  by_cases h5 : k = 26
  · subst h5
    have hv : Hid ((if i = 0 then (4 : Int) else if i = 1 then 1 else if i = 2 then 1 else 2) = r) := by
      rw [← HR.out, po_26]
      exact rfl
    clear h1 h2 h3 h4 HR
    obtain ⟨iI, hiI⟩ : ∃ z : Int, (i : Int) = z := ⟨_, rfl⟩
    have HC := Lib.hid (fun B w => c_of4 i 4 1 1 2 B w)
    rw [hiI, hv.out] at HC
    rw [hiI]
    clear hiI
    go_enter Tryz.func77, Tryz.ntmps77
    go_wp2_with fail
    refine (HC.out _ _ (by simp) (by simp) (by simp) (by simp)).mono ?_
    rintro e w2 ⟨rfl, rfl⟩
    go_wp2_with fail
    go_ret
    exact ⟨rfl, below_o _ _⟩
  · have hv : (0 : Int) = r := by rw [← HR.out]; unfold poB; rw [if_neg h1, if_neg h2, if_neg h3, if_neg h4, if_neg h5]
    subst hv
    have e1 : (k == 21) = false := by simpa using h1
    have e2 : (k == 29) = false := by simpa using h2
    have e3 : (k == 23) = false ∧ (k == 24) = false ∧ (k == 27) = false ∧ (k == 28) = false := by simp; omega
    have e4 : (k == 25) = false := by simpa using h4
    have e5 : (k == 26) = false := by simpa using h5
    obtain ⟨x0, x1, x2, x3⟩ := e3
    clear h1 h2 h3 h4 h5 HR
    go_enter Tryz.func77, Tryz.ntmps77
    go_wp2_with fail
    go_ret
    exact ⟨rfl, Below.refl _ _⟩
end Go.Proofs.YtjadckhngalmlaaGreatDoor
