/-
  The contracts of what is lacking, of what a type takes, structs being laid out, in the code.
-/
import Derived.Test.YtjadckhngalmlaaGreatDoorZTyK1
import Derived.Deep.RegionHeld3
/-! The contracts of what asks the structs that are laid out, at one struct, in the code. -/
namespace Go.Proofs.YtjadckhngalmlaaGreatDoor
set_option linter.unusedVariables false
set_option linter.unusedSimpArgs false
set_option maxRecDepth 100000
open Go.RowKit

/-- One struct laid out, at the head of block g. -/
structure LkAt (g : Nat) (x y z : Int) (nm : ByteArray) (ma : Option Addr) (mn mc : Nat) (w : World) : Prop where
  c0 : w.cell? ⟨g, 0, none⟩ = some (.int .i64 x)
  c1 : w.cell? ⟨g, 1, none⟩ = some (.int .i64 y)
  c2 : w.cell? ⟨g, 2, none⟩ = some (.int .i64 z)
  c3 : w.cell? ⟨g, 3, none⟩ = some (.string nm)
  c4 : w.cell? ⟨g, 4, none⟩ = some (.slice ma mn mc)
theorem LkAt.lt {g : Nat} {x y z : Int} {nm : ByteArray} {ma : Option Addr} {mn mc : Nat} {w : World} (h : LkAt g x y z nm ma mn mc w) : g < w.heap.size := World.block_lt_of_cell? w ⟨g, 0, none⟩ h.c0
theorem LkAt.next {g : Nat} {x y z : Int} {nm : ByteArray} {ma : Option Addr} {mn mc : Nat} {w w' : World} (h : LkAt g x y z nm ma mn mc w) (hb : Below w.heap.size w w') : LkAt g x y z nm ma mn mc w' := by
  have e := hb.block g h.lt
  exact ⟨(cell_of_blk e 0).trans h.c0, (cell_of_blk e 1).trans h.c1, (cell_of_blk e 2).trans h.c2, (cell_of_blk e 3).trans h.c3, (cell_of_blk e 4).trans h.c4⟩
abbrev lV (x y z : Int) (nm : ByteArray) (ma : Option Addr) (mn mc : Nat) : Value := .agg #[.int .i64 x, .int .i64 y, .int .i64 z, .string nm, .slice ma mn mc]
/-- The type of the first example's struct. -/
def tS : Ty := .str [116]
def tA : Ty := .arr 3 tS
end Go.Proofs.YtjadckhngalmlaaGreatDoor
/-! The contracts of what is asked of an array of structs; of an object's type, in the code. -/
namespace Go.Proofs.YtjadckhngalmlaaGreatDoor
set_option linter.unusedVariables false
set_option linter.unusedSimpArgs false
set_option maxRecDepth 100000
open Go.RowKit

theorem NdIn.a {a : Option Addr} {n c : Nat} {w : World} (h : NdIn tA (.slice a n c) w) :
    ∃ g, a = some ⟨g, 0, none⟩ ∧ n = 1 ∧ 1 ≤ c ∧ g < w.heap.size ∧ w.cell? ⟨g, 0, none⟩ = some (.int .u8 83) ∧ w.cell? ⟨g, 1, none⟩ = some (.string ⟨#[83, 116, 59]⟩) ∧ w.cell? ⟨g, 2, none⟩ = some (.int .i64 0) ∧ w.cell? ⟨g, 3, none⟩ = some (.string ⟨#[116]⟩) ∧ w.cell? ⟨g, 4, none⟩ = some (.slice none 0 0) := by
  obtain ⟨g, cap, a', n', c', hv, hcap, hg, hn, n0, n1, n2, n3, n4⟩ := h.last (A := []) (u := tS) rfl
  have h0 := hn.nil rfl
  rw [h0] at n4
  cases hv
  exact ⟨g, rfl, rfl, hcap, hg, n0, n1, n2, n3, n4⟩
end Go.Proofs.YtjadckhngalmlaaGreatDoor
/-! The contracts of an object's type, of a member's type, in the code. -/
namespace Go.Proofs.YtjadckhngalmlaaGreatDoor
set_option linter.unusedVariables false
set_option linter.unusedSimpArgs false
set_option maxRecDepth 100000
open Go.RowKit

/-- What right and object answer of a type that may be. -/
def RgR (t : Ty) (x0 : Int) (s1 : ByteArray) (x2 : Int) (s3 : ByteArray) (w : World) (e : Ending) (w' : World) : Prop :=
  (∃ a n c, e = .returned (.tuple #[nV x0 s1 x2 s3 a n c, .int .i64 0]) ∧ Nd (Fm w.heap.size w') w' t (.slice a n c)) ∧ Below w.heap.size w w'
/-- A member at the head of a row, or behind the first: seven cells. -/
abbrev mC (x0 : Int) (s1 : ByteArray) (nm : ByteArray) (at' : Int) : List Value := [.int .u8 x0, .string s1, .int .i64 0, .string ⟨#[]⟩, .slice none 0 0, .string nm, .int .i64 at']
structure MbAt (g o : Nat) (x0 : Int) (s1 nm : ByteArray) (at' : Int) (w : World) : Prop where
  c : ∀ i u, (mC x0 s1 nm at')[i]? = some u → w.cell? ⟨g, o + i, none⟩ = some u
theorem MbAt.lt {g o : Nat} {x0 : Int} {s1 nm : ByteArray} {at' : Int} {w : World} (h : MbAt g o x0 s1 nm at' w) : g < w.heap.size := World.block_lt_of_cell? w ⟨g, o + 0, none⟩ (h.c 0 _ rfl)
theorem MbAt.next {g o : Nat} {x0 : Int} {s1 nm : ByteArray} {at' : Int} {w w' : World} (h : MbAt g o x0 s1 nm at' w) (hb : Below w.heap.size w w') : MbAt g o x0 s1 nm at' w' :=
  ⟨fun i u hu => (cell_of_blk (hb.block g h.lt) _).trans (h.c i u hu)⟩
end Go.Proofs.YtjadckhngalmlaaGreatDoor
/-! The contracts of a member's type, of a place that is aligned, and of a struct that is laid out, in the code. -/
namespace Go.Proofs.YtjadckhngalmlaaGreatDoor
set_option linter.unusedVariables false
set_option linter.unusedSimpArgs false
set_option maxRecDepth 100000
open Go.RowKit

theorem new2 (w : World) (a b : Obj) : ((w.alloc a).alloc b).heap[w.heap.size + 1]? = some b := by
  have h := heap_alloc_new (w.alloc a) b
  rw [show (w.alloc a).heap.size = w.heap.size + 1 by simp] at h
  exact h
theorem new3 (w : World) (a b c : Obj) : (((w.alloc a).alloc b).alloc c).heap[w.heap.size + 2]? = some c := by
  have h := heap_alloc_new ((w.alloc a).alloc b) c
  rw [show ((w.alloc a).alloc b).heap.size = w.heap.size + 2 by simp] at h
  exact h
theorem RgR.base {c : UInt8} {x0 : Int} {s1 : ByteArray} {w w' : World} {e : Ending} (h : RgR (.base c) x0 s1 0 ⟨#[]⟩ w e w') : e = .returned (.tuple #[nV x0 s1 0 ⟨#[]⟩ none 0 0, .int .i64 0]) ∧ Below w.heap.size w w' := by
  obtain ⟨⟨a, n, c', rfl, hn⟩, hb⟩ := h
  have := hn.nil rfl
  cases this
  exact ⟨rfl, hb⟩
end Go.Proofs.YtjadckhngalmlaaGreatDoor
namespace Go.Proofs.YtjadckhngalmlaaGreatDoor
set_option linter.unusedVariables false
set_option linter.unusedSimpArgs false
set_option maxRecDepth 100000
open Go.RowKit

/-- A row of members, as they lie. -/
def mbC (x : MemP) (v : Value) : List Value := [.int .u8 x.ty.letter.toNat, .string ⟨x.ty.code.toArray⟩, .int .i64 x.ty.count, .string ⟨x.ty.tag.toArray⟩, v, .string ⟨x.name.toArray⟩, .int .i64 x.at']
def MbS (S : Nat → Prop) (M : List MemP) (a : Option Addr) (w : World) : Prop := 0 < M.length → ∃ g, a = some ⟨g, 0, none⟩ ∧ S g ∧ ∀ (k : Nat) (x : MemP), M[k]? = some x → ∃ pa pn pc, Nd S w x.ty (.slice pa pn pc) ∧ ∀ i u, (mbC x (.slice pa pn pc))[i]? = some u → w.cell? ⟨g, k * 7 + i, none⟩ = some u
theorem MbS.mono {S S' : Nat → Prop} {M : List MemP} {a : Option Addr} {w w' : World} (h : MbS S M a w) (hS : ∀ j, S j → S' j) (hw : ∀ j, S j → w'.heap[j]? = w.heap[j]?) : MbS S' M a w' := fun h0 => by
  obtain ⟨g, h1, h2, h3⟩ := h h0
  refine ⟨g, h1, hS g h2, fun k x hx => ?_⟩
  obtain ⟨pa, pn, pc, hn, hc⟩ := h3 k x hx
  exact ⟨pa, pn, pc, hn.mono hS hw, fun i u hu => (cell_of_blk (hw g h2) _).trans (hc i u hu)⟩
def MbIn (M : List MemP) (a : Option Addr) (w : World) : Prop := MbS (fun j => j < w.heap.size) M a w
theorem MbIn.next {M : List MemP} {a : Option Addr} {w w' : World} (h : MbIn M a w) (hb : Below w.heap.size w w') : MbIn M a w' := MbS.mono h (fun j hj => Nat.lt_of_lt_of_le hj hb.size) (fun j hj => hb.block j hj)
/-- Structs laid out, as they lie. -/
def KnIn (L : List LayP) (a : Option Addr) (w : World) : Prop := 0 < L.length → ∃ g, a = some ⟨g, 0, none⟩ ∧ g < w.heap.size ∧ ∀ (k : Nat) (x : LayP), L[k]? = some x → ∃ ma mc, MbIn x.mems ma w ∧ x.mems.length ≤ mc ∧
  w.cell? ⟨g, k * 5, none⟩ = some (.int .i64 x.bytes) ∧ w.cell? ⟨g, k * 5 + 1, none⟩ = some (.int .i64 x.align) ∧ w.cell? ⟨g, k * 5 + 2, none⟩ = some (.int .i64 x.scal) ∧ w.cell? ⟨g, k * 5 + 3, none⟩ = some (.string ⟨x.name.toArray⟩) ∧ w.cell? ⟨g, k * 5 + 4, none⟩ = some (.slice ma x.mems.length mc)
theorem KnIn.next {L : List LayP} {a : Option Addr} {w w' : World} (h : KnIn L a w) (hb : Below w.heap.size w w') : KnIn L a w' := fun h0 => by
  obtain ⟨g, h1, h2, h3⟩ := h h0
  refine ⟨g, h1, Nat.lt_of_lt_of_le h2 hb.size, fun k x hx => ?_⟩
  obtain ⟨ma, mc, hm, hl, c0, c1, c2, c3, c4⟩ := h3 k x hx
  have e := hb.block g h2
  exact ⟨ma, mc, hm.next hb, hl, (cell_of_blk e _).trans c0, (cell_of_blk e _).trans c1, (cell_of_blk e _).trans c2, (cell_of_blk e _).trans c3, (cell_of_blk e _).trans c4⟩
theorem KnIn.nil (a : Option Addr) (w : World) : KnIn [] a w := fun h => by simp at h
/-- What find answers. -/
def FdR (L : List LayP) (nm : List UInt8) (w : World) (e : Ending) (w' : World) : Prop :=
  ((∃ x ma mc, findL L nm = some x ∧ e = .returned (.tuple #[lV x.bytes x.align x.scal ⟨x.name.toArray⟩ ma x.mems.length mc, .bool true]) ∧ MbIn x.mems ma w' ∧ x.mems.length ≤ mc) ∨ (findL L nm = none ∧ e = .returned (.tuple #[lV 0 0 0 ⟨#[]⟩ none 0 0, .bool false]))) ∧ Below w.heap.size w w'
theorem find_at {L : List LayP} {nm : List UInt8} {q : Nat} {x : LayP} (hx : L[q]? = some x) (hn : x.name = nm) (ha : ∀ (j : Nat) (y : LayP), j < q → L[j]? = some y → (y.name == nm) = false) : findL L nm = some x := by
  induction q generalizing L with
  | zero =>
    cases L with
    | nil => cases hx
    | cons y L =>
      cases hx
      unfold findL
      rw [List.find?_cons, hn]
      simp
  | succ q ih =>
    cases L with
    | nil => cases hx
    | cons y L =>
      have h0 := ha 0 y (by omega) rfl
      have h1 := ih (L := L) hx (fun j z hj hz => ha (j + 1) z (by omega) hz)
      unfold findL at h1 ⊢
      rw [List.find?_cons, h0]
      exact h1
theorem find_no {L : List LayP} {nm : List UInt8} (ha : ∀ (j : Nat) (y : LayP), L[j]? = some y → (y.name == nm) = false) : findL L nm = none := by
  unfold findL
  rw [List.find?_eq_none]
  intro x hx
  obtain ⟨j, hj⟩ := List.getElem?_of_mem hx
  rw [ha j x hj]
  simp
set_option maxHeartbeats 4000000 in
theorem c_findX (L : List LayP) (a : Option Addr) (c : Nat) (hc : L.length ≤ c) (nm : List UInt8) (w : World) (hK : KnIn L a w) (hl : L.length ≤ 65536) :
    Calls Tryz.prog 95 #[.slice a L.length c, .string ⟨nm.toArray⟩] w fun e w' => FdR L nm w e w' := by
  have HK := Lib.hid (fun w' (h : Below w.heap.size w w') => hK.next h)
  have HL := Lib.hid hl
  obtain ⟨N, hN⟩ : ∃ N, L.length = N := ⟨_, rfl⟩
  have HN := Lib.hid hN
  rw [hN] at HL hc ⊢
  clear hK hl hN
  go_enter Tryz.func95, Tryz.ntmps95
  go_wp2_with fail
  have HZ0 := Lib.hid (heap_alloc_new w (.cells #[.int .i64 0, .int .i64 0, .int .i64 0, .string ⟨#[]⟩, .slice none 0 0] 152))
  have HB0 := Lib.hid (below_a w (.cells #[.int .i64 0, .int .i64 0, .int .i64 0, .string ⟨#[]⟩, .slice none 0 0] 152))
  go_loopg [10] N (fun g v10 wr => ∃ q : Nat, q + g = N ∧ v10 = .int .i64 (q : Int) ∧ Hid (Below w.heap.size w wr ∧ wr.heap[w.heap.size]? = some (.cells #[.int .i64 0, .int .i64 0, .int .i64 0, .string ⟨#[]⟩, .slice none 0 0] 152) ∧ ∀ (j : Nat) (y : LayP), j < q → L[j]? = some y → (y.name == nm) = false))
  case atStart => exact ⟨0, by omega, rfl, HB0.out, HZ0.out, fun j y hj => by omega⟩
  case round =>
    obtain ⟨q, hq, rfl, HR⟩ := hrel
    have hbz := (Array.getElem?_eq_some_iff.1 HR.out.2.1).1
    obtain ⟨z0, z1, z2, z3, z4, zf⟩ := five_cells HR.out.2.1
    have zf0 := zf 0
    have zf1 := zf 1
    have zf2 := zf 2
    have zf3 := zf 3
    have zf4 := zf 4
    by_cases hlt : q < N
    · have hd : decide ((q : Int) < (N : Int)) = true := by simp; omega
      obtain ⟨x, hx⟩ : ∃ x, L[q]? = some x := ⟨_, List.getElem?_eq_getElem (by have := HN.out; omega)⟩
      obtain ⟨g, hag, hgw, hrow⟩ := HK.out w (Below.refl _ _) (by have := HN.out; omega)
      obtain ⟨ma, mc, hM, hmc, d0, d1, d2, d3, d4⟩ := hrow q x hx
      have eg := HR.out.1.block g hgw
      have c0 := (cell_of_blk eg _).trans d0
      have c1 := (cell_of_blk eg _).trans d1
      have c2 := (cell_of_blk eg _).trans d2
      have c3 := (cell_of_blk eg _).trans d3
      have c4 := (cell_of_blk eg _).trans d4
      have hg : g < wr.heap.size := Nat.lt_of_lt_of_le hgw HR.out.1.size
      clear d0 d1 d2 d3 d4 eg hgw
      have HX := Lib.hid hx
      have HM2 := Lib.hid (And.intro hM hmc)
      have hq0 : (0 : Int) ≤ (q : Int) := by omega
      have hql : (q : Int) < (N : Int) := by omega
      have hwm : IntKind.i64.wrap ((q : Int) + 1) = ((q + 1 : Nat) : Int) := by rw [IntKind.wrap_i64]; have := HL.out; omega
      have HM : Hid (N - (q + 1) < gk ∧ q + 1 + (N - (q + 1)) = N) := ⟨by omega, by omega⟩
      subst hag
      have hgne : g < wr.heap.size + 1 := by omega
      obtain ⟨x0, hx0⟩ : ∃ x0 : Int, (x.bytes : Int) = x0 := ⟨_, rfl⟩
      obtain ⟨x1, hx1⟩ : ∃ x1 : Int, (x.align : Int) = x1 := ⟨_, rfl⟩
      obtain ⟨x2, hx2⟩ : ∃ x2 : Int, (x.scal : Int) = x2 := ⟨_, rfl⟩
      obtain ⟨xn, hxn⟩ : ∃ xn, x.name = xn := ⟨_, rfl⟩
      obtain ⟨xl, hxl⟩ : ∃ xl, x.mems.length = xl := ⟨_, rfl⟩
      rw [hx0] at c0
      rw [hx1] at c1
      rw [hx2] at c2
      rw [hxn] at c3
      rw [hxl] at c4
      have HXs := Lib.hid (And.intro hx0 (And.intro hx1 (And.intro hx2 (And.intro hxn hxl))))
      clear hx hM hmc hrow zf hx0 hx1 hx2 hxn hxl
      cases hne : xn == nm
      · have HNe := Lib.hid hne
        have hne2 : (xn != nm) = true := by simp [bne, hne]
        go_wp2_with fail
        have HN1 : Hid (Below w.heap.size w (wr.alloc (.cells #[.int .i64 x0, .int .i64 x1, .int .i64 x2, .string ⟨xn.toArray⟩, .slice ma xl mc] 152)) ∧ (wr.alloc (.cells #[.int .i64 x0, .int .i64 x1, .int .i64 x2, .string ⟨xn.toArray⟩, .slice ma xl mc] 152)).heap[w.heap.size]? = some (.cells #[.int .i64 0, .int .i64 0, .int .i64 0, .string ⟨#[]⟩, .slice none 0 0] 152) ∧ ∀ (j : Nat) (y : LayP), j < q + 1 → L[j]? = some y → (y.name == nm) = false) := ⟨HR.out.1.alloc HR.out.1.size _, (Below.heap_alloc _ _ _ hbz).trans HR.out.2.1, fun j y hj hy => by
          by_cases e : j = q
          · subst e
            rw [HX.out] at hy
            cases hy
            rw [HXs.out.2.2.2.1]
            exact HNe.out
          · exact HR.out.2.2 j y (by omega) hy⟩
        clear c0 c1 c2 c3 c4 z0 z1 z2 z3 z4
        go_roundg (N - (q + 1))
        case measure => exact HM.out.1
        case rel => exact ⟨q + 1, HM.out.2, rfl, HN1⟩
      · have HNe := Lib.hid hne
        have hne2 : (xn != nm) = false := by simp [bne, hne]
        go_wp2_with fail
        have hst := Stp.five0 w.heap.size wr (.int .i64 x0) (.int .i64 x1) (.int .i64 x2) (.string ⟨xn.toArray⟩) (.slice ma xl mc)
        have hb9 := below_stp HR.out.1 hst (Nat.le_refl _)
        have hz9 := five_set HR.out.2.1 (.int .i64 x0) (.int .i64 x1) (.int .i64 x2) (.string ⟨xn.toArray⟩) (.slice ma xl mc)
        have hs9 := hst.size
        clear hst
        generalize ((((wr.setCell ⟨w.heap.size, 0, none⟩ (.int .i64 x0)).setCell ⟨w.heap.size, 1, none⟩ (.int .i64 x1)).setCell ⟨w.heap.size, 2, none⟩ (.int .i64 x2)).setCell ⟨w.heap.size, 3, none⟩ (.string ⟨xn.toArray⟩)).setCell ⟨w.heap.size, 4, none⟩ (.slice ma xl mc) = w9 at hb9 hz9 hs9 ⊢
        have hlt9 : w.heap.size < w9.heap.size := by rw [hs9]; exact hbz
        have hz10 := (Below.heap_alloc w9 (.cells #[.int .i64 x0, .int .i64 x1, .int .i64 x2, .string ⟨xn.toArray⟩, .slice ma xl mc] 152) _ hlt9).trans hz9
        have hb10 := hb9.alloc hb9.size (.cells #[.int .i64 x0, .int .i64 x1, .int .i64 x2, .string ⟨xn.toArray⟩, .slice ma xl mc] 152)
        generalize w9.alloc (.cells #[.int .i64 x0, .int .i64 x1, .int .i64 x2, .string ⟨xn.toArray⟩, .slice ma xl mc] 152) = wx at hb10 hz10 ⊢
        obtain ⟨y0, y1, y2, y3, y4, yf⟩ := five_cells hz10
        refine bodyPost_ret (v := .tuple #[lV x0 x1 x2 ⟨xn.toArray⟩ ma xl mc, .bool true]) (by simp [results, Tryz.results95, go_sem, y0, y1, y2, y3, y4]) rfl ?_
        obtain ⟨g0, g1, g2, g3, g4⟩ := HXs.out
        exact ⟨.inl ⟨x, ma, mc, find_at HX.out (by rw [g3]; simpa using HNe.out) HR.out.2.2, by rw [g0, g1, g2, g3, g4], HM2.out.1.next hb10, HM2.out.2⟩, hb10⟩
    · have hd : decide ((q : Int) < (N : Int)) = false := by simp; omega
      clear zf
      go_wp2_with fail
      have hst := Stp.five0 w.heap.size (wr) (.int .i64 0) (.int .i64 0) (.int .i64 0) (.string ⟨#[]⟩) (.slice none 0 0)
      have hb9 := below_stp HR.out.1 hst (Nat.le_refl _)
      have hz9 := five_set HR.out.2.1 (.int .i64 0) (.int .i64 0) (.int .i64 0) (.string ⟨#[]⟩) (.slice none 0 0)
      clear hst
      generalize ((((((wr)).setCell ⟨w.heap.size, 0, none⟩ (.int .i64 0)).setCell ⟨w.heap.size, 1, none⟩ (.int .i64 0)).setCell ⟨w.heap.size, 2, none⟩ (.int .i64 0)).setCell ⟨w.heap.size, 3, none⟩ (.string ⟨#[]⟩)).setCell ⟨w.heap.size, 4, none⟩ (.slice none 0 0) = w9 at hb9 hz9  ⊢
      obtain ⟨y0, y1, y2, y3, y4, yf⟩ := five_cells hz9
      refine bodyPost_ret (v := .tuple #[lV 0 0 0 ⟨#[]⟩ none 0 0, .bool false]) (by simp [results, Tryz.results95, go_sem, y0, y1, y2, y3, y4]) rfl ?_
      exact ⟨.inr ⟨find_no fun j y hy => HR.out.2.2 j y (by have := (List.getElem?_eq_some_iff.1 hy).1; have := HN.out; omega) hy, rfl⟩, hb9⟩
end Go.Proofs.YtjadckhngalmlaaGreatDoor
namespace Go.Proofs.YtjadckhngalmlaaGreatDoor
set_option linter.unusedVariables false
set_option linter.unusedSimpArgs false
set_option maxRecDepth 100000
open Go.RowKit

/-- All parts of a type, as they lie. -/
def PaO (S : Nat → Prop) (A : List Ty) (ao : Option Addr) (w : World) : Prop := A = [] ∨ ∃ g L, ao = some ⟨g, 0, none⟩ ∧ PaAt S A g L w
theorem Nd.allp {S : Nat → Prop} {w : World} {t : Ty} {ao : Option Addr} {n c : Nat} (h : Nd S w t (.slice ao n c)) : n = t.parts.length ∧ t.parts.length ≤ c ∧ PaO S t.parts ao w := by
  cases h with
  | leaf t h => exact ⟨by rw [h]; rfl, by rw [h]; exact Nat.le_refl _, .inl h⟩
  | row t g cap L h1 h2 h3 h4 h5 h6 =>
    refine ⟨by rw [h1, List.length_map], by rw [h1, List.length_map]; exact h3, .inr ⟨g, L, rfl, ⟨h1.symm, h4, fun k p hk i x hx => ?_, h6⟩⟩⟩
    obtain ⟨t2, v2⟩ := p
    have hi : i < 5 := by
      have := (List.getElem?_eq_some_iff.1 hx).1
      rwa [ndC_len] at this
    exact h5 _ _ ((ndCs_at L k t2 v2 hk i hi).trans hx)
theorem parts_sub : ∀ (t u : Ty), u ∈ t.parts → u.size < t.size
  | .base c, u, h => by cases h
  | .str s, u, h => by cases h
  | .ptr t, u, h => by
    have e : u = t := by simpa [Ty.parts] using h
    subst e
    show u.size < u.size + 1
    omega
  | .arr n t, u, h => by
    have e : u = t := by simpa [Ty.parts] using h
    subst e
    show u.size < u.size + 1
    omega
  | .fn ps r, u, h => by
    rcases List.mem_append.1 (show u ∈ ps.list ++ [r] from h) with h | h
    · have := lst_size_le ps u h
      show u.size < ps.size + r.size + 2
      omega
    · rw [List.mem_singleton] at h
      subst h
      show u.size < ps.size + u.size + 2
      omega
theorem parts_wf : ∀ (t u : Ty), t.wf → u ∈ t.parts → u.wf
  | .base c, u, _, h => by cases h
  | .str s, u, _, h => by cases h
  | .ptr t, u, hw, h => by
    have e : u = t := by simpa [Ty.parts] using h
    subst e
    exact hw
  | .arr n t, u, hw, h => by
    have e : u = t := by simpa [Ty.parts] using h
    subst e
    exact hw.2
  | .fn ps r, u, hw, h => by
    rcases List.mem_append.1 (show u ∈ ps.list ++ [r] from h) with h | h
    · exact lst_wf ps u hw.1 h
    · rw [List.mem_singleton] at h
      subst h
      exact hw.2
/-- A part, in a world further on. -/
theorem PaO.at {S : Nat → Prop} {A : List Ty} {ao : Option Addr} {w wr : World} (h : PaO S A ao w) (hS : ∀ j, S j → j < w.heap.size) (hb : ∀ j, j < w.heap.size → wr.heap[j]? = w.heap[j]?) (hs : w.heap.size ≤ wr.heap.size) {k : Nat} {u : Ty} (hk : A[k]? = some u) :
    ∃ g a n c, ao = some ⟨g, 0, none⟩ ∧ NdIn u (.slice a n c) wr ∧ g < wr.heap.size ∧ wr.cell? ⟨g, k * 5, none⟩ = some (.int .u8 u.letter.toNat) ∧ wr.cell? ⟨g, k * 5 + 1, none⟩ = some (.string ⟨u.code.toArray⟩) ∧ wr.cell? ⟨g, k * 5 + 2, none⟩ = some (.int .i64 u.count) ∧ wr.cell? ⟨g, k * 5 + 3, none⟩ = some (.string ⟨u.tag.toArray⟩) ∧ wr.cell? ⟨g, k * 5 + 4, none⟩ = some (.slice a n c) := by
  rcases h with h | ⟨g, L, h1, h2⟩
  · rw [h] at hk
    cases hk
  · obtain ⟨a, n, c, hn, hg, n0, n1, n2, n3, n4⟩ := (h2.keep (w' := wr) (fun j hj => hb j (hS j hj))).at hk
    exact ⟨g, a, n, c, h1, hn.mono (fun j hj => Nat.lt_of_lt_of_le (hS j hj) hs) (fun _ _ => rfl), hg, n0, n1, n2, n3, n4⟩
abbrev nT (t : Ty) (a : Option Addr) (n c : Nat) : Value := nV t.letter.toNat ⟨t.code.toArray⟩ t.count ⟨t.tag.toArray⟩ a n c
def LkX (L : List LayP) (ka : Option Addr) (kc : Nat) (m : Nat) : Prop := ∀ (t : Ty) (a : Option Addr) (n c : Nat) (w : World), t.size ≤ m → t.wf → NdIn t (.slice a n c) w → KnIn L ka w →
  Calls Tryz.prog 116 #[.slice ka L.length kc, nT t a n c] w fun e w' => e = .returned (.bool (lackT L t)) ∧ Below w.heap.size w w'
set_option maxHeartbeats 4000000 in
theorem lacksX_succ (L : List LayP) (ka : Option Addr) (kc : Nat) (hkc : L.length ≤ kc) (hL : GdL L) (hll : L.length ≤ 65536) (m : Nat) (hD : LkX L ka kc m) : LkX L ka kc (m + 1) := fun t a n c w hsz hwf hN hK => by
  have hz : ∀ x0 : Int, (t.letter.toNat : Int) = x0 → (x0 == 97) = false → (x0 == 83) = false → lackT L t = false → Calls Tryz.prog 116 #[.slice ka L.length kc, nT t a n c] w fun e w' => e = .returned (.bool (lackT L t)) ∧ Below w.heap.size w w' := fun x0 hx0 h1 h2 h3 => by
    unfold nT
    rw [hx0, h3]
    obtain ⟨x2, hx2⟩ : ∃ x2 : Int, (t.count : Int) = x2 := ⟨_, rfl⟩
    obtain ⟨s1, hs1⟩ : ∃ s1, (⟨t.code.toArray⟩ : ByteArray) = s1 := ⟨_, rfl⟩
    obtain ⟨s3, hs3⟩ : ∃ s3, (⟨t.tag.toArray⟩ : ByteArray) = s3 := ⟨_, rfl⟩
    rw [hx2, hs1, hs3]
    clear hN hD hsz hwf hx0 hx2 hs1 hs3 h3 hK hL hll hkc
    go_enter Tryz.func116, Tryz.ntmps116
    go_wp2_with fail
    go_ret
    exact ⟨rfl, below_a _ _⟩
  cases t with
  | ptr u => exact hz 112 rfl rfl rfl rfl
  | fn ps r => exact hz 102 rfl rfl rfl rfl
  | base x =>
    have hc : baseC x = true := hwf
    unfold baseC at hc
    simp at hc
    rcases hc with ((((hc | hc) | hc) | hc) | hc) | hc <;> (subst hc; exact hz _ rfl rfl rfl rfl)
  | str s =>
    have HF := Lib.hid (fun w' (hb : Below w.heap.size w w') => c_findX L ka kc hkc s w' (hK.next hb) hll)
    obtain ⟨s1, hs1⟩ : ∃ s1, (⟨(Ty.str s).code.toArray⟩ : ByteArray) = s1 := ⟨_, rfl⟩
    obtain ⟨N, hN1⟩ : ∃ N, L.length = N := ⟨_, rfl⟩
    show Calls _ _ #[_, nV 83 ⟨(Ty.str s).code.toArray⟩ 0 ⟨s.toArray⟩ a n c] w fun e w' => e = .returned (.bool (findL L s).isNone) ∧ Below w.heap.size w w'
    rw [hs1]
    rw [hN1] at HF ⊢
    obtain ⟨Q, hQ⟩ : ∃ Q, (findL L s).isNone = Q := ⟨_, rfl⟩
    rw [hQ]
    have HQ := Lib.hid hQ
    clear hz hN hD hsz hwf hs1 hK hL hll hkc hN1 hQ
    go_enter Tryz.func116, Tryz.ntmps116
    go_wp2_with fail
    refine (HF.out _ (below_a _ _)).mono ?_
    rintro e w2 ⟨hfd, hb⟩
    have HB := Lib.hid (below_on (below_a w (.cells #[.int .u8 83, .string s1, .int .i64 0, .string ⟨s.toArray⟩, .slice a n c] 173)) hb (by simp))
    clear hb
    rcases hfd with ⟨x, ma, mc, hx, rfl, _⟩ | ⟨hx, rfl⟩
    · have hq : Q = false := by rw [← HQ.out, hx]; rfl
      subst hq
      clear hx
      obtain ⟨x0, hx0⟩ : ∃ x0 : Int, (x.bytes : Int) = x0 := ⟨_, rfl⟩
      obtain ⟨x1, hx1⟩ : ∃ x1 : Int, (x.align : Int) = x1 := ⟨_, rfl⟩
      obtain ⟨x2, hx2⟩ : ∃ x2 : Int, (x.scal : Int) = x2 := ⟨_, rfl⟩
      rw [hx0, hx1, hx2]
      clear hx0 hx1 hx2
      go_wp2_with fail
      go_ret
      exact ⟨rfl, HB.out.alloc HB.out.size _⟩
    · have hq : Q = true := by rw [← HQ.out, hx]; rfl
      subst hq
      clear hx
      go_wp2_with fail
      go_ret
      exact ⟨rfl, HB.out.alloc HB.out.size _⟩
  | arr k u =>
    have HI := Lib.hid (c_inner (fun j => j < w.heap.size) (.arr k u) (.slice a n c) (w.alloc (.cells #[.int .u8 97, .string ⟨(Ty.arr k u).code.toArray⟩, .int .i64 (k : Int), .string ⟨#[]⟩, .slice a n c] 173)) (Nd.mono hN (fun j hj => hj) (fun j hj => Below.heap_alloc _ _ _ hj)) [] u rfl (by simp))
    have HD := Lib.hid (fun a n c w' (hb : Below w.heap.size w w') hn => hD u a n c w' (by have h : u.size + 1 ≤ m + 1 := hsz; omega) hwf.2 hn (hK.next hb))
    have HI' : Hid (Calls Tryz.prog 104 #[nV 97 ⟨(Ty.arr k u).code.toArray⟩ (k : Int) ⟨#[]⟩ a n c] (w.alloc (.cells #[.int .u8 97, .string ⟨(Ty.arr k u).code.toArray⟩, .int .i64 (k : Int), .string ⟨#[]⟩, .slice a n c] 173)) fun e w' => (∃ a n c, e = .returned (ndV u (.slice a n c)) ∧ NdIn u (.slice a n c) w') ∧ Below w.heap.size w w') := HI.out.mono fun e w' h => by
      obtain ⟨⟨a', n', c', h1, h2⟩, h3⟩ := h
      have h4 := below_on (below_a w _) h3 (by simp)
      exact ⟨⟨a', n', c', h1, Nd.mono h2 (fun j hj => Nat.lt_of_lt_of_le hj h4.size) (fun j hj => by
        have h5 := h3.block j (by simp; omega)
        exact h5)⟩, h4⟩
    obtain ⟨x2, hx2⟩ : ∃ x2 : Int, (k : Int) = x2 := ⟨_, rfl⟩
    obtain ⟨s1, hs1⟩ : ∃ s1, (⟨(Ty.arr k u).code.toArray⟩ : ByteArray) = s1 := ⟨_, rfl⟩
    show Calls _ _ #[_, nV 97 ⟨(Ty.arr k u).code.toArray⟩ (k : Int) ⟨#[]⟩ a n c] w fun e w' => e = .returned (.bool (lackT L u)) ∧ Below w.heap.size w w'
    obtain ⟨N, hN1⟩ : ∃ N, L.length = N := ⟨_, rfl⟩
    rw [hN1] at HD ⊢
    rw [hx2, hs1] at HI' ⊢
    clear hz hN hD hsz hwf hs1 hx2 HI hK hL hll hkc hN1
    go_enter Tryz.func116, Tryz.ntmps116
    go_wp2_with fail
    refine HI'.out.mono ?_
    rintro e w2 ⟨⟨a', n', c', rfl, hn⟩, hb⟩
    have HB := Lib.hid hb
    have HDn := Lib.hid (HD.out a' n' c' w2 hb hn)
    clear hb hn HI'
    unfold nT at HDn
    rw [nd_nV]
    obtain ⟨z0, hz0⟩ : ∃ z : Int, (u.letter.toNat : Int) = z := ⟨_, rfl⟩
    obtain ⟨z2, hz2⟩ : ∃ z : Int, (u.count : Int) = z := ⟨_, rfl⟩
    rw [hz0, hz2] at HDn ⊢
    clear hz0 hz2
    go_wp2_with fail
    refine HDn.out.mono ?_
    rintro e w5 ⟨rfl, hb⟩
    have HB5 := Lib.hid (below_on HB.out hb HB.out.size)
    clear hb
    go_wp2_with fail
    go_ret
    exact ⟨rfl, HB5.out⟩
theorem c_lacksX (L : List LayP) (ka : Option Addr) (kc : Nat) (hkc : L.length ≤ kc) (hL : GdL L) (hll : L.length ≤ 65536) : ∀ m, LkX L ka kc m
  | 0 => fun t a n c w hsz => by
    have : 1 ≤ t.size := by cases t <;> (unfold Ty.size; omega)
    omega
  | m + 1 => lacksX_succ L ka kc hkc hL hll m (c_lacksX L ka kc hkc hL hll m)
end Go.Proofs.YtjadckhngalmlaaGreatDoor
