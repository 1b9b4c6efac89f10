/-
  The built-in names: Built, builtScope.
-/
import Derived.Maps.OwnSet
import Derived.Maps.OwnOps
import Derived.Maps.AppendAt
import Derived.Test.YtjadckhngalmlaaGreatDoorZTrPo
import Derived.ProofKit
import Derived.StillTailTactics
namespace Go.Proofs.YtjadckhngalmlaaGreatDoor
set_option linter.unusedVariables false
set_option linter.unusedSimpArgs false
open Go.Maps Go.RowKit Go.WideMaps

abbrev nmS (l : List UInt8) : Value := .string ⟨l.toArray⟩
/-- An element reads as itself. -/
abbrev hdR : Value → Option (DataW Value × List MemPlace) := fun v => some (.held v, [])
theorem strLaw : Keyed Tryz.prog 9 := string_keyed Tryz.underlying9
theorem strKey {s : List UInt8} (h : s.length ≤ 9223372036854775807) : keyOf Tryz.prog 9 (.string ⟨s.toArray⟩) = some (.string s) := by
  have := keyOf_string_mk Tryz.underlying9 (s := ⟨s.toArray⟩) (by unfold maxLen; exact h)
  simpa using this
/-- A map in a block, of at most n entries: what stands at each text. -/
def MpIn {α : Type} (enc : α → Value) (b n : Nat) (f : List UInt8 → Option α) (w : World) : Prop :=
  ∃ D : DataW Value, w.ownsMap Tryz.prog 9 hdR b n D ∧ ∀ s, Maps.has D (.string s) = (f s).isSome ∧ ∀ x, f s = some x → ∀ z, D.atKey (.string s) z = .held (enc x)
variable {α : Type} {enc : α → Value} {b n : Nat} {f : List UInt8 → Option α} {w w' : World}
theorem MpIn.lt (h : MpIn enc b n f w) : b < w.heap.size := by
  obtain ⟨D, h1, _⟩ := h
  exact h1.lt
theorem MpIn.same (h : MpIn enc b n f w) (hb : w'.heap[b]? = w.heap[b]?) : MpIn enc b n f w' := by
  obtain ⟨D, ⟨es, clock, h1, h2, h3, h4⟩, h5⟩ := h
  exact ⟨D, ⟨es, clock, hb.trans h1, h2, h3, h4⟩, h5⟩
theorem MpIn.next (h : MpIn enc b n f w) (hb : Below w.heap.size w w') : MpIn enc b n f w' := h.same (hb.block b h.lt)
theorem MpIn.mono (h : MpIn enc b n f w) {m : Nat} (hm : n ≤ m) : MpIn enc b m f w := by
  obtain ⟨D, h1, h2⟩ := h
  exact ⟨D, h1.mono hm, h2⟩
theorem MpIn.made (enc : α → Value) (w : World) : MpIn enc w.heap.size 0 (fun _ => none) (w.alloc (.map #[] 0)) :=
  ⟨.map [], World.ownsMap_made _ _ _ _, fun s => ⟨rfl, fun x h => by cases h⟩⟩
/-- What comes of a look-up. -/
def lkV (enc : α → Value) (z : Value) : Option α → Value
  | some x => enc x
  | none => z
theorem MpIn.look (h : MpIn enc b n f w) {t e : TypeId} (ht : Tryz.prog.underlying t = some (.map 9 e)) {z : Value} (hz : (zeroValue e).run Tryz.prog w = .ok z w) {s : List UInt8} (hs : s.length ≤ 9223372036854775807) :
    (Instr.lookup t (.map (some b)) (.string ⟨s.toArray⟩) true).run Tryz.prog w = .ok (.tuple #[lkV enc z (f s), .bool (f s).isSome]) w := by
  obtain ⟨D, hown, hf⟩ := h
  obtain ⟨v, ps, hrun, hv⟩ := hown.look_ok strLaw ht hz (zd := .held z) (zp := []) rfl (strKey hs)
  obtain ⟨h1, h2⟩ := hf s
  have hv' : DataW.held v = D.atKey (.string s) (.held z) := by
    have := congrArg Prod.fst (Option.some.inj hv)
    exact this
  have hvv : v = lkV enc z (f s) := by
    cases hfs : f s with
    | none =>
      rw [hfs] at h1
      rw [atKey_of_not_has h1] at hv'
      exact DataW.held.inj hv'
    | some x =>
      rw [h2 x hfs] at hv'
      exact DataW.held.inj hv'
  rw [hrun, h1, hvv]
/-- A text more. -/
def upd (f : List UInt8 → Option α) (s : List UInt8) (x : α) : List UInt8 → Option α := fun k => if k = s then some x else f k
theorem MpIn.put (h : MpIn enc b n f w) {t e : TypeId} (ht : Tryz.prog.underlying t = some (.map 9 e)) (hn : n < 4503599627370496) {s : List UInt8} (hs : s.length ≤ 9223372036854775807) (x : α) :
    ∃ w', (Instr.mapUpdate t (.map (some b)) (.string ⟨s.toArray⟩) (enc x)).run Tryz.prog w = .ok () w' ∧ MpIn enc b (n + 1) (upd f s x) w' ∧ w.grownBy w' (some b) := by
  obtain ⟨D, hown, hf⟩ := h
  obtain ⟨w', hrun, hown', hg⟩ := hown.update strLaw ht (by unfold maxLen; omega) (strKey hs) (val := enc x) (d := .held (enc x)) (ps := []) rfl
  have hD : IsMap D := hown.isMap
  refine ⟨w', hrun, ⟨_, hown', fun k => ?_⟩, hg⟩
  by_cases hk : k = s
  · subst hk
    refine ⟨?_, fun y hy z => ?_⟩
    · rw [has_put_same hD (show WideAt.IsKeyLit (.string k) from trivial)]
      unfold upd
      rw [if_pos rfl]
      rfl
    · unfold upd at hy
      rw [if_pos rfl] at hy
      cases hy
      exact atKey_put_same hD (show WideAt.IsKeyLit (.string k) from trivial) _ _
  · have hne : (Lit.string k) ≠ Lit.string s := fun e => hk (by cases e; rfl)
    have e : upd f s x k = f k := by unfold upd; rw [if_neg hk]
    rw [e, has_put_other hne]
    refine ⟨(hf k).1, fun y hy z => ?_⟩
    rw [atKey_put_other hne]
    exact (hf k).2 y hy z
theorem wpList_look_mp (w : World) {ops : Array Oper} {rest : List Oper} {o : Oper} {a : Act} {Q : Exit → Act → World → Prop}
    (hg : o.guard = none) (m x : Operand) (t e : TypeId) (hop : o.op = Op.lookup t m x true) (ht : Tryz.prog.underlying t = some (.map 9 e)) {z : Value} (hz : (zeroValue e).run Tryz.prog w = .ok z w)
    (hm : a.eval m = .map (some b)) (hI : MpIn enc b n f w) (s : List UInt8) (hx : a.eval x = .string ⟨s.toArray⟩) (hs : s.length ≤ 9223372036854775807) (v : Value) (hv : lkV enc z (f s) = v) (r : Bool) (hr : (f s).isSome = r)
    (hK : wpList Tryz.prog ops Q rest (a.put o.dst (.tuple #[v, .bool r])) w) :
    wpList Tryz.prog ops Q (o :: rest) a w := by
  refine wpList_plain hg fun K' hK' => ?_
  have hrun := hI.look ht hz hs
  rw [hv, hr] at hrun
  unfold Oper.wp
  simp [execOp, hop, hm, hx, hrun, Result.andThen]
  exact hK' _ _ hK
theorem wpList_put_mp (w : World) {ops : Array Oper} {rest : List Oper} {o : Oper} {a : Act} {Q : Exit → Act → World → Prop}
    (hg : o.guard = none) (m x v : Operand) (t e : TypeId) (hop : o.op = Op.mapUpdate t m x v) (ht : Tryz.prog.underlying t = some (.map 9 e))
    (hm : a.eval m = .map (some b)) (hI : MpIn enc b n f w) (hn : n < 4503599627370496) (s : List UInt8) (hx : a.eval x = .string ⟨s.toArray⟩) (hs : s.length ≤ 9223372036854775807) (y : α) (hv : a.eval v = enc y)
    (hK : ∀ w', MpIn enc b (n + 1) (upd f s y) w' → w.grownBy w' (some b) → wpList Tryz.prog ops Q rest (a.put o.dst undef) w') :
    wpList Tryz.prog ops Q (o :: rest) a w := by
  refine wpList_plain hg fun K' hK' => ?_
  obtain ⟨w', hrun, r1, r2⟩ := hI.put ht hn hs y
  unfold Oper.wp
  simp [execOp, hop, hm, hx, hv, hrun, Result.andThen]
  exact hK' _ _ (hK w' r1 r2)
end Go.Proofs.YtjadckhngalmlaaGreatDoor
namespace Go.Proofs.YtjadckhngalmlaaGreatDoor
set_option linter.unusedVariables false
set_option linter.unusedSimpArgs false

/-- What a name stands for. -/
structure BdP where
  kind : Int
  idx : Nat
  type : List UInt8
  deriving DecidableEq
def bd0 : BdP := ⟨0, 0, []⟩
/-- .. behind a place. -/
structure DcP where
  bd : BdP
  at' : Int
  deriving DecidableEq
abbrev MpP := List UInt8 → Option DcP
def mp0 : MpP := fun _ => none
abbrev updP (f : MpP) (s : List UInt8) (x : DcP) : MpP := upd f s x
structure ScP where
  m : MpP
  depth : Nat
def finD : Option DcP → BdP
  | some d => d.bd
  | none => bd0
def hitP (o : Option DcP) (i : Int) : Bool := match o with
  | some d => decide (d.at' < i)
  | none => false
/-- Look up: the innermost scope first. -/
def findP : List ScP → List UInt8 → Int → BdP
  | [], _, _ => bd0
  | s :: r, nm, i => if hitP (s.m nm) i || r.isEmpty then finD (s.m nm) else findP r nm i
def hasP : List ScP → List UInt8 → Bool
  | [], _ => false
  | s :: _, nm => (s.m nm).isSome
/-- Declare in the innermost scope. -/
def declP : List ScP → List UInt8 → BdP → Int → List ScP
  | [], _, _, _ => []
  | s :: r, nm, b, i => ⟨updP s.m nm ⟨b, i⟩, s.depth⟩ :: r
/-- The built-in names: getchar, putchar, exit, setjmp, longjmp, co_new, co_resume, co_yield, co_done, co_free. -/
def bltL : List (List UInt8 × List UInt8) :=
  [([103, 101, 116, 99, 104, 97, 114], [102, 40, 41, 105]), ([112, 117, 116, 99, 104, 97, 114], [102, 40, 105, 41, 105]), ([101, 120, 105, 116], [102, 40, 105, 41, 118]),
   ([115, 101, 116, 106, 109, 112], [102, 40, 112, 106, 41, 105]), ([108, 111, 110, 103, 106, 109, 112], [102, 40, 112, 106, 44, 105, 41, 118]), ([99, 111, 95, 110, 101, 119], [102, 40, 112, 102, 40, 105, 41, 105, 44, 105, 44, 105, 41, 105]),
   ([99, 111, 95, 114, 101, 115, 117, 109, 101], [102, 40, 105, 44, 105, 41, 105]), ([99, 111, 95, 121, 105, 101, 108, 100], [102, 40, 105, 41, 105]), ([99, 111, 95, 100, 111, 110, 101], [102, 40, 105, 41, 105]), ([99, 111, 95, 102, 114, 101, 101], [102, 40, 105, 41, 118])]
def bltG : Nat → List (List UInt8 × List UInt8) → MpP → MpP
  | _, [], f => f
  | i, x :: r, f => bltG (i + 1) r (updP f x.1 ⟨⟨4, i, x.2⟩, -1⟩)
def bltM : MpP := bltG 0 bltL mp0
def bltS : ScP := ⟨bltM, 0⟩
end Go.Proofs.YtjadckhngalmlaaGreatDoor
namespace Go.Proofs.YtjadckhngalmlaaGreatDoor
set_option linter.unusedVariables false
set_option linter.unusedSimpArgs false
set_option maxRecDepth 100000
open Go.RowKit

theorem cells3 {w : World} {g : Nat} {c0 c1 c2 : Value} {T : TypeId} (h : w.heap[g]? = some (.cells #[c0, c1, c2] T)) : w.cell? ⟨g, 0, none⟩ = some c0 ∧ w.cell? ⟨g, 1, none⟩ = some c1 ∧ w.cell? ⟨g, 2, none⟩ = some c2 ∧ ∀ i, w.frozen? ⟨g, i, none⟩ = false := by
  refine ⟨?_, ?_, ?_, fun i => Lib.frozen_of_heap h i⟩ <;> (rw [Lib.cell_of_heap h]; rfl)
theorem put3 {w : World} {g : Nat} {a0 a1 a2 : Value} {T : TypeId} (h : w.heap[g]? = some (.cells #[a0, a1, a2] T)) (c0 c1 c2 : Value) :
    (((w.setCell ⟨g, 0, none⟩ c0).setCell ⟨g, 1, none⟩ c1).setCell ⟨g, 2, none⟩ c2).heap[g]? = some (.cells #[c0, c1, c2] T) := heap_setCell_same _ g 2 _ _ c2 (heap_setCell_same _ g 1 _ _ c1 (heap_setCell_same _ g 0 _ _ c0 h))
theorem put3b {B : Nat} {w0 w : World} {g : Nat} (h : Below B w0 w) (hB : B ≤ g) (c0 c1 c2 : Value) : Below B w0 (((w.setCell ⟨g, 0, none⟩ c0).setCell ⟨g, 1, none⟩ c1).setCell ⟨g, 2, none⟩ c2) := ((h.setCell (p := ⟨g, 0, none⟩) hB c0).setCell (p := ⟨g, 1, none⟩) hB c1).setCell (p := ⟨g, 2, none⟩) hB c2
theorem w_grown {a b : World} {row : Option Nat} (h : Below a.heap.size a b) : a.grownBy b row := ⟨h.os, h.tape, h.output, h.size, fun k hk _ => h.block k hk⟩
theorem declZero (w : World) : (zeroValue 114).run Tryz.prog w = .ok (.agg #[.int .i64 0, .int .i64 0, .string ⟨#[]⟩, .int .i64 0]) w := by kernel_rfl
theorem mapDecl : Tryz.prog.underlying 96 = some (.map 9 114) := Tryz.underlying96
abbrev bdV (b : BdP) : Value := .agg #[.int .i64 b.kind, .int .i64 (b.idx : Int), .string ⟨b.type.toArray⟩]
abbrev dcV (d : DcP) : Value := .agg #[.int .i64 d.bd.kind, .int .i64 (d.bd.idx : Int), .string ⟨d.bd.type.toArray⟩, .int .i64 d.at']
/-- A scope in memory: its block, its map's block, at most so many names. -/
structure ScM where
  X : Nat
  M : Nat
  n : Nat
  s : ScP
abbrev scO (p : Option Addr) (M : Nat) (d : Nat) : Obj := .cells #[.pointer p, .map (some M), .int .i64 (d : Int)] 98
def ScIn (w : World) : List ScM → Option Addr → Prop
  | [], p => p = none
  | c :: r, p => p = some ⟨c.X, 0, none⟩ ∧ (∃ q, w.heap[c.X]? = some (scO q c.M c.s.depth) ∧ ScIn w r q) ∧ MpIn dcV c.M c.n c.s.m w
theorem ScIn.next {w w' : World} : ∀ {L : List ScM} {p : Option Addr}, ScIn w L p → Below w.heap.size w w' → ScIn w' L p
  | [], _, h, _ => h
  | c :: r, p, ⟨h1, ⟨q, h2, h3⟩, h4⟩, hb => ⟨h1, ⟨q, blk_on h2 hb, ScIn.next h3 hb⟩, h4.next hb⟩
theorem ScIn.same {w w' : World} : ∀ {L : List ScM} {p : Option Addr}, ScIn w L p → (∀ c ∈ L, w'.heap[c.X]? = w.heap[c.X]? ∧ w'.heap[c.M]? = w.heap[c.M]?) → ScIn w' L p
  | [], _, h, _ => h
  | c :: r, p, ⟨h1, ⟨q, h2, h3⟩, h4⟩, h => by
    have hc := h c (by simp)
    exact ⟨h1, ⟨q, hc.1.trans h2, ScIn.same h3 fun d hd => h d (by simp [hd])⟩, h4.same hc.2⟩
set_option maxHeartbeats 2000000 in
theorem c_within (p : Option Addr) (d : Nat) (w : World) :
    Calls Tryz.prog 24 #[.pointer p, .int .i64 (d : Int)] w fun e w' => e = .returned (.pointer (some ⟨w.heap.size + 1, 0, none⟩)) ∧ w' = (w.alloc (.map #[] 0)).alloc (scO p w.heap.size d) := by
  have hmm := @run_makeMap Tryz.prog
  go_enter Tryz.func24, Tryz.ntmps24
  go_wp2_with fail
  go_ret
  exact ⟨rfl, rfl⟩
theorem lk_dc (o : Option DcP) : ∃ (k i : Int) (s : ByteArray) (j : Int), lkV dcV (.agg #[.int .i64 0, .int .i64 0, .string ⟨#[]⟩, .int .i64 0]) o = .agg #[.int .i64 k, .int .i64 i, .string s, .int .i64 j] := by
  cases o with
  | none => exact ⟨_, _, _, _, rfl⟩
  | some d => exact ⟨_, _, _, _, rfl⟩
set_option maxHeartbeats 2000000 in
theorem c_has (X M n d : Nat) (q : Option Addr) (f : MpP) (nm : List UInt8) (hn : nm.length ≤ 9223372036854775807) (w : World) (hX : w.heap[X]? = some (scO q M d)) (hM : MpIn dcV M n f w) :
    Calls Tryz.prog 35 #[.pointer (some ⟨X, 0, none⟩), nmS nm] w fun e w' => e = .returned (.bool (f nm).isSome) ∧ Below w.heap.size w w' := by
  have z1 : w.cell? ⟨X, 1, none⟩ = some (.map (some M)) := by rw [Lib.cell_of_heap hX]; rfl
  have HM := Lib.hid hM
  obtain ⟨k, i, s, j, hv⟩ := lk_dc (f nm)
  have HV := Lib.hid hv
  obtain ⟨r, hr⟩ : ∃ r, (f nm).isSome = r := ⟨_, rfl⟩
  have HR := Lib.hid hr
  rw [hr]
  clear hM hv hr
  go_enter Tryz.func35, Tryz.ntmps35
  go_wp2_with (at_lookup; go_loud (refine wpList_look_mp _ rfl _ _ _ _ rfl mapDecl (declZero _) rfl HM.out nm rfl hn _ HV.out _ HR.out ?_))
  go_ret
  exact ⟨rfl, by first | exact below_o _ _ | exact (below_o _ _).drew | exact ((below_o _ _).drew).drew | exact Below.refl _ _ | exact (Below.refl _ _).drew⟩
set_option maxHeartbeats 2000000 in
theorem c_declare (X M n d : Nat) (q : Option Addr) (f : MpP) (nm : List UInt8) (hn : nm.length ≤ 9223372036854775807) (b : BdP) (i : Int) (w : World) (hX : w.heap[X]? = some (scO q M d)) (hM : MpIn dcV M n f w) (hl : n < 4503599627370496) :
    Calls Tryz.prog 42 #[.pointer (some ⟨X, 0, none⟩), nmS nm, bdV b, .int .i64 i] w fun e w' => e = .returned (.tuple #[]) ∧ MpIn dcV M (n + 1) (updP f nm ⟨b, i⟩) w' ∧ w.grownBy w' (some M) := by
  have z1 : w.cell? ⟨X, 1, none⟩ = some (.map (some M)) := by rw [Lib.cell_of_heap hX]; rfl
  have HM := Lib.hid (hM.next (below_o w (.cells #[.int .i64 b.kind, .int .i64 (b.idx : Int), .string ⟨b.type.toArray⟩] 49)))
  clear hM
  go_enter Tryz.func42, Tryz.ntmps42
  go_wp2_with fail
  refine wp_region_still_tail 8 (by kernel_rfl) (by kernel_rfl) ?_
  simp only [List.take_succ_cons, List.take_zero, List.drop_succ_cons, List.drop_zero]
  change wpStill _ _ (w.alloc (.cells #[.int .i64 b.kind, .int .i64 (b.idx : Int), .string ⟨b.type.toArray⟩] 49)).drew _ _ _
  have hy0 : (w.alloc (.cells #[.int .i64 b.kind, .int .i64 (b.idx : Int), .string ⟨b.type.toArray⟩] 49)).drew.heap[w.heap.size]? = some (.cells #[.int .i64 b.kind, .int .i64 (b.idx : Int), .string ⟨b.type.toArray⟩] 49) := heap_alloc_at _ _ rfl
  have HB : Hid (Below w.heap.size w (w.alloc (.cells #[.int .i64 b.kind, .int .i64 (b.idx : Int), .string ⟨b.type.toArray⟩] 49)).drew) := (below_o _ _).drew
  have HM2 : Hid (MpIn dcV M n f (w.alloc (.cells #[.int .i64 b.kind, .int .i64 (b.idx : Int), .string ⟨b.type.toArray⟩] 49)).drew) := HM.out.same rfl
  have hz1 : (w.alloc (.cells #[.int .i64 b.kind, .int .i64 (b.idx : Int), .string ⟨b.type.toArray⟩] 49)).drew.cell? ⟨X, 1, none⟩ = some (.map (some M)) := (HB.out.cell (p := ⟨X, 1, none⟩) (Array.getElem?_eq_some_iff.1 hX).1).trans z1
  generalize hW : (w.alloc (.cells #[.int .i64 b.kind, .int .i64 (b.idx : Int), .string ⟨b.type.toArray⟩] 49)).drew = W2 at hy0 HB HM2 hz1 ⊢
  have hW' : (w.alloc (.cells #[.int .i64 b.kind, .int .i64 (b.idx : Int), .string ⟨b.type.toArray⟩] 49)).drew = W2 := hW
  obtain ⟨y0, y1, y2, _⟩ := cells3 hy0
  clear z1
  repeat still_step
  refine wpStill_nil ?_
  change wpList _ _ _ _ _ (w.alloc (.cells #[.int .i64 b.kind, .int .i64 (b.idx : Int), .string ⟨b.type.toArray⟩] 49)).drew
  rw [hW']
  go_wp2_with (at_mapUpdate; go_loud (refine wpList_put_mp _ rfl _ _ _ _ _ rfl mapDecl rfl HM2.out hl nm rfl hn ⟨b, i⟩ rfl ?_); intro w4 hI4 hg4)
  go_end0
  exact ⟨rfl, hI4, (World.grownBy.trans (w_grown HB.out) hg4)⟩
/-- What is found: the value's letters. -/
theorem lk_fin (o : Option DcP) : ∃ (k i : Int) (s : ByteArray) (j : Int), lkV dcV (.agg #[.int .i64 0, .int .i64 0, .string ⟨#[]⟩, .int .i64 0]) o = .agg #[.int .i64 k, .int .i64 i, .string s, .int .i64 j] ∧ bdV (finD o) = .agg #[.int .i64 k, .int .i64 i, .string s] ∧ ∀ a : Int, hitP o a = (o.isSome && decide (j < a)) := by
  cases o with
  | none => exact ⟨_, _, _, _, rfl, rfl, fun a => rfl⟩
  | some d => exact ⟨_, _, _, _, rfl, rfl, fun a => rfl⟩
set_option maxHeartbeats 4000000 in
theorem c_find (nm : List UInt8) (hn : nm.length ≤ 9223372036854775807) (i : Int) : ∀ (L : List ScM) (p : Option Addr) (w : World), L ≠ [] → ScIn w L p →
    Calls Tryz.prog 45 #[.pointer p, nmS nm, .int .i64 i] w fun e w' => e = .returned (bdV (findP (L.map ScM.s) nm i)) ∧ Below w.heap.size w w'
  | [], _, _, h, _ => absurd rfl h
  | c :: r, p, w, _, ⟨hp, ⟨q, hX, hr⟩, hM⟩ => by
    subst hp
    have z0 : w.cell? ⟨c.X, 0, none⟩ = some (.pointer q) := by rw [Lib.cell_of_heap hX]; rfl
    have z1 : w.cell? ⟨c.X, 1, none⟩ = some (.map (some c.M)) := by rw [Lib.cell_of_heap hX]; rfl
    have HM := Lib.hid hM
    obtain ⟨k, ix, s, j, hv, hb, ha⟩ := lk_fin (c.s.m nm)
    have HV := Lib.hid hv
    obtain ⟨o, ho⟩ : ∃ o, (c.s.m nm).isSome = o := ⟨_, rfl⟩
    have HO := Lib.hid ho
    have hf : findP ((c :: r).map ScM.s) nm i = if (o && decide (j < i)) || r.isEmpty then finD (c.s.m nm) else findP (r.map ScM.s) nm i := by
      show (if _ then _ else _) = _
      rw [ha, ho, List.isEmpty_map]
    have HF := Lib.hid hf
    have HBd := Lib.hid hb
    have hlt := (Array.getElem?_eq_some_iff.1 hX).1
    have hb9 : ∀ (o1 o2 : Obj), Below w.heap.size w ((w.alloc o1).alloc o2) := fun o1 o2 => below_t (below_o _ _) (below_o _ _) (by simp)
    obtain ⟨t, ht⟩ : ∃ t, decide (j < i) = t := ⟨_, rfl⟩
    rw [ht] at hf
    obtain ⟨rv, hrv⟩ : ∃ rv, bdV (findP ((c :: r).map ScM.s) nm i) = rv := ⟨_, rfl⟩
    have HHit : Hid (((o && t) || r.isEmpty) = true → rv = .agg #[.int .i64 k, .int .i64 ix, .string s]) := fun h => by rw [← hrv, hf, if_pos h, hb]
    have HMis : Hid (((o && t) || r.isEmpty) = false → rv = bdV (findP (r.map ScM.s) nm i)) := fun h => by rw [← hrv, hf, if_neg (by rw [h]; decide)]
    rw [hrv]
    have HB9 := Lib.hid hb9
    have HZ9 : Hid (∀ (k ix : Int) (s : ByteArray) (j : Int) (w' : World), Below ((w.alloc (.cells #[.int .i64 0, .int .i64 0, .string ⟨#[]⟩] 49)).alloc (.cells #[.int .i64 k, .int .i64 ix, .string s, .int .i64 j] 114)).heap.size ((w.alloc (.cells #[.int .i64 0, .int .i64 0, .string ⟨#[]⟩] 49)).alloc (.cells #[.int .i64 k, .int .i64 ix, .string s, .int .i64 j] 114)) w' → w'.heap[w.heap.size]? = some (.cells #[.int .i64 0, .int .i64 0, .string ⟨#[]⟩] 49)) := fun k ix s j w' h => blk_on (blk_on (heap_alloc_at (w := w) _ _ rfl) (below_o _ _)) h
    have HIH : Hid (r ≠ [] → Calls Tryz.prog 45 #[.pointer q, nmS nm, .int .i64 i] ((w.alloc (.cells #[.int .i64 0, .int .i64 0, .string ⟨#[]⟩] 49)).alloc (.cells #[.int .i64 k, .int .i64 ix, .string s, .int .i64 j] 114)) fun e w' => e = .returned (bdV (findP (r.map ScM.s) nm i)) ∧ Below ((w.alloc (.cells #[.int .i64 0, .int .i64 0, .string ⟨#[]⟩] 49)).alloc (.cells #[.int .i64 k, .int .i64 ix, .string s, .int .i64 j] 114)).heap.size ((w.alloc (.cells #[.int .i64 0, .int .i64 0, .string ⟨#[]⟩] 49)).alloc (.cells #[.int .i64 k, .int .i64 ix, .string s, .int .i64 j] 114)) w') := fun hne =>
      c_find nm hn i r q _ hne (hr.next (below_t (below_o _ _) (below_o _ _) (by simp)))
    obtain ⟨X, hXe⟩ : ∃ X, c.X = X := ⟨_, rfl⟩
    obtain ⟨M, hMe⟩ : ∃ M, c.M = M := ⟨_, rfl⟩
    rw [hXe] at z0 z1 hlt ⊢
    rw [hMe] at z1 HM
    have hq : (r = [] ∧ q = none) ∨ (r ≠ [] ∧ ∃ Y, q = some ⟨Y, 0, none⟩) := by
      cases r with
      | nil => exact .inl ⟨rfl, hr⟩
      | cons c2 r2 => exact .inr ⟨by simp, c2.X, hr.1⟩
    clear hM hv ho hf hb ha hr hrv hX hXe hMe hb9
    rcases hq with ⟨rfl, rfl⟩ | ⟨hne, Y, rfl⟩
    · have hrv := HHit.out (by simp)
      subst hrv
      cases o <;> cases t
      all_goals
        go_enter Tryz.func45, Tryz.ntmps45
        go_wp2_with (at_lookup; refine wpList_look_mp _ rfl _ _ _ _ rfl mapDecl (declZero _) rfl (HM.out.next (below_o _ _)) nm rfl hn _ HV.out _ HO.out ?_)
        refine bodyPost_ret (v := .agg #[.int .i64 k, .int .i64 ix, .string s]) (by simp [results, Tryz.results45, go_sem]) rfl ?_
        exact ⟨rfl, HB9.out _ _⟩
    · have HI := Lib.hid (HIH.out hne)
      have hie : r.isEmpty = false := by cases r with
        | nil => exact absurd rfl hne
        | cons a b => rfl
      rw [hie, Bool.or_false] at HHit HMis
      cases o <;> cases t
      case true.true =>
        have hrv := HHit.out rfl
        subst hrv
        go_enter Tryz.func45, Tryz.ntmps45
        go_wp2_with (at_lookup; refine wpList_look_mp _ rfl _ _ _ _ rfl mapDecl (declZero _) rfl (HM.out.next (below_o _ _)) nm rfl hn _ HV.out _ HO.out ?_)
        refine bodyPost_ret (v := .agg #[.int .i64 k, .int .i64 ix, .string s]) (by simp [results, Tryz.results45, go_sem]) rfl ?_
        exact ⟨rfl, HB9.out _ _⟩
      all_goals
        have hrv := HMis.out rfl
        subst hrv
        obtain ⟨fv, hfv⟩ : ∃ fv, findP (r.map ScM.s) nm i = fv := ⟨_, rfl⟩
        rw [hfv] at HI ⊢
        clear hfv HIH HHit HMis
        go_enter Tryz.func45, Tryz.ntmps45
        go_wp2_with (at_lookup; refine wpList_look_mp _ rfl _ _ _ _ rfl mapDecl (declZero _) rfl (HM.out.next (below_o _ _)) nm rfl hn _ HV.out _ HO.out ?_)
        refine HI.out.mono ?_
        rintro e w' ⟨rfl, hb'⟩
        have hz' := HZ9.out _ _ _ _ w' hb'
        obtain ⟨r0, r1, r2, rf⟩ := cells3 hz'
        have rf0 := rf 0
        have rf1 := rf 1
        have rf2 := rf 2
        have HB' := Lib.hid (And.intro hz' (below_t (HB9.out _ _) hb' (HB9.out _ _).size))
        have hl' : w.heap.size < w'.heap.size := (Array.getElem?_eq_some_iff.1 hz').1
        clear hb' rf hz'
        go_wp2_with fail
        have hz9 := put3 HB'.out.1 (.int .i64 fv.kind) (.int .i64 (fv.idx : Int)) (.string ⟨fv.type.toArray⟩)
        have hb9 := put3b HB'.out.2 (Nat.le_refl _) (.int .i64 fv.kind) (.int .i64 (fv.idx : Int)) (.string ⟨fv.type.toArray⟩)
        generalize ((w'.setCell ⟨w.heap.size, 0, none⟩ (.int .i64 fv.kind)).setCell ⟨w.heap.size, 1, none⟩ (.int .i64 (fv.idx : Int))).setCell ⟨w.heap.size, 2, none⟩ (.string ⟨fv.type.toArray⟩) = w9 at hz9 hb9 ⊢
        obtain ⟨p0, p1, p2, _⟩ := cells3 hz9
        refine bodyPost_ret (v := bdV fv) (by simp [results, Tryz.results45, go_sem, p0, p1, p2]) rfl ?_
        exact ⟨rfl, hb9⟩
end Go.Proofs.YtjadckhngalmlaaGreatDoor
namespace Go.Proofs.YtjadckhngalmlaaGreatDoor
set_option linter.unusedVariables false
set_option linter.unusedSimpArgs false
set_option maxRecDepth 100000
open Go.RowKit

def bltCs : List Value := bltL.flatMap fun x => [nmS x.1, nmS x.2, .bool false]
set_option maxHeartbeats 4000000 in
theorem c_Built (w : World) :
    Calls Tryz.prog 41 #[] w fun e w' => e = .returned (.slice (some ⟨w.heap.size, 0, none⟩) 10 10) ∧ w' = w.alloc (.cells bltCs.toArray 58) := by
  go_enter Tryz.func41, Tryz.ntmps41
  go_wp2_with fail
  go_ret
  exact ⟨rfl, rfl⟩
theorem bltG_snoc : ∀ (l : List (List UInt8 × List UInt8)) (i : Nat) (x : List UInt8 × List UInt8) (f : MpP), bltG i (l ++ [x]) f = updP (bltG i l f) x.1 ⟨⟨4, i + l.length, x.2⟩, -1⟩
  | [], i, x, f => rfl
  | y :: l, i, x, f => by
    show bltG (i + 1) (l ++ [x]) _ = _
    rw [bltG_snoc l (i + 1) x]
    show _ = updP (bltG (i + 1) l _) _ _
    congr 3
    simp
    omega
theorem blt_take {q : Nat} {x : List UInt8 × List UInt8} (h : bltL[q]? = some x) : bltG 0 (bltL.take (q + 1)) mp0 = updP (bltG 0 (bltL.take q) mp0) x.1 ⟨⟨4, q, x.2⟩, -1⟩ := by
  have hq : q < bltL.length := (List.getElem?_eq_some_iff.1 h).1
  rw [List.take_succ_eq_append_getElem hq, (List.getElem?_eq_some_iff.1 h).2, bltG_snoc, List.length_take, Nat.min_eq_left (by omega)]
  simp
theorem blt_cell : ∀ q, q < 10 → ∃ x, bltL[q]? = some x ∧ bltCs[q * 3 + 0]? = some (nmS x.1) ∧ bltCs[q * 3 + 1]? = some (nmS x.2) ∧ bltCs[q * 3 + 2]? = some (.bool false) ∧ x.1.length ≤ 20 := by
  intro q hq
  match q, hq with
  | 0, _ => exact ⟨_, rfl, rfl, rfl, rfl, by decide⟩
  | 1, _ => exact ⟨_, rfl, rfl, rfl, rfl, by decide⟩
  | 2, _ => exact ⟨_, rfl, rfl, rfl, rfl, by decide⟩
  | 3, _ => exact ⟨_, rfl, rfl, rfl, rfl, by decide⟩
  | 4, _ => exact ⟨_, rfl, rfl, rfl, rfl, by decide⟩
  | 5, _ => exact ⟨_, rfl, rfl, rfl, rfl, by decide⟩
  | 6, _ => exact ⟨_, rfl, rfl, rfl, rfl, by decide⟩
  | 7, _ => exact ⟨_, rfl, rfl, rfl, rfl, by decide⟩
  | 8, _ => exact ⟨_, rfl, rfl, rfl, rfl, by decide⟩
  | 9, _ => exact ⟨_, rfl, rfl, rfl, rfl, by decide⟩
/-- While the built-in names are declared. -/
structure BtI (w : World) (X M RB q : Nat) (wr : World) : Prop where
  sc : wr.heap[X]? = some (scO none M 0)
  mp : MpIn dcV M q (bltG 0 (bltL.take q) mp0) wr
  row : wr.heap[RB]? = some (.cells bltCs.toArray 58)
  bel : Below w.heap.size w wr
set_option maxHeartbeats 4000000 in
theorem c_builtScope (w : World) :
    Calls Tryz.prog 27 #[] w fun e w' => ∃ X M, e = .returned (.pointer (some ⟨X, 0, none⟩)) ∧ w'.heap[X]? = some (scO none M 0) ∧ MpIn dcV M 10 bltM w' ∧ w.heap.size ≤ X ∧ w.heap.size ≤ M ∧ Below w.heap.size w w' := by
  go_enter Tryz.func27, Tryz.ntmps27
  go_wp2_with (first
    | (go_at_call 24; refine (c_within none 0 _).mono ?_; rintro e w1 ⟨rfl, rfl⟩)
    | (go_at_call 41; refine (c_Built _).mono ?_; rintro e w1 ⟨rfl, rfl⟩))
  have hI0 : BtI w (w.heap.size + 1) w.heap.size (w.heap.size + 1 + 1) 0 (((w.alloc (.map #[] 0)).alloc (scO none w.heap.size 0)).alloc (.cells bltCs.toArray 58)) := by
    refine ⟨?_, ?_, heap_alloc_at _ _ (by simp), ?_⟩
    · exact blk_on (heap_alloc_at (w := w.alloc (.map #[] 0)) _ _ (by simp)) (below_o _ _)
    · exact ((MpIn.made dcV w).next (below_o _ _)).next (below_o _ _)
    · exact below_t (below_t (below_o _ _) (below_o _ _) (by simp)) (below_o _ _) (by simp; omega)
  have HI0 := Lib.hid hI0
  obtain ⟨X, hX⟩ : ∃ X, w.heap.size + 1 = X := ⟨_, rfl⟩
  obtain ⟨M, hM⟩ : ∃ M, w.heap.size = M := ⟨_, rfl⟩
  obtain ⟨RB, hRB⟩ : ∃ RB, X + 1 = RB := ⟨_, rfl⟩
  have HXM := Lib.hid (And.intro hX (And.intro hM hRB))
  have hI0 : BtI w X M RB 0 (((w.alloc (.map #[] 0)).alloc (scO none M 0)).alloc (.cells bltCs.toArray 58)) := by
    subst hX hM hRB
    exact HI0.out
  have HI0 := Lib.hid hI0
  rw [hX, hRB]
  rw [show scO none w.heap.size 0 = scO none M 0 by rw [hM]]
  clear hI0 hX hM hRB
  go_loopg [7] 10 (fun g v7 wr => ∃ q : Nat, q + g = 10 ∧ v7 = .int .i64 (q : Int) ∧ Hid (BtI w X M RB q wr))
  case atStart => exact ⟨0, by omega, rfl, HI0.out⟩
  case round =>
    obtain ⟨q, hq, rfl, HRl⟩ := hrel
    by_cases hlt : q < 10
    · have hd : decide ((q : Int) < (10 : Int)) = true := by simp; omega
      obtain ⟨x, hx, x0, x1, x2, hxl⟩ := blt_cell q hlt
      have hrow := HRl.out.row
      have c0 : wr.cell? ⟨RB, q * 3 + 0, none⟩ = some (nmS x.1) := by rw [Lib.cell_of_heap hrow]; simpa using x0
      have c1 : wr.cell? ⟨RB, q * 3 + 1, none⟩ = some (nmS x.2) := by rw [Lib.cell_of_heap hrow]; simpa using x1
      have c2 : wr.cell? ⟨RB, q * 3 + 2, none⟩ = some (.bool false) := by rw [Lib.cell_of_heap hrow]; simpa using x2
      rw [Nat.add_zero] at c0
      have hlt2 : RB < wr.heap.size := (Array.getElem?_eq_some_iff.1 hrow).1
      have HT := Lib.hid (blt_take hx)
      obtain ⟨nm, ty⟩ := x
      simp only at c0 c1 HT hxl
      have hq0 : (0 : Int) ≤ (q : Int) := by omega
      have hql : (q : Int) < (10 : Int) := by omega
      have hwm : IntKind.i64.wrap ((q : Int) + 1) = ((q + 1 : Nat) : Int) := by rw [IntKind.wrap_i64]; omega
      have HMm : Hid (10 - (q + 1) < gk ∧ q + 1 + (10 - (q + 1)) = 10) := ⟨by omega, by omega⟩
      have HB1 := Lib.hid (below_o wr (.cells #[nmS nm, nmS ty, .bool false] 58))
      have HD := Lib.hid (c_declare X M q 0 none (bltG 0 (bltL.take q) mp0) nm (by omega) ⟨4, q, ty⟩ (-1) (wr.alloc (.cells #[nmS nm, nmS ty, .bool false] 58)) (blk_on HRl.out.sc HB1.out) (HRl.out.mp.next HB1.out) (by omega))
      clear hx x0 x1 x2 hrow hxl hlt hq
      go_wp2_with fail
      refine HD.out.mono ?_
      rintro e w' ⟨rfl, hmp, hg⟩
      have hne : X ≠ M := by have := HXM.out; omega
      have hN : BtI w X M RB (q + 1) w' := by
        have hl1 : X < wr.heap.size := (Array.getElem?_eq_some_iff.1 HRl.out.sc).1
        have e1 := hg.block X (Nat.lt_of_lt_of_le hl1 HB1.out.size) (by simpa using hne)
        have e2 := hg.block RB (Nat.lt_of_lt_of_le hlt2 HB1.out.size) (by have := HXM.out; simp; omega)
        refine ⟨e1.trans (blk_on HRl.out.sc HB1.out), ?_, e2.trans (blk_on HRl.out.row HB1.out), ?_⟩
        · rw [HT.out]
          exact hmp
        · exact (below_t HRl.out.bel HB1.out HRl.out.bel.size).grown hg (Nat.le_trans HRl.out.bel.size HB1.out.size) (fun k e => by cases e; have := HXM.out; omega)
      have HN := Lib.hid hN
      clear hmp hg hN HRl HD
      go_wp2_with fail
      go_roundg (10 - (q + 1))
      case measure => exact HMm.out.1
      case rel => exact ⟨q + 1, HMm.out.2, rfl, HN.out⟩
    · have hd : decide ((q : Int) < (10 : Int)) = false := by simp; omega
      obtain rfl : q = 10 := by omega
      go_wp2_with fail
      go_ret
      have h := HRl.out
      exact ⟨X, M, rfl, h.sc, h.mp, by have := HXM.out; omega, by have := HXM.out; omega, h.bel⟩
end Go.Proofs.YtjadckhngalmlaaGreatDoor
