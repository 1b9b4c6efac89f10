/-
  Plain: which tokens there are, and how they are laid.
-/
import Derived.Test.YtbccabpcljkamaaDoorLexPure
import Derived.Lib.ItoaNum
namespace Go.Proofs.YtbccabpcljkamaaDoor
set_option linter.unusedVariables false
set_option linter.unusedSimpArgs false

def ltrI (c : Int) : Bool := (decide (97 ≤ c) && decide (c ≤ 122)) || (decide (65 ≤ c) && decide (c ≤ 90)) || c == 95
def digI (c : Int) : Bool := decide (48 ≤ c) && decide (c ≤ 57)
def ltr8 (c : UInt8) : Bool := ltrI c.toNat
def dig8 (c : UInt8) : Bool := digI c.toNat
def wrd8 (c : UInt8) : Bool := ltr8 c || dig8 c
def keyTab : List (List UInt8) := [[118, 111, 105, 100], [99, 104, 97, 114], [115, 104, 111, 114, 116], [105, 110, 116], [117, 110, 115, 105, 103, 110, 101, 100], [115, 116, 114, 117, 99, 116], [118, 111, 108, 97, 116, 105, 108, 101], [105, 102], [101, 108, 115, 101], [119, 104, 105, 108, 101], [100, 111], [102, 111, 114], [115, 119, 105, 116, 99, 104], [99, 97, 115, 101], [100, 101, 102, 97, 117, 108, 116], [98, 114, 101, 97, 107], [99, 111, 110, 116, 105, 110, 117, 101], [114, 101, 116, 117, 114, 110], [115, 105, 122, 101, 111, 102], [106, 109, 112, 95, 98, 117, 102]]
def markTab : List (List UInt8) := [[60, 60, 61], [62, 62, 61], [45, 62], [43, 43], [45, 45], [60, 60], [62, 62], [60, 61], [62, 61], [61, 61], [33, 61], [38, 38], [124, 124], [42, 61], [47, 61], [37, 61], [43, 61], [45, 61], [38, 61], [94, 61], [124, 61], [123], [125], [40], [41], [91], [93], [59], [44], [46], [38], [42], [43], [45], [126], [33], [47], [37], [60], [62], [94], [124], [63], [58], [61]]
@[irreducible] def keyB (l : List UInt8) : Bool := keyTab.contains l
@[irreducible] def markB (l : List UInt8) : Bool := markTab.contains l
/-- A letter first, then letters and digits. -/
@[irreducible] def wordB (l : List UInt8) : Bool := decide (l ≠ []) && ltr8 (l[0]?.getD 0) && l.all wrd8
@[irreducible] def nameB (l : List UInt8) : Bool := decide (l.length ≤ 31) && wordB l && !keyB l
@[irreducible] def numB (n : Int) (l : List UInt8) : Bool := decide (-128 ≤ n) && decide (n ≤ 4294967295) && (if n < 0 then l == [] else if 2147483648 ≤ n then l == [117] else (l == [] || l == [117]))
/-- Is a token such as is read? -/
@[irreducible] def tokB (k n : Int) (l : List UInt8) : Bool :=
  if k = 3 then numB n l else n == 0 && (if k = 1 then nameB l else if k = 2 then keyB l else if k = 4 then decide (l.length ≤ 4096) else if k = 5 then markB l else false)
/-- A token as it is laid. -/
@[irreducible] def wrdL (k n : Int) (l : List UInt8) : List UInt8 :=
  if k = 3 then (if n < 0 then quoL 39 [UInt8.ofNat (n % 256).toNat] else if l = [117] ∧ n < 2147483648 then Lib.itoa n ++ [117] else Lib.itoa n) else if k = 4 then quoL 34 l else l
structure Tk where
  kind : Int
  at' : Int
  int : Int
  text : List UInt8
def Tk.ok (t : Tk) : Bool := tokB t.kind t.int t.text
def Tk.word (t : Tk) : List UInt8 := wrdL t.kind t.int t.text
/-- Tokens, each with a blank ahead; with a blank between two. -/
def layP (L : List Tk) : List UInt8 := L.flatMap fun t => 32 :: t.word
@[irreducible] def layL (L : List Tk) : List UInt8 := (layP L).drop 1
theorem lay_nil : layL [] = [] := by unfold layL layP; rfl
theorem lay_one (t : Tk) : layL [t] = t.word := by unfold layL layP; simp
theorem lay_snoc (L : List Tk) (t : Tk) (h : 0 < L.length) : layL (L ++ [t]) = layL L ++ [32] ++ t.word := by
  cases L with
  | nil => simp at h
  | cons x L =>
    unfold layL layP
    simp
end Go.Proofs.YtbccabpcljkamaaDoor
