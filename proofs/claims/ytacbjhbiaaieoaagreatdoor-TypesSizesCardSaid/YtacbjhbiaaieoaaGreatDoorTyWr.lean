/-
  The contracts of the writer of declarations: a base, a bracket, what stands ahead, in the code.
-/
import Derived.Test.YtacbjhbiaaieoaaGreatDoorTyBuf
import Derived.Test.YtacbjhbiaaieoaaGreatDoorTyLr
import Derived.Test.YtacbjhbiaaieoaaGreatDoorTyDe
namespace Go.Proofs.YtacbjhbiaaieoaaGreatDoor
set_option linter.unusedVariables false
set_option linter.unusedSimpArgs false
set_option maxRecDepth 100000
open Go.RowKit

theorem bAt_next {T e : TypeId} {B b : Nat} {p : Value} {bs : List Value} {w w' : World} (h : Lib.BuilderAt T e B b p bs w) (hb : Below w.heap.size w w') : Lib.BuilderAt T e B b p bs w' := by
  have hlt := h.lt
  obtain ⟨hB, v, hbk, hown, hne⟩ := h
  exact ⟨hB, v, (hb.block b hlt).trans hbk, own_far hown (fun g hg _ => hb.block g (hown.lt g hg).2), hne⟩
theorem WrAt.next {B b : Nat} {l : List UInt8} {w w' : World} (h : WrAt B b l w) (hb : Below w.heap.size w w') : WrAt B b l w' := by
  rcases h with h | h
  · exact .inl (bAt_next h hb)
  · exact .inr (bAt_next h hb)
theorem frb_on {B b : Nat} {w w1 w2 : World} (h : Below w.heap.size w w1) (k : FrB B b w1 w2) (hB : B ≤ w.heap.size) : FrB B b w w2 := (FrB.of h hB).trans k
theorem frb_at {B b : Nat} {w w1 : World} (h : FrB B b w w1) (hB : B ≤ w.heap.size) : B ≤ w1.heap.size := Nat.le_trans hB h.size
set_option maxHeartbeats 2000000 in
theorem c_base0 (B b : Nat) (l : List UInt8) (x0 : Int) (s1 : ByteArray) (x2 : Int) (s3 : ByteArray) (a : Option Addr) (n c : Nat) (h : x0 = 99 ∨ x0 = 105) (w : World) (hW : WrAt B b l w) (hB : B ≤ w.heap.size) (hl : l.length + 4 ≤ 140737488355328) :
    Calls Tryz.prog 89 #[.pointer (some ⟨b, 0, none⟩), nV x0 s1 x2 s3 a n c] w fun e w' => e = .returned (.tuple #[]) ∧ WrAt B b (l ++ (if x0 = 99 then [99, 104, 97, 114] else [105, 110, 116])) w' ∧ FrB B b w w' := by
  have HW := Lib.hid (fun w' (hb : Below w.heap.size w w') (s : List UInt8) (hs : s.length ≤ 4) => c_WriteString B b l s w' (hW.next hb) (by omega) (Nat.le_trans hB hb.size))
  rcases h with rfl | rfl
  all_goals
    go_enter Tryz.func89, Tryz.ntmps89
    go_wp2_with fail
  · refine (HW.out _ (below_a _ _) [99, 104, 97, 114] (by decide)).mono ?_
    rintro e w2 ⟨rfl, h2, hb2⟩
    go_wp2_with fail
    go_end0
    exact ⟨rfl, h2, frb_on (below_a _ _) hb2 hB⟩
  · refine (HW.out _ (below_a _ _) [105, 110, 116] (by decide)).mono ?_
    rintro e w2 ⟨rfl, h2, hb2⟩
    go_wp2_with fail
    go_end0
    exact ⟨rfl, h2, frb_on (below_a _ _) hb2 hB⟩
def brI (x : Int) : Bool := x == 97 || x == 102
set_option maxHeartbeats 2000000 in
theorem c_isBr (t u : Ty) (A : List Ty) (ht : t.parts = A ++ [u]) (hA : A.length ≤ 65536) (x0 : Int) (s1 : ByteArray) (x2 : Int) (s3 : ByteArray) (a : Option Addr) (n c : Nat) (hV : ndV t (.slice a n c) = nV x0 s1 x2 s3 a n c) (y : Int) (hy : (u.letter.toNat : Int) = y) (w : World) (hN : NdIn t (.slice a n c) w) :
    Calls Tryz.prog 111 #[nV x0 s1 x2 s3 a n c] w fun e w' => e = .returned (.bool (brI y)) ∧ Below w.heap.size w w' := by
  have HI := Lib.hid (c_inner _ t _ _ (hN.next (below_a w (.cells #[.int .u8 x0, .string s1, .int .i64 x2, .string s3, .slice a n c] 68))) A u ht hA)
  rw [hV] at HI
  have HV : Hid (∀ a' n' c', ndV u (.slice a' n' c') = .agg #[.int .u8 y, .string ⟨u.code.toArray⟩, .int .i64 u.count, .string ⟨u.tag.toArray⟩, .slice a' n' c']) := fun a' n' c' => by rw [nd_val, hy]
  clear hN hV
  unfold brI
  go_enter Tryz.func111, Tryz.ntmps111
  go_wp2_with fail
  refine HI.out.mono ?_
  rintro e w2 ⟨⟨a', n', c', rfl, hn⟩, hb⟩
  have HB := Lib.hid (below_on (below_a w (.cells #[.int .u8 x0, .string s1, .int .i64 x2, .string s3, .slice a n c] 68)) hb (by simp))
  rw [HV.out]
  have hfd : ∀ W : World, (Instr.field 68 (.agg #[.int .u8 y, .string ⟨u.code.toArray⟩, .int .i64 u.count, .string ⟨u.tag.toArray⟩, .slice a' n' c']) 0).run Tryz.prog W = .ok (.int .u8 y) W := fun _ => by kernel_rfl
  clear hb hn HI HV
  cases h97 : y == 97
  all_goals
    go_wp2_with fail
    go_ret
    refine ⟨?_, HB.out⟩
    rw [h97]
    rfl
set_option maxHeartbeats 2000000 in
theorem c_ahead0 (B b : Nat) (l : List UInt8) (x0 : Int) (s1 : ByteArray) (x2 : Int) (s3 : ByteArray) (a : Option Addr) (n c : Nat) (h : (x0 == 112) = false) (w : World) (hW : WrAt B b l w) (hB : B ≤ w.heap.size) :
    Calls Tryz.prog 90 #[.pointer (some ⟨b, 0, none⟩), nV x0 s1 x2 s3 a n c] w fun e w' => e = .returned (.tuple #[]) ∧ WrAt B b l w' ∧ FrB B b w w' := by
  have HW := Lib.hid (fun w' (hb : Below w.heap.size w w') => hW.next hb)
  have h2 : ¬ x0 = 112 := by simpa using h
  clear hW
  go_enter Tryz.func90, Tryz.ntmps90
  go_wp2_with fail
  refine bodyPost_ret (v := .tuple #[]) (by simp [results, Tryz.results90, go_sem]) rfl ?_
  exact ⟨rfl, HW.out _ (below_a _ _), FrB.of (below_a _ _) hB⟩
set_option maxHeartbeats 2000000 in
/-- What stands ahead of a pointer. -/
theorem c_aheadP (B b : Nat) (l : List UInt8) (s1 : ByteArray) (x2 : Int) (s3 : ByteArray) (a : Option Addr) (n c : Nat) (q : Bool) (w : World) (hW : WrAt B b l w) (hB : B ≤ w.heap.size) (hl : l.length + (if q then [40, 42] else [42] : List UInt8).length ≤ 140737488355328)
    (hI : ∀ w', Below w.heap.size w w' → Calls Tryz.prog 111 #[nV 112 s1 x2 s3 a n c] w' fun e w'' => e = .returned (.bool q) ∧ Below w'.heap.size w' w'') :
    Calls Tryz.prog 90 #[.pointer (some ⟨b, 0, none⟩), nV 112 s1 x2 s3 a n c] w fun e w' => e = .returned (.tuple #[]) ∧ WrAt B b (l ++ (if q then [40, 42] else [42])) w' ∧ FrB B b w w' := by
  have HW := Lib.hid (fun w' (hb : Below w.heap.size w w') => hW.next hb)
  have HI := Lib.hid (hI _ (below_a w (.cells #[.int .u8 112, .string s1, .int .i64 x2, .string s3, .slice a n c] 68)))
  clear hW hI
  go_enter Tryz.func90, Tryz.ntmps90
  go_wp2_with fail
  refine HI.out.mono ?_
  rintro e w2 ⟨rfl, hb⟩
  have HB2 := Lib.hid (below_on (below_a w (.cells #[.int .u8 112, .string s1, .int .i64 x2, .string s3, .slice a n c] 68)) hb (by simp))
  clear hb HI
  cases q
  · have hl1 : l.length + 1 ≤ 140737488355328 := hl
    go_wp2_with fail
    refine (c_WriteString B b l [42] _ (HW.out _ HB2.out) (by simp; omega) (Nat.le_trans hB HB2.out.size)).mono ?_
    rintro e w3 ⟨rfl, h3, hb3⟩
    go_wp2_with fail
    go_end0
    exact ⟨rfl, h3, frb_on HB2.out hb3 hB⟩
  · have hl2 : l.length + 2 ≤ 140737488355328 := hl
    go_wp2_with fail
    refine (c_WriteString B b l [40] _ (HW.out _ HB2.out) (by simp; omega) (Nat.le_trans hB HB2.out.size)).mono ?_
    rintro e w3 ⟨rfl, h3, hb3⟩
    have HF3 := Lib.hid (frb_on HB2.out hb3 hB)
    have HW3 := Lib.hid h3
    clear h3 hb3
    go_wp2_with fail
    refine (c_WriteString B b (l ++ [40]) [42] _ HW3.out (by simp; omega) (frb_at HF3.out hB)).mono ?_
    rintro e w4 ⟨rfl, h4, hb4⟩
    go_wp2_with fail
    go_end0
    exact ⟨rfl, by simpa using h4, HF3.out.trans hb4⟩
end Go.Proofs.YtacbjhbiaaieoaaGreatDoor
