/-
  The contracts of a right token, of Itoa and of a token's word, in the document's answers.
-/
import Derived.Test.YtnenhehnoolhlaaDoorLexRef2
import Derived.Test.YtnenhehnoolhlaaDoorLexTok6
namespace Go.Proofs.YtnenhehnoolhlaaDoor
set_option linter.unusedVariables false
set_option linter.unusedSimpArgs false
set_option maxRecDepth 100000
open Go.RowKit

theorem num_eq (n : Int) (l : List UInt8) : numB n l = if l = [117] then decide (0 ≤ n) && decide (n < 4294967296) else l == [] && decide (-128 ≤ n) && decide (n < 2147483648) := by
  unfold numB
  rw [Bool.eq_iff_iff]
  by_cases h : l = [117]
  · subst h
    rw [if_pos rfl]
    by_cases h0 : n < 0
    · simp [h0]; omega
    · by_cases h2 : 2147483648 ≤ n
      · simp [h0, h2]; try omega
      · simp [h0, h2]; omega
  · rw [if_neg h]
    by_cases h0 : n < 0
    · simp [h0]
      constructor
      · rintro ⟨⟨h1, h2⟩, h3⟩; exact ⟨⟨h3, h1⟩, by omega⟩
      · rintro ⟨⟨h3, h1⟩, h2⟩; exact ⟨⟨h1, by omega⟩, h3⟩
    · by_cases h2 : 2147483648 ≤ n
      · simp [h0, h2, h]
      · simp [h0, h2, h]
        constructor
        · rintro ⟨⟨h1, h4⟩, h3⟩; exact ⟨⟨h3, h1⟩, by omega⟩
        · rintro ⟨⟨h3, h1⟩, h4⟩; exact ⟨⟨h1, by omega⟩, h3⟩
theorem c_inMarks (l : List UInt8) (w : World) (g : Nat) (hg : g = w.heap.size) : Calls Tryd.prog 23 #[.slice (some ⟨g, 0, none⟩) 45 45, .string ⟨l.toArray⟩] (w.alloc (.cells (strA markTab) 9)).drew fun e w' => e = .returned (.bool (markB l)) ∧ (w.alloc (.cells (strA markTab) 9)).drew = w' := by
  subst hg
  have h := c_In w.heap.size 45 45 markTab l (w.alloc (.cells (strA markTab) 9)).drew (by decide) (by decide) (by decide) (fun k s hs => str_at markTab w k s hs)
  have e : markB l = markTab.contains l := by unfold markB; rfl
  rw [e]
  exact h
set_option maxHeartbeats 2000000 in
theorem c_good5 (a n : Int) (l : List UInt8) (w : World) (h0 : (n != 0) = false) :
    Calls Tryd.prog 11 #[.agg #[.int .i64 5, .int .i64 a, .int .i64 n, .string ⟨l.toArray⟩]] w fun e w' => e = .returned (.bool (markB l)) ∧ Below w.heap.size w w' := by
  have HIn := Lib.hid (c_inMarks l)
  have HMk := Lib.hid c_marks
  generalize strA markTab = A at HIn HMk
  generalize markB l = r at HIn ⊢
  go_enter Tryd.func11, Tryd.ntmps11
  go_wp2_with fail
  go_region_with (first
    | (go_at_call 24; refine (HMk.out _).mono ?_; rintro e w2 ⟨rfl, rfl⟩)
    | (go_at_call 23; refine Calls.mono (HIn.out _ _ ?hg) ?_; (case hg => simp); rintro e w3 ⟨rfl, rfl⟩))
  all_goals
    go_wp2_with fail
    go_ret
    exact ⟨rfl, ((bel_new w _).alloc (bel_new w _).size _).drew⟩
end Go.Proofs.YtnenhehnoolhlaaDoor
