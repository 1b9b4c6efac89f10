/-
  Parse, in the document's answers: what it returns is what the code returns.
-/
import Derived.Test.YtcemghcfapblgaaDoorIsaTx6
namespace Go.Proofs.YtcemghcfapblgaaDoor
set_option linter.unusedVariables false
set_option linter.unusedSimpArgs false
open Go.ChangeShapes Go.WideShapes Go.ChangeAt Go.RowKit

set_option maxRecDepth 100000 in
theorem c_rParse_long (l : List UInt8) (w : World) (hl : 65536 < l.length) (hm : l.length ≤ maxLen) :
    Calls Tryd.prog 9 #[.string ⟨l.toArray⟩] w fun e w' => e = .returned (.tuple #[.agg #[.int .i64 0, .int .i64 0, .int .i64 0, .int .i64 0, .int .i64 0], .int .i64 3]) ∧ Below w.heap.size w w' := by
  have t0 : decide ((65536 : Int) < (l.length : Int)) = true := by simp; omega
  clear hl
  unfold maxLen at hm
  go_enter Tryd.func9, Tryd.ntmps9
  go_wp2_with fail
  refine bodyPost_ret (v := .tuple #[.agg #[.int .i64 0, .int .i64 0, .int .i64 0, .int .i64 0, .int .i64 0], .int .i64 3]) (by simp [results, Tryd.results9, go_sem]) rfl ?_
  exact ⟨rfl, by go_grown⟩
theorem len_pr7 (o d a b i : Int) (h : chkB o d a b i = true) : (prL o d a b i).length ≤ 65536 := by
  obtain ⟨h1, h2, h3, h4, h5⟩ := chk_bd o d a b i h
  have n0 := nm_len o
  have n1 := itoa_len d (by omega) (by omega)
  have n2 := itoa_len a (by omega) (by omega)
  have n3 := itoa_len b (by omega) (by omega)
  have n4 := itoa_len i (by omega) (by omega)
  rw [pr_eq]
  cases lD (formI o) <;> cases lA (formI o) <;> cases lB (formI o) <;> by_cases hb : lBits (formI o) > 0 <;> simp [hb] <;> omega
theorem pB_pr7 (o d a b i : Int) (h : chkB o d a b i = true) : pB (prL o d a b i) = true := by
  obtain ⟨a1, a2, a3, a4, a5⟩ := txt_back o d a b i h
  unfold pB
  rw [a1, a2, a3, a4, a5, h, prR_yes _ _ _ _ _ h]
  simp [len_pr7 o d a b i h]
theorem pB_rej {l : List UInt8} (h : Rej l) : pB l = false := by
  cases hp : pB l
  · rfl
  · exfalso
    unfold pB at hp
    simp at hp
    refine h _ _ _ _ _ hp.2.1 ?_
    rw [← prR_yes _ _ _ _ _ hp.2.1]
    exact hp.2.2
theorem c_rParse (l : List UInt8) (w : World) (hm : l.length ≤ maxLen) :
    Calls Tryd.prog 9 #[.string ⟨l.toArray⟩] w fun e w' => e = .returned (.tuple #[.agg #[.int .i64 (vOp l), .int .i64 (vD l), .int .i64 (vA l), .int .i64 (vB l), .int .i64 (vI l)], .int .i64 (pE l)]) ∧ Below w.heap.size w w' := by
  by_cases h : l.length ≤ 65536
  · refine (c_rParse_short l w h).mono ?_
    rintro e w' ⟨hp, hb⟩
    refine ⟨?_, hb⟩
    rcases hp with ⟨o, d, a, b, i, hc, hp, rfl⟩ | ⟨hr, rfl⟩
    · subst hp
      have hB := pB_pr7 o d a b i hc
      obtain ⟨a1, a2, a3, a4, a5⟩ := txt_back o d a b i hc
      obtain ⟨e1, e2, e3, e4, e5⟩ := v_all _ true hB
      rw [e1, e2, e3, e4, e5, pE_yes _ h hB, a1, a2, a3, a4, a5]
      rfl
    · have hB := pB_rej hr
      obtain ⟨e1, e2, e3, e4, e5⟩ := v_all _ false hB
      rw [e1, e2, e3, e4, e5, pE_no _ h hB]
      rfl
  · have h' : 65536 < l.length := by omega
    refine (c_rParse_long l w h' hm).mono ?_
    rintro e w' ⟨rfl, hb⟩
    obtain ⟨e1, e2, e3, e4, e5⟩ := v_all _ false (pB_long l h')
    rw [e1, e2, e3, e4, e5, pE_long l h']
    exact ⟨rfl, hb⟩
end Go.Proofs.YtcemghcfapblgaaDoor
