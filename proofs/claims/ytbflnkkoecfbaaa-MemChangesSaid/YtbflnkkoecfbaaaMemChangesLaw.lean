/-
  The statement MemChangesSaid: for every slice of ranges and two slices of acts the law that Changed tells just the bytes that differ from those at the mark returns true, and its arguments read as before. No condition.
-/
import Derived.Test.YtbflnkkoecfbaaaMemActs
namespace Go.Proofs.Ytbflnkkoecfbaaa.memChanges
set_option linter.unusedVariables false
set_option linter.unusedSimpArgs false
open Go.ChangeShapes Go.WideShapes Go.ChangeAt Go.WideElems Go.RowKit

/-! ### The row's step -/
set_option maxRecDepth 100000 in
theorem lifted (os : Os) (started : os.Started) (H : Type) (enc : TypeId × Value → H) :
    ReturnsInHanded {} Try.checked os 5 .any (Rows.memChangesSpec.pre6 enc Try.prog Try.f5 Rows.memChangesRow.domain false) (Rows.memChangesSpec.post enc Try.prog Try.f5 false true false false) := by
  refine returnsInHanded_of_change_sized (C := Try.checked) own started (by kernel_rfl) Try.func5
    (ChangeSpec.witness6 (enc := enc) (C := Try.checked) false ⟨#[], #[.slice none 0 0, .slice none 0 0, .slice none 0 0], []⟩ 8 (by kernel_rfl) (by kernel_rfl) (by kernel_rfl) (by kernel_rfl)) ?_
  intro W base args ds gs before hval0 hW hcnd hsz0 _
  have hsz : (DataW.weightsEach Try.prog (Try.f5.params.toList ++ Rows.memChangesSpec.plain.varTypes Try.prog) (ds ++ gs)).all (· ≤ reachBytes) = true := hsz0
  clear hsz0
  have hval : ∀ (j : Nat) t v, Try.f5.params[j]? = some t → args[j]? = some v → Value.okWide Try.prog W .any base t v := hval0
  have hW' := hW
  obtain ⟨p, q, hA0, hV, rfl, hfz, hnd⟩ := hW
  have hA : DataW.TrodAll enc Try.prog W 0 (fun _ => true) true Try.f5.params.toList args.toList ds p := hA0
  rw [Try.params5] at hA hval hsz
  obtain ⟨v0, vs0, d0, ds0, p0, q0, hargs, rfl, rfl, h0, r0⟩ := trodAll_cons hA
  obtain ⟨v1, vs1, d1, ds1, p1, q1, rfl, rfl, rfl, h1, r1⟩ := trodAll_cons r0
  obtain ⟨v2, vs2, d2, ds2, p2, q2, rfl, rfl, rfl, h2, r2⟩ := trodAll_cons r1
  obtain ⟨rfl, rfl, rfl⟩ := trodAll_nil r2
  obtain rfl : args = #[v0, v1, v2] := by cases args; simp_all
  obtain ⟨rfl, rfl⟩ := trodVars_none hV
  obtain ⟨a0, len0, cap0, rfl⟩ := okWide_slice Try.underlying22 (hval 0 22 v0 rfl rfl)
  obtain ⟨a1, len1, cap1, rfl⟩ := okWide_slice Try.underlying23 (hval 1 23 v1 rfl rfl)
  obtain ⟨a2, len2, cap2, rfl⟩ := okWide_slice Try.underlying23 (hval 2 23 v2 rfl rfl)
  have k0 := h0
  have k1 := h1
  have k2 := h2
  have lt0 : ∀ x ∈ p0, x.block < W.heap.size := by obtain ⟨m, hm⟩ := k0; exact DataW.trod_lt m _ _ _ hm
  have lt1 : ∀ x ∈ p1, x.block < W.heap.size := by obtain ⟨m, hm⟩ := k1; exact DataW.trod_lt m _ _ _ hm
  have lt2 : ∀ x ∈ p2, x.block < W.heap.size := by obtain ⟨m, hm⟩ := k2; exact DataW.trod_lt m _ _ _ hm
  obtain ⟨R, hR, hbd, hm⟩ : ∃ R, RSO W a0 len0 cap0 R ∧ RgBd R len0 ∧ len0 ≤ maxLen := by
    obtain ⟨fuel, hf⟩ := h0
    obtain ⟨R, g1, g2, g3⟩ := open_ranges hf
    refine ⟨R, g1, g2, ?_⟩
    rcases g3 with g3 | ⟨es, spare, he, hl⟩
    · rw [g3]; exact Nat.zero_le _
    · simp only at he
      subst he
      have hs := sized_slice hsz (j := 0) (t := 22) (e := 34) rfl rfl Try.underlying22
      rw [bytesRg] at hs
      unfold reachBytes at hs
      unfold maxLen
      have : es.length * 40 ≤ (es.length + spare.length) * 40 := Nat.mul_le_mul_right _ (by omega)
      omega
  obtain ⟨K1, A1, N1, Z1, hB1, hBb1, hm1⟩ : ∃ K A N Z, ASO W a1 len1 cap1 K A N Z ∧ ABd len1 A N Z ∧ len1 ≤ maxLen := by
    obtain ⟨fuel, hf⟩ := h1
    obtain ⟨K, A, N, Z, g1, g2, g3⟩ := open_acts hf
    refine ⟨K, A, N, Z, g1, g2, ?_⟩
    rcases g3 with g3 | ⟨es, spare, he, hl⟩
    · rw [g3]; exact Nat.zero_le _
    · simp only at he
      subst he
      have hs := sized_slice hsz (j := 1) (t := 23) (e := 39) rfl rfl Try.underlying23
      rw [bytesAct] at hs
      unfold reachBytes at hs
      unfold maxLen
      have : es.length * 56 ≤ (es.length + spare.length) * 56 := Nat.mul_le_mul_right _ (by omega)
      omega
  obtain ⟨K2, A2, N2, Z2, hB2, hBb2, hm2⟩ : ∃ K A N Z, ASO W a2 len2 cap2 K A N Z ∧ ABd len2 A N Z ∧ len2 ≤ maxLen := by
    obtain ⟨fuel, hf⟩ := h2
    obtain ⟨K, A, N, Z, g1, g2, g3⟩ := open_acts hf
    refine ⟨K, A, N, Z, g1, g2, ?_⟩
    rcases g3 with g3 | ⟨es, spare, he, hl⟩
    · rw [g3]; exact Nat.zero_le _
    · simp only at he
      subst he
      have hs := sized_slice hsz (j := 2) (t := 23) (e := 39) rfl rfl Try.underlying23
      rw [bytesAct] at hs
      unfold reachBytes at hs
      unfold maxLen
      have : es.length * 56 ≤ (es.length + spare.length) * 56 := Nat.mul_le_mul_right _ (by omega)
      omega
  clear hA0 hval0
  refine (changes_walk a0 len0 cap0 R a1 len1 cap1 K1 A1 N1 Z1 a2 len2 cap2 K2 A2 N2 Z2 W hm hR hbd hm1 hB1 hBb1 hm2 hB2 hBb2).mono fun e W' ⟨he, bel⟩ => ?_
  subst he
  exact ⟨_, rfl, _, _, _, [], _, [], hW', trodAll_mk1 (shut_bool Try.underlying4 _), (trodAll_cons_mk (Below.trod laidOut (by kernel_rfl) (of_decide_eq_true (by kernel_rfl)) k0 bel lt0) (trodAll_cons_mk (Below.trod laidOut (by kernel_rfl) (of_decide_eq_true (by kernel_rfl)) k1 bel lt1) (trodAll_cons_mk (Below.trod laidOut (by kernel_rfl) (of_decide_eq_true (by kernel_rfl)) k2 bel lt2) trodAll_mk0))), rfl, bel.frame _, fun h => by cases h⟩
theorem over : Rows.memChangesRow.holds Try.pinned (OpenSpec.ofChange Rows.memChangesSpec) :=
  OpenClaim.holds_of_wide 5 Try.f5 rfl rfl rfl rfl rfl rfl rfl ⟨rfl, rfl, rfl, rfl, rfl⟩ rfl rfl rfl rfl rfl (by kernel_rfl) Try.func5 (by kernel_rfl)
    (of_decide_eq_true (by kernel_rfl)) (by unfold Func.isWrapper; first | (rw [if_pos (by decide +kernel)]; kernel_rfl) | (rw [if_neg (by decide +kernel)]; exact ⟨rfl, rfl⟩))
    (fun os started H enc _ => lifted os started H enc)
/-- The statement. -/
theorem proved : Rows.MemChangesSaid := over
#print axioms proved
end Go.Proofs.Ytbflnkkoecfbaaa.memChanges
