/-
  Plain: what comes of resolving a name.
-/
import Derived.Test.YtjadckhngalmlaaGreatDoorZNmPv
import Derived.Test.YtjadckhngalmlaaGreatDoorZNmRf
import Derived.Test.YtjadckhngalmlaaGreatDoorZNmPl
import Derived.Test.YtjadckhngalmlaaGreatDoorZNmBo
namespace Go.Proofs.YtjadckhngalmlaaGreatDoor
set_option linter.unusedVariables false
set_option linter.unusedSimpArgs false

/-- What resolve answers: the fault, and the resolver. -/
def rvA (u : UnP) (nm : List UInt8) : (Int × Nat) × RsP :=
  if (rdA u).1.2 = 0 then
    match (rdA u).2.body nm with
    | none => ((0, 4), ⟨[], [], [], []⟩)
    | some x => rsA (rdA u).2 x ((grow x.body).getD [])
  else ((rdA u).1, ⟨[], [], [], []⟩)
theorem body_some {f : FlP} {nm : List UInt8} {x : FnP} (h : f.body nm = some x) : x ∈ f.funcs ∧ x.name = nm ∧ 0 < x.body.length := by
  have h1 := List.mem_of_find?_eq_some h
  have h2 := List.find?_some h
  unfold isB at h2
  rw [Bool.and_eq_true, beq_iff_eq] at h2
  refine ⟨h1, h2.1, ?_⟩
  have := h2.2
  simp only [Bool.not_eq_true', beq_eq_false_iff_ne, ne_eq] at this
  omega
/-- A function with a body that is found. -/
theorem body_ok {u : UnP} (h0 : (rdA u).1.2 = 0) {nm : List UInt8} {x : FnP} (h : (rdA u).2.body nm = some x) : ∃ ps, grow x.body = some ps ∧ ckA wlB x.body = 0 ∧ x.body.length ≤ 4096 ∧ 0 < x.body.length ∧ x.params.length ≤ 8 ∧ x.name = nm ∧ x ∈ (rdA u).2.funcs ∧ rvA u nm = rsA (rdA u).2 x ps := by
  obtain ⟨h1, h2, h3⟩ := body_some h
  obtain ⟨_, s1, s2, s3⟩ := rd_small h0 x h1
  obtain ⟨_, ps, hg⟩ := ck_gro (s3 h3).1
  refine ⟨ps, hg, (s3 h3).1, s2, h3, s1, h2, h1, ?_⟩
  unfold rvA
  rw [if_pos h0, h]
  simp only
  rw [hg]
  rfl
theorem rv_ok {u : UnP} {nm : List UInt8} (h : (rvA u nm).1.2 = 0) : (rdA u).1.2 = 0 ∧ ∃ x ps, (rdA u).2.body nm = some x ∧ grow x.body = some ps ∧ ckA wlB x.body = 0 ∧ x.body.length ≤ 4096 ∧ 0 < x.body.length ∧ x.params.length ≤ 8 ∧ x.name = nm ∧ x ∈ (rdA u).2.funcs ∧ rvA u nm = rsA (rdA u).2 x ps ∧ (rsA (rdA u).2 x ps).1.2 = 0 := by
  by_cases h0 : (rdA u).1.2 = 0
  · refine ⟨h0, ?_⟩
    cases hb : (rdA u).2.body nm with
    | none =>
      unfold rvA at h
      rw [if_pos h0, hb] at h
      cases h
    | some x =>
      obtain ⟨ps, h1, h2, h3, h4, h5, h6, h7, h8⟩ := body_ok h0 hb
      exact ⟨x, ps, rfl, h1, h2, h3, h4, h5, h6, h7, h8, by rw [← h8]; exact h⟩
  · unfold rvA at h
    rw [if_neg h0] at h
    exact absurd h h0
/-- A name stands for one function of a file alone. -/
theorem name_one {f : FlP} (hf : f.Wf) {i j : Nat} {x y : FnP} (hx : f.funcs[i]? = some x) (hy : f.funcs[j]? = some y) (h : x.name = y.name) : i = j := by
  obtain ⟨d, h1, _, h2⟩ := hf.nf i x hx
  obtain ⟨d', h1', _, h2'⟩ := hf.nf j y hy
  rw [h, h1'] at h1
  cases h1
  exact h2.symm.trans h2'
end Go.Proofs.YtjadckhngalmlaaGreatDoor
