/-
  Plain: how small a right function is.
-/
import Derived.Test.YtjadckhngalmlaaGreatDoorZNmPn
import Derived.Test.YtjadckhngalmlaaGreatDoorZNmOp
namespace Go.Proofs.YtjadckhngalmlaaGreatDoor
set_option linter.unusedVariables false
set_option linter.unusedSimpArgs false

/-- A file's names and functions are a unit's. -/
structure FlP.Of (u : UnP) (f : FlP) : Prop where
  fn : ∀ x ∈ f.funcs, x ∈ u.funcs
  od : ∀ nm ∈ f.order, (∃ g ∈ u.globals, g.var.name = nm) ∨ ∃ x ∈ u.funcs, x.name = nm
theorem goG_of {u : UnP} : ∀ (l : List GlP) (f : FlP), f.Of u → (∀ g ∈ l, g ∈ u.globals) → (goG f l).1.2 = 0 → (goG f l).2.Of u ∧ (goG f l).2.order.length = f.order.length + l.length ∧ (goG f l).2.funcs = f.funcs
  | [], f, h, _, _ => ⟨h, rfl, rfl⟩
  | g :: r, f, h, hl, he => by
    unfold goG at he ⊢
    by_cases h0 : glE f g.var = 0
    · rw [if_pos h0] at he ⊢
      have h1 : (glF f g.var).Of u := ⟨h.fn, fun nm hn => by
        have hn : nm ∈ f.order ++ [g.var.name] := hn
        rcases List.mem_append.1 hn with hn | hn
        · exact h.od nm hn
        · rw [List.mem_singleton] at hn
          exact .inl ⟨g, hl g (by simp), hn.symm⟩⟩
      obtain ⟨h2, h3, h4⟩ := goG_of r _ h1 (fun y hy => hl y (by simp [hy])) he
      refine ⟨h2, ?_, h4⟩
      rw [h3, (glF_len f g.var).1, List.length_cons]
      omega
    · rw [if_neg h0] at he
      exact absurd he h0
theorem goF_of {u : UnP} : ∀ (l : List FnP) (f : FlP), f.Of u → (∀ x ∈ l, x ∈ u.funcs) → f.funcs.length ≤ 128 → (goF f l).1.2 = 0 → (goF f l).2.Of u ∧ (goF f l).2.order.length ≤ f.order.length + l.length ∧ (goF f l).2.funcs.length ≤ 128
  | [], f, h, _, hf, _ => ⟨h, Nat.le_refl _, hf⟩
  | x :: r, f, h, hl, hf, he => by
    unfold goF at he ⊢
    by_cases h0 : fnE f x = 0
    · rw [if_pos h0] at he ⊢
      obtain ⟨k1, _, k3⟩ := fnF_len h0 hf
      have h1 : (fnF f x).Of u := by
        unfold fnF
        split
        · unfold agF
          split
          · exact h
          · refine ⟨fun y hy => ?_, h.od⟩
            rcases List.mem_or_eq_of_mem_set hy with hy | rfl
            · exact h.fn y hy
            · exact hl _ (by simp)
        · refine ⟨fun y hy => ?_, fun nm hn => ?_⟩
          · have hy : y ∈ f.funcs ++ [x] := hy
            rcases List.mem_append.1 hy with hy | hy
            · exact h.fn y hy
            · rw [List.mem_singleton] at hy
              subst hy
              exact hl _ (by simp)
          · have hn : nm ∈ f.order ++ [x.name] := hn
            rcases List.mem_append.1 hn with hn | hn
            · exact h.od nm hn
            · rw [List.mem_singleton] at hn
              exact .inr ⟨x, hl x (by simp), hn.symm⟩
      obtain ⟨h2, h3, h4⟩ := goF_of r _ h1 (fun y hy => hl y (by simp [hy])) k3 he
      refine ⟨h2, ?_, h4⟩
      rw [List.length_cons]
      omega
    · rw [if_neg h0] at he
      exact absurd he h0
theorem rdA_of {u : UnP} (h : (rdA u).1.2 = 0) : (rdA u).2.Of u ∧ (rdA u).2.order.length ≤ 512 ∧ (rdA u).2.funcs.length ≤ 128 := by
  have hl := cu_lens (rdA_wf h).2
  have h9 := (rdA_wf h).2
  unfold rdA at h ⊢
  rw [if_pos h9] at h ⊢
  by_cases h2 : (goG fl0 u.globals).1.2 = 0
  · rw [if_pos h2] at h ⊢
    obtain ⟨a1, a2, a3⟩ := goG_of u.globals fl0 ⟨fun x hx => (by cases hx), fun nm hn => (by cases hn)⟩ (fun _ h => h) h2
    obtain ⟨b1, b2, b3⟩ := goF_of u.funcs _ a1 (fun _ h => h) (by rw [a3]; exact Nat.zero_le _) h
    refine ⟨b1, ?_, b3⟩
    have e0 : fl0.order.length = 0 := rfl
    omega
  · rw [if_neg h2] at h
    exact absurd h h2
theorem FlP.Of.names {u : UnP} {f : FlP} (h : f.Of u) (hU : UnOk u) : ∀ nm ∈ f.order, nm.length ≤ 9223372036854775807 := fun nm hn => by
  rcases h.od nm hn with ⟨g, h1, rfl⟩ | ⟨x, h1, rfl⟩
  · exact (hU.gl g h1).1.1
  · exact (hU.fn x h1).1
theorem FlP.Of.ok {u : UnP} {f : FlP} (h : f.Of u) (hU : UnOk u) : ∀ x ∈ f.funcs, FnOk x := fun x hx => hU.fn x (h.fn x hx)
end Go.Proofs.YtjadckhngalmlaaGreatDoor
namespace Go.Proofs.YtjadckhngalmlaaGreatDoor
set_option linter.unusedVariables false
set_option linter.unusedSimpArgs false

theorem any_self {f : Ty → Bool} {t : Ty} (h : anyT f t = false) : f t = false := by
  cases t <;> (unfold anyT at h; first | exact h | (simp only [Bool.or_eq_false_iff] at h; exact h.1))
theorem fn_small {S : List StP} {x : FnP} (h : fnA S x = 0) : x.params.length ≤ 8 ∧ x.body.length ≤ 4096 ∧ (0 < x.body.length → ckA wlB x.body = 0 ∧ whK x.body = 21) ∧ x.params.length = (sgA x.type).2.1.length := by
  unfold fnA at h
  by_cases h1 : fnOk S x = true
  · rw [if_pos h1] at h
    unfold fnOk paB at h1
    simp only [Bool.and_eq_true, beq_iff_eq] at h1
    obtain ⟨⟨_, hch⟩, hsg, hal⟩ := h1
    have hle := all2_len _ _ _ hal
    have h8 : (sgA x.type).2.1.length ≤ 8 := by
      unfold chA at hch
      by_cases hlo : (loA S).2.1 = 0
      · rw [if_pos hlo] at hch
        unfold rgA at hch
        unfold sgA
        cases htk : tk x.type with
        | none => rw [htk] at hch; cases hch
        | some t =>
          rw [htk] at hch
          simp only at hch ⊢
          unfold rgT at hch
          by_cases hd : 48 < t.dep
          · rw [if_pos hd] at hch; cases hch
          · rw [if_neg hd] at hch
            by_cases hb : anyT badT t = true
            · rw [if_pos hb] at hch; cases hch
            · have hb2 := any_self (by simpa using hb : anyT badT t = false)
              cases t with
              | fn ps r =>
                show (ps.list.map Ty.code).length ≤ 8
                rw [List.length_map]
                unfold badT at hb2
                simp only [Bool.not_eq_false', Bool.and_eq_true, decide_eq_true_eq] at hb2
                exact hb2.1.2
              | _ => exact Nat.zero_le _
      · rw [if_neg hlo] at hch
        exact absurd hch hlo
    refine ⟨by omega, ?_, ?_, hle⟩
    · by_cases hp : ptB x = true
      · unfold ptB at hp
        rw [beq_iff_eq] at hp
        omega
      · rw [if_neg hp] at h
        unfold asA at h
        by_cases hc : ckA wlB x.body = 0
        · unfold ckA at hc
          by_cases hl : 4096 < x.body.length
          · rw [if_pos hl] at hc; cases hc
          · omega
        · rw [if_neg hc] at h
          exact absurd h hc
    · intro hpos
      have hp : ¬ ptB x = true := by unfold ptB; rw [beq_iff_eq]; omega
      rw [if_neg hp] at h
      unfold asA at h
      by_cases hc : ckA wlB x.body = 0
      · rw [if_pos hc] at h
        refine ⟨hc, ?_⟩
        by_cases hk : (fun k : Int => k == 21) (whK x.body) = true
        · simpa using hk
        · rw [if_neg hk] at h; cases h
      · rw [if_neg hc] at h
        exact absurd h hc
  · rw [if_neg h1] at h
    cases h
theorem rd_small {u : UnP} (h : (rdA u).1.2 = 0) : ∀ x ∈ (rdA u).2.funcs, fnA u.structs x = 0 ∧ x.params.length ≤ 8 ∧ x.body.length ≤ 4096 ∧ (0 < x.body.length → ckA wlB x.body = 0 ∧ whK x.body = 21) := fun x hx => by
  have h1 := cu_fn (rdA_wf h).2 x ((rdA_of h).1.fn x hx)
  have h2 := fn_small h1
  exact ⟨h1, h2.1, h2.2.1, h2.2.2.1⟩
end Go.Proofs.YtjadckhngalmlaaGreatDoor
