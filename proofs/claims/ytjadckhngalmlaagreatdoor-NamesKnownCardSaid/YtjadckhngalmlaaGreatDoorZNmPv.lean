/-
  Plain: what a function uses of the file.
-/
import Derived.Test.YtjadckhngalmlaaGreatDoorZNmPn
import Derived.Test.YtjadckhngalmlaaGreatDoorZTrWc
namespace Go.Proofs.YtjadckhngalmlaaGreatDoor
set_option linter.unusedVariables false
set_option linter.unusedSimpArgs false

theorem wk_depth (ps : List (List Nat)) : ∀ (f a d : Nat), ∀ x ∈ wk ps f a d, d ≤ x.2
  | 0, a, d, x, hx => by cases hx
  | f + 1, a, d, x, hx => by
    have hx : x ∈ (a, d) :: ((ps[a]?).getD []).flatMap (fun q => wk ps f q (d + 1)) := hx
    rcases List.mem_cons.1 hx with rfl | hx
    · exact Nat.le_refl _
    · obtain ⟨q, _, hq⟩ := List.mem_flatMap.1 hx
      have := wk_depth ps f q (d + 1) x hq
      omega
theorem cn_is {n i : Nat} (hi : i < n) : cnR (fun j => j == i) 0 n = 1 := by
  rw [cnR_add _ (show 0 ≤ i by omega) (show i ≤ n by omega), cnR_add _ (show i ≤ i + 1 by omega) (show i + 1 ≤ n by omega), cnR_one]
  have h1 : ∀ lo hi, (∀ j, lo ≤ j → j < hi → j ≠ i) → cnR (fun j => j == i) lo hi = 0 := fun lo hi h => by
    unfold cnR
    rw [List.countP_eq_zero]
    intro j hj
    have := List.mem_range'_1.1 hj
    have := h j this.1 (by omega)
    simpa using this
  rw [h1 0 i (fun j _ h => by omega), h1 (i + 1) n (fun j h _ => by omega)]
  simp
/-- The walk comes to each node once, no shallower than 1. -/
theorem wkA_once {t : List NdT} {ps : List (List Nat)} (h : grow t = some ps) (hl : t.length ≤ 4096) :
    ((wkA ps).map Prod.fst).Nodup ∧ (∀ k, k ∈ (wkA ps).map Prod.fst ↔ k < t.length) ∧ (∀ x ∈ wkA ps, 0 < x.2) ∧ ∀ P : Nat → Bool, (wkA ps).countP (fun x => P x.1) = cnR P 0 t.length := by
  obtain ⟨hk, h0, hlen, hmem, _⟩ := KpsOk.of_grow h hl
  obtain ⟨fr, hbg, hG, hfl, hfe⟩ := grow_psG h
  obtain ⟨_, hr⟩ := grow_root h hbg
  have hwA : wkA ps = wk ps (t.length - 1 + 1) (t.length - 1) 1 := by unfold wkA; rw [hG.1]
  have hcn : ∀ P : Nat → Bool, (wkA ps).countP (fun x => P x.1) = cnR P 0 t.length := fun P => by
    have h1 := wk_count hG hfl hfe P (t.length - 1 + 1) (t.length - 1) 1 0 (by omega) (by omega) hr
    rw [← hwA, show t.length - 1 + 1 = t.length by omega] at h1
    exact h1
  have hone : ∀ i, i < t.length → (wkA ps).countP (fun x => x.1 == i) = 1 := fun i hi => (hcn (fun j => j == i)).trans (cn_is hi)
  have hcm : ∀ i, ((wkA ps).map Prod.fst).count i = (wkA ps).countP (fun x => x.1 == i) := fun i => by
    rw [List.count, List.countP_map]
    rfl
  have hme : ∀ k, k ∈ (wkA ps).map Prod.fst ↔ k < t.length := fun k => by
    constructor
    · intro hk
      obtain ⟨x, hx, rfl⟩ := List.mem_map.1 hk
      exact hmem x hx
    · intro hk
      exact List.count_pos_iff.1 (by rw [hcm, hone k hk]; exact Nat.one_pos)
  refine ⟨List.nodup_iff_count.2 fun k => ?_, hme, fun x hx => ?_, hcn⟩
  · by_cases hk : k < t.length
    · rw [hcm, hone k hk]
      exact Nat.le_refl _
    · rw [List.count_eq_zero.2 (fun hm => hk ((hme k).1 hm))]
      exact Nat.zero_le _
  · rw [hwA] at hx
    exact wk_depth ps _ _ 1 x hx
/-- What came of a function. -/
def rsA (f : FlP) (x : FnP) (ps : List (List Nat)) : (Int × Nat) × RsP :=
  if (goP (rs0 f x.body.length) x.params).1 = 0 then goN x.body (goP (rs0 f x.body.length) x.params).2 (wkA ps) else ((x.at', (goP (rs0 f x.body.length) x.params).1), (goP (rs0 f x.body.length) x.params).2)
theorem rsA_all {f : FlP} (hf : f.Wf) {x : FnP} {ps : List (List Nat)} (hg : grow x.body = some ps) (hl : x.body.length ≤ 4096) (hp : x.params.length ≤ 8) (he : (rsA f x ps).1.2 = 0) :
    (rsA f x ps).2.Wf x.body ∧ (rsA f x ps).2.slots.length = x.params.length + cnR (fun k => (x.body.getD k nd0).kind == 22) 0 x.body.length ∧ (rsA f x ps).2.slots.length ≤ 256 ∧ (rsA f x ps).2.bds.length = x.body.length ∧
    ∀ k, k < x.body.length → (nmB (x.body.getD k nd0).kind → ∃ b, (rsA f x ps).2.bds[k]? = some b ∧ b.kind ≠ 0) ∧ (¬ nmB (x.body.getD k nd0).kind → (rsA f x ps).2.bds[k]? = some ⟨0, 0, []⟩) := by
  obtain ⟨w1, w2, w3, w4⟩ := wkA_once hg hl
  unfold rsA at he ⊢
  by_cases h0 : (goP (rs0 f x.body.length) x.params).1 = 0
  · rw [if_pos h0] at he ⊢
    obtain ⟨a1, a2, a3, a4⟩ := goP_all x.params _ (rs0_wf hf x.body) h0
    have e0 : (rs0 f x.body.length).slots.length = 0 := rfl
    have eb : (rs0 f x.body.length).bds = List.replicate x.body.length ⟨0, 0, []⟩ := rfl
    obtain ⟨b1, b2, b3, b4, _, _, b7⟩ := goN_all (wkA ps) _ a1 (by omega) w3 he
    refine ⟨b1, ?_, b3, ?_, fun k hk => ?_⟩
    · rw [b2, a2, e0, ← w4]
      unfold dcN
      rw [List.countP_eq_length_filter]
      omega
    · rw [b4, a3, eb, List.length_replicate]
    · obtain ⟨c1, c2⟩ := b7 w1 k ((w2 k).2 hk)
      refine ⟨fun hn => c1 hn (by rw [a3, eb, List.length_replicate]; exact hk), fun hn => ?_⟩
      rw [c2 hn, a3, eb, List.getElem?_replicate, if_pos hk]
  · rw [if_neg h0] at he
    exact absurd he h0
end Go.Proofs.YtjadckhngalmlaaGreatDoor
namespace Go.Proofs.YtjadckhngalmlaaGreatDoor
set_option linter.unusedVariables false
set_option linter.unusedSimpArgs false

/-- While a function is gone over: what is used is of the file, each once, and just what nodes are bound to. -/
structure RsP.Us (f : FlP) (r : RsP) : Prop where
  sc : ∀ s ∈ r.sc, ∀ nm d, s.m nm = some d → ofF d.bd = true → f.m nm = some d
  nd : r.uses.Nodup
  us : ∀ nm ∈ r.uses, ∃ d, f.m nm = some d ∧ ofF d.bd = true ∧ d.bd ∈ r.bds
  bd : ∀ b ∈ r.bds, ofF b = true → ∃ nm ∈ r.uses, ∃ d, f.m nm = some d ∧ d.bd = b
theorem find_of {f : FlP} : ∀ {sc : List ScP} {nm : List UInt8} {i : Int}, (∀ s ∈ sc, ∀ nm d, s.m nm = some d → ofF d.bd = true → f.m nm = some d) → ofF (findP sc nm i) = true → ∃ d, f.m nm = some d ∧ d.bd = findP sc nm i
  | [], _, _, _, h => by cases h
  | s :: r, nm, i, h, hk => by
    unfold findP at hk ⊢
    split at hk
    · rename_i hc
      rw [if_pos hc]
      cases hm : s.m nm with
      | none => rw [hm] at hk; cases hk
      | some d => rw [hm] at hk; exact ⟨d, h s (by simp) nm d hm hk, rfl⟩
    · rename_i hc
      rw [if_neg hc]
      exact find_of (fun s' hs => h s' (by simp [hs])) hk
theorem RsP.Us.lv {f : FlP} {r : RsP} (h : r.Us f) (d : Nat) : (r.leave d).Us f := ⟨fun s hs => h.sc s (lv_sub hs), h.nd, h.us, h.bd⟩
theorem decl_of {f : FlP} {sc : List ScP} (h : ∀ s ∈ sc, ∀ nm d, s.m nm = some d → ofF d.bd = true → f.m nm = some d) {b : BdP} (hb : ofF b = false) (n : List UInt8) (i : Int) : ∀ s ∈ declP sc n b i, ∀ nm d, s.m nm = some d → ofF d.bd = true → f.m nm = some d := by
  intro x hx nm d hd hk
  cases sc with
  | nil => cases hx
  | cons y l =>
    rcases List.mem_cons.1 hx with rfl | hx
    · rcases upd_of hd with ⟨rfl, rfl⟩ | ⟨_, hd⟩
      · rw [hb] at hk; cases hk
      · exact h y (by simp) nm d hd hk
    · exact h x (by simp [hx]) nm d hd hk
theorem RsP.Us.slot {f : FlP} {r : RsP} (h : r.Us f) (s : SlP) (i : Int) : (r.slot s i).Us f :=
  ⟨decl_of h.sc rfl s.name i, h.nd, h.us, h.bd⟩
/-- A binding is set where none was. -/
theorem mem_set_new {l : List BdP} {i : Nat} {b0 b x : BdP} (h0 : l[i]? = some b0) (hx : x ∈ l) (hne : x ≠ b0) : x ∈ l.set i b := by
  obtain ⟨k, hk⟩ := List.getElem?_of_mem hx
  have hki : k ≠ i := fun e => by subst e; rw [h0] at hk; cases hk; exact hne rfl
  exact List.mem_of_getElem? (i := k) (by rw [List.getElem?_set_ne (by omega)]; exact hk)
theorem mem_set_of {l : List BdP} {i : Nat} {b x : BdP} (hx : x ∈ l.set i b) : x ∈ l ∨ x = b := List.mem_or_eq_of_mem_set hx
theorem RsP.Us.node {t : List NdT} {f : FlP} {r : RsP} (h : r.Us f) {i d : Nat} (he : noE r (t.getD i nd0) i d = 0) (h0 : r.bds[i]? = some bd0) : (noF r (t.getD i nd0) i d).Us f := by
  have hof0 : ∀ x : BdP, ofF x = true → x ≠ bd0 := fun x hx e => by subst e; cases hx
  have hlt := (List.getElem?_eq_some_iff.1 h0).1
  unfold noE at he
  unfold noF
  by_cases h1 : (t.getD i nd0).kind = 21 ∨ (t.getD i nd0).kind = 26
  · rw [if_pos h1]
    split
    · refine ⟨fun s hs nm e hm hk => ?_, h.nd, h.us, h.bd⟩
      rcases List.mem_cons.1 hs with rfl | hs
      · cases hm
      · exact h.sc s hs nm e hm hk
    · exact h
  · rw [if_neg h1]
    by_cases h2 : (t.getD i nd0).kind = 22
    · rw [if_pos h2]
      have hs := h.slot ⟨(t.getD i nd0).text, (t.getD i nd0).type, (t.getD i nd0).int == 1, false⟩ i
      refine ⟨hs.sc, h.nd, fun nm hn => ?_, fun b hb hk => ?_⟩
      · obtain ⟨d, e1, e2, e3⟩ := h.us nm hn
        exact ⟨d, e1, e2, mem_set_new h0 e3 (hof0 _ e2)⟩
      · rcases mem_set_of hb with hb | rfl
        · exact h.bd b hb hk
        · cases hk
    · rw [if_neg h2] at he ⊢
      by_cases h3 : (t.getD i nd0).kind = 3
      · rw [if_pos h3]
        obtain ⟨nm, hnm⟩ : ∃ nm, (t.getD i nd0).text = nm := ⟨_, rfl⟩
        obtain ⟨b, hb⟩ : ∃ b, findP r.sc nm i = b := ⟨_, rfl⟩
        rw [hnm]
        show RsP.Us f { sc := r.sc, slots := r.slots, bds := r.bds.set i (findP r.sc nm i), uses := if (ofF (findP r.sc nm i) && !r.uses.contains nm) = true then r.uses ++ [nm] else r.uses }
        by_cases hof : ofF (findP r.sc nm i) = true
        · obtain ⟨dd, q1, q2⟩ := find_of h.sc hof
          rw [hb] at hof q2 ⊢
          have hmem : b ∈ r.bds.set i b := List.mem_of_getElem? (i := i) (List.getElem?_set_self hlt)
          by_cases hc : nm ∈ r.uses
          · have hcb : r.uses.contains nm = true := by simpa using hc
            rw [hcb, if_neg (by simp)]
            refine ⟨h.sc, h.nd, fun n hn => ?_, fun x hx hk => ?_⟩
            · obtain ⟨d, e1, e2, e3⟩ := h.us n hn
              exact ⟨d, e1, e2, mem_set_new h0 e3 (hof0 _ e2)⟩
            · rcases mem_set_of hx with hx | rfl
              · exact h.bd x hx hk
              · exact ⟨nm, hc, dd, q1, q2⟩
          · have hcb : r.uses.contains nm = false := by simpa using hc
            rw [hcb, hof, if_pos (by simp)]
            refine ⟨h.sc, ?_, fun n hn => ?_, fun x hx hk => ?_⟩
            · rw [List.nodup_append]
              refine ⟨h.nd, by simp, fun a ha c hc2 e => ?_⟩
              rw [List.mem_singleton] at hc2
              subst hc2
              subst e
              exact hc ha
            · rcases List.mem_append.1 hn with hn | hn
              · obtain ⟨d, e1, e2, e3⟩ := h.us n hn
                exact ⟨d, e1, e2, mem_set_new h0 e3 (hof0 _ e2)⟩
              · rw [List.mem_singleton] at hn
                subst hn
                exact ⟨dd, q1, by rw [q2]; exact hof, by rw [q2]; exact hmem⟩
            · rcases mem_set_of hx with hx | rfl
              · obtain ⟨n, hn, d, e1, e2⟩ := h.bd x hx hk
                exact ⟨n, by simp [hn], d, e1, e2⟩
              · exact ⟨nm, by simp, dd, q1, q2⟩
        · have hof : ofF (findP r.sc nm i) = false := by simpa using hof
          rw [hof, hb, if_neg (by simp)]
          rw [hb] at hof
          refine ⟨h.sc, h.nd, fun n hn => ?_, fun x hx hk => ?_⟩
          · obtain ⟨d, e1, e2, e3⟩ := h.us n hn
            exact ⟨d, e1, e2, mem_set_new h0 e3 (hof0 _ e2)⟩
          · rcases mem_set_of hx with hx | rfl
            · exact h.bd x hx hk
            · rw [hof] at hk; cases hk
      · rw [if_neg h3]
        exact h
end Go.Proofs.YtjadckhngalmlaaGreatDoor
