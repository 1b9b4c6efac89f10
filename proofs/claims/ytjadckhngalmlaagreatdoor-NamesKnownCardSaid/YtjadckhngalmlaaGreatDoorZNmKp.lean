/-
  What a function uses: plain; whether a text is in a list, in the code.
-/
import Derived.Test.YtjadckhngalmlaaGreatDoorZNmKe
namespace Go.Proofs.YtjadckhngalmlaaGreatDoor
set_option linter.unusedVariables false
set_option linter.unusedSimpArgs false
set_option maxRecDepth 100000
open Go.RowKit

theorem seen_len : ∀ (l s : List BdP), (seenP s l).length ≤ s.length + l.length
  | [], s => Nat.le_refl _
  | b :: l, s => by
    unfold seenP
    split
    · have := seen_len l (s ++ [b])
      simp at this ⊢
      omega
    · have := seen_len l s
      simp
      omega
theorem seen_snoc : ∀ (l s : List BdP) (b : BdP), seenP s (l ++ [b]) = if (ofF b && !(seenP s l).contains b) = true then seenP s l ++ [b] else seenP s l
  | [], s, b => rfl
  | c :: l, s, b => by
    show seenP s (c :: (l ++ [b])) = _
    by_cases hc : (ofF c && !s.contains c) = true
    · have e1 : seenP s (c :: (l ++ [b])) = seenP (s ++ [c]) (l ++ [b]) := by show (if _ then _ else _) = _; rw [if_pos hc]
      have e2 : seenP s (c :: l) = seenP (s ++ [c]) l := by show (if _ then _ else _) = _; rw [if_pos hc]
      rw [e1, e2]
      exact seen_snoc l _ b
    · have e1 : seenP s (c :: (l ++ [b])) = seenP s (l ++ [b]) := by show (if _ then _ else _) = _; rw [if_neg hc]
      have e2 : seenP s (c :: l) = seenP s l := by show (if _ then _ else _) = _; rw [if_neg hc]
      rw [e1, e2]
      exact seen_snoc l _ b
/-- What is plain about what a function uses. -/
structure KnP (u : UnP) (nm : List UInt8) : Prop where
  rd : (rdA u).1.2 = 0
  us : ∀ n ∈ (rvA u nm).2.uses, n ∈ (rdA u).2.order
  nd : (rvA u nm).2.uses.Nodup
  ct : (seenP [] (rvA u nm).2.bds).length = (rvA u nm).2.uses.length
  bl : (rvA u nm).2.bds.length ≤ 4096
  ul : (rvA u nm).2.uses.length ≤ 4096
  ol : (rdA u).2.order.length ≤ 512
theorem KnP.of {u : UnP} {nm : List UInt8} (h : (rvA u nm).1.2 = 0) : KnP u nm := by
  obtain ⟨h0, x, ps, hb, hg, hck, h4, hp, h8, hn, hm, hr, hz⟩ := rv_ok h
  obtain ⟨hwf, _⟩ := rdA_wf h0
  have hus := rsA_us hg h4 hz
  obtain ⟨a1, a2, a3, a4, a5⟩ := rsA_all hwf hg h4 h8 hz
  obtain ⟨_, o2, o3⟩ := rdA_of h0
  rw [← hr] at hus a4
  have hct := Us_count hwf hus
  have hsl := seen_len (rvA u nm).2.bds []
  exact ⟨h0, Us_order hwf hus, hus.nd, hct, by omega, by rw [← hct]; simp at hsl; omega, o2⟩
theorem c_bIn (g cap n : Nat) (T : List (List UInt8)) (l : List UInt8) (w : World) (hn : T.length = n) (hn2 : n ≤ 100000) (hc : n ≤ cap) (hT : ∀ k s, T[k]? = some s → w.cell? ⟨g, k, none⟩ = some (.string ⟨s.toArray⟩)) :
    Calls Tryz.prog 14 #[.slice (some ⟨g, 0, none⟩) n cap, .string ⟨l.toArray⟩] w fun e w' => e = .returned (.bool (T.contains l)) ∧ w' = w := by
  have HT := Lib.hid hT
  have HN := Lib.hid hn
  obtain ⟨r, hr⟩ : ∃ r, r = T.contains l := ⟨_, rfl⟩
  have HRr := Lib.hid hr
  rw [← hr]
  clear hT hn hr
  go_enter Tryz.func14, Tryz.ntmps14
  go_wp2
  go_loop [5] (fun i => ∃ k : Nat, k ≤ n ∧ i = .int .i64 k ∧ Hid ((T.take k).contains l = false)) (fun i => n - (intOf i).toNat)
  case atStart => exact ⟨0, Nat.zero_le _, rfl, rfl⟩
  case round =>
    obtain ⟨k, hk, rfl, HK⟩ := hrel
    by_cases hlt : k < n
    · obtain ⟨s, hs⟩ : ∃ s, T[k]? = some s := ⟨_, List.getElem?_eq_getElem (by rw [HN.out]; exact hlt)⟩
      have hcell := HT.out k s hs
      have HTk : Hid (T.take (k + 1) = T.take k ++ [s]) := by show _ = _; rw [List.take_add_one, hs]; rfl
      have HIn : Hid (s ∈ T) := List.mem_of_getElem? hs
      have hk0 : (0 : Int) ≤ (k : Int) := by omega
      have hk1 : (k : Int) < (n : Int) := by omega
      clear hs
      cases he : (s == l)
      · have HNx : Hid ((T.take (k + 1)).contains l = false) := by
          have h := HK.out
          rw [List.contains_eq_any_beq] at h
          show _ = _
          rw [HTk.out, List.contains_eq_any_beq, List.any_append, h]
          have : (l == s) = false := by rw [Bool.eq_false_iff]; intro h2; rw [beq_iff_eq] at h2; subst h2; simp at he
          simp [this]
        go_wp2
        go_round
        case rel => exact ⟨k + 1, by omega, by go_num, HNx⟩
        case measure => simp [intOf]; omega
      · have HV : Hid (r = true) := by
          rw [beq_iff_eq] at he
          subst he
          show _ = _
          rw [HRr.out, List.contains_iff_mem]
          exact HIn.out
        go_wp2
        go_ret
        exact ⟨ret_b HV.out.symm, rfl⟩
    · have hge : decide (k < n) = false := by simp; omega
      have HV : Hid (r = false) := by
        have h := HK.out
        rw [List.take_of_length_le (by rw [HN.out]; omega)] at h
        exact HRr.out.trans h
      clear hk hlt
      go_wp2
      go_ret
      exact ⟨ret_b HV.out.symm, rfl⟩
end Go.Proofs.YtjadckhngalmlaaGreatDoor
