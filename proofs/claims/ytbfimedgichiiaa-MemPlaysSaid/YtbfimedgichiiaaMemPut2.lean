/-
  The document's list of what differs, byte by byte: plain words; and that it is the list of whatever else tells the same addresses.
-/
import Derived.Test.YtbfimedgichiiaaMemPut
import Derived.Test.YtbfimedgichiiaaMemChPure
import Derived.Test.YtbfimedgichiiaaMemWorks
namespace Go.Proofs.Ytbfimedgichiiaa
set_option linter.unusedVariables false
set_option linter.unusedSimpArgs false

/-- Behind the ranges below I whole and K bytes of range I. -/
def RcS (R : Nat → Rg) (c d : Nat → Nat → Int) (I K : Nat) (L : List (Int × Int)) : Prop :=
  Wf 0 L 4294967296 ∧ ∀ x, cov L x ↔ ∃ i k : Nat, (i < I ∨ i = I ∧ k < K) ∧ (k : Int) < (R i).sz ∧ c i k ≠ d i k ∧ x = (R i).fr + k
theorem RcS.start (R : Nat → Rg) (c d : Nat → Nat → Int) : RcS R c d 0 0 [] :=
  ⟨by show (0 : Int) ≤ 4294967296; omega, fun x => ⟨fun h => absurd h (cov_nil x), fun ⟨i, k, h, _⟩ => by omega⟩⟩
theorem RcS.same {R : Nat → Rg} {c d : Nat → Nat → Int} {I K : Nat} {L : List (Int × Int)} (h : RcS R c d I K L) (e : c I K = d I K) : RcS R c d I (K + 1) L := by
  refine ⟨h.1, fun x => (h.2 x).trans ⟨?_, ?_⟩⟩
  · rintro ⟨i, k, h1, h2, h3, h4⟩
    exact ⟨i, k, by omega, h2, h3, h4⟩
  · rintro ⟨i, k, h1, h2, h3, h4⟩
    refine ⟨i, k, ?_, h2, h3, h4⟩
    rcases h1 with h1 | ⟨rfl, h1⟩
    · exact .inl h1
    · rcases Nat.lt_or_ge k K with hk | hk
      · exact .inr ⟨rfl, hk⟩
      · obtain rfl : k = K := by omega
        exact absurd e h3
theorem RcS.put {R : Nat → Rg} {c d : Nat → Nat → Int} {nb I K : Nat} {L : List (Int × Int)} (h : RcS R c d I K L) (hok : okTo R nb = true) (hI : I < nb) (hK : (K : Int) < (R I).sz) (e : c I K ≠ d I K) : RcS R c d I (K + 1) (putP L ((R I).fr + K)) := by
  have hb := rg_bd (okTo_rg hok I hI)
  have hn : ¬ cov L ((R I).fr + K) := fun hc => by
    obtain ⟨i, k, h1, h2, h3, h4⟩ := (h.2 _).1 hc
    rcases h1 with h1 | ⟨rfl, h1⟩
    · have := okTo_apart hok (show i < nb by omega) hI (by omega)
      omega
    · omega
  refine ⟨putP_wf (by omega) (by omega) h.1 hn, fun x => (putP_cov h.1 hn).trans ?_⟩
  rw [h.2 x]
  constructor
  · rintro (⟨i, k, h1, h2, h3, h4⟩ | rfl)
    · exact ⟨i, k, by omega, h2, h3, h4⟩
    · exact ⟨I, K, .inr ⟨rfl, by omega⟩, hK, e, rfl⟩
  · rintro ⟨i, k, h1, h2, h3, h4⟩
    rcases h1 with h1 | ⟨rfl, h1⟩
    · exact .inl ⟨i, k, .inl h1, h2, h3, h4⟩
    · rcases Nat.lt_or_ge k K with hk | hk
      · exact .inl ⟨i, k, .inr ⟨rfl, hk⟩, h2, h3, h4⟩
      · obtain rfl : k = K := by omega
        exact .inr h4
theorem RcS.next {R : Nat → Rg} {c d : Nat → Nat → Int} {I K : Nat} {L : List (Int × Int)} (h : RcS R c d I K L) (hK : (R I).sz ≤ (K : Int)) : RcS R c d (I + 1) 0 L := by
  refine ⟨h.1, fun x => (h.2 x).trans ⟨?_, ?_⟩⟩
  · rintro ⟨i, k, h1, h2, h3, h4⟩
    exact ⟨i, k, by omega, h2, h3, h4⟩
  · rintro ⟨i, k, h1, h2, h3, h4⟩
    refine ⟨i, k, ?_, h2, h3, h4⟩
    rcases h1 with h1 | ⟨rfl, h1⟩
    · rcases Nat.lt_or_ge i I with hi | hi
      · exact .inl hi
      · obtain rfl : i = I := by omega
        exact .inr ⟨rfl, by omega⟩
    · omega
/-- The same bytes on both sides: the same list. -/
theorem RcS.uniq {nb : Nat} {R : Nat → Rg} {C D : Nat → Nat → Nat → Int} {c d : Nat → Nat → Int} {L M : List (Int × Int)} {hi : Int} (h : RcS R c d nb 0 M) (hok : okTo R nb = true)
    (ht : ∀ i j k, i < nb → j < pgs (R i) → k < 4096 → (R i).sz ≤ ((j * 4096 + k : Nat) : Int) → C i j k = D i j k)
    (hc : ∀ i y : Nat, i < nb → (y : Int) < (R i).sz → c i y = byte C i y ∧ d i y = byte D i y)
    (hcov : ∀ x, cov L x ↔ Dif nb R C D x) (hW : Wf 0 L hi) : L = M := by
  refine Wf.uniq hW h.1 (fun x => (hcov x).trans (Iff.trans ?_ (h.2 x).symm))
  constructor
  · rintro ⟨i, j, k, h1, h2, h3, h4, h5⟩
    have hlt : ((j * 4096 + k : Nat) : Int) < (R i).sz := by
      rcases Int.lt_or_le ((j * 4096 + k : Nat) : Int) (R i).sz with hl | hl
      · exact hl
      · exact absurd (ht i j k h1 h2 h3 hl) h4
    refine ⟨i, j * 4096 + k, .inl h1, hlt, ?_, h5⟩
    rw [(hc i _ h1 hlt).1, (hc i _ h1 hlt).2]
    unfold byte
    rw [show (j * 4096 + k) / 4096 = j by omega, show (j * 4096 + k) % 4096 = k by omega]
    exact h4
  · rintro ⟨i, k, h1, h2, h3, h4⟩
    have hi : i < nb := by omega
    rw [(hc i k hi h2).1, (hc i k hi h2).2] at h3
    have hb := rg_bd (okTo_rg hok i hi)
    refine ⟨i, k / 4096, k % 4096, hi, ?_, by omega, h3, ?_⟩
    · unfold pgs
      omega
    · rw [show k / 4096 * 4096 + k % 4096 = k by omega]
      exact h4
end Go.Proofs.Ytbfimedgichiiaa
