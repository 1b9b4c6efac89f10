/-
  Plain counting: how many numbers a list of gaps covers, and how many bytes of apart ranges differ.
-/
import Derived.Test.YtbfimedgichiiaaMemGap
namespace Go.Proofs.Ytbfimedgichiiaa
set_option linter.unusedVariables false

def cnt (p : Nat → Bool) : Nat → Nat
  | 0 => 0
  | n + 1 => cnt p n + (if p n = true then 1 else 0)
theorem cnt_congr {p q : Nat → Bool} : ∀ (n : Nat), (∀ x, x < n → p x = q x) → cnt p n = cnt q n
  | 0, _ => rfl
  | n + 1, h => by
    unfold cnt
    rw [cnt_congr n (fun x hx => h x (by omega)), h n (by omega)]
theorem cnt_or {p q : Nat → Bool} : ∀ (n : Nat), (∀ x, x < n → ¬ (p x = true ∧ q x = true)) → cnt (fun x => p x || q x) n = cnt p n + cnt q n
  | 0, _ => rfl
  | n + 1, h => by
    have ih := cnt_or n (fun x hx => h x (by omega))
    have hn := h n (by omega)
    unfold cnt
    rw [ih]
    cases hp : p n <;> cases hq : q n <;> simp [hp, hq] at hn ⊢ <;> omega
theorem cnt_shift (q : Nat → Bool) (a s : Nat) : ∀ N, cnt (fun x => decide (a ≤ x) && decide (x < a + s) && q (x - a)) N = cnt q (min s (N - a))
  | 0 => by simp [cnt]
  | N + 1 => by
    have ih := cnt_shift q a s N
    rw [cnt, ih]
    by_cases h1 : a ≤ N
    · by_cases h2 : N < a + s
      · rw [show min s (N - a) = N - a by omega, show min s (N + 1 - a) = (N - a) + 1 by omega, cnt]
        simp [h1, h2]
      · rw [show min s (N - a) = s by omega, show min s (N + 1 - a) = s by omega]
        simp [h2]
    · rw [show min s (N - a) = 0 by omega, show min s (N + 1 - a) = 0 by omega]
      simp [h1]
theorem cnt_all : ∀ (n : Nat), cnt (fun _ => true) n = n
  | 0 => rfl
  | n + 1 => by unfold cnt; rw [cnt_all n]; simp
/-- Does a list of gaps cover a number? -/
def covB (L : List (Int × Int)) (x : Int) : Bool := L.any fun g => decide (g.1 ≤ x) && decide (x < g.1 + g.2)
theorem covB_iff (L : List (Int × Int)) (x : Int) : covB L x = true ↔ cov L x := by
  unfold covB cov
  simp
theorem covB_app (L M : List (Int × Int)) (x : Int) : covB (L ++ M) x = (covB L x || covB M x) := by
  unfold covB
  rw [List.any_append]
theorem covB_one (g : Int × Int) (x : Int) : covB [g] x = (decide (g.1 ≤ x) && decide (x < g.1 + g.2)) := by
  unfold covB
  simp
/-- How much a list of gaps covers. -/
def sumG (L : List (Int × Int)) : Int := (L.map (·.2)).sum
theorem sumG_cnt (N : Nat) {lo hi : Int} : ∀ {L : List (Int × Int)}, Wf lo L hi → 0 ≤ lo → hi ≤ N → sumG L = cnt (fun x => covB L x) N
  | [], h, h0, hN => by
    have : cnt (fun x => covB [] x) N = 0 := by
      have h := cnt_shift (fun _ => true) 0 0 N
      rw [show min 0 (N - 0) = 0 by omega] at h
      refine Eq.trans (cnt_congr N (fun x _ => ?_)) h
      simp [covB]
    rw [this]
    rfl
  | g :: l, h, h0, hN => by
    obtain ⟨h1, h2, h3, h4, h5⟩ := h
    have ih := sumG_cnt N h5 h0 hN
    have e : cnt (fun x => covB (g :: l) x) N = cnt (fun x => (decide (g.1.toNat ≤ x) && decide (x < g.1.toNat + g.2.toNat) && true) || covB l x) N := cnt_congr N (fun x hx => by
      show covB (g :: l) x = _
      unfold covB
      simp only [List.any_cons, Bool.and_true]
      congr 1
      congr 1
      · exact decide_eq_decide.2 (by omega)
      · exact decide_eq_decide.2 (by omega))
    rw [e, cnt_or N (fun x hx => ?_), cnt_shift (fun _ => true), cnt_all]
    · show g.2 + sumG l = _
      rw [ih]
      have : min g.2.toNat (N - g.1.toNat) = g.2.toNat := by omega
      omega
    · rintro ⟨ha, hb⟩
      simp only [Bool.and_true, Bool.and_eq_true, decide_eq_true_eq] at ha
      obtain ⟨k, hk, k1, k2⟩ := (covB_iff l x).1 hb
      have := h4 k hk
      omega
/-- How many bytes differ in the first ranges. -/
def toldI (dif : Nat → Nat → Bool) (sz : Nat → Nat) : Nat → Nat
  | 0 => 0
  | i + 1 => toldI dif sz i + cnt (dif i) (sz i)
def inB (dif : Nat → Nat → Bool) (fr sz : Nat → Nat) : Nat → Nat → Bool
  | 0, _ => false
  | i + 1, x => (decide (fr i ≤ x) && decide (x < fr i + sz i) && dif i (x - fr i)) || inB dif fr sz i x
theorem inB_iff (dif : Nat → Nat → Bool) (fr sz : Nat → Nat) (x : Nat) : ∀ n, inB dif fr sz n x = true ↔ ∃ i, i < n ∧ fr i ≤ x ∧ x < fr i + sz i ∧ dif i (x - fr i) = true
  | 0 => by simp [inB]
  | n + 1 => by
    unfold inB
    rw [Bool.or_eq_true, inB_iff dif fr sz x n]
    simp only [Bool.and_eq_true, decide_eq_true_eq]
    constructor
    · rintro (⟨⟨h1, h2⟩, h3⟩ | ⟨i, h0, h⟩)
      · exact ⟨n, by omega, h1, h2, h3⟩
      · exact ⟨i, by omega, h⟩
    · rintro ⟨i, h0, h1, h2, h3⟩
      by_cases e : i = n
      · subst e; exact .inl ⟨⟨h1, h2⟩, h3⟩
      · exact .inr ⟨i, by omega, h1, h2, h3⟩
theorem told_cnt (N : Nat) (dif : Nat → Nat → Bool) (fr sz : Nat → Nat) : ∀ n, (∀ i, i < n → fr i + sz i ≤ N) → (∀ i j x, i < j → j < n → ¬ ((fr i ≤ x ∧ x < fr i + sz i) ∧ (fr j ≤ x ∧ x < fr j + sz j))) → cnt (inB dif fr sz n) N = toldI dif sz n
  | 0, _, _ => by
    have h := cnt_shift (fun _ => true) 0 0 N
    rw [show min 0 (N - 0) = 0 by omega] at h
    refine Eq.trans (cnt_congr N (fun x _ => ?_)) h
    simp [inB]
  | n + 1, h1, h2 => by
    have ih := told_cnt N dif fr sz n (fun i hi => h1 i (by omega)) (fun i j x hij hj => h2 i j x hij (by omega))
    have hN := h1 n (by omega)
    show cnt (fun x => (decide (fr n ≤ x) && decide (x < fr n + sz n) && dif n (x - fr n)) || inB dif fr sz n x) N = toldI dif sz n + cnt (dif n) (sz n)
    rw [cnt_or N (fun x hx => ?_), cnt_shift (dif n), ih, show min (sz n) (N - fr n) = sz n by omega]
    · omega
    · rintro ⟨ha, hb⟩
      simp only [Bool.and_eq_true, decide_eq_true_eq] at ha
      obtain ⟨i, k0, k1, k2, _⟩ := (inB_iff dif fr sz x n).1 hb
      exact h2 i n x k0 (by omega) ⟨⟨k1, k2⟩, ha.1⟩
end Go.Proofs.Ytbfimedgichiiaa
