/-
  The contracts of what an object takes, of a struct's member and of an object's scalars, in the code; what is plain of them.
-/
import Derived.Test.YtacbjhbiaaieoaaGreatDoorTzQb
import Derived.Test.YtacbjhbiaaieoaaGreatDoorTzKf
namespace Go.Proofs.YtacbjhbiaaieoaaGreatDoor
set_option linter.unusedVariables false
set_option linter.unusedSimpArgs false

def A124 (a : Nat) : Prop := a = 1 ∨ a = 2 ∨ a = 4
theorem a124_max {a b : Nat} (ha : A124 a) (hb : A124 b) : A124 (max a b) := by
  unfold A124 at *
  omega
theorem a124_mod {a b : Nat} (ha : A124 a) (hb : A124 b) (h : a ≤ b) : b % a = 0 := by
  unfold A124 at *
  rcases ha with rfl | rfl | rfl <;> rcases hb with rfl | rfl | rfl <;> omega
theorem mod_max {a b c : Nat} (ha : a = 0 ∨ A124 a) (hb : A124 b) (hc : A124 c) (h : a % c = 0) : max a b % c = 0 ∨ a = 0 := by
  rcases ha with ha | ha
  · exact .inr ha
  · left
    unfold A124 at *
    rcases ha with rfl | rfl | rfl <;> rcases hb with rfl | rfl | rfl <;> rcases hc with rfl | rfl | rfl <;> simp at h ⊢
theorem up_mod (b a : Nat) : upN b a % a = 0 := by
  unfold upN
  exact Nat.mul_mod_left _ _
/-- Structs laid out are aligned. -/
def GdA (L : List LayP) : Prop := ∀ x ∈ L, A124 x.align ∧ x.bytes % x.align = 0
theorem al_t {L : List LayP} (hA : GdA L) : ∀ (t : Ty), t.wf → objI t.letter.toNat = true → anyT badT t = false → lackT L t = false → A124 (extT L t).2.1 ∧ ((extT L t).1 ≤ 65536 → (extT L t).1 % (extT L t).2.1 = 0)
  | .base c, hw, ho, hb, hl => by
    have hc : baseC c = true := hw
    unfold baseC at hc
    simp at hc
    rcases hc with ((((hc | hc) | hc) | hc) | hc) | hc <;> subst hc
    · exact absurd ho (by show ¬ objI (118 : Int) = true; decide)
    all_goals exact ⟨by simp [extT, A124], fun _ => by simp [extT]⟩
  | .ptr _, _, _, _, _ => ⟨by simp [extT, A124], fun _ => by simp [extT]⟩
  | .str s, _, _, _, hl => by
    have h1 : (findL L s).isNone = false := hl
    unfold extT
    cases h2 : findL L s with
    | none => rw [h2] at h1; cases h1
    | some x =>
      have := hA x (find_mem h2).1
      exact ⟨this.1, fun _ => this.2⟩
  | .arr n u, hw, ho, hb, hl => by
    obtain ⟨b1, b2, b3⟩ := bad_arr hb
    obtain ⟨h1, h2⟩ := al_t hA u hw.2 b3 b2 hl
    have hn : 1 ≤ n := by
      have : (!(decide (1 ≤ n) && decide (n ≤ 65536) && objI u.letter.toNat)) = false := b1
      simp only [Bool.not_eq_false', Bool.and_eq_true, decide_eq_true_eq] at this
      exact this.1.1
    refine ⟨h1, fun h => ?_⟩
    have h3 : min ((extT L u).1 * n) 65537 ≤ 65536 := h
    show min ((extT L u).1 * n) 65537 % (extT L u).2.1 = 0
    have h4 : (extT L u).1 ≤ (extT L u).1 * n := Nat.le_mul_of_pos_right _ hn
    rw [Nat.min_eq_left (by omega)]
    have h5 := h2 (by omega)
    rw [Nat.mul_mod, h5, Nat.zero_mul, Nat.zero_mod]
  | .fn _ _, _, ho, _, _ => absurd ho (by show ¬ objI (102 : Int) = true; decide)
/-- A member that is right, of structs that are laid out. -/
structure MOk (L : List LayP) (y : MemP) : Prop where
  wf : y.ty.wf
  len : y.ty.code.length ≤ 65536
  oj : ojT L y.ty = 0
theorem MOk.all {L : List LayP} {y : MemP} (h : MOk L y) : objI y.ty.letter.toNat = true ∧ anyT badT y.ty = false ∧ lackT L y.ty = false := by
  obtain ⟨r1, r2⟩ := oj_obj h.oj
  obtain ⟨q1, q2, q3, q4⟩ := rg_ok r1
  exact ⟨r2, q2, q3⟩
def scS (L : List LayP) (M : List MemP) : Nat := (M.map fun y => (extT L y.ty).2.2.1).sum
theorem scS_snoc (L : List LayP) (M : List MemP) (y : MemP) : scS L (M ++ [y]) = scS L M + (extT L y.ty).2.2.1 := by
  unfold scS
  simp
/-- While members are laid out. -/
structure InM (L : List LayP) (x : AcP) : Prop where
  a : (x.a = 0 ∧ x.mems = []) ∨ A124 x.a
  m : ∀ y ∈ x.mems, MOk L y ∧ y.at' + (extT L y.ty).1 ≤ x.b ∧ y.at' % (extT L y.ty).2.1 = 0 ∧ x.a % (extT L y.ty).2.1 = 0
  s : x.s = scS L x.mems
theorem InM.start (L : List LayP) : InM L ac0 := ⟨.inl ⟨rfl, rfl⟩, (fun y hy => by cases hy), rfl⟩
theorem InM.add {L : List LayP} (hL : GdL L) (hA : GdA L) {x : AcP} (h : InM L x) {m : List UInt8 × List UInt8} (hm : memE L x.mems m = 0) : InM L (addM L x m) := by
  obtain ⟨t, ht, hwf, _, _, hoj, h1, h2, h3⟩ := mem_ok hL hm
  have hlen : t.code.length ≤ 65536 := by
    have := (tk_some ht).2
    rw [← this.1]
    exact this.2
  have hok : MOk L ⟨t, m.1, upN x.b (extT L t).2.1⟩ := ⟨hwf, hlen, hoj⟩
  obtain ⟨o1, o2, o3⟩ := hok.all
  obtain ⟨g1, g2⟩ := al_t hA t hwf o1 o2 o3
  have hb := (ext_bd hL t).2.1
  have hu := up_bd x.b (extT L t).2.1 h1 hb
  unfold addM
  rw [h3]
  have hmax : A124 (max x.a (extT L t).2.1) := by
    rcases h.a with ⟨ha, _⟩ | ha
    · rw [ha, Nat.max_eq_right (Nat.zero_le _)]; exact g1
    · exact a124_max ha g1
  refine ⟨.inr hmax, fun y hy => ?_, ?_⟩
  · rcases List.mem_append.1 hy with hy | hy
    · obtain ⟨k1, k2, k3, k4⟩ := h.m y hy
      obtain ⟨p1, p2, p3⟩ := k1.all
      have ga := (al_t hA y.ty k1.wf p1 p2 p3).1
      refine ⟨k1, by show _ ≤ upN x.b (extT L t).2.1 + (extT L t).1; omega, k3, ?_⟩
      show max x.a (extT L t).2.1 % _ = 0
      rcases h.a with ⟨_, ha⟩ | ha
      · rw [ha] at hy; cases hy
      · rcases mod_max (.inr ha) g1 ga k4 with h9 | h9
        · exact h9
        · unfold A124 at ha; omega
    · rw [List.mem_singleton] at hy
      subst hy
      refine ⟨hok, Nat.le_refl _, up_mod _ _, ?_⟩
      show max x.a (extT L t).2.1 % _ = 0
      exact a124_mod g1 hmax (Nat.le_max_right _ _)
  · show x.s + (extT L t).2.2.1 = scS L (x.mems ++ [_])
    rw [scS_snoc, h.s]
theorem goM_in {L : List LayP} (hL : GdL L) (hA : GdA L) : ∀ (ms : List (List UInt8 × List UInt8)) (x : AcP), InM L x → (goM L x ms).1 = 0 → InM L (goM L x ms).2
  | [], x, h, _ => h
  | m :: ms, x, h, h0 => by
    rw [goM_step] at h0 ⊢
    split at h0
    · rename_i h1
      rw [if_pos h1]
      exact goM_in hL hA ms _ (h.add hL hA h1) h0
    · exact absurd h0 (by assumption)
/-- What is said of a struct's members. -/
structure LOk (L : List LayP) (x : LayP) : Prop where
  al : A124 x.align
  by' : x.bytes % x.align = 0
  le : x.bytes ≤ 65536
  m : ∀ y ∈ x.mems, MOk L y ∧ y.at' + (extT L y.ty).1 ≤ x.bytes ∧ y.at' % (extT L y.ty).2.1 = 0 ∧ x.align % (extT L y.ty).2.1 = 0
  s : x.scal = scS L x.mems
theorem nx_in {L : List LayP} (hL : GdL L) (hA : GdA L) {s : StP} (h : nxE L s = 0) : LOk L (nxL L s) := by
  obtain ⟨_, _, _, h4, h5, h6⟩ := nx_ok h
  have hi := goM_in hL hA s.mems ac0 (InM.start L) h5
  have hb := goM_b hL s.mems ac0 acb0
  have hl := goM_all s.mems ac0 h5
  have h0 : ac0.mems.length = 0 := rfl
  have hp : 0 < s.mems.length := List.length_pos_iff.2 h4
  have hal : A124 (goM L ac0 s.mems).2.a := by
    rcases hi.a with ⟨_, h9⟩ | h9
    · rw [h9] at hl; simp at hl; omega
    · exact h9
  have hu := up_bd (goM L ac0 s.mems).2.b (goM L ac0 s.mems).2.a (hb.a1 (by omega)) hb.a
  refine ⟨hal, up_mod _ _, h6, fun y hy => ?_, hi.s⟩
  obtain ⟨k1, k2, k3, k4⟩ := hi.m y hy
  refine ⟨k1, ?_, k3, k4⟩
  show _ ≤ upN _ _
  omega
theorem mt_gdA {L : List LayP} {S : List StP} (hL : GdL L) (hm : MtL L S) : ∀ k, GdA (L.take k)
  | 0 => fun x hx => by simp at hx
  | k + 1 => fun x hx => by
    obtain ⟨i, hi⟩ := List.getElem?_of_mem hx
    have hik : i < k + 1 := by
      have := (List.getElem?_eq_some_iff.1 hi).1
      rw [List.length_take] at this
      omega
    rw [List.getElem?_take_of_lt hik] at hi
    by_cases h : i < k
    · exact mt_gdA hL hm k x (List.mem_of_getElem? (i := i) (by rw [List.getElem?_take_of_lt h]; exact hi))
    · obtain rfl : i = k := by omega
      obtain ⟨s, h1, h2, h3⟩ := hm i x hi
      have := nx_in (gd_take hL i) (mt_gdA hL hm i) h2
      rw [h3]
      exact ⟨this.al, this.by'⟩
theorem mt_lok {L : List LayP} {S : List StP} (hL : GdL L) (hm : MtL L S) {i : Nat} {x : LayP} (hx : L[i]? = some x) : LOk (L.take i) x := by
  obtain ⟨s, h1, h2, h3⟩ := hm i x hx
  rw [h3]
  exact nx_in (gd_take hL i) (mt_gdA hL hm i) h2
/-- What lacks in no fewer structs lacks in no more. -/
theorem lack_mono {L : List LayP} {i k : Nat} (h : i ≤ k) : ∀ (t : Ty), lackT (L.take i) t = false → lackT (L.take k) t = false
  | .base _, _ => rfl
  | .ptr _, _ => rfl
  | .fn _ _, _ => rfl
  | .arr _ u, h1 => lack_mono h u h1
  | .str s, h1 => by
    have h2 : (findL (L.take i) s).isNone = false := h1
    show (findL (L.take k) s).isNone = false
    cases hf : findL (L.take i) s with
    | none => rw [hf] at h2; cases h2
    | some x =>
      have e : L.take i = (L.take k).take i := by rw [List.take_take, Nat.min_eq_left h]
      rw [e] at hf
      rw [find_take hf]
      rfl
/-! ### Scalars -/
/-- The scalars of a type at a place, structs being told by G. -/
def scT (L : List LayP) (G : List UInt8 → Nat → List (Nat × List UInt8)) : Ty → Nat → List (Nat × List UInt8)
  | .arr n u, a => (List.range n).flatMap fun i => scT L G u (a + i * (extT L u).1)
  | .str s, a => G s a
  | .base c, a => if c = 106 then [] else [(a, (Ty.base c).code)]
  | .ptr u, a => [(a, (Ty.ptr u).code)]
  | .fn ps r, a => [(a, (Ty.fn ps r).code)]
def scG (L : List LayP) : Nat → List UInt8 → Nat → List (Nat × List UInt8)
  | 0 => fun _ _ => []
  | k + 1 => fun s a => match findL L s with
    | some x => x.mems.flatMap fun y => scT L (scG L k) y.ty (a + y.at')
    | none => []
/-- An object's type of which nothing is lacking in the first k structs. -/
structure TOk (L : List LayP) (k : Nat) (t : Ty) : Prop where
  wf : t.wf
  len : t.code.length ≤ 65536
  ob : objI t.letter.toNat = true
  bad : anyT badT t = false
  lack : lackT (L.take k) t = false
theorem TOk.arr {L : List LayP} {k n : Nat} {u : Ty} (h : TOk L k (.arr n u)) : TOk L k u ∧ 1 ≤ n ∧ n ≤ 65536 := by
  obtain ⟨b1, b2, b3⟩ := bad_arr h.bad
  have hn : 1 ≤ n ∧ n ≤ 65536 := by
    have : (!(decide (1 ≤ n) && decide (n ≤ 65536) && objI u.letter.toNat)) = false := b1
    simp only [Bool.not_eq_false', Bool.and_eq_true, decide_eq_true_eq] at this
    exact this.1
  exact ⟨⟨h.wf.2, by have := arr_len n u; have := h.len; omega, b3, b2, h.lack⟩, hn⟩
theorem TOk.full {L : List LayP} {k : Nat} {t : Ty} (h : TOk L k t) : lackT L t = false := by
  have h1 : lackT (L.take (max k L.length)) t = false := lack_mono (Nat.le_max_left _ _) t h.lack
  rwa [List.take_of_length_le (Nat.le_max_right _ _)] at h1
/-- A struct that is laid out among the first k, with its members. -/
theorem sc_str {L : List LayP} {S : List StP} (hL : GdL L) (hm : MtL L S) {k : Nat} {s : List UInt8} (h : TOk L k (.str s)) : ∃ (i k' : Nat) (x : LayP), k = k' + 1 ∧ i ≤ k' ∧ L[i]? = some x ∧ findL L s = some x ∧ LOk (L.take i) x ∧ ∀ y ∈ x.mems, TOk L k' y.ty ∧ y.at' + (extT L y.ty).1 ≤ x.bytes ∧ y.at' % (extT L y.ty).2.1 = 0 ∧ x.align % (extT L y.ty).2.1 = 0 ∧ extT L y.ty = extT (L.take i) y.ty := by
  have h1 : (findL (L.take k) s).isNone = false := h.lack
  cases hf : findL (L.take k) s with
  | none => rw [hf] at h1; cases h1
  | some x =>
    obtain ⟨i, st, g1, g2, g3, g4, g5⟩ := mt_find (mt_take hm k) hf
    have hik : i < k := by
      have := (List.getElem?_eq_some_iff.1 g1).1
      rw [List.length_take] at this
      omega
    rw [List.getElem?_take_of_lt hik] at g1
    have hlo := mt_lok hL hm g1
    obtain ⟨k', rfl⟩ : ∃ k', k = k' + 1 := ⟨k - 1, by omega⟩
    refine ⟨i, k', x, rfl, by omega, g1, find_take hf, hlo, fun y hy => ?_⟩
    obtain ⟨k1, k2, k3, k4⟩ := hlo.m y hy
    obtain ⟨p1, p2, p3⟩ := k1.all
    have e := ext_take (L := L) (k := i) y.ty p3
    exact ⟨⟨k1.wf, k1.len, p1, p2, lack_mono (by omega) y.ty p3⟩, by rw [e]; exact k2, by rw [e]; exact k3, by rw [e]; exact k4, e⟩
theorem flat_len {α β : Type} (f : α → List β) (c : Nat) : ∀ (l : List α), (∀ x ∈ l, (f x).length = c) → (l.flatMap f).length = l.length * c
  | [], _ => by simp
  | x :: l, h => by
    rw [List.flatMap_cons, List.length_append, h x (by simp), flat_len f c l (fun y hy => h y (by simp [hy])), List.length_cons, Nat.add_mul]
    omega
/-- How many scalars a type has. -/
def ScL (L : List LayP) (k : Nat) (t : Ty) : Prop := ∃ c, (∀ a, (scT L (scG L k) t a).length = c) ∧ min c 65537 = (extT L t).2.2.1
theorem sc_len_str {L : List LayP} {S : List StP} (hL : GdL L) (hm : MtL L S) (k : Nat) (IH : ∀ k', k' < k → ∀ t, TOk L k' t → ScL L k' t) (s : List UInt8) (h : TOk L k (.str s)) : ScL L k (.str s) := by
  obtain ⟨i, k', x, rfl, hi, hx, hf, hlo, hmem⟩ := sc_str hL hm h
  have hE : extT L (.str s) = (x.bytes, x.align, x.scal, true) := by
    unfold extT
    rw [hf]
  have key : ∀ (M : List MemP), (∀ y ∈ M, y ∈ x.mems) → ∀ a, (M.flatMap fun y => scT L (scG L k') y.ty (a + y.at')).length = scS (L.take i) M := by
    intro M
    induction M with
    | nil => intro _ a; rfl
    | cons y M ih =>
      intro hM a
      obtain ⟨q1, q2, q3, q4, q5⟩ := hmem y (hM y (by simp))
      obtain ⟨c, c1, c2⟩ := IH k' (by omega) y.ty q1
      rw [List.flatMap_cons, List.length_append, c1, ih (fun z hz => hM z (by simp [hz]))]
      show _ = (extT (L.take i) y.ty).2.2.1 + scS (L.take i) M
      have hb := (ext_bd hL y.ty).2.2
      have hl := hlo.le
      rw [← q5]
      omega
  refine ⟨x.scal, fun a => ?_, ?_⟩
  · show (match findL L s with | some x => x.mems.flatMap fun (y : MemP) => scT L (scG L k') y.ty (a + y.at') | none => []).length = _
    rw [hf]
    show (x.mems.flatMap fun (y : MemP) => scT L (scG L k') y.ty (a + y.at')).length = _
    rw [key x.mems (fun y hy => hy) a, hlo.s]
  · rw [hE]
    show min x.scal 65537 = x.scal
    have h1 := (ext_bd hL (.str s)).2.2
    rw [hE] at h1
    have h2 : x.scal ≤ x.bytes := h1
    have := hlo.le
    omega
theorem sc_len_all {L : List LayP} {S : List StP} (hL : GdL L) (hm : MtL L S) (k : Nat) (IH : ∀ k', k' < k → ∀ t, TOk L k' t → ScL L k' t) : ∀ t, TOk L k t → ScL L k t
  | .str s, h => sc_len_str hL hm k IH s h
  | .arr n u, h => by
    obtain ⟨hu, hn, hn2⟩ := h.arr
    obtain ⟨c, c1, c2⟩ := sc_len_all hL hm k IH u hu
    refine ⟨n * c, fun a => ?_, ?_⟩
    · show ((List.range n).flatMap fun i => scT L (scG L k) u (a + i * (extT L u).1)).length = _
      rw [flat_len _ c _ (fun i _ => c1 _), List.length_range]
    · show min (n * c) 65537 = min ((extT L u).2.2.1 * n) 65537
      rw [← c2]
      by_cases hc : c ≤ 65537
      · rw [Nat.min_eq_left hc, Nat.mul_comm]
      · have h3 : 65537 ≤ n * c := Nat.le_trans (by omega : 65537 ≤ c) (Nat.le_mul_of_pos_left _ hn)
        have h4 : 65537 ≤ min c 65537 * n := by rw [Nat.min_eq_right (by omega)]; exact Nat.le_mul_of_pos_right _ hn
        omega
  | .ptr u, h => ⟨1, fun a => rfl, rfl⟩
  | .fn ps r, h => absurd h.ob (by show ¬ objI (102 : Int) = true; decide)
  | .base x, h => by
    have hc : baseC x = true := h.wf
    unfold baseC at hc
    simp at hc
    rcases hc with ((((hc | hc) | hc) | hc) | hc) | hc <;> subst hc
    · exact absurd h.ob (by show ¬ objI (118 : Int) = true; decide)
    · exact ⟨1, fun a => rfl, rfl⟩
    · exact ⟨1, fun a => rfl, rfl⟩
    · exact ⟨1, fun a => rfl, rfl⟩
    · exact ⟨1, fun a => rfl, rfl⟩
    · exact ⟨0, fun a => rfl, rfl⟩
theorem sc_len {L : List LayP} {S : List StP} (hL : GdL L) (hm : MtL L S) (k : Nat) : ∀ t, TOk L k t → ScL L k t := by
  induction k using Nat.strongRecOn with
  | ind k ih => exact sc_len_all hL hm k ih
end Go.Proofs.YtacbjhbiaaieoaaGreatDoor
namespace Go.Proofs.YtacbjhbiaaieoaaGreatDoor
set_option linter.unusedVariables false
set_option linter.unusedSimpArgs false
set_option maxRecDepth 100000
open Go.RowKit

/-- What layOut answers, and that it lies in rows of its own. -/
def LoZ (S : List StP) (w : World) (e : Ending) (w' : World) : Prop :=
  (((loA S).2.1 = 0 ∧ ∃ a c K, e = .returned (.tuple #[.slice a (loA S).2.2.length c, .agg #[.int .i64 0, .int .i64 0]]) ∧ KoX w.heap.size K (.slice a (loA S).2.2.length c) w' ∧ K.map Prod.fst = (loA S).2.2) ∨ ((loA S).2.1 ≠ 0 ∧ e = .returned (.tuple #[.slice none 0 0, .agg #[.int .i64 (loA S).1, .int .i64 (loA S).2.1]]))) ∧ Below w.heap.size w w'
set_option maxHeartbeats 8000000 in
theorem c_layOutZ (B : Nat) (S : List StP) (a : Option Addr) (c : Nat) (hS : SzS S) (hSl : S.length ≤ 4503599627370496) (w : World) (hE : Env B w) (hB : B ≤ w.heap.size) (hI : StIn S a w) :
    Calls Tryz.prog 41 #[.slice a S.length c] w fun e w' => LoZ S w e w' := by
  have HE := Lib.hid (fun w' (hb : Below w.heap.size w w') => And.intro (hE.next (hb.mono hB)) (Nat.le_trans hB hb.size))
  have HS := Lib.hid (fun w' (hb : Below w.heap.size w w') => hI.next hb)
  have HSz := Lib.hid (And.intro hS hSl)
  obtain ⟨i0, hi, hz0, hz1, hz2⟩ := info_parts infoLy
  obtain ⟨N, hN⟩ : ∃ N, S.length = N := ⟨_, rfl⟩
  have HN := Lib.hid hN
  have HLo : Hid (loA S = if 64 < N then (0, 3, []) else goS [] S) := by rw [← hN]; exact Lib.hid rfl
  rw [hN]
  clear hE hB hI hS hSl hN
  by_cases h64 : 64 < N
  · have hd : decide ((64 : Int) < (N : Int)) = true := by simp; omega
    have hv : loA S = (0, 3, []) := HLo.out.trans (if_pos h64)
    have HV := Lib.hid hv
    clear hv h64
    go_enter Tryz.func41, Tryz.ntmps41
    go_wp2_with fail
    refine bodyPost_ret (v := .tuple #[.slice none 0 0, .agg #[.int .i64 0, .int .i64 3]]) (by simp [results, Tryz.results41, go_sem]) rfl ?_
    exact ⟨.inr ⟨by rw [HV.out]; decide, by rw [HV.out]; rfl⟩, below_a _ _⟩
  · have hd : decide ((64 : Int) < (N : Int)) = false := by simp; omega
    have hv : loA S = goS [] S := HLo.out.trans (if_neg h64)
    have HV := Lib.hid hv
    have H64 := Lib.hid h64
    clear hv h64
    go_enter Tryz.func41, Tryz.ntmps41
    go_wp2_with fail
    obtain ⟨X, hX⟩ : ∃ X, w.heap.size = X := ⟨_, rfl⟩
    have hI0 : LoI S w X 0 [] (.slice none 0 0) (w.alloc (.cells #[.int .i64 0, .int .i64 0] 27)) := ⟨rfl, gd0, rfl, below_a _ _, by rw [← hX]; exact heap_alloc_new w _, ⟨World.ownsRow_nil _ _ _ _, fun p hp => by cases hp⟩⟩
    have HI0 := Lib.hid hI0
    have HX := Lib.hid hX
    rw [hX]
    clear hI0 hX hd
    go_loopg [4, 15] N (fun g v4 v15 wr => ∃ (q : Nat) (ao : Option Addr) (co : Nat), q + g = N ∧ v15 = .int .i64 (q : Int) ∧ v4 = .slice ao q co ∧ Hid (∃ K, LoI S w X q K (.slice ao q co) wr))
    case atStart => exact ⟨0, none, 0, by omega, rfl, rfl, [], HI0.out⟩
    case round =>
      obtain ⟨q, va, vc, hq, rfl, rfl, HIx⟩ := hrel
      obtain ⟨K, hI⟩ := HIx.out
      have HI := Lib.hid hI
      obtain ⟨va', vc', hv, hvc, hkn⟩ := hI.ko.in
      injection hv with hv1 hv2 hv3
      subst hv1 hv3
      have HKn := Lib.hid (And.intro hkn hvc)
      have hXl : X < wr.heap.size := (Array.getElem?_eq_some_iff.1 hI.fb).1
      clear hI hkn HIx hv2
      by_cases hlt : q < N
      · have hdq : decide ((q : Int) < (N : Int)) = true := by simp; omega
        obtain ⟨s, hs⟩ : ∃ s, S[q]? = some s := ⟨_, List.getElem?_eq_getElem (by have := HN.out; omega)⟩
        obtain ⟨gb, gof, hgab, hgb, hrow⟩ := HS.out wr HI.out.bel (by have := HN.out; omega)
        obtain ⟨ma, mc, g0, g1, hmm⟩ := hrow q s hs
        have HSs := Lib.hid (And.intro hs hmm)
        obtain ⟨sn, sm⟩ := s
        simp only at g0 g1
        obtain ⟨ML, hML⟩ : ∃ ML, sm.length = ML := ⟨_, rfl⟩
        rw [hML] at g1
        have hq0 : (0 : Int) ≤ (q : Int) := by omega
        have hql : (q : Int) < (N : Int) := by omega
        have hwm : IntKind.i64.wrap ((q : Int) + 1) = ((q + 1 : Nat) : Int) := by rw [IntKind.wrap_i64]; have := H64.out; omega
        have HM : Hid (N - (q + 1) < gk ∧ q + 1 + (N - (q + 1)) = N) := ⟨by omega, by omega⟩
        subst hgab
        clear hrow hs hmm
        go_wp2_with fail
        clear g0 g1
        have HAm := Lib.hid (below_a wr (.cells #[.string ⟨sn.toArray⟩, .slice ma ML mc] 61))
        have HBm := Lib.hid (HI.out.bel.trans (HAm.out.mono HI.out.bel.size))
        have hsz := HSz.out.1 _ (List.mem_of_getElem? HSs.out.1)
        have hnx := c_nextX (K.map Prod.fst) va vc (by rw [List.length_map]; exact HKn.out.2) HI.out.gd (by rw [List.length_map, HI.out.kl]; have := H64.out; omega) B ⟨sn, sm⟩ ma mc hsz.1 hsz.2.1 hsz.2.2 (wr.alloc (.cells #[.string ⟨sn.toArray⟩, .slice ma ML mc] 61)) (HE.out _ HBm.out).1 (HE.out _ HBm.out).2 (HKn.out.1.next HAm.out) (HSs.out.2.next HAm.out)
        rw [List.length_map, HI.out.kl, hML] at hnx
        refine hnx.mono ?_
        clear hnx hsz
        rintro e w1 ⟨hr, hb⟩
        have HB1 := Lib.hid (below_on HBm.out hb HBm.out.size)
        have HF1 := Lib.hid (blk_next (blk_next HI.out.fb HAm.out) hb)
        have HO1 := Lib.hid ((HI.out.ko.next HAm.out).next hb)
        have hs1 : wr.heap.size + 1 ≤ w1.heap.size := by have := hb.size; simp at this; omega
        have HGw : Hid (∀ g, (Value.slice va q vc).ownBlock = some g → X + 1 ≤ g ∧ g < wr.heap.size) := fun g hg => HI.out.ko.own.lt g hg
        clear hb HAm HBm
        rcases hr with ⟨hn0, ma', mc', rfl, hmc, hmb⟩ | ⟨hn0, fx, fy, fz, fnm, fa, fn, fc, rfl⟩
        · have hgo2 : goS [] S = goS (K.map Prod.fst ++ [nxL (K.map Prod.fst) ⟨sn, sm⟩]) (S.drop (q + 1)) := by
            rw [HI.out.go, List.drop_eq_getElem_cons (by have := HN.out; omega), (List.getElem?_eq_some_iff.1 HSs.out.1).2]
            show goS _ (⟨sn, sm⟩ :: S.drop (q + 1)) = _
            conv => lhs; unfold goS
            rw [if_pos hn0]
          have hgd2 := HI.out.gd.add hn0
          obtain ⟨Y, hY⟩ : ∃ Y, nxL (K.map Prod.fst) ⟨sn, sm⟩ = Y := ⟨_, rfl⟩
          rw [hY] at hgo2 hgd2 hmc hmb ⊢
          have HG2 := Lib.hid (And.intro hgo2 (And.intro hgd2 (And.intro hmc hmb)))
          obtain ⟨lx, hlx⟩ : ∃ y : Int, (Y.bytes : Int) = y := ⟨_, rfl⟩
          obtain ⟨ly, hly⟩ : ∃ y : Int, (Y.align : Int) = y := ⟨_, rfl⟩
          obtain ⟨lz, hlz⟩ : ∃ y : Int, (Y.scal : Int) = y := ⟨_, rfl⟩
          obtain ⟨ln, hln⟩ : ∃ y, (⟨Y.name.toArray⟩ : ByteArray) = y := ⟨_, rfl⟩
          obtain ⟨lm, hlm⟩ : ∃ y, Y.mems.length = y := ⟨_, rfl⟩
          have HYs := Lib.hid (And.intro hlx (And.intro hly (And.intro hlz (And.intro hln hlm))))
          rw [hlx, hly, hlz, hln, hlm]
          clear hgo2 hgd2 hmc hmb hn0 hY hlx hly hlz hln hlm
          have HOx := Lib.hid ((HO1.out.next (below_a w1 (.cells #[.int .i64 lx, .int .i64 ly, .int .i64 lz, .string ln, .slice ma' lm mc'] 89))).next (below_a (w1.alloc (.cells #[.int .i64 lx, .int .i64 ly, .int .i64 lz, .string ln, .slice ma' lm mc'] 89)) (.cells #[.int .i64 lx, .int .i64 ly, .int .i64 lz, .string ln, .slice ma' lm mc'] 89)))
          have HBx := Lib.hid ((HB1.out.alloc HB1.out.size (.cells #[.int .i64 lx, .int .i64 ly, .int .i64 lz, .string ln, .slice ma' lm mc'] 89)).alloc (HB1.out.alloc HB1.out.size _).size (.cells #[.int .i64 lx, .int .i64 ly, .int .i64 lz, .string ln, .slice ma' lm mc'] 89))
          go_wp2_with (at_builtin; refine wpList_append_lies _ rfl _ _ 63 rfl (X + 1) 89 i0 (.agg #[.int .i64 0, .int .i64 0, .int .i64 0, .string ByteArray.empty, .slice none 0 0]) 5 64 Tryz.underlying63 hi hz0 hz1 hz2 rfl (by decide) (.slice va q vc) q (lyCs K) rfl (by have h := HOx.out.own; rw [HI.out.kl] at h; exact h) ⟨w1.heap.size + 1, 0, none⟩ 1 1 [.int .i64 lx, .int .i64 ly, .int .i64 lz, .string ln, .slice ma' lm mc'] rfl rfl ?cc1 (ly_one _ _ _ _ _ _ _) (by decide) ?cc3 ?cc4 ?cc5 (w1.heap.size + 2) ?cc6 ?_)
          case cc1 =>
            intro j u hu
            have h := World.news_of_block (heap_alloc_new (w1.alloc (.cells #[.int .i64 lx, .int .i64 ly, .int .i64 lz, .string ln, .slice ma' lm mc'] 89)) (.cells #[.int .i64 lx, .int .i64 ly, .int .i64 lz, .string ln, .slice ma' lm mc'] 89)) j u hu
            rw [show (w1.alloc (.cells #[.int .i64 lx, .int .i64 ly, .int .i64 lz, .string ln, .slice ma' lm mc'] 89)).heap.size = w1.heap.size + 1 by simp] at h
            exact h
          case cc3 => have h3 := H64.out; unfold maxLen; omega
          case cc4 => have h3 := H64.out; omega
          case cc5 => simp; omega
          case cc6 => simp
          intro gr cap1 wd hown hgrow hlies hglt
          have HNI : Hid (LoI S w X (q + 1) (K ++ [(Y, .slice ma' Y.mems.length mc')]) (.slice (some ⟨gr, 0, none⟩) (q + 1) cap1) wd) := by
            obtain ⟨h1, h2, h3, h4⟩ := HG2.out
            obtain ⟨y0, y1, y2, y3, y4⟩ := HYs.out
            refine ⟨by rw [List.length_append, HI.out.kl]; rfl, by rw [List.map_append]; exact h2, by rw [List.map_append]; exact h1, HBx.out.grown hgrow (by have := HBx.out.size; exact this) (fun k hk => by have := (HGw.out k hk).1; have := HX.out; omega), ?_, ?_⟩
            · refine (hgrow.block X (by simp; omega) (fun e => by have := (HGw.out X e.symm).1; omega)).trans ?_
              exact (Below.heap_alloc _ _ _ (by simp; omega)).trans ((Below.heap_alloc _ _ _ (by omega)).trans HF1.out)
            · have hadd := HOx.out.add (x := Y) (ma := ma') (mc := mc') (g := gr) (cap := cap1) (wd := wd) h3 (h4.mono (fun j hj => ⟨by have := hj.1; simp at this; omega, by have := hj.2; simp; omega, fun e => by have := (HGw.out j e).2; have := hj.1; simp at this; omega⟩) (fun j hj => (Below.heap_alloc _ _ _ (by have := hj.2; simp; omega)).trans (Below.heap_alloc _ _ _ hj.2))) (by rw [HI.out.kl]; show wd.ownsRow _ _ _ _ _ (lyCs K ++ [.int .i64 Y.bytes, .int .i64 Y.align, .int .i64 Y.scal, .string ⟨Y.name.toArray⟩, .slice ma' Y.mems.length mc']); rw [y0, y1, y2, y3, y4]; exact hown) hgrow (by simpa using hlies)
              rw [HI.out.kl] at hadd
              exact hadd
          clear hown hgrow hlies hglt HOx HBx HO1 HF1
          go_wp2_with fail
          go_roundg (N - (q + 1))
          case measure => exact HM.out.1
          case rel => exact ⟨q + 1, _, _, HM.out.2, rfl, rfl, _, HNI.out⟩
        · obtain ⟨E, hE⟩ : ∃ E : Int, (nxE (K.map Prod.fst) ⟨sn, sm⟩ : Int) = E := ⟨_, rfl⟩
          have hE0 : (E == 0) = false := by rw [← hE]; simp; exact hn0
          have hgo2 : loA S = (q, nxE (K.map Prod.fst) ⟨sn, sm⟩, []) := by
            rw [HV.out, HI.out.go, List.drop_eq_getElem_cons (by have := HN.out; omega), (List.getElem?_eq_some_iff.1 HSs.out.1).2]
            show goS _ (⟨sn, sm⟩ :: S.drop (q + 1)) = _
            unfold goS
            rw [if_neg hn0, List.length_map, HI.out.kl]
          have HG2 := Lib.hid (And.intro hgo2 (And.intro hE hn0))
          have r0 : w1.cell? ⟨X, 0, none⟩ = some (.int .i64 0) := by rw [Lib.cell_of_heap HF1.out]; rfl
          have r1 : w1.cell? ⟨X, 1, none⟩ = some (.int .i64 0) := by rw [Lib.cell_of_heap HF1.out]; rfl
          have f0 := Lib.frozen_of_heap HF1.out 0
          have f1 := Lib.frozen_of_heap HF1.out 1
          have hX1 : X < w1.heap.size := by omega
          rw [hE]
          clear hgo2 hE hn0
          go_wp2_with fail
          have hst : Stp X w1 ((w1.setCell ⟨X, 0, none⟩ (.int .i64 q)).setCell ⟨X, 1, none⟩ (.int .i64 E)) := (Stp.set X 0 w1 _).trans (Stp.set X 1 _ _)
          have hz9 : ((w1.setCell ⟨X, 0, none⟩ (.int .i64 q)).setCell ⟨X, 1, none⟩ (.int .i64 E)).heap[X]? = some (.cells #[.int .i64 q, .int .i64 E] 27) := heap_setCell_same _ X 1 _ _ _ (heap_setCell_same w1 X 0 _ _ _ HF1.out)
          have hb9 := below_stp HB1.out hst (by have := HX.out; omega)
          have hs9 := hst.size
          clear hst
          generalize (w1.setCell ⟨X, 0, none⟩ (.int .i64 q)).setCell ⟨X, 1, none⟩ (.int .i64 E) = w9 at hb9 hz9 hs9 ⊢
          have hz10 := (Below.heap_alloc w9 (.cells #[.int .i64 fx, .int .i64 fy, .int .i64 fz, .string fnm, .slice fa fn fc] 89) _ (by omega : X < w9.heap.size)).trans hz9
          have hb10 := hb9.alloc hb9.size (.cells #[.int .i64 fx, .int .i64 fy, .int .i64 fz, .string fnm, .slice fa fn fc] 89)
          generalize w9.alloc (.cells #[.int .i64 fx, .int .i64 fy, .int .i64 fz, .string fnm, .slice fa fn fc] 89) = wx at hb10 hz10 ⊢
          have p0 : wx.cell? ⟨X, 0, none⟩ = some (.int .i64 q) := by rw [Lib.cell_of_heap hz10]; rfl
          have p1 : wx.cell? ⟨X, 1, none⟩ = some (.int .i64 E) := by rw [Lib.cell_of_heap hz10]; rfl
          refine bodyPost_ret (v := .tuple #[.slice none 0 0, .agg #[.int .i64 q, .int .i64 E]]) (by simp [results, Tryz.results41, go_sem, p0, p1]) rfl ?_
          exact ⟨.inr ⟨by rw [HG2.out.1]; exact HG2.out.2.2, by rw [HG2.out.1, ← HG2.out.2.1]⟩, hb10⟩
      · have hdq : decide ((q : Int) < (N : Int)) = false := by simp; omega
        have hqN : q = S.length := by have := HN.out; omega
        have hlo : loA S = (0, 0, K.map Prod.fst) := by
          rw [HV.out, HI.out.go, hqN, List.drop_length]
          rfl
        have HLo2 := Lib.hid (And.intro hlo (And.intro hqN hvc))
        have r0 : wr.cell? ⟨X, 0, none⟩ = some (.int .i64 0) := by rw [Lib.cell_of_heap HI.out.fb]; rfl
        have r1 : wr.cell? ⟨X, 1, none⟩ = some (.int .i64 0) := by rw [Lib.cell_of_heap HI.out.fb]; rfl
        have f0 := Lib.frozen_of_heap HI.out.fb 0
        have f1 := Lib.frozen_of_heap HI.out.fb 1
        clear hlo hqN
        go_wp2_with fail
        have hst : Stp X wr ((wr.setCell ⟨X, 0, none⟩ (.int .i64 0)).setCell ⟨X, 1, none⟩ (.int .i64 0)) := (Stp.set X 0 wr _).trans (Stp.set X 1 _ _)
        have hz9 : ((wr.setCell ⟨X, 0, none⟩ (.int .i64 0)).setCell ⟨X, 1, none⟩ (.int .i64 0)).heap[X]? = some (.cells #[.int .i64 0, .int .i64 0] 27) := heap_setCell_same _ X 1 _ _ _ (heap_setCell_same wr X 0 _ _ _ HI.out.fb)
        have hb9 := below_stp HI.out.bel hst (by have := HX.out; omega)
        have hko := HI.out.ko.stp hst
        clear hst
        generalize (wr.setCell ⟨X, 0, none⟩ (.int .i64 0)).setCell ⟨X, 1, none⟩ (.int .i64 0) = w9 at hb9 hz9 hko ⊢
        have p0 : w9.cell? ⟨X, 0, none⟩ = some (.int .i64 0) := by rw [Lib.cell_of_heap hz9]; rfl
        have p1 : w9.cell? ⟨X, 1, none⟩ = some (.int .i64 0) := by rw [Lib.cell_of_heap hz9]; rfl
        refine bodyPost_ret (v := .tuple #[.slice va q vc, .agg #[.int .i64 0, .int .i64 0]]) (by simp [results, Tryz.results41, go_sem, p0, p1]) rfl ?_
        refine ⟨.inl ⟨by rw [HLo2.out.1], va, vc, K, ?_, ?_, ?_⟩, hb9⟩
        · rw [HLo2.out.1]
          show _ = Ending.returned (.tuple #[.slice va (K.map Prod.fst).length vc, .agg #[.int .i64 0, .int .i64 0]])
          rw [List.length_map, HI.out.kl]
        · rw [HLo2.out.1]
          show KoX w.heap.size K (.slice va (K.map Prod.fst).length vc) w9
          rw [List.length_map, HI.out.kl, HX.out]
          exact hko
        · rw [HLo2.out.1]
def oxA (S : List StP) (l : List UInt8) : Nat := if (loA S).2.1 = 0 then ojA (loA S).2.2 l else (loA S).2.1
theorem KoX.stpLe {X Y : Nat} {K : List (LayP × Value)} {v : Value} {w w' : World} (h : KoX X K v w) (hY : Y ≤ X) (hs : Stp Y w w') : KoX X K v w' :=
  ⟨own_far h.own (fun g hg hg2 => hs.blk g (by omega)), fun p hp => by
    obtain ⟨ma, mc, h1, h2, h3⟩ := h.nd p hp
    exact ⟨ma, mc, h1, h2, h3.mono (fun j hj => ⟨hj.1, by rw [hs.size]; exact hj.2.1, hj.2.2⟩) (fun j hj => hs.blk j (by omega))⟩⟩
/-- What rightObject answers. -/
def RoX (S : List StP) (l : List UInt8) (w : World) (e : Ending) (w' : World) : Prop :=
  ((∃ (t : Ty) (a : Option Addr) (n c : Nat) (ka : Option Addr) (kc : Nat), (loA S).2.1 = 0 ∧ tk l = some t ∧ ojA (loA S).2.2 l = 0 ∧ e = .returned (.tuple #[nT t a n c, .slice ka (loA S).2.2.length kc, .int .i64 0]) ∧ NdIn t (.slice a n c) w' ∧ (loA S).2.2.length ≤ kc ∧ KnIn (loA S).2.2 ka w') ∨ (oxA S l ≠ 0 ∧ ∃ (x0 : Int) (s1 : ByteArray) (x2 : Int) (s3 : ByteArray) (a : Option Addr) (n c : Nat) (v : Value), e = .returned (.tuple #[nV x0 s1 x2 s3 a n c, v, .int .i64 (oxA S l)]))) ∧ Below w.heap.size w w'
set_option maxHeartbeats 4000000 in
theorem c_rightObjectX (B : Nat) (S : List StP) (a : Option Addr) (c : Nat) (hS : SzS S) (hSl : S.length ≤ 4503599627370496) (l : List UInt8) (w : World) (hE : Env B w) (hB : B ≤ w.heap.size) (hm : l.length ≤ 9223372036854775807) (hI : StIn S a w) :
    Calls Tryz.prog 47 #[.string ⟨l.toArray⟩, .slice a S.length c] w fun e w' => RoX S l w e w' := by
  have HL := Lib.hid (fun w' (hb : Below w.heap.size w w') => c_layOutZ B S a c hS hSl w' (hE.next (hb.mono hB)) (Nat.le_trans hB hb.size) (hI.next hb))
  have HR := Lib.hid (fun w' (hb : Below w.heap.size w w') ka kc hkc hK => c_objectX (loA S).2.2 ka kc hkc (lo_gd S) (Nat.le_trans (lo_len S) (by decide)) B l w' (hE.next (hb.mono hB)) (Nat.le_trans hB hb.size) hm hK)
  have HZ := Lib.hid (lo_zero S)
  obtain ⟨N, hN⟩ : ∃ N, S.length = N := ⟨_, rfl⟩
  rw [hN] at HL ⊢
  clear hE hB hI hS hSl hN hm
  go_enter Tryz.func47, Tryz.ntmps47
  go_wp2_with fail
  refine (HL.out _ (below_a w zOb)).mono ?_
  rintro e w1 ⟨hr, hb⟩
  have HB1 := Lib.hid (below_on (below_a w zOb) hb (by simp))
  have HZ1 := Lib.hid (blk_next (heap_alloc_new w zOb) hb)
  clear hb HL
  rcases hr with ⟨h0, ka, kc, K, rfl, hK, hKL⟩ | ⟨h0, rfl⟩
  · have hKin : (loA S).2.2.length ≤ kc ∧ KnIn (loA S).2.2 ka w1 := by
      obtain ⟨a', c', hav, hac, hkn⟩ := hK.in
      injection hav with hv1 hv2 hv3
      subst hv1 hv3
      rw [hKL] at hkn
      exact ⟨by rw [hv2]; exact hac, hkn⟩
    have HK := Lib.hid (And.intro h0 hKin)
    have HKo := Lib.hid (And.intro hK hKL)
    obtain ⟨ML, hML⟩ : ∃ ML, (loA S).2.2.length = ML := ⟨_, rfl⟩
    have HML := Lib.hid hML
    rw [hML]
    clear h0 hK hKin hKL hML
    go_wp2_with fail
    have HA := Lib.hid (below_a w1 (.cells #[.int .i64 0, .int .i64 0] 27))
    have HB2 := Lib.hid (below_on HB1.out HA.out HB1.out.size)
    have HZ2 := Lib.hid (blk_next HZ1.out HA.out)
    have hr := HR.out _ HB2.out ka kc HK.out.2.1 (HK.out.2.2.next HA.out)
    rw [HML.out] at hr
    refine hr.mono ?_
    clear hr
    rintro e w3 ⟨hr, hb⟩
    have HB3 := Lib.hid (below_on HB2.out hb HB2.out.size)
    have HZ3 := Lib.hid (blk_next HZ2.out hb)
    have HB0 := Lib.hid hb
    have HAa := Lib.hid HA.out
    have HW1 : Hid (w.heap.size < (w1.alloc (.cells #[.int .i64 0, .int .i64 0] 27)).heap.size) := (Array.getElem?_eq_some_iff.1 HZ2.out).1
    clear hb HR HA HB1 HZ1 HB2 HZ2
    obtain ⟨x0, s1, x2, s3, a', n', c', E, hE, hfa, rfl⟩ : ∃ (x0 : Int) (s1 : ByteArray) (x2 : Int) (s3 : ByteArray) (a' : Option Addr) (n' c' : Nat) (E : Int), (ojA (loA S).2.2 l : Int) = E ∧ (ojA (loA S).2.2 l = 0 → ∃ t, tk l = some t ∧ nV x0 s1 x2 s3 a' n' c' = nT t a' n' c' ∧ Nd (Fm (w1.alloc (.cells #[.int .i64 0, .int .i64 0] 27)).heap.size w3) w3 t (.slice a' n' c')) ∧ e = .returned (.tuple #[nV x0 s1 x2 s3 a' n' c', .int .i64 E]) := by
      rcases hr with ⟨t, a', n', c', h2, h1, he, h3⟩ | ⟨h1, he⟩
      · exact ⟨_, _, _, _, _, _, _, _, rfl, fun _ => ⟨t, h2, rfl, h3⟩, by rw [he, h1]; rfl⟩
      · exact ⟨_, _, _, _, _, _, _, _, rfl, fun h => absurd h h1, he⟩
    have HFa := Lib.hid hfa
    have HK3 := Lib.hid ((HKo.out.1.next HAa.out).next HB0.out)
    clear hfa HB0 HAa
    have HEe := Lib.hid hE
    clear hr hE
    have hs3 : w.heap.size < w3.heap.size := (Array.getElem?_eq_some_iff.1 HZ3.out).1
    obtain ⟨r0, r1, r2, r3, r4, rf⟩ := five_cells HZ3.out
    have rf0 := rf 0
    have rf1 := rf 1
    have rf2 := rf 2
    have rf3 := rf 3
    have rf4 := rf 4
    clear rf
    go_wp2_with fail
    have hst := Stp.five0 w.heap.size w3 (.int .u8 x0) (.string s1) (.int .i64 x2) (.string s3) (.slice a' n' c')
    have hb9 := below_stp HB3.out hst (Nat.le_refl _)
    have hz9 := five_set HZ3.out (.int .u8 x0) (.string s1) (.int .i64 x2) (.string s3) (.slice a' n' c')
    have hs9 := hst.size
    have hw1 : w.heap.size < (w1.alloc (.cells #[.int .i64 0, .int .i64 0] 27)).heap.size := HW1.out
    have hn9 : ojA (loA S).2.2 l = 0 → ∃ t, tk l = some t ∧ nV x0 s1 x2 s3 a' n' c' = nT t a' n' c' ∧ NdIn t (.slice a' n' c') (((((w3.setCell ⟨w.heap.size, 0, none⟩ (.int .u8 x0)).setCell ⟨w.heap.size, 1, none⟩ (.string s1)).setCell ⟨w.heap.size, 2, none⟩ (.int .i64 x2)).setCell ⟨w.heap.size, 3, none⟩ (.string s3)).setCell ⟨w.heap.size, 4, none⟩ (.slice a' n' c')) := fun h => by
      obtain ⟨t, h1, h2, h3⟩ := HFa.out h
      exact ⟨t, h1, h2, Nd.mono h3 (fun j hj => by rw [hs9]; exact hj.2) (fun j hj => hst.blk j (by have := hj.1; omega))⟩
    have hk9 := HK3.out.stpLe (Y := w.heap.size) (by simp) hst
    clear hst hw1
    generalize ((((w3.setCell ⟨w.heap.size, 0, none⟩ (.int .u8 x0)).setCell ⟨w.heap.size, 1, none⟩ (.string s1)).setCell ⟨w.heap.size, 2, none⟩ (.int .i64 x2)).setCell ⟨w.heap.size, 3, none⟩ (.string s3)).setCell ⟨w.heap.size, 4, none⟩ (.slice a' n' c') = w9 at hb9 hz9 hs9 hn9 hk9 ⊢
    have hlt9 : w.heap.size < w9.heap.size := by rw [hs9]; exact hs3
    have hz10 := (Below.heap_alloc w9 (.cells #[.int .u8 x0, .string s1, .int .i64 x2, .string s3, .slice a' n' c'] 68) _ hlt9).trans hz9
    have hb10 := hb9.alloc hb9.size (.cells #[.int .u8 x0, .string s1, .int .i64 x2, .string s3, .slice a' n' c'] 68)
    have hn10 : ojA (loA S).2.2 l = 0 → ∃ t, tk l = some t ∧ nV x0 s1 x2 s3 a' n' c' = nT t a' n' c' ∧ NdIn t (.slice a' n' c') (w9.alloc (.cells #[.int .u8 x0, .string s1, .int .i64 x2, .string s3, .slice a' n' c'] 68)) := fun h => by
      obtain ⟨t, h1, h2, h3⟩ := hn9 h
      exact ⟨t, h1, h2, h3.next (below_a w9 _)⟩
    have hk10 := hk9.next (below_a w9 (.cells #[.int .u8 x0, .string s1, .int .i64 x2, .string s3, .slice a' n' c'] 68))
    generalize w9.alloc (.cells #[.int .u8 x0, .string s1, .int .i64 x2, .string s3, .slice a' n' c'] 68) = wx at hb10 hz10 hn10 hk10 ⊢
    obtain ⟨q0, q1, q2, q3, q4, qf⟩ := five_cells hz10
    refine bodyPost_ret (v := .tuple #[nV x0 s1 x2 s3 a' n' c', .slice ka ML kc, .int .i64 E]) (by simp [results, Tryz.results47, go_sem, q0, q1, q2, q3, q4]) rfl ?_
    by_cases hE0 : ojA (loA S).2.2 l = 0
    · obtain ⟨t, h1, h2, h3⟩ := hn10 hE0
      have hkin : (loA S).2.2.length ≤ kc ∧ KnIn (loA S).2.2 ka wx := by
        obtain ⟨a9, c9, hav, hac, hkn⟩ := hk10.in
        injection hav with hv1 hv2 hv3
        subst hv1 hv3
        rw [HKo.out.2] at hkn
        exact ⟨by rw [hv2]; exact hac, hkn⟩
      refine ⟨.inl ⟨t, a', n', c', ka, kc, HK.out.1, h1, hE0, ?_, h3, hkin.1, hkin.2⟩, hb10⟩
      rw [← h2, HML.out, show E = 0 by rw [← HEe.out, hE0]; rfl]
    · exact ⟨.inr ⟨by unfold oxA; rw [if_pos HK.out.1]; exact hE0, x0, s1, x2, s3, a', n', c', _, by unfold oxA; rw [if_pos HK.out.1, HEe.out]⟩, hb10⟩
  · obtain ⟨f0, f1, hf0, hf1⟩ : ∃ f0 f1 : Int, ((loA S).1 : Int) = f0 ∧ ((loA S).2.1 : Int) = f1 := ⟨_, _, rfl, rfl⟩
    have HFs := Lib.hid (And.intro h0 hf1)
    have hE0 : (f1 == 0) = false := by rw [← hf1]; simp; exact h0
    have hE1 : (f1 != 0) = true := by simp [bne, hE0]
    rw [hf0, hf1]
    have hs3 : w.heap.size < w1.heap.size := (Array.getElem?_eq_some_iff.1 HZ1.out).1
    obtain ⟨r0, r1, r2, r3, r4, rf⟩ := five_cells HZ1.out
    have rf0 := rf 0
    have rf1 := rf 1
    have rf2 := rf 2
    have rf3 := rf 3
    have rf4 := rf 4
    clear rf h0 hf0 hf1
    go_wp2_with fail
    go_region_law (fail)
    all_goals
      go_wp2_with fail
      have hst := Stp.five0 w.heap.size w1 (.int .u8 0) (.string ⟨#[]⟩) (.int .i64 0) (.string ⟨#[]⟩) (.slice none 0 0)
      have hb9 := below_stp HB1.out hst (Nat.le_refl _)
      have hz9 := five_set HZ1.out (.int .u8 0) (.string ⟨#[]⟩) (.int .i64 0) (.string ⟨#[]⟩) (.slice none 0 0)
      have hs9 := hst.size
      clear hst
      generalize ((((w1.setCell ⟨w.heap.size, 0, none⟩ (.int .u8 0)).setCell ⟨w.heap.size, 1, none⟩ (.string ⟨#[]⟩)).setCell ⟨w.heap.size, 2, none⟩ (.int .i64 0)).setCell ⟨w.heap.size, 3, none⟩ (.string ⟨#[]⟩)).setCell ⟨w.heap.size, 4, none⟩ (.slice none 0 0) = w9 at hb9 hz9 hs9 ⊢
      have hlt9 : w.heap.size < w9.heap.size := by rw [hs9]; exact hs3
      have hz10 := (Below.heap_alloc w9 (.cells #[.int .i64 f0, .int .i64 f1] 27) _ hlt9).trans hz9
      have hb10 := hb9.alloc hb9.size (.cells #[.int .i64 f0, .int .i64 f1] 27)
      generalize w9.alloc (.cells #[.int .i64 f0, .int .i64 f1] 27) = wx at hb10 hz10 ⊢
      obtain ⟨q0, q1, q2, q3, q4, qf⟩ := five_cells hz10
      refine bodyPost_ret (v := .tuple #[nV 0 ⟨#[]⟩ 0 ⟨#[]⟩ none 0 0, .slice none 0 0, .int .i64 f1]) (by simp [results, Tryz.results47, go_sem, q0, q1, q2, q3, q4]) rfl ?_
      exact ⟨.inr ⟨by unfold oxA; rw [if_neg HFs.out.1]; exact HFs.out.1, 0, ⟨#[]⟩, 0, ⟨#[]⟩, none, 0, 0, _, by unfold oxA; rw [if_neg HFs.out.1, HFs.out.2]⟩, by first | exact hb10 | exact hb10.drew⟩
end Go.Proofs.YtacbjhbiaaieoaaGreatDoor
namespace Go.Proofs.YtacbjhbiaaieoaaGreatDoor
set_option linter.unusedVariables false
set_option linter.unusedSimpArgs false
set_option maxRecDepth 100000
open Go.RowKit

def szA (S : List StP) (l : List UInt8) : Nat × Nat × Nat := if oxA S l = 0 then ((extT (loA S).2.2 (tkD l)).1, (extT (loA S).2.2 (tkD l)).2.1, 0) else (0, 0, oxA S l)
set_option maxHeartbeats 4000000 in
theorem c_SizeX (B : Nat) (S : List StP) (a : Option Addr) (c : Nat) (hS : SzS S) (hSl : S.length ≤ 4503599627370496) (l : List UInt8) (w : World) (hE : Env B w) (hB : B ≤ w.heap.size) (hm : l.length ≤ 9223372036854775807) (hI : StIn S a w) :
    Calls Tryz.prog 16 #[.string ⟨l.toArray⟩, .slice a S.length c] w fun e w' => e = .returned (.tuple #[.int .i64 (szA S l).1, .int .i64 (szA S l).2.1, .int .i64 (szA S l).2.2]) ∧ Below w.heap.size w w' := by
  have HR := Lib.hid (c_rightObjectX B S a c hS hSl l w hE hB hm hI)
  obtain ⟨N, hN⟩ : ∃ N, S.length = N := ⟨_, rfl⟩
  rw [hN] at HR ⊢
  obtain ⟨z0, z1, z2, hz⟩ : ∃ z0 z1 z2 : Int, ((szA S l).1 : Int) = z0 ∧ ((szA S l).2.1 : Int) = z1 ∧ ((szA S l).2.2 : Int) = z2 := ⟨_, _, _, rfl, rfl, rfl⟩
  have HZ := Lib.hid hz
  rw [hz.1, hz.2.1, hz.2.2]
  clear hE hB hm hI hS hSl hN hz
  go_enter Tryz.func16, Tryz.ntmps16
  go_wp2_with fail
  refine HR.out.mono ?_
  rintro e w1 ⟨hr, hb⟩
  have HB1 := Lib.hid hb
  clear hb HR
  rcases hr with ⟨t, ta, tn, tc, ka, kc, h0, ht, hoj, rfl, hnd, hkc, hkn⟩ | ⟨h0, x0, s1, x2, s3, a', n', c', v, rfl⟩
  · obtain ⟨x0, hx0⟩ : ∃ x0 : Int, (t.letter.toNat : Int) = x0 := ⟨_, rfl⟩
    obtain ⟨x2, hx2⟩ : ∃ x2 : Int, (t.count : Int) = x2 := ⟨_, rfl⟩
    obtain ⟨s1, hs1'⟩ : ∃ s1, (⟨t.code.toArray⟩ : ByteArray) = s1 := ⟨_, rfl⟩
    obtain ⟨s3, hs3⟩ : ∃ s3, (⟨t.tag.toArray⟩ : ByteArray) = s3 := ⟨_, rfl⟩
    have hnT : nT t ta tn tc = nV x0 s1 x2 s3 ta tn tc := by unfold nT; rw [hx0, hx2, hs1', hs3]
    have hex := Lib.hid (fun w' (hb : Below w1.heap.size w1 w') => c_extentX (loA S).2.2 ka kc hkc (lo_gd S) (Nat.le_trans (lo_len S) (by decide)) t.size t ta tn tc w' (Nat.le_refl _) (tk_some ht).1 (hnd.next hb) (hkn.next hb))
    have hoz : oxA S l = 0 := by unfold oxA; rw [if_pos h0]; exact hoj
    have htD : tkD l = t := by unfold tkD; rw [ht]; rfl
    have hsz : szA S l = ((extT (loA S).2.2 t).1, (extT (loA S).2.2 t).2.1, 0) := by unfold szA; rw [if_pos hoz, htD]
    obtain ⟨ML, hML⟩ : ∃ ML, (loA S).2.2.length = ML := ⟨_, rfl⟩
    obtain ⟨q0, q1, q2, q3, hq⟩ : ∃ q0 q1 q2 q3, extT (loA S).2.2 t = (q0, q1, q2, q3) := ⟨_, _, _, _, rfl⟩
    obtain rfl : z2 = 0 := by have := HZ.out.2.2; rw [hsz] at this; exact this.symm
    obtain rfl : z0 = (q0 : Int) := by have := HZ.out.1; rw [hsz, hq] at this; exact this.symm
    obtain rfl : z1 = (q1 : Int) := by have := HZ.out.2.1; rw [hsz, hq] at this; exact this.symm
    rw [hML, hnT, hq] at hex
    rw [hML, hnT]
    unfold exV at hex
    clear hx0 hx2 hs1' hs3 hnT h0 ht hoj hnd hkc hkn hoz htD hsz hML hq
    go_wp2_with fail
    refine (hex.out _ (below_a w1 _)).mono ?_
    rintro e w2 ⟨rfl, hb⟩
    have HB2 := Lib.hid (below_on (HB1.out.alloc HB1.out.size (.cells #[.int .u8 x0, .string s1, .int .i64 x2, .string s3, .slice ta tn tc] 68)) hb (HB1.out.alloc HB1.out.size _).size)
    clear hb hex
    go_wp2_with fail
    go_region
    all_goals
      go_wp2_with fail
      go_ret3
      exact ⟨rfl, (HB2.out.alloc HB2.out.size _).drew⟩
  · have hsz : szA S l = (0, 0, oxA S l) := by unfold szA; rw [if_neg h0]
    obtain ⟨E, hE⟩ : ∃ E : Int, (oxA S l : Int) = E := ⟨_, rfl⟩
    have hE0 : (E == 0) = false := by rw [← hE]; simp; exact h0
    have hE1 : (E != 0) = true := by simp [bne, hE0]
    obtain rfl : z0 = 0 := by have := HZ.out.1; rw [hsz] at this; exact this.symm
    obtain rfl : z1 = 0 := by have := HZ.out.2.1; rw [hsz] at this; exact this.symm
    obtain rfl : z2 = E := by have := HZ.out.2.2; rw [hsz] at this; rw [← hE]; exact this.symm
    rw [hE]
    clear h0 hsz hE
    go_wp2_with fail
    go_ret3
    exact ⟨rfl, by first | exact HB1.out | exact HB1.out.alloc HB1.out.size _⟩
def mbF (M : List MemP) (n : List UInt8) : Nat × List UInt8 × Nat := match M.find? (fun y => y.name == n) with
  | some y => (y.at', y.ty.code, 0)
  | none => (0, [], 4)
def mbA (S : List StP) (nm n : List UInt8) : Nat × List UInt8 × Nat := if (loA S).2.1 = 0 then mbF (match findL (loA S).2.2 nm with
  | some x => x.mems
  | none => []) n else (0, [], (loA S).2.1)
theorem mbF_at {M : List MemP} {n : List UInt8} {q : Nat} {y : MemP} (hy : M[q]? = some y) (hn : (y.name == n) = true) (ha : ∀ (j : Nat) (z : MemP), j < q → M[j]? = some z → (z.name == n) = false) : mbF M n = (y.at', y.ty.code, 0) := by
  have : M.find? (fun y => y.name == n) = some y := by
    induction M generalizing q with
    | nil => cases hy
    | cons z M ih =>
      cases q with
      | zero =>
        cases hy
        rw [List.find?_cons, hn]
      | succ q =>
        rw [List.find?_cons, ha 0 z (by omega) rfl]
        exact ih hy (fun j x hj hx => ha (j + 1) x (by omega) hx)
  unfold mbF
  rw [this]
theorem mbF_no {M : List MemP} {n : List UInt8} (ha : ∀ (j : Nat) (z : MemP), M[j]? = some z → (z.name == n) = false) : mbF M n = (0, [], 4) := by
  have : M.find? (fun y => y.name == n) = none := by
    rw [List.find?_eq_none]
    intro y hy
    obtain ⟨j, hj⟩ := List.getElem?_of_mem hy
    simpa using ha j y hj
  unfold mbF
  rw [this]
theorem goM_len64 {S : List StP} {x : LayP} (h : (loA S).2.1 = 0) {nm : List UInt8} (hf : findL (loA S).2.2 nm = some x) : x.mems.length ≤ 64 := by
  obtain ⟨h1, h2, h3⟩ := lo_mt h
  obtain ⟨i, s, g1, g2, g3, g4, g5⟩ := mt_find h1 hf
  obtain ⟨_, _, n3, n4, n5, n6⟩ := nx_ok g4
  have := goM_all s.mems ac0 n5
  rw [g5]
  show (goM _ ac0 s.mems).2.mems.length ≤ 64
  rw [this]
  show 0 + _ ≤ _
  omega
set_option maxHeartbeats 8000000 in
theorem c_MemberX (B : Nat) (S : List StP) (a : Option Addr) (c : Nat) (hS : SzS S) (hSl : S.length ≤ 4503599627370496) (nm n : List UInt8) (w : World) (hE : Env B w) (hB : B ≤ w.heap.size) (hI : StIn S a w) :
    Calls Tryz.prog 20 #[.slice a S.length c, .string ⟨nm.toArray⟩, .string ⟨n.toArray⟩] w fun e w' => e = .returned (.tuple #[.int .i64 (mbA S nm n).1, .string ⟨(mbA S nm n).2.1.toArray⟩, .int .i64 (mbA S nm n).2.2]) ∧ Below w.heap.size w w' := by
  have HL := Lib.hid (c_layOutX B S a c hS hSl w hE hB hI)
  obtain ⟨N, hN⟩ : ∃ N, S.length = N := ⟨_, rfl⟩
  rw [hN] at HL ⊢
  obtain ⟨z0, z1, z2, hz⟩ : ∃ (z0 : Int) (z1 : ByteArray) (z2 : Int), ((mbA S nm n).1 : Int) = z0 ∧ (⟨(mbA S nm n).2.1.toArray⟩ : ByteArray) = z1 ∧ ((mbA S nm n).2.2 : Int) = z2 := ⟨_, _, _, rfl, rfl, rfl⟩
  have HZ := Lib.hid hz
  rw [hz.1, hz.2.1, hz.2.2]
  clear hE hB hI hS hSl hN hz
  go_enter Tryz.func20, Tryz.ntmps20
  go_wp2_with fail
  refine HL.out.mono ?_
  rintro e w1 ⟨hr, hb⟩
  have HB1 := Lib.hid hb
  clear hb HL
  rcases hr with ⟨h0, ka, kc, rfl, hkc, hK⟩ | ⟨h0, rfl⟩
  · have HFd := Lib.hid (fun w' (hb : Below w1.heap.size w1 w') => c_findX (loA S).2.2 ka kc hkc nm w' (hK.next hb) (Nat.le_trans (lo_len S) (by decide)))
    have HMa : Hid (∀ M, (match findL (loA S).2.2 nm with | some x => x.mems | none => []) = M → mbA S nm n = mbF M n) := fun M hM => by unfold mbA; rw [if_pos h0, hM]
    have HM64 : Hid (∀ x, findL (loA S).2.2 nm = some x → x.mems.length ≤ 64) := fun x hx => goM_len64 h0 hx
    obtain ⟨ML, hML⟩ : ∃ ML, (loA S).2.2.length = ML := ⟨_, rfl⟩
    rw [hML] at HFd ⊢
    clear h0 hkc hK hML
    go_wp2_with fail
    refine (HFd.out _ (below_a w1 _)).mono ?_
    rintro e w2 ⟨hfd, hb⟩
    have HB2 := Lib.hid (below_on (HB1.out.alloc HB1.out.size (.cells #[.int .i64 0, .int .i64 0] 27)) hb (HB1.out.alloc HB1.out.size _).size)
    clear hb HFd
    obtain ⟨M, y0, y1, y2, y3, ma, mc, rfl, hM, hm64, hv⟩ : ∃ (M : List MemP) (y0 y1 y2 : Int) (y3 : ByteArray) (ma : Option Addr) (mc : Nat), e = .returned (.tuple #[lV y0 y1 y2 y3 ma M.length mc, .bool (findL (loA S).2.2 nm).isSome]) ∧ MbIn M ma w2 ∧ M.length ≤ 64 ∧ mbA S nm n = mbF M n := by
      rcases hfd with ⟨x, ma, mc, hf, he, hm, _⟩ | ⟨hf, he⟩
      · exact ⟨x.mems, _, _, _, _, ma, mc, by rw [he, hf]; rfl, hm, HM64.out x hf, HMa.out _ (by rw [hf])⟩
      · exact ⟨[], 0, 0, 0, ⟨#[]⟩, none, 0, by rw [he, hf]; rfl, (fun h => by simp at h), by simp, HMa.out _ (by rw [hf])⟩
    have HMM := Lib.hid (And.intro hM (And.intro hm64 hv))
    obtain ⟨K, hK⟩ : ∃ K, M.length = K := ⟨_, rfl⟩
    have HK := Lib.hid hK
    obtain ⟨bq, hbq⟩ : ∃ b, (findL (loA S).2.2 nm).isSome = b := ⟨_, rfl⟩
    rw [hK, hbq]
    clear hM hm64 hv hK hbq hfd HMa HM64
    go_wp2_with fail
    have HA := Lib.hid (below_a w2 (.cells #[.int .i64 y0, .int .i64 y1, .int .i64 y2, .string y3, .slice ma K mc] 89))
    go_loopg [34] K (fun g v34 wr => ∃ q : Nat, q + g = K ∧ v34 = .int .i64 (q : Int) ∧ Hid (Below w2.heap.size w2 wr ∧ ∀ (j : Nat) (z : MemP), j < q → M[j]? = some z → (z.name == n) = false))
    case atStart => exact ⟨0, by omega, rfl, HA.out, fun j z hj => by omega⟩
    case round =>
      obtain ⟨q, hq, rfl, HR⟩ := hrel
      have HBw := Lib.hid (below_on HB2.out HR.out.1 HB2.out.size)
      by_cases hlt : q < K
      · have hd : decide ((q : Int) < (K : Int)) = true := by simp; omega
        have hdn : decide (q < K) = true := by simp; omega
        obtain ⟨y, hy⟩ : ∃ y, M[q]? = some y := ⟨_, List.getElem?_eq_getElem (by have := HK.out; omega)⟩
        obtain ⟨g, hag, hgw, hrow⟩ := HMM.out.1.next HR.out.1 (by have := HK.out; omega)
        obtain ⟨pa, pn, pc, hnd, hc⟩ := hrow q y hy
        have a0 := hc 0 _ rfl
        rw [Nat.add_zero] at a0
        have a1 := hc 1 _ rfl
        have a2 := hc 2 _ rfl
        have a3 := hc 3 _ rfl
        have a4 := hc 4 _ rfl
        have a5 := hc 5 _ rfl
        have a6 := hc 6 _ rfl
        have HY := Lib.hid hy
        obtain ⟨b0, hb0⟩ : ∃ x : Int, (y.ty.letter.toNat : Int) = x := ⟨_, rfl⟩
        obtain ⟨b1, hb1⟩ : ∃ x, (⟨y.ty.code.toArray⟩ : ByteArray) = x := ⟨_, rfl⟩
        obtain ⟨b2, hb2⟩ : ∃ x : Int, (y.ty.count : Int) = x := ⟨_, rfl⟩
        obtain ⟨b3, hb3⟩ : ∃ x, (⟨y.ty.tag.toArray⟩ : ByteArray) = x := ⟨_, rfl⟩
        obtain ⟨b5, hb5⟩ : ∃ x, y.name = x := ⟨_, rfl⟩
        obtain ⟨b6, hb6⟩ : ∃ x : Int, (y.at' : Int) = x := ⟨_, rfl⟩
        rw [hb0] at a0
        rw [hb1] at a1
        rw [hb2] at a2
        rw [hb3] at a3
        rw [hb5] at a5
        rw [hb6] at a6
        have HBs := Lib.hid (And.intro hb1 (And.intro hb5 hb6))
        have hq0 : (0 : Int) ≤ (q : Int) := by omega
        have hql : (q : Int) < (K : Int) := by omega
        have hwm : IntKind.i64.wrap ((q : Int) + 1) = ((q + 1 : Nat) : Int) := by rw [IntKind.wrap_i64]; have := HMM.out.2.1; have := HK.out; omega
        have HM : Hid (K - (q + 1) < gk ∧ q + 1 + (K - (q + 1)) = K) := ⟨by omega, by omega⟩
        subst hag
        clear hrow hc hy hnd hb0 hb1 hb2 hb3 hb5 hb6
        cases hne : (b5 == n)
        · have HN5 : Hid (∀ o, Below w2.heap.size w2 (wr.alloc o) ∧ ∀ (j : Nat) (z : MemP), j < q + 1 → M[j]? = some z → (z.name == n) = false) := fun o => ⟨HR.out.1.alloc HR.out.1.size o, fun j z hj hz => by
            by_cases e : j = q
            · subst e
              rw [HY.out] at hz
              cases hz
              rw [HBs.out.2.1]
              exact hne
            · exact HR.out.2 j z (by omega) hz⟩
          go_wp2_with fail
          go_roundg (K - (q + 1))
          case measure => exact HM.out.1
          case rel => exact ⟨q + 1, HM.out.2, rfl, HN5.out _⟩
        · have hv : mbA S nm n = (y.at', y.ty.code, 0) := HMM.out.2.2.trans (mbF_at HY.out (by rw [HBs.out.2.1]; exact hne) HR.out.2)
          obtain rfl : z0 = b6 := by have := HZ.out.1; rw [hv] at this; rw [← HBs.out.2.2]; exact this.symm
          obtain rfl : z1 = b1 := by have := HZ.out.2.1; rw [hv] at this; rw [← HBs.out.1]; exact this.symm
          obtain rfl : z2 = 0 := by have := HZ.out.2.2; rw [hv] at this; exact this.symm
          clear hv
          go_wp2_with fail
          go_region
          all_goals
            go_wp2_with fail
            go_ret3
            exact ⟨rfl, (HBw.out.alloc HBw.out.size _).drew⟩
      · have hd : decide ((q : Int) < (K : Int)) = false := by simp; omega
        have hdn : decide (q < K) = false := by simp; omega
        have hv : mbA S nm n = (0, [], 4) := HMM.out.2.2.trans (mbF_no (fun j z hz => HR.out.2 j z (by have := (List.getElem?_eq_some_iff.1 hz).1; have := HK.out; omega) hz))
        obtain rfl : z0 = 0 := by have := HZ.out.1; rw [hv] at this; exact this.symm
        obtain rfl : z1 = ⟨#[]⟩ := by have := HZ.out.2.1; rw [hv] at this; exact this.symm
        obtain rfl : z2 = 4 := by have := HZ.out.2.2; rw [hv] at this; exact this.symm
        clear hv
        go_wp2_with fail
        go_ret3
        exact ⟨rfl, HBw.out⟩
  · obtain ⟨E, hE⟩ : ∃ E : Int, ((loA S).2.1 : Int) = E := ⟨_, rfl⟩
    have hE0 : (E == 0) = false := by rw [← hE]; simp; exact h0
    have hE1 : (E != 0) = true := by simp [bne, hE0]
    have hv : mbA S nm n = (0, [], (loA S).2.1) := by unfold mbA; rw [if_neg h0]
    obtain rfl : z0 = 0 := by have := HZ.out.1; rw [hv] at this; exact this.symm
    obtain rfl : z1 = ⟨#[]⟩ := by have := HZ.out.2.1; rw [hv] at this; exact this.symm
    obtain rfl : z2 = E := by have := HZ.out.2.2; rw [hv] at this; rw [← hE]; exact this.symm
    obtain ⟨f0, hf0⟩ : ∃ f0 : Int, ((loA S).1 : Int) = f0 := ⟨_, rfl⟩
    rw [hE, hf0]
    clear h0 hv hE hf0
    go_wp2_with fail
    go_region
    all_goals
      go_wp2_with fail
      go_ret3
      exact ⟨rfl, (HB1.out.alloc HB1.out.size _).drew⟩
end Go.Proofs.YtacbjhbiaaieoaaGreatDoor
namespace Go.Proofs.YtacbjhbiaaieoaaGreatDoor
set_option linter.unusedVariables false
set_option linter.unusedSimpArgs false
set_option maxRecDepth 100000
open Go.RowKit

/-- What find answers, its members being where they lay in an elder world. -/
def FdW (L : List LayP) (nm : List UInt8) (w0 w : World) (e : Ending) (w' : World) : Prop :=
  ((∃ x ma mc, findL L nm = some x ∧ e = .returned (.tuple #[lV x.bytes x.align x.scal ⟨x.name.toArray⟩ ma x.mems.length mc, .bool true]) ∧ MbIn x.mems ma w0 ∧ x.mems.length ≤ mc) ∨ (findL L nm = none ∧ e = .returned (.tuple #[lV 0 0 0 ⟨#[]⟩ none 0 0, .bool false]))) ∧ Below w.heap.size w w'
set_option maxHeartbeats 4000000 in
theorem c_findW (L : List LayP) (a : Option Addr) (c : Nat) (hc : L.length ≤ c) (nm : List UInt8) (w0 w : World) (hW : Below w0.heap.size w0 w) (hK : KnIn L a w0) (hl : L.length ≤ 65536) :
    Calls Tryz.prog 53 #[.slice a L.length c, .string ⟨nm.toArray⟩] w fun e w' => FdW L nm w0 w e w' := by
  have HK := Lib.hid hK
  have HW := Lib.hid hW
  have HL := Lib.hid hl
  obtain ⟨N, hN⟩ : ∃ N, L.length = N := ⟨_, rfl⟩
  have HN := Lib.hid hN
  rw [hN] at HL hc ⊢
  clear hK hW hl hN
  go_enter Tryz.func53, Tryz.ntmps53
  go_wp2_with fail
  have HZ0 := Lib.hid (heap_alloc_new w (.cells #[.int .i64 0, .int .i64 0, .int .i64 0, .string ⟨#[]⟩, .slice none 0 0] 89))
  have HB0 := Lib.hid (below_a w (.cells #[.int .i64 0, .int .i64 0, .int .i64 0, .string ⟨#[]⟩, .slice none 0 0] 89))
  go_loopg [10] N (fun g v10 wr => ∃ q : Nat, q + g = N ∧ v10 = .int .i64 (q : Int) ∧ Hid (Below w.heap.size w wr ∧ wr.heap[w.heap.size]? = some (.cells #[.int .i64 0, .int .i64 0, .int .i64 0, .string ⟨#[]⟩, .slice none 0 0] 89) ∧ ∀ (j : Nat) (y : LayP), j < q → L[j]? = some y → (y.name == nm) = false))
  case atStart => exact ⟨0, by omega, rfl, HB0.out, HZ0.out, fun j y hj => by omega⟩
  case round =>
    obtain ⟨q, hq, rfl, HR⟩ := hrel
    have hbz := (Array.getElem?_eq_some_iff.1 HR.out.2.1).1
    obtain ⟨z0, z1, z2, z3, z4, zf⟩ := five_cells HR.out.2.1
    have zf0 := zf 0
    have zf1 := zf 1
    have zf2 := zf 2
    have zf3 := zf 3
    have zf4 := zf 4
    by_cases hlt : q < N
    · have hd : decide ((q : Int) < (N : Int)) = true := by simp; omega
      obtain ⟨x, hx⟩ : ∃ x, L[q]? = some x := ⟨_, List.getElem?_eq_getElem (by have := HN.out; omega)⟩
      obtain ⟨g, hag, hgw, hrow⟩ := HK.out (by have := HN.out; omega)
      obtain ⟨ma, mc, hM, hmc, d0, d1, d2, d3, d4⟩ := hrow q x hx
      have eg := (below_on HW.out HR.out.1 HW.out.size).block g hgw
      have c0 := (cell_of_blk eg _).trans d0
      have c1 := (cell_of_blk eg _).trans d1
      have c2 := (cell_of_blk eg _).trans d2
      have c3 := (cell_of_blk eg _).trans d3
      have c4 := (cell_of_blk eg _).trans d4
      have hg : g < wr.heap.size := Nat.lt_of_lt_of_le hgw (Nat.le_trans HW.out.size HR.out.1.size)
      clear d0 d1 d2 d3 d4 eg hgw
      have HX := Lib.hid hx
      have HM2 := Lib.hid (And.intro hM hmc)
      have hq0 : (0 : Int) ≤ (q : Int) := by omega
      have hql : (q : Int) < (N : Int) := by omega
      have hwm : IntKind.i64.wrap ((q : Int) + 1) = ((q + 1 : Nat) : Int) := by rw [IntKind.wrap_i64]; have := HL.out; omega
      have HM : Hid (N - (q + 1) < gk ∧ q + 1 + (N - (q + 1)) = N) := ⟨by omega, by omega⟩
      subst hag
      have hgne : g < wr.heap.size + 1 := by omega
      obtain ⟨x0, hx0⟩ : ∃ x0 : Int, (x.bytes : Int) = x0 := ⟨_, rfl⟩
      obtain ⟨x1, hx1⟩ : ∃ x1 : Int, (x.align : Int) = x1 := ⟨_, rfl⟩
      obtain ⟨x2, hx2⟩ : ∃ x2 : Int, (x.scal : Int) = x2 := ⟨_, rfl⟩
      obtain ⟨xn, hxn⟩ : ∃ xn, x.name = xn := ⟨_, rfl⟩
      obtain ⟨xl, hxl⟩ : ∃ xl, x.mems.length = xl := ⟨_, rfl⟩
      rw [hx0] at c0
      rw [hx1] at c1
      rw [hx2] at c2
      rw [hxn] at c3
      rw [hxl] at c4
      have HXs := Lib.hid (And.intro hx0 (And.intro hx1 (And.intro hx2 (And.intro hxn hxl))))
      clear hx hM hmc hrow zf hx0 hx1 hx2 hxn hxl
      cases hne : xn == nm
      · have HNe := Lib.hid hne
        have hne2 : (xn != nm) = true := by simp [bne, hne]
        go_wp2_with fail
        have HN1 : Hid (Below w.heap.size w (wr.alloc (.cells #[.int .i64 x0, .int .i64 x1, .int .i64 x2, .string ⟨xn.toArray⟩, .slice ma xl mc] 89)) ∧ (wr.alloc (.cells #[.int .i64 x0, .int .i64 x1, .int .i64 x2, .string ⟨xn.toArray⟩, .slice ma xl mc] 89)).heap[w.heap.size]? = some (.cells #[.int .i64 0, .int .i64 0, .int .i64 0, .string ⟨#[]⟩, .slice none 0 0] 89) ∧ ∀ (j : Nat) (y : LayP), j < q + 1 → L[j]? = some y → (y.name == nm) = false) := ⟨HR.out.1.alloc HR.out.1.size _, (Below.heap_alloc _ _ _ hbz).trans HR.out.2.1, fun j y hj hy => by
          by_cases e : j = q
          · subst e
            rw [HX.out] at hy
            cases hy
            rw [HXs.out.2.2.2.1]
            exact HNe.out
          · exact HR.out.2.2 j y (by omega) hy⟩
        clear c0 c1 c2 c3 c4 z0 z1 z2 z3 z4
        go_roundg (N - (q + 1))
        case measure => exact HM.out.1
        case rel => exact ⟨q + 1, HM.out.2, rfl, HN1⟩
      · have HNe := Lib.hid hne
        have hne2 : (xn != nm) = false := by simp [bne, hne]
        go_wp2_with fail
        have hst := Stp.five0 w.heap.size wr (.int .i64 x0) (.int .i64 x1) (.int .i64 x2) (.string ⟨xn.toArray⟩) (.slice ma xl mc)
        have hb9 := below_stp HR.out.1 hst (Nat.le_refl _)
        have hz9 := five_set HR.out.2.1 (.int .i64 x0) (.int .i64 x1) (.int .i64 x2) (.string ⟨xn.toArray⟩) (.slice ma xl mc)
        have hs9 := hst.size
        clear hst
        generalize ((((wr.setCell ⟨w.heap.size, 0, none⟩ (.int .i64 x0)).setCell ⟨w.heap.size, 1, none⟩ (.int .i64 x1)).setCell ⟨w.heap.size, 2, none⟩ (.int .i64 x2)).setCell ⟨w.heap.size, 3, none⟩ (.string ⟨xn.toArray⟩)).setCell ⟨w.heap.size, 4, none⟩ (.slice ma xl mc) = w9 at hb9 hz9 hs9 ⊢
        have hlt9 : w.heap.size < w9.heap.size := by rw [hs9]; exact hbz
        have hz10 := (Below.heap_alloc w9 (.cells #[.int .i64 x0, .int .i64 x1, .int .i64 x2, .string ⟨xn.toArray⟩, .slice ma xl mc] 89) _ hlt9).trans hz9
        have hb10 := hb9.alloc hb9.size (.cells #[.int .i64 x0, .int .i64 x1, .int .i64 x2, .string ⟨xn.toArray⟩, .slice ma xl mc] 89)
        generalize w9.alloc (.cells #[.int .i64 x0, .int .i64 x1, .int .i64 x2, .string ⟨xn.toArray⟩, .slice ma xl mc] 89) = wx at hb10 hz10 ⊢
        obtain ⟨y0, y1, y2, y3, y4, yf⟩ := five_cells hz10
        refine bodyPost_ret (v := .tuple #[lV x0 x1 x2 ⟨xn.toArray⟩ ma xl mc, .bool true]) (by simp [results, Tryz.results53, go_sem, y0, y1, y2, y3, y4]) rfl ?_
        obtain ⟨g0, g1, g2, g3, g4⟩ := HXs.out
        exact ⟨.inl ⟨x, ma, mc, find_at HX.out (by rw [g3]; simpa using HNe.out) HR.out.2.2, by rw [g0, g1, g2, g3, g4], HM2.out.1, HM2.out.2⟩, hb10⟩
    · have hd : decide ((q : Int) < (N : Int)) = false := by simp; omega
      clear zf
      go_wp2_with fail
      have hst := Stp.five0 w.heap.size (wr) (.int .i64 0) (.int .i64 0) (.int .i64 0) (.string ⟨#[]⟩) (.slice none 0 0)
      have hb9 := below_stp HR.out.1 hst (Nat.le_refl _)
      have hz9 := five_set HR.out.2.1 (.int .i64 0) (.int .i64 0) (.int .i64 0) (.string ⟨#[]⟩) (.slice none 0 0)
      clear hst
      generalize ((((((wr)).setCell ⟨w.heap.size, 0, none⟩ (.int .i64 0)).setCell ⟨w.heap.size, 1, none⟩ (.int .i64 0)).setCell ⟨w.heap.size, 2, none⟩ (.int .i64 0)).setCell ⟨w.heap.size, 3, none⟩ (.string ⟨#[]⟩)).setCell ⟨w.heap.size, 4, none⟩ (.slice none 0 0) = w9 at hb9 hz9  ⊢
      obtain ⟨y0, y1, y2, y3, y4, yf⟩ := five_cells hz9
      refine bodyPost_ret (v := .tuple #[lV 0 0 0 ⟨#[]⟩ none 0 0, .bool false]) (by simp [results, Tryz.results53, go_sem, y0, y1, y2, y3, y4]) rfl ?_
      exact ⟨.inr ⟨find_no fun j y hy => HR.out.2.2 j y (by have := (List.getElem?_eq_some_iff.1 hy).1; have := HN.out; omega) hy, rfl⟩, hb9⟩
def pieC (p : Nat × List UInt8) : List Value := [.int .i64 p.1, .string ⟨p.2.toArray⟩]
def rowP (l : List (Nat × List UInt8)) : List Value := l.flatMap pieC
theorem rowP_len (l : List (Nat × List UInt8)) : (rowP l).length = l.length * 2 := by
  induction l with
  | nil => rfl
  | cons p l ih =>
    show (pieC p ++ rowP l).length = _
    rw [List.length_append, ih, List.length_cons, show (pieC p).length = 2 from rfl]
    omega
theorem rowP_snoc (l : List (Nat × List UInt8)) (p : Nat × List UInt8) : rowP (l ++ [p]) = rowP l ++ pieC p := by
  unfold rowP
  simp
theorem pie_one (x : Int) (s : ByteArray) : ∀ u ∈ [Value.int .i64 x, .string s], u.oneCell' = true := by
  intro u hu
  simp only [List.mem_cons, List.not_mem_nil, or_false] at hu
  rcases hu with rfl | rfl <;> rfl
theorem infoPc : (Tryz.prog.info? 40).map (fun i => (i.zero, i.size, i.bytes)) = some (some (.agg #[.int .i64 0, .string ByteArray.empty]), 2, 24) := by kernel_rfl
/-- Pieces in a row of the call's own. -/
def PcR (X : Nat) (xs : List (Nat × List UInt8)) (v : Value) (w : World) : Prop := w.ownsRow X 40 2 v xs.length (rowP xs)
/-- What was written: the row, and what is new. -/
structure PcG (w : World) (v : Value) (w' : World) (v' : Value) : Prop where
  g : w.grownBy w' v.ownBlock
  own : ∀ j, v'.ownBlock = some j → v.ownBlock = some j ∨ w.heap.size ≤ j
theorem PcG.refl (w : World) (v : Value) : PcG w v w v := ⟨World.grownBy.refl _ _, fun j h => .inl h⟩
theorem PcG.ofBelow {w w' : World} (h : Below w.heap.size w w') (v : Value) : PcG w v w' v := ⟨⟨h.os, h.tape, h.output, h.size, fun k hk _ => h.block k hk⟩, fun j hj => .inl hj⟩
theorem PcG.trans {w1 w2 w3 : World} {v1 v2 v3 : Value} (h : PcG w1 v1 w2 v2) (k : PcG w2 v2 w3 v3) : PcG w1 v1 w3 v3 :=
  ⟨⟨k.g.os.trans h.g.os, k.g.tape.trans h.g.tape, k.g.output.trans h.g.output, Nat.le_trans h.g.size k.g.size, fun j hj hne => (k.g.block j (Nat.lt_of_lt_of_le hj h.g.size) (fun e => by
    rcases h.own j e.symm with h1 | h1
    · exact hne h1.symm
    · omega)).trans (h.g.block j hj hne)⟩, fun j hj => by
    rcases k.own j hj with h1 | h1
    · exact h.own j h1
    · exact .inr (Nat.le_trans h.g.size h1)⟩
theorem PcG.below {X : Nat} {xs : List (Nat × List UInt8)} {w w' : World} {v v' : Value} (h : PcG w v w' v') (hr : PcR X xs v w) (hX : X ≤ w.heap.size) : Below X w w' :=
  ⟨h.g.os, h.g.tape, h.g.output, h.g.size, fun j hj => h.g.block j (Nat.lt_of_lt_of_le hj hX) (fun e => by have := (hr.lt j e.symm).1; omega)⟩
theorem PcR.next {X : Nat} {xs : List (Nat × List UInt8)} {v : Value} {w w' : World} (h : PcR X xs v w) (hb : Below w.heap.size w w') : PcR X xs v w' := own_far h (fun g hg _ => hb.block g (World.ownsRow.lt h g hg).2)
theorem PcR.start (X : Nat) (w : World) : PcR X [] (.slice none 0 0) w := World.ownsRow_nil _ _ _ _
end Go.Proofs.YtacbjhbiaaieoaaGreatDoor
namespace Go.Proofs.YtacbjhbiaaieoaaGreatDoor
set_option linter.unusedVariables false
set_option linter.unusedSimpArgs false
set_option maxRecDepth 100000
open Go.RowKit

/-- What scalars answers: told, and the scalars behind it. -/
def ScX (L : List LayP) (ka : Option Addr) (kc : Nat) (w0 : World) (k : Nat) (t : Ty) : Prop := ∀ (xs : List (Nat × List UInt8)) (at' : Nat) (va : Option Addr) (vc : Nat) (a : Option Addr) (n c : Nat) (w : World), Below w0.heap.size w0 w → Nd (fun j => j < w0.heap.size) w0 t (.slice a n c) → PcR w0.heap.size xs (.slice va xs.length vc) w → at' + (extT L t).1 ≤ 65536 → xs.length + (scT L (scG L k) t at').length ≤ 65536 →
  Calls Tryz.prog 51 #[.slice ka L.length kc, nT t a n c, .int .i64 at', .slice va xs.length vc] w fun e w' => ∃ va' vc', e = .returned (.slice va' (xs ++ scT L (scG L k) t at').length vc') ∧ PcR w0.heap.size (xs ++ scT L (scG L k) t at') (.slice va' (xs ++ scT L (scG L k) t at').length vc') w' ∧ PcG w (.slice va xs.length vc) w' (.slice va' (xs ++ scT L (scG L k) t at').length vc')
set_option maxHeartbeats 8000000 in
theorem sx_leaf (L : List LayP) (ka : Option Addr) (kc : Nat) (w0 : World) (k : Nat) (t : Ty) (x0 : Int) (hx0 : (t.letter.toNat : Int) = x0) (hx : x0 = 99 ∨ x0 = 115 ∨ x0 = 105 ∨ x0 = 117 ∨ x0 = 112) (ht : ∀ a, scT L (scG L k) t a = [(a, t.code)]) : ScX L ka kc w0 k t := fun xs at' va vc a n c w hb hnd hr hat hlen => by
  rw [ht]
  rw [ht] at hlen
  have hlen2 : (xs ++ [(at', t.code)]).length = xs.length + 1 := by simp
  rw [hlen2]
  have hlen : xs.length + 1 ≤ 65536 := by simpa using hlen
  obtain ⟨s1, hs1⟩ : ∃ s1, t.code = s1 := ⟨_, rfl⟩
  obtain ⟨x2, hx2⟩ : ∃ x2 : Int, (t.count : Int) = x2 := ⟨_, rfl⟩
  obtain ⟨s3, hs3⟩ : ∃ s3, (⟨t.tag.toArray⟩ : ByteArray) = s3 := ⟨_, rfl⟩
  unfold nT
  rw [hx0, hs1, hx2, hs3]
  obtain ⟨N, hN⟩ : ∃ N, L.length = N := ⟨_, rfl⟩
  rw [hN]
  obtain ⟨M, hM⟩ : ∃ M, xs.length = M := ⟨_, rfl⟩
  obtain ⟨atI, hatI⟩ : ∃ x : Int, (at' : Int) = x := ⟨_, rfl⟩
  have HR := Lib.hid (And.intro hr (And.intro hb (And.intro hM hatI)))
  rw [hM] at hlen ⊢
  rw [hatI]
  clear hx0 hs1 hx2 hs3 hN hb hnd hr hat hM hlen2 ht hatI
  obtain ⟨i0, hi, hz0, hz1, hz2⟩ := info_parts infoPc
  obtain ⟨X, hX⟩ : ∃ X, w0.heap.size = X := ⟨_, rfl⟩
  have HX : Hid (X ≤ w.heap.size) := by rw [← hX]; exact HR.out.2.1.size
  have HPc : Hid (PcR X xs (.slice va M vc) w ∧ xs.length = M ∧ (at' : Int) = atI) := by rw [← hX, ← HR.out.2.2.1]; exact ⟨HR.out.1, rfl, HR.out.2.2.2⟩
  rw [hX]
  clear HR hX
  have HPx : Hid (∀ o o', (((w.alloc o).alloc o').ownsRow X 40 2 (.slice va M vc) M (rowP xs))) := fun o o' => by
    have h := (HPc.out.1.next (below_a w o)).next (below_a _ o')
    unfold PcR at h
    rw [HPc.out.2.1] at h
    exact h
  rcases hx with rfl | rfl | rfl | rfl | rfl
  all_goals
    go_enter Tryz.func51, Tryz.ntmps51
    go_wp2_with (at_builtin; refine wpList_append_lies _ rfl _ _ 36 rfl X 40 i0 (.agg #[.int .i64 0, .string ByteArray.empty]) 2 24 Tryz.underlying36 hi hz0 hz1 hz2 rfl (by decide) (.slice va M vc) M (rowP xs) rfl (HPx.out _ _) ⟨w.heap.size + 1, 0, none⟩ 1 1 [.int .i64 atI, .string ⟨s1.toArray⟩] rfl rfl ?cc1 (pie_one _ _) (by decide) ?cc3 ?cc4 ?cc5 (w.heap.size + 2) ?cc6 ?_)
    case cc1 =>
      intro j u hu
      exact World.news_of_block (new2 _ _ _) j u hu
    case cc3 => unfold maxLen; omega
    case cc4 => omega
    case cc5 => have := HX.out; simp; omega
    case cc6 => simp
    intro gr cap1 wd hown hgrow hlies hglt
    have hG : PcG w (.slice va M vc) wd (.slice (some ⟨gr, 0, none⟩) (M + 1) cap1) := by
      refine PcG.trans (PcG.ofBelow ((below_a w _).trans ((below_a _ _).mono (by simp))) _) ⟨hgrow, fun j hj => ?_⟩
      have e2 : gr = j := by simpa [Value.ownBlock] using hj
      subst e2
      rcases hlies with h1 | h1
      · exact .inl h1
      · right; simp; omega
    have hP : PcR X (xs ++ [(at', s1)]) (.slice (some ⟨gr, 0, none⟩) (M + 1) cap1) wd := by
      unfold PcR
      rw [rowP_snoc, List.length_append, HPc.out.2.1]
      show wd.ownsRow X _ 2 _ (M + 1) (rowP xs ++ [.int .i64 at', .string ⟨s1.toArray⟩])
      rw [HPc.out.2.2]
      exact hown
    have HG := Lib.hid (And.intro hG hP)
    clear hG hP hown hgrow hlies hglt
    go_wp2_with fail
    go_ret
    exact ⟨_, _, rfl, HG.out.2, HG.out.1⟩
set_option maxHeartbeats 4000000 in
theorem sx_jmp (L : List LayP) (ka : Option Addr) (kc : Nat) (w0 : World) (k : Nat) : ScX L ka kc w0 k (.base 106) := fun xs at' va vc a n c w hb hnd hr hat hlen => by
  have ht : scT L (scG L k) (.base 106) at' = [] := rfl
  rw [ht, List.append_nil]
  obtain ⟨s1, hs1⟩ : ∃ s1, (⟨(Ty.base 106).code.toArray⟩ : ByteArray) = s1 := ⟨_, rfl⟩
  have hnT : nT (.base 106) a n c = nV 106 s1 0 ⟨#[]⟩ a n c := by rw [← hs1]; rfl
  rw [hnT]
  obtain ⟨N, hN⟩ : ∃ N, L.length = N := ⟨_, rfl⟩
  rw [hN]
  have HR := Lib.hid hr
  obtain ⟨M, hM⟩ : ∃ M, xs.length = M := ⟨_, rfl⟩
  have HM := Lib.hid hM
  rw [hM]
  clear hs1 hnT hN hb hnd hr hat hlen ht hM
  go_enter Tryz.func51, Tryz.ntmps51
  go_wp2_with fail
  go_ret
  exact ⟨va, vc, rfl, by rw [← HM.out]; exact HR.out.next (below_a _ _), PcG.ofBelow (below_a _ _) _⟩
/-- A part of a node, and its node, as they lay in an elder world. -/
theorem c_innerW (w0 : World) (t u : Ty) (A : List Ty) (a : Option Addr) (m c : Nat) (ht : t.parts = A ++ [u]) (hA : A.length ≤ 65536) (hnd : Nd (fun j => j < w0.heap.size) w0 t (.slice a m c)) (w' : World) (h : Below w0.heap.size w0 w') :
    Calls Tryz.prog 55 #[nT t a m c] w' fun e w'' => (∃ pa pn pc, e = .returned (nT u pa pn pc) ∧ Nd (fun j => j < w0.heap.size) w0 u (.slice pa pn pc)) ∧ Below w'.heap.size w' w'' :=
  (c_inner (fun j => j < w0.heap.size) t (.slice a m c) w' (Nd.mono hnd (fun j hj => hj) (fun j hj => h.block j hj)) A u ht hA).mono fun e w'' ⟨⟨pa, pn, pc, he, hN⟩, hb⟩ => ⟨⟨pa, pn, pc, he, Nd.mono hN (fun j hj => hj) (fun j hj => (h.block j hj).symm)⟩, hb⟩
theorem nd_in {w0 w' : World} {t : Ty} {v : Value} (h : Nd (fun j => j < w0.heap.size) w0 t v) (hb : Below w0.heap.size w0 w') : NdIn t v w' := Nd.mono h (fun j hj => Nat.lt_of_lt_of_le hj hb.size) (fun j hj => hb.block j hj)
theorem range_pre (n i : Nat) (hi : i < n) (f : Nat → List (Nat × List UInt8)) : ((List.range i).flatMap f).length + (f i).length ≤ ((List.range n).flatMap f).length := by
  obtain ⟨d, rfl⟩ : ∃ d, n = i + 1 + d := ⟨n - (i + 1), by omega⟩
  rw [List.range_add, List.flatMap_append, List.length_append, List.range_succ, List.flatMap_append, List.length_append]
  simp
theorem range_next (i : Nat) (f : Nat → List (Nat × List UInt8)) : (List.range (i + 1)).flatMap f = (List.range i).flatMap f ++ f i := by
  rw [List.range_succ, List.flatMap_append]
  simp
theorem wrap_small (z : Int) (h0 : 0 ≤ z) (h : z ≤ 1000000) : IntKind.i64.wrap z = z := by rw [IntKind.wrap_i64]; omega
theorem ar_facts (i n q0 at' : Nat) (hi : i < n) (hn : n ≤ 65536) (hq : q0 ≤ 65537) (hat : at' + min (q0 * n) 65537 ≤ 65536) : at' + i * q0 + q0 ≤ 65536 ∧ wrap64 ((i : Int) * (q0 : Int)) = ((i * q0 : Nat) : Int) ∧ IntKind.i64.wrap ((i : Int) * (q0 : Int)) = ((i * q0 : Nat) : Int) ∧ IntKind.i64.wrap ((at' : Int) + ((i * q0 : Nat) : Int)) = ((at' + i * q0 : Nat) : Int) ∧ IntKind.i64.wrap ((i : Int) + 1) = ((i + 1 : Nat) : Int) := by
  have hprod : i * q0 + q0 ≤ q0 * n := by
    have : (i + 1) * q0 ≤ n * q0 := Nat.mul_le_mul_right _ hi
    rw [Nat.add_mul, Nat.one_mul] at this
    rw [Nat.mul_comm q0 n]
    exact this
  have hA0 : at' + i * q0 + q0 ≤ 65536 := by omega
  refine ⟨hA0, wrap_mul i q0 (by omega) (by omega), ?_, ?_, ?_⟩
  · rw [← Int.natCast_mul]
    generalize i * q0 = z at hA0 ⊢
    exact wrap_small _ (by omega) (by omega)
  · generalize i * q0 = z at hA0 ⊢
    have := wrap_small ((at' : Int) + (z : Int)) (by omega) (by omega)
    rw [this]
    omega
  · have := wrap_small ((i : Int) + 1) (by omega) (by omega)
    rw [this]
    omega
/-- While an array's scalars are told. -/
structure SaI (X : Nat) (xs : List (Nat × List UInt8)) (f : Nat → List (Nat × List UInt8)) (wl : World) (v : Value) (i : Nat) (v' : Value) (wr : World) : Prop where
  r : PcR X (xs ++ (List.range i).flatMap f) v' wr
  g : PcG wl v wr v'
set_option maxHeartbeats 8000000 in
theorem sx_arr (L : List LayP) (ka : Option Addr) (kc : Nat) (hkc : L.length ≤ kc) (hL : GdL L) (hll : L.length ≤ 65536) (w0 : World) (hK : KnIn L ka w0) (k n : Nat) (u : Ty) (hwf : (Ty.arr n u).wf) (hn : 1 ≤ n ∧ n ≤ 65536) (IH : ScX L ka kc w0 k u) : ScX L ka kc w0 k (.arr n u) := fun xs at' va vc a m c w hb hnd hr hat hlen => by
  have HIn := Lib.hid (c_innerW w0 (.arr n u) u [] a m c rfl (by decide) hnd)
  have HEx := Lib.hid (fun (w' : World) (h : Below w0.heap.size w0 w') pa pn pc (hN : Nd (fun j => j < w0.heap.size) w0 u (.slice pa pn pc)) => c_extentX L ka kc hkc hL hll u.size u pa pn pc w' (Nat.le_refl _) hwf.2 (nd_in hN h) (hK.next h))
  have HSc := Lib.hid IH
  unfold ScX at HSc
  have hbd := (ext_bd hL u).1
  obtain ⟨q0, q1, q2, q3, hq⟩ : ∃ q0 q1 q2 q3, extT L u = (q0, q1, q2, q3) := ⟨_, _, _, _, rfl⟩
  have hat2 : at' + min (q0 * n) 65537 ≤ 65536 := by
    have : at' + min ((extT L u).1 * n) 65537 ≤ 65536 := hat
    rw [hq] at this
    exact this
  have hT : scT L (scG L k) (.arr n u) at' = (List.range n).flatMap fun i => scT L (scG L k) u (at' + i * q0) := by
    show ((List.range n).flatMap fun i => scT L (scG L k) u (at' + i * (extT L u).1)) = _
    rw [hq]
  rw [hT] at hlen ⊢
  rw [hq] at HEx HSc hbd
  obtain ⟨F, hF⟩ : ∃ F, scT L (scG L k) u = F := ⟨_, rfl⟩
  rw [hF] at HSc hlen hT ⊢
  obtain ⟨f, hf⟩ : ∃ f : Nat → List (Nat × List UInt8), (fun i => F (at' + i * q0)) = f := ⟨_, rfl⟩
  have HF := Lib.hid hf
  rw [hf] at hlen ⊢
  clear hf
  obtain ⟨N, hN⟩ : ∃ N, L.length = N := ⟨_, rfl⟩
  obtain ⟨M, hM⟩ : ∃ M, xs.length = M := ⟨_, rfl⟩
  obtain ⟨s1, hs1⟩ : ∃ s1, (⟨(Ty.arr n u).code.toArray⟩ : ByteArray) = s1 := ⟨_, rfl⟩
  have hnT : nT (.arr n u) a m c = nV 97 s1 n ⟨#[]⟩ a m c := by rw [← hs1]; rfl
  obtain ⟨y0, hy0⟩ : ∃ x : Int, (u.letter.toNat : Int) = x := ⟨_, rfl⟩
  obtain ⟨y1, hy1⟩ : ∃ x, (⟨u.code.toArray⟩ : ByteArray) = x := ⟨_, rfl⟩
  obtain ⟨y2, hy2⟩ : ∃ x : Int, (u.count : Int) = x := ⟨_, rfl⟩
  obtain ⟨y3, hy3⟩ : ∃ x, (⟨u.tag.toArray⟩ : ByteArray) = x := ⟨_, rfl⟩
  have hnU : ∀ pa pn pc, nT u pa pn pc = nV y0 y1 y2 y3 pa pn pc := fun pa pn pc => by unfold nT; rw [hy0, hy1, hy2, hy3]
  simp only [hnU] at HIn HEx HSc
  rw [hN] at HEx HSc
  rw [hnT] at HIn
  rw [hnT, hN]
  unfold exV at HEx
  have hB := hb
  have HB := Lib.hid hb
  obtain ⟨X, hX⟩ : ∃ X, w0.heap.size = X := ⟨_, rfl⟩
  have hXw : X ≤ w.heap.size := by rw [← hX]; exact hb.size
  have HR : Hid (PcR X xs (.slice va M vc) w ∧ xs.length = M ∧ X ≤ w.heap.size ∧ w0.heap.size = X) := ⟨by rw [← hX, ← hM]; exact hr, hM, hXw, hX⟩
  have HLn := Lib.hid hlen
  have HAt := Lib.hid (And.intro hat2 (And.intro hn hbd))
  rw [hM]
  clear hb hnd hr hat hat2 hlen hbd hq hT hF hN hM hs1 hnT hy0 hy1 hy2 hy3 hnU hB hX hXw hn IH hwf hkc hL hll hK
  go_enter Tryz.func51, Tryz.ntmps51
  go_wp2_with fail
  have HA := Lib.hid (below_a w (.cells #[.int .u8 97, .string s1, .int .i64 n, .string ⟨#[]⟩, .slice a m c] 68))
  have HZ := Lib.hid (heap_alloc_new w (.cells #[.int .u8 97, .string s1, .int .i64 n, .string ⟨#[]⟩, .slice a m c] 68))
  have HB1 := Lib.hid (below_on HB.out HA.out HB.out.size)
  refine (HIn.out _ HB1.out).mono ?_
  rintro e w1 ⟨⟨pa, pn, pc, rfl, hN1⟩, hb⟩
  have HB2 := Lib.hid (below_on HB1.out hb HB1.out.size)
  have HW1 := Lib.hid (HA.out.trans (hb.mono (by simp)))
  have HZ1 := Lib.hid (blk_next HZ.out hb)
  have HE2 := Lib.hid (HEx.out _ HB2.out pa pn pc hN1)
  clear hb hN1
  obtain ⟨z0, z1, z2, z3, z4, zf⟩ := five_cells HZ1.out
  have hlz : w.heap.size < w1.heap.size := (Array.getElem?_eq_some_iff.1 HZ1.out).1
  go_wp2_with fail
  refine HE2.out.mono ?_
  rintro e w2 ⟨rfl, hb⟩
  have HB3 := Lib.hid (below_on HB2.out hb HB2.out.size)
  have HW2 := Lib.hid (HW1.out.trans (hb.mono (by have := HW1.out.size; omega)))
  have HZ2 := Lib.hid (blk_next HZ1.out hb)
  clear hb z0 z1 z2 z3 z4 zf hlz HE2
  obtain ⟨z0, z1, z2, z3, z4, zf⟩ := five_cells HZ2.out
  have hlz : w.heap.size < w2.heap.size := (Array.getElem?_eq_some_iff.1 HZ2.out).1
  go_wp2_with fail
  have HBl0 := Lib.hid (HB3.out.alloc HB3.out.size (.cells #[.int .i64 q0, .int .i64 q1, .int .i64 q2] 79))
  have HWl0 := Lib.hid (HW2.out.trans ((below_a w2 (.cells #[.int .i64 q0, .int .i64 q1, .int .i64 q2] 79)).mono HW2.out.size))
  have HZl0 := Lib.hid ((Below.heap_alloc w2 (.cells #[.int .i64 q0, .int .i64 q1, .int .i64 q2] 79) _ hlz).trans HZ2.out)
  have HXl0 := Lib.hid (heap_alloc_new w2 (.cells #[.int .i64 q0, .int .i64 q1, .int .i64 q2] 79))
  obtain ⟨wl, hwl⟩ : ∃ W, w2.alloc (.cells #[.int .i64 q0, .int .i64 q1, .int .i64 q2] 79) = W := ⟨_, rfl⟩
  obtain ⟨Z, hZ⟩ : ∃ Z, w2.heap.size = Z := ⟨_, rfl⟩
  have HYZ : Hid (w.heap.size < Z) := by rw [← hZ]; exact hlz
  rw [hwl] at HBl0 HWl0 HZl0 HXl0 ⊢
  rw [hZ] at HXl0 ⊢
  clear z0 z1 z2 z3 z4 zf hlz hwl hZ HB1 HB2 HB3 HW1 HW2 HZ HZ1 HZ2 HA
  have HOl : Hid (∀ j, (Value.slice va M vc).ownBlock = some j → j < w.heap.size) := fun j hj => (HR.out.1.lt j hj).2
  have HPl := Lib.hid (HR.out.1.next HWl0.out)
  have HGl := Lib.hid (PcG.ofBelow HWl0.out (.slice va M vc))
  go_loopg [3, 36] n (fun g v3 v36 wr => ∃ (i T : Nat) (va' : Option Addr) (vc' : Nat), i + g = n ∧ v36 = .int .i64 (i : Int) ∧ v3 = .slice va' T vc' ∧ Hid (T = (xs ++ (List.range i).flatMap f).length ∧ SaI X xs f wl (.slice va M vc) i (.slice va' T vc') wr))
  case atStart => exact ⟨0, M, va, vc, by omega, rfl, rfl, by simp [HR.out.2.1], ⟨by simpa using HPl.out, PcG.refl _ _⟩⟩
  case round =>
    obtain ⟨i, T, va', vc', hi, rfl, rfl, HS⟩ := hrel
    have hBX : Below X wl wr := HS.out.2.g.below HPl.out (Nat.le_trans HR.out.2.2.1 HWl0.out.size)
    have HBr : Hid (Below w0.heap.size w0 wr) := HBl0.out.trans (by rw [HR.out.2.2.2]; exact hBX)
    have hzr : wr.heap[w.heap.size]? = some (.cells #[.int .u8 97, .string s1, .int .i64 n, .string ⟨#[]⟩, .slice a m c] 68) := (HS.out.2.g.g.block _ (Array.getElem?_eq_some_iff.1 HZl0.out).1 (fun e => by have := HOl.out _ e.symm; omega)).trans HZl0.out
    have hxr : wr.heap[Z]? = some (.cells #[.int .i64 q0, .int .i64 q1, .int .i64 q2] 79) := (HS.out.2.g.g.block _ (Array.getElem?_eq_some_iff.1 HXl0.out).1 (fun e => by have := HOl.out _ e.symm; have := HYZ.out; omega)).trans HXl0.out
    have HXr := Lib.hid hxr
    obtain ⟨z0, z1, z2, z3, z4, zf⟩ := five_cells hzr
    have x0 : wr.cell? ⟨Z, 0, none⟩ = some (.int .i64 q0) := by rw [Lib.cell_of_heap hxr]; rfl
    have hly : w.heap.size < wr.heap.size := (Array.getElem?_eq_some_iff.1 hzr).1
    have hlz : Z < wr.heap.size := (Array.getElem?_eq_some_iff.1 hxr).1
    clear hBX hzr hxr zf
    by_cases hlt : i < n
    · have hd : decide ((i : Int) < (n : Int)) = true := by simp; omega
      have hdn : decide (i < n) = true := by simp; omega
      have HM : Hid (n - (i + 1) < gk ∧ i + 1 + (n - (i + 1)) = n) := ⟨by omega, by omega⟩
      obtain ⟨hA0, hw1, hw2, hw3, hwm⟩ := ar_facts i n q0 at' hlt HAt.out.2.1.2 HAt.out.2.2 HAt.out.1
      have HLi : Hid ((xs ++ (List.range i).flatMap f).length + (F (at' + i * q0)).length ≤ 65536) := by
        have h1 := range_pre n i hlt f
        have h2 := HLn.out
        have h3 : f i = F (at' + i * q0) := by rw [← HF.out]
        rw [h3] at h1
        show _ ≤ _
        rw [List.length_append]
        omega
      have HNx : Hid (xs ++ (List.range (i + 1)).flatMap f = (xs ++ (List.range i).flatMap f) ++ F (at' + i * q0)) := by
        show _ = _
        rw [range_next, ← List.append_assoc, ← HF.out]
      obtain ⟨P, hP⟩ : ∃ P : Int, ((i * q0 : Nat) : Int) = P := ⟨_, rfl⟩
      obtain ⟨A, hA⟩ : ∃ A, at' + i * q0 = A := ⟨_, rfl⟩
      rw [hP] at hw1 hw2 hw3
      rw [hA] at hw3 hA0 HLi HNx
      obtain ⟨AI, hAI⟩ : ∃ x : Int, (A : Int) = x := ⟨_, rfl⟩
      rw [hAI] at hw3
      have HA0 := Lib.hid (And.intro hA0 hAI)
      clear hlt hA0 hP hA hAI hi
      go_wp2_with fail
      go_region_law (first
        | (go_simp
           go_at_call 55
           refine (HIn.out _ HBr.out.drew).mono ?_
           rintro e w5 ⟨⟨pa5, pn5, pc5, rfl, hN5⟩, hb5⟩
           have HN5 := Lib.hid (And.intro hN5 (show Below wr.heap.size wr w5 from ((Below.refl _ _).drew).trans hb5))
           have x5 : w5.cell? ⟨Z, 0, none⟩ = some (.int .i64 q0) := (cell_of_blk (HN5.out.2.block Z hlz) 0).trans x0
           clear hN5 hb5)
        | (go_simp
           go_at_call 51
           have hcall := HSc.out (xs ++ (List.range i).flatMap f) A va' vc' pa5 pn5 pc5 w5 (below_on HBr.out HN5.out.2 HBr.out.size) HN5.out.1 (by rw [HR.out.2.2.2]; have h := HS.out.2.r.next HN5.out.2; rw [HS.out.1] at h; exact h) HA0.out.1 HLi.out
           rw [← HS.out.1, HA0.out.2, ← HNx.out] at hcall
           obtain ⟨T6, hT6⟩ : ∃ T, (xs ++ (List.range (i + 1)).flatMap f).length = T := ⟨_, rfl⟩
           have HT6 := Lib.hid hT6
           rw [hT6] at hcall
           clear hT6
           refine hcall.mono ?_
           clear hcall
           rintro e w6 ⟨va6, vc6, rfl, hr6, hg6⟩
           have HR6 := Lib.hid (And.intro hr6 (HS.out.2.g.trans ((PcG.ofBelow HN5.out.2 _).trans hg6)))
           clear hr6 hg6))
      all_goals
        clear z0 z1 z2 z3 z4 x0 hly hlz x5
        go_wp2_with fail
        go_roundg (n - (i + 1))
        case measure => exact HM.out.1
        case rel => exact ⟨i + 1, T6, va6, vc6, HM.out.2, rfl, rfl, HT6.out.symm, ⟨by have := HR6.out.1; rwa [HR.out.2.2.2] at this, HR6.out.2⟩⟩
    · have hd : decide ((i : Int) < (n : Int)) = false := by simp; omega
      have hdn : decide (i < n) = false := by simp; omega
      obtain rfl : i = n := by omega
      clear z0 z1 z2 z3 z4 x0 hly hlz
      go_wp2_with fail
      go_ret
      rw [← HS.out.1, HR.out.2.2.2]
      exact ⟨va', vc', rfl, HS.out.2.r, HGl.out.trans HS.out.2.g⟩
end Go.Proofs.YtacbjhbiaaieoaaGreatDoor
namespace Go.Proofs.YtacbjhbiaaieoaaGreatDoor
set_option linter.unusedVariables false
set_option linter.unusedSimpArgs false
set_option maxRecDepth 100000
open Go.RowKit

/-- The scalars of a struct's first members. -/
def memsF (L : List LayP) (k : Nat) (M : List MemP) (a : Nat) : List (Nat × List UInt8) := M.flatMap fun y => scT L (scG L k) y.ty (a + y.at')
theorem memsF_next {L : List LayP} {k : Nat} {M : List MemP} {a q : Nat} {y : MemP} (h : M[q]? = some y) : memsF L k (M.take (q + 1)) a = memsF L k (M.take q) a ++ scT L (scG L k) y.ty (a + y.at') := by
  unfold memsF
  rw [List.take_add_one, h, List.flatMap_append]
  simp
theorem memsF_le {L : List LayP} {k : Nat} {M : List MemP} {a q : Nat} {y : MemP} (h : M[q]? = some y) : (memsF L k (M.take q) a).length + (scT L (scG L k) y.ty (a + y.at')).length ≤ (memsF L k M a).length := by
  have h1 : memsF L k M a = memsF L k (M.take (q + 1)) a ++ memsF L k (M.drop (q + 1)) a := by
    unfold memsF
    rw [← List.flatMap_append, List.take_append_drop]
  rw [h1, memsF_next h]
  simp only [List.length_append]
  omega
/-- While a struct's scalars are told. -/
structure SsI (L : List LayP) (k : Nat) (M : List MemP) (X : Nat) (xs : List (Nat × List UInt8)) (a : Nat) (wl : World) (v : Value) (q : Nat) (v' : Value) (wr : World) : Prop where
  r : PcR X (xs ++ memsF L k (M.take q) a) v' wr
  g : PcG wl v wr v'
theorem at_small (x y : Nat) (h : x + y ≤ 65536) : IntKind.i64.wrap ((x : Int) + (y : Int)) = ((x + y : Nat) : Int) := by
  have := wrap_small ((x : Int) + (y : Int)) (by omega) (by omega)
  rw [this]
  omega
theorem at_small64 (x y : Nat) (h : x + y ≤ 65536) : wrap64 ((x : Int) + (y : Int)) = ((x + y : Nat) : Int) := by
  have h2 : ((x + y : Nat) : Int) = (x : Int) + (y : Int) := by omega
  rw [← h2]
  unfold wrap64
  omega
set_option maxHeartbeats 8000000 in
theorem sx_str (L : List LayP) (S : List StP) (ka : Option Addr) (kc : Nat) (hkc : L.length ≤ kc) (hL : GdL L) (hm : MtL L S) (hll : L.length ≤ 65536) (w0 : World) (hK : KnIn L ka w0) (k : Nat) (IH : ∀ k', k' < k → ∀ t, TOk L k' t → ScX L ka kc w0 k' t) (s : List UInt8) (hok : TOk L k (.str s)) : ScX L ka kc w0 k (.str s) := fun xs at' va vc a m c w hb hnd hr hat hlen => by
  obtain ⟨i, k', x, rfl, hik, hx, hf, hlo, hmem⟩ := sc_str hL hm hok
  have HFd := Lib.hid (fun (w' : World) (h : Below w0.heap.size w0 w') => c_findW L ka kc hkc s w0 w' h hK hll)
  have HSc := Lib.hid (fun (y : MemP) (hy : y ∈ x.mems) => IH k' (by omega) y.ty (hmem y hy).1)
  unfold ScX at HSc
  have hE : extT L (.str s) = (x.bytes, x.align, x.scal, true) := by
    unfold extT
    rw [hf]
  have hat2 : at' + x.bytes ≤ 65536 := by rw [hE] at hat; exact hat
  have HFit : Hid (∀ y ∈ x.mems, at' + y.at' + (extT L y.ty).1 ≤ 65536 ∧ at' + y.at' ≤ 65536) := fun y hy => by
    have := (hmem y hy).2.1
    omega
  have hT : scT L (scG L (k' + 1)) (.str s) at' = memsF L k' x.mems at' := by
    show (match findL L s with | some x => x.mems.flatMap fun (y : MemP) => scT L (scG L k') y.ty (at' + y.at') | none => []) = _
    rw [hf]
    rfl
  rw [hT] at hlen ⊢
  have hm64 : x.mems.length ≤ 64 := by
    obtain ⟨st, g1, g2, g3⟩ := hm i x hx
    obtain ⟨_, _, n3, n4, n5, n6⟩ := nx_ok g2
    have := goM_all st.mems ac0 n5
    rw [g3]
    show (goM _ ac0 st.mems).2.mems.length ≤ 64
    rw [this]
    show 0 + _ ≤ _
    omega
  obtain ⟨N, hN⟩ : ∃ N, L.length = N := ⟨_, rfl⟩
  obtain ⟨M, hM⟩ : ∃ M, xs.length = M := ⟨_, rfl⟩
  obtain ⟨s1, hs1⟩ : ∃ s1, (⟨(Ty.str s).code.toArray⟩ : ByteArray) = s1 := ⟨_, rfl⟩
  have hnT : nT (.str s) a m c = nV 83 s1 0 ⟨s.toArray⟩ a m c := by rw [← hs1]; rfl
  rw [hN] at HFd HSc
  rw [hnT, hN]
  have HB := Lib.hid hb
  obtain ⟨X, hX⟩ : ∃ X, w0.heap.size = X := ⟨_, rfl⟩
  have hXw : X ≤ w.heap.size := by rw [← hX]; exact hb.size
  have HR : Hid (PcR X xs (.slice va M vc) w ∧ xs.length = M ∧ X ≤ w.heap.size ∧ w0.heap.size = X) := ⟨by rw [← hX, ← hM]; exact hr, hM, hXw, hX⟩
  have HLn := Lib.hid hlen
  have HFi := Lib.hid hf
  have HM64 := Lib.hid hm64
  rw [hM]
  clear hb hnd hr hat hat2 hlen hE hT hN hM hs1 hnT hX hXw IH hkc hL hll hK hm hok hx hlo hmem hf hm64 hik
  go_enter Tryz.func51, Tryz.ntmps51
  go_wp2_with fail
  have HA := Lib.hid (below_a w (.cells #[.int .u8 83, .string s1, .int .i64 0, .string ⟨s.toArray⟩, .slice a m c] 68))
  have HB1 := Lib.hid (below_on HB.out HA.out HB.out.size)
  refine (HFd.out _ HB1.out).mono ?_
  rintro e w1 ⟨hfd, hb⟩
  have HB2 := Lib.hid (below_on HB1.out hb HB1.out.size)
  have HW1 := Lib.hid (HA.out.trans (hb.mono (by simp)))
  clear hb
  rcases hfd with ⟨x', ma, mc, hf2, rfl, hmb, hmc⟩ | ⟨hf2, _⟩
  · rw [HFi.out] at hf2
    obtain rfl : x = x' := Option.some.inj hf2
    obtain ⟨x0, hx0⟩ : ∃ z : Int, (x.bytes : Int) = z := ⟨_, rfl⟩
    obtain ⟨x1, hx1⟩ : ∃ z : Int, (x.align : Int) = z := ⟨_, rfl⟩
    obtain ⟨x2, hx2⟩ : ∃ z : Int, (x.scal : Int) = z := ⟨_, rfl⟩
    obtain ⟨x3, hx3⟩ : ∃ z, (⟨x.name.toArray⟩ : ByteArray) = z := ⟨_, rfl⟩
    obtain ⟨ML, hML⟩ : ∃ z, x.mems.length = z := ⟨_, rfl⟩
    have HMb := Lib.hid (And.intro hmb (And.intro hML hmc))
    rw [hx0, hx1, hx2, hx3, hML]
    clear hf2 hmb hmc hx0 hx1 hx2 hx3 hML
    go_wp2_with fail
    have HBl0 := Lib.hid (HB2.out.alloc HB2.out.size (.cells #[.int .i64 x0, .int .i64 x1, .int .i64 x2, .string x3, .slice ma ML mc] 89))
    have HWl0 := Lib.hid (HW1.out.trans ((below_a w1 (.cells #[.int .i64 x0, .int .i64 x1, .int .i64 x2, .string x3, .slice ma ML mc] 89)).mono HW1.out.size))
    obtain ⟨wl, hwl⟩ : ∃ W, w1.alloc (.cells #[.int .i64 x0, .int .i64 x1, .int .i64 x2, .string x3, .slice ma ML mc] 89) = W := ⟨_, rfl⟩
    rw [hwl] at HBl0 HWl0 ⊢
    clear hwl HB1 HB2 HW1 HA
    have HPl := Lib.hid (HR.out.1.next HWl0.out)
    have HGl := Lib.hid (PcG.ofBelow HWl0.out (.slice va M vc))
    go_loopg [3, 63] ML (fun g v3 v63 wr => ∃ (q T : Nat) (va' : Option Addr) (vc' : Nat), q + g = ML ∧ v63 = .int .i64 (q : Int) ∧ v3 = .slice va' T vc' ∧ Hid (T = (xs ++ memsF L k' (x.mems.take q) at').length ∧ SsI L k' x.mems X xs at' wl (.slice va M vc) q (.slice va' T vc') wr))
    case atStart => exact ⟨0, M, va, vc, by omega, rfl, rfl, by simp [HR.out.2.1, memsF], ⟨by simpa [memsF] using HPl.out, PcG.refl _ _⟩⟩
    case round =>
      obtain ⟨q, T, va', vc', hi, rfl, rfl, HS⟩ := hrel
      have hBX : Below X wl wr := HS.out.2.g.below HPl.out (Nat.le_trans HR.out.2.2.1 HWl0.out.size)
      have HBr : Hid (Below w0.heap.size w0 wr) := HBl0.out.trans (by rw [HR.out.2.2.2]; exact hBX)
      clear hBX
      by_cases hlt : q < ML
      · have hd : decide ((q : Int) < (ML : Int)) = true := by simp; omega
        have hdn : decide (q < ML) = true := by simp; omega
        obtain ⟨y, hy⟩ : ∃ y, x.mems[q]? = some y := ⟨_, List.getElem?_eq_getElem (by have := HMb.out.2.1; omega)⟩
        obtain ⟨g, hag, hgw, hrow⟩ := HMb.out.1 (by have := HMb.out.2.1; omega)
        obtain ⟨pa, pn, pc, hnd, hc⟩ := hrow q y hy
        have eg := HBr.out.block g hgw
        have a0 := (cell_of_blk eg _).trans (hc 0 _ rfl)
        rw [Nat.add_zero] at a0
        have a1 := (cell_of_blk eg _).trans (hc 1 _ rfl)
        have a2 := (cell_of_blk eg _).trans (hc 2 _ rfl)
        have a3 := (cell_of_blk eg _).trans (hc 3 _ rfl)
        have a4 := (cell_of_blk eg _).trans (hc 4 _ rfl)
        have a5 := (cell_of_blk eg _).trans (hc 5 _ rfl)
        have a6 := (cell_of_blk eg _).trans (hc 6 _ rfl)
        have hmem := List.mem_of_getElem? hy
        have hfit := HFit.out y hmem
        have hcall := fun (zs : List (Nat × List UInt8)) (va : Option Addr) (vc : Nat) w' h1 h2 h3 => HSc.out y hmem zs (at' + y.at') va vc pa pn pc w' h1 hnd h2 hfit.1 h3
        have HLi : Hid ((xs ++ memsF L k' (x.mems.take q) at').length + (scT L (scG L k') y.ty (at' + y.at')).length ≤ 65536) := by
          have h1 := memsF_le (L := L) (k := k') (a := at') hy
          have h2 := HLn.out
          show _ ≤ _
          rw [List.length_append]
          omega
        have HNx : Hid (xs ++ memsF L k' (x.mems.take (q + 1)) at' = (xs ++ memsF L k' (x.mems.take q) at') ++ scT L (scG L k') y.ty (at' + y.at')) := by
          show _ = _
          rw [memsF_next hy, List.append_assoc]
        have hw1 := at_small at' y.at' hfit.2
        have hw2 := at_small64 at' y.at' hfit.2
        obtain ⟨b0, hb0⟩ : ∃ z : Int, (y.ty.letter.toNat : Int) = z := ⟨_, rfl⟩
        obtain ⟨b1, hb1⟩ : ∃ z, (⟨y.ty.code.toArray⟩ : ByteArray) = z := ⟨_, rfl⟩
        obtain ⟨b2, hb2⟩ : ∃ z : Int, (y.ty.count : Int) = z := ⟨_, rfl⟩
        obtain ⟨b3, hb3⟩ : ∃ z, (⟨y.ty.tag.toArray⟩ : ByteArray) = z := ⟨_, rfl⟩
        obtain ⟨b5, hb5⟩ : ∃ z, (⟨y.name.toArray⟩ : ByteArray) = z := ⟨_, rfl⟩
        obtain ⟨b6, hb6⟩ : ∃ z : Int, (y.at' : Int) = z := ⟨_, rfl⟩
        have hnU : nT y.ty pa pn pc = nV b0 b1 b2 b3 pa pn pc := by unfold nT; rw [hb0, hb1, hb2, hb3]
        rw [hnU] at hcall
        rw [hb0] at a0
        rw [hb1] at a1
        rw [hb2] at a2
        rw [hb3] at a3
        rw [hb5] at a5
        rw [hb6] at a6 hw1 hw2
        obtain ⟨A, hA⟩ : ∃ A, at' + y.at' = A := ⟨_, rfl⟩
        rw [hA] at hcall HLi HNx hw1 hw2
        obtain ⟨AI, hAI⟩ : ∃ z : Int, (A : Int) = z := ⟨_, rfl⟩
        rw [hAI] at hcall hw1 hw2
        have HCl := Lib.hid hcall
        have hq0 : (0 : Int) ≤ (q : Int) := by omega
        have hql : (q : Int) < (ML : Int) := by omega
        have hwm : IntKind.i64.wrap ((q : Int) + 1) = ((q + 1 : Nat) : Int) := at_small q 1 (by have := HM64.out; have := HMb.out.2.1; omega)
        have HM : Hid (ML - (q + 1) < gk ∧ q + 1 + (ML - (q + 1)) = ML) := ⟨by omega, by omega⟩
        have hgl : g < wr.heap.size := Nat.lt_of_lt_of_le hgw HBr.out.size
        subst hag
        clear hrow hc hy hnd eg hmem hfit hcall hb0 hb1 hb2 hb3 hb5 hb6 hnU hA hAI hlt hgw hi
        have HA9 := Lib.hid (below_a wr (.cells #[.int .u8 b0, .string b1, .int .i64 b2, .string b3, .slice pa pn pc, .string b5, .int .i64 b6] 93))
        go_wp2_with fail
        have h := HCl.out (xs ++ memsF L k' (x.mems.take q) at') va' vc' _ (below_on HBr.out HA9.out HBr.out.size) (by rw [HR.out.2.2.2]; have h := HS.out.2.r.next HA9.out; rw [HS.out.1] at h; exact h) HLi.out
        rw [← HS.out.1, ← HNx.out] at h
        obtain ⟨T6, hT6⟩ : ∃ T, (xs ++ memsF L k' (x.mems.take (q + 1)) at').length = T := ⟨_, rfl⟩
        have HT6 := Lib.hid hT6
        rw [hT6] at h
        clear hT6
        refine h.mono ?_
        clear h
        rintro e w6 ⟨va6, vc6, rfl, hr6, hg6⟩
        have HR6 := Lib.hid (And.intro hr6 (HS.out.2.g.trans ((PcG.ofBelow HA9.out _).trans hg6)))
        clear hr6 hg6 a0 a1 a2 a3 a4 a5 a6 hgl
        go_wp2_with fail
        go_roundg (ML - (q + 1))
        case measure => exact HM.out.1
        case rel => exact ⟨q + 1, T6, va6, vc6, HM.out.2, rfl, rfl, HT6.out.symm, ⟨by have := HR6.out.1; rwa [HR.out.2.2.2] at this, HR6.out.2⟩⟩
      · have hd : decide ((q : Int) < (ML : Int)) = false := by simp; omega
        have hdn : decide (q < ML) = false := by simp; omega
        have htk : x.mems.take q = x.mems := List.take_of_length_le (by have := HMb.out.2.1; omega)
        have HTk := Lib.hid htk
        clear htk
        go_wp2_with fail
        go_ret
        have h1 := HS.out.1
        have h2 := HS.out.2.r
        rw [HTk.out] at h1 h2
        rw [← h1, HR.out.2.2.2]
        exact ⟨va', vc', rfl, h2, HGl.out.trans HS.out.2.g⟩
  · rw [HFi.out] at hf2
    cases hf2
theorem sx_all (L : List LayP) (S : List StP) (ka : Option Addr) (kc : Nat) (hkc : L.length ≤ kc) (hL : GdL L) (hm : MtL L S) (hll : L.length ≤ 65536) (w0 : World) (hK : KnIn L ka w0) (k : Nat) (IH : ∀ k', k' < k → ∀ t, TOk L k' t → ScX L ka kc w0 k' t) : ∀ t, TOk L k t → ScX L ka kc w0 k t
  | .str s, h => sx_str L S ka kc hkc hL hm hll w0 hK k IH s h
  | .arr n u, h => by
    obtain ⟨hu, hn⟩ := h.arr
    exact sx_arr L ka kc hkc hL hll w0 hK k n u h.wf hn (sx_all L S ka kc hkc hL hm hll w0 hK k IH u hu)
  | .ptr u, h => sx_leaf L ka kc w0 k (.ptr u) 112 rfl (by simp) (fun a => rfl)
  | .fn ps r, h => absurd h.ob (by show ¬ objI (102 : Int) = true; decide)
  | .base x, h => by
    have hc : baseC x = true := h.wf
    unfold baseC at hc
    simp at hc
    rcases hc with ((((hc | hc) | hc) | hc) | hc) | hc <;> subst hc
    · exact absurd h.ob (by show ¬ objI (118 : Int) = true; decide)
    · exact sx_leaf L ka kc w0 k (.base 99) 99 rfl (by simp) (fun a => rfl)
    · exact sx_leaf L ka kc w0 k (.base 115) 115 rfl (by simp) (fun a => rfl)
    · exact sx_leaf L ka kc w0 k (.base 105) 105 rfl (by simp) (fun a => rfl)
    · exact sx_leaf L ka kc w0 k (.base 117) 117 rfl (by simp) (fun a => rfl)
    · exact sx_jmp L ka kc w0 k
/-- What scalars answers, of any object's type. -/
theorem c_scalars (L : List LayP) (S : List StP) (ka : Option Addr) (kc : Nat) (hkc : L.length ≤ kc) (hL : GdL L) (hm : MtL L S) (hll : L.length ≤ 65536) (w0 : World) (hK : KnIn L ka w0) (k : Nat) : ∀ t, TOk L k t → ScX L ka kc w0 k t := by
  induction k using Nat.strongRecOn with
  | ind k ih => exact sx_all L S ka kc hkc hL hm hll w0 hK k ih
end Go.Proofs.YtacbjhbiaaieoaaGreatDoor
namespace Go.Proofs.YtacbjhbiaaieoaaGreatDoor
set_option linter.unusedVariables false
set_option linter.unusedSimpArgs false
set_option maxRecDepth 100000
open Go.RowKit

/-- Pieces as they lie. -/
def PcIn (xs : List (Nat × List UInt8)) (a : Option Addr) (w : World) : Prop := 0 < xs.length → ∃ g, a = some ⟨g, 0, none⟩ ∧ g < w.heap.size ∧ ∀ (k : Nat) p, xs[k]? = some p → w.cell? ⟨g, k * 2, none⟩ = some (.int .i64 p.1) ∧ w.cell? ⟨g, k * 2 + 1, none⟩ = some (.string ⟨p.2.toArray⟩)
theorem PcIn.next {xs : List (Nat × List UInt8)} {a : Option Addr} {w w' : World} (h : PcIn xs a w) (hb : Below w.heap.size w w') : PcIn xs a w' := fun h0 => by
  obtain ⟨g, h1, h2, h3⟩ := h h0
  refine ⟨g, h1, Nat.lt_of_lt_of_le h2 hb.size, fun k p hk => ?_⟩
  have e := hb.block g h2
  exact ⟨(cell_of_blk e _).trans (h3 k p hk).1, (cell_of_blk e _).trans (h3 k p hk).2⟩
theorem rowP_at : ∀ (l : List (Nat × List UInt8)) (k : Nat) (p : Nat × List UInt8), l[k]? = some p → ∀ i, i < 2 → (rowP l)[k * 2 + i]? = (pieC p)[i]?
  | [], k, p, h, i, hi => by cases h
  | q :: l, 0, p, h, i, hi => by
    cases h
    show (pieC q ++ rowP l)[0 * 2 + i]? = _
    rw [List.getElem?_append_left (by show 0 * 2 + i < 2; omega)]
    congr 1
    omega
  | q :: l, k + 1, p, h, i, hi => by
    show (pieC q ++ rowP l)[(k + 1) * 2 + i]? = _
    rw [List.getElem?_append_right (by show 2 ≤ _; omega)]
    have ih := rowP_at l k p h i hi
    rw [← ih]
    congr 1
    show (k + 1) * 2 + i - 2 = _
    omega
theorem PcR.in {X : Nat} {xs : List (Nat × List UInt8)} {a : Option Addr} {n c : Nat} {w : World} (h : PcR X xs (.slice a n c) w) : PcIn xs a w := fun h0 => by
  unfold PcR at h
  rcases h.2 with ⟨hv, hz⟩ | ⟨g, cap, cur, hv, hb, hg, h1, _⟩
  · omega
  · injection hv with e1 e2 e3
    subst e1
    have h9 : w.ownsRow X 40 2 (.slice (some ⟨g, 0, none⟩) n c) xs.length (rowP xs) := h
    refine ⟨g, rfl, (Array.getElem?_eq_some_iff.1 hg).1, fun k p hk => ?_⟩
    have key : ∀ i u, (pieC p)[i]? = some u → w.cell? ⟨g, k * 2 + i, none⟩ = some u := fun i u hu => by
      have hi : i < 2 := (List.getElem?_eq_some_iff.1 hu).1
      have h2 := rowP_at xs k p hk i hi
      rw [hu] at h2
      have e := h9.cells (g := g) rfl (k * 2 + i) u h2
      have ea : (⟨g, 0, none⟩ : Addr).add (k * 2 + i) = ⟨g, k * 2 + i, none⟩ := by unfold Addr.add; split <;> simp_all
      rwa [ea] at e
    exact ⟨key 0 _ rfl, key 1 _ rfl⟩
/-- What Scalars answers. -/
def pieA (S : List StP) (l : List UInt8) : List (Nat × List UInt8) × Nat := if oxA S l = 0 then if 4096 < (extT (loA S).2.2 (tkD l)).2.2.1 then ([], 3) else (scT (loA S).2.2 (scG (loA S).2.2 (loA S).2.2.length) (tkD l) 0, 0) else ([], oxA S l)
theorem ox_ok {S : List StP} {l : List UInt8} {t : Ty} (h0 : (loA S).2.1 = 0) (ht : tk l = some t) (hoj : ojA (loA S).2.2 l = 0) : TOk (loA S).2.2 (loA S).2.2.length t ∧ (extT (loA S).2.2 t).1 ≤ 65536 := by
  have ho : ojT (loA S).2.2 t = 0 := by unfold ojA at hoj; rw [ht] at hoj; exact hoj
  obtain ⟨r1, r2⟩ := oj_obj ho
  obtain ⟨g1, g2, g3, g4⟩ := rg_ok r1
  obtain ⟨hw, hl, hn⟩ := tk_some ht
  refine ⟨⟨hw, by rw [← hl]; exact hn, r2, g2, by rw [List.take_length]; exact g3⟩, ext_small g4 (ext_obj t hw r2 g2 g3)⟩
set_option maxHeartbeats 8000000 in
theorem c_ScalarsX (B : Nat) (S : List StP) (a : Option Addr) (c : Nat) (hS : SzS S) (hSl : S.length ≤ 4503599627370496) (l : List UInt8) (w : World) (hE : Env B w) (hB : B ≤ w.heap.size) (hm : l.length ≤ 9223372036854775807) (hI : StIn S a w) :
    Calls Tryz.prog 18 #[.string ⟨l.toArray⟩, .slice a S.length c] w fun e w' => (∃ a' c', e = .returned (.tuple #[.slice a' (pieA S l).1.length c', .int .i64 (pieA S l).2]) ∧ PcIn (pieA S l).1 a' w') ∧ Below w.heap.size w w' := by
  have HR := Lib.hid (c_rightObjectX B S a c hS hSl l w hE hB hm hI)
  obtain ⟨N, hN⟩ : ∃ N, S.length = N := ⟨_, rfl⟩
  rw [hN] at HR ⊢
  obtain ⟨zs, z2, hz⟩ : ∃ (zs : List (Nat × List UInt8)) (z2 : Int), (pieA S l).1 = zs ∧ ((pieA S l).2 : Int) = z2 := ⟨_, _, rfl, rfl⟩
  have HZ := Lib.hid hz
  rw [hz.1, hz.2]
  obtain ⟨K, hK⟩ : ∃ K, zs.length = K := ⟨_, rfl⟩
  have HK := Lib.hid hK
  rw [hK]
  clear hK
  clear hE hB hm hI hS hSl hN hz
  go_enter Tryz.func18, Tryz.ntmps18
  go_wp2_with fail
  refine HR.out.mono ?_
  rintro e w1 ⟨hr, hb⟩
  have HB1 := Lib.hid hb
  clear hb HR
  rcases hr with ⟨t, ta, tn, tc, ka, kc, h0, ht, hoj, rfl, hnd, hkc, hkn⟩ | ⟨h0, x0, s1, x2, s3, a', n', c', v, rfl⟩
  · obtain ⟨x0, hx0⟩ : ∃ x0 : Int, (t.letter.toNat : Int) = x0 := ⟨_, rfl⟩
    obtain ⟨x2, hx2⟩ : ∃ x2 : Int, (t.count : Int) = x2 := ⟨_, rfl⟩
    obtain ⟨s1, hs1'⟩ : ∃ s1, (⟨t.code.toArray⟩ : ByteArray) = s1 := ⟨_, rfl⟩
    obtain ⟨s3, hs3⟩ : ∃ s3, (⟨t.tag.toArray⟩ : ByteArray) = s3 := ⟨_, rfl⟩
    have hnT : nT t ta tn tc = nV x0 s1 x2 s3 ta tn tc := by unfold nT; rw [hx0, hx2, hs1', hs3]
    have hex := Lib.hid (fun w' (hb : Below w1.heap.size w1 w') => c_extentX (loA S).2.2 ka kc hkc (lo_gd S) (Nat.le_trans (lo_len S) (by decide)) t.size t ta tn tc w' (Nat.le_refl _) (tk_some ht).1 (hnd.next hb) (hkn.next hb))
    have hoz : oxA S l = 0 := by unfold oxA; rw [if_pos h0]; exact hoj
    have htD : tkD l = t := by unfold tkD; rw [ht]; rfl
    obtain ⟨hok, hex6⟩ := ox_ok h0 ht hoj
    obtain ⟨cn, cn1, cn2⟩ := sc_len (lo_gd S) (lo_mt h0).1 _ t hok
    have hsc := Lib.hid (fun (w0 : World) (hb : Below w1.heap.size w1 w0) => c_scalars (loA S).2.2 S ka kc hkc (lo_gd S) (lo_mt h0).1 (Nat.le_trans (lo_len S) (by decide)) w0 (hkn.next hb) (loA S).2.2.length t hok [] 0 none 0 ta tn tc w0 (Below.refl _ _) (hnd.next hb) (PcR.start _ _) (by omega))
    have hsA : pieA S l = if 4096 < (extT (loA S).2.2 t).2.2.1 then ([], 3) else (scT (loA S).2.2 (scG (loA S).2.2 (loA S).2.2.length) t 0, 0) := by unfold pieA; rw [if_pos hoz, htD]
    obtain ⟨ML, hML⟩ : ∃ ML, (loA S).2.2.length = ML := ⟨_, rfl⟩
    obtain ⟨q0, q1, q2, q3, hq⟩ : ∃ q0 q1 q2 q3, extT (loA S).2.2 t = (q0, q1, q2, q3) := ⟨_, _, _, _, rfl⟩
    obtain ⟨W, hW⟩ : ∃ W, scT (loA S).2.2 (scG (loA S).2.2 (loA S).2.2.length) t 0 = W := ⟨_, rfl⟩
    have hWl : W.length = cn := by rw [← hW]; exact cn1 0
    rw [hW] at hsc hsA
    rw [hML, hnT, hq] at hex
    rw [hML, hnT, List.nil_append] at hsc
    rw [hq] at hsA cn2
    rw [hML, hnT]
    unfold exV at hex
    have HSA := Lib.hid (And.intro hsA (And.intro cn2 hWl))
    clear hx0 hx2 hs1' hs3 hnT h0 ht hoj hnd hkc hkn hoz htD hsA hML hq hok hex6 cn1 cn2 hW hWl
    go_wp2_with fail
    refine (hex.out _ (below_a w1 _)).mono ?_
    rintro e w2 ⟨rfl, hb⟩
    have HB2 := Lib.hid (below_on (HB1.out.alloc HB1.out.size (.cells #[.int .u8 x0, .string s1, .int .i64 x2, .string s3, .slice ta tn tc] 68)) hb (HB1.out.alloc HB1.out.size _).size)
    have HW2 := Lib.hid ((below_a w1 (.cells #[.int .u8 x0, .string s1, .int .i64 x2, .string s3, .slice ta tn tc] 68)).trans (hb.mono (by simp)))
    have HZ2 := Lib.hid (blk_next (heap_alloc_new w1 (.cells #[.int .u8 x0, .string s1, .int .i64 x2, .string s3, .slice ta tn tc] 68)) hb)
    clear hb hex
    by_cases h4 : 4096 < q2
    · have hd4 : decide ((4096 : Int) < (q2 : Int)) = true := by simp; omega
      obtain ⟨e1, e2⟩ := HZ.out
      rw [HSA.out.1, if_pos h4] at e1 e2
      obtain rfl : zs = [] := e1.symm
      obtain rfl : K = 0 := HK.out.symm
      obtain rfl : z2 = 3 := e2.symm
      clear e1 e2 hsc
      go_wp2_with fail
      go_ret2
      exact ⟨⟨none, 0, rfl, fun h => by simp at h⟩, by first | exact HB2.out | exact HB2.out.alloc HB2.out.size _⟩
    · have hd4 : decide ((4096 : Int) < (q2 : Int)) = false := by simp; omega
      obtain ⟨e1, e2⟩ := HZ.out
      rw [HSA.out.1, if_neg h4] at e1 e2
      obtain rfl : zs = W := e1.symm
      obtain rfl : z2 = 0 := e2.symm
      have hz : ([] : List (Nat × List UInt8)).length + zs.length ≤ 65536 := by have := HSA.out.2.1; have := HSA.out.2.2; simp only at *; simp; omega
      have HSc := Lib.hid (fun w0 hb => hsc.out w0 hb hz)
      clear e1 e2 hsc hz
      obtain ⟨z0, z1, z2, z3, z4, zf⟩ := five_cells HZ2.out
      have hlz : w1.heap.size < w2.heap.size := (Array.getElem?_eq_some_iff.1 HZ2.out).1
      go_wp2_with fail
      have h := HSc.out _ (HW2.out.trans ((below_a w2 (.cells #[.int .i64 q0, .int .i64 q1, .int .i64 q2] 79)).mono HW2.out.size))
      rw [HK.out] at h
      refine h.mono ?_
      clear h
      rintro e w3 ⟨va3, vc3, rfl, hr3, hg3⟩
      have HB3 := Lib.hid (below_on (HB2.out.alloc HB2.out.size (.cells #[.int .i64 q0, .int .i64 q1, .int .i64 q2] 79)) (hg3.below (PcR.start _ _) (Nat.le_refl _)) (HB2.out.alloc HB2.out.size _).size)
      have HR3 := Lib.hid hr3.in
      clear hr3 hg3 z0 z1 z2 z3 z4 zf hlz
      go_wp2_with fail
      go_ret2
      exact ⟨⟨va3, vc3, rfl, HR3.out⟩, HB3.out⟩
  · have hsz : pieA S l = ([], oxA S l) := by unfold pieA; rw [if_neg h0]
    obtain ⟨E, hE⟩ : ∃ E : Int, (oxA S l : Int) = E := ⟨_, rfl⟩
    have hE0 : (E == 0) = false := by rw [← hE]; simp; exact h0
    have hE1 : (E != 0) = true := by simp [bne, hE0]
    obtain ⟨e1, e2⟩ := HZ.out
    rw [hsz] at e1 e2
    obtain rfl : zs = [] := e1.symm
    obtain rfl : K = 0 := HK.out.symm
    obtain rfl : z2 = E := by rw [← hE]; exact e2.symm
    rw [hE]
    clear h0 hsz hE e1 e2
    go_wp2_with fail
    go_ret2
    exact ⟨⟨none, 0, rfl, fun h => by simp at h⟩, by first | exact HB1.out | exact HB1.out.alloc HB1.out.size _⟩
end Go.Proofs.YtacbjhbiaaieoaaGreatDoor
