/-
  The contract of changed, in the code: a bank's bytes that differ from those at the mark.
-/
import Derived.Test.YtbfimedgichiiaaMemDif
namespace Go.Proofs.Ytbfimedgichiiaa
set_option linter.unusedVariables false
set_option linter.unusedSimpArgs false
set_option maxRecDepth 100000
open Go.ChangeShapes Go.WideShapes Go.ChangeAt Go.RowKit

/-- The pieces of two pages, one behind the other. -/
def pgL (c d : Nat → Int) (a : Int) (L : List (Int × Int)) : Nat → List (Int × Int)
  | 0 => L
  | m + 1 => difL c d (m * 64) (a + (m * 64 : Nat)) (pgL c d a L m) 64
/-- The pages of a bank. -/
def bkL (P Q : Nat → Nat) (C D : Nat → Nat → Int) (a : Int) (L : List (Int × Int)) : Nat → List (Int × Int)
  | 0 => L
  | j + 1 => if P j = Q j then bkL P Q C D a L j else pgL (C j) (D j) (a + (j * 4096 : Nat)) (bkL P Q C D a L j) 64
theorem pgL_wf {c d : Nat → Int} {a hi : Int} {L : List (Int × Int)} (h : Wf 0 L hi) (ha : hi ≤ a) : ∀ m, ∃ hi', Wf 0 (pgL c d a L m) hi' ∧ hi' ≤ a + (m * 64 : Nat)
  | 0 => ⟨hi, h, by omega⟩
  | m + 1 => by
    obtain ⟨hi', h1, h2⟩ := pgL_wf (c := c) (d := d) h ha m
    obtain ⟨hi2, h3, h4⟩ := difL_wf (c := c) (d := d) (o := m * 64) h1 h2 64
    exact ⟨hi2, h3, by omega⟩
theorem bkL_wf {P Q : Nat → Nat} {C D : Nat → Nat → Int} {a hi : Int} {L : List (Int × Int)} (h : Wf 0 L hi) (ha : hi ≤ a) : ∀ j, ∃ hi', Wf 0 (bkL P Q C D a L j) hi' ∧ hi' ≤ a + (j * 4096 : Nat)
  | 0 => ⟨hi, h, by omega⟩
  | j + 1 => by
    obtain ⟨hi', h1, h2⟩ := bkL_wf (P := P) (Q := Q) (C := C) (D := D) h ha j
    unfold bkL
    split
    · exact ⟨hi', h1, by omega⟩
    · obtain ⟨hi2, h3, h4⟩ := pgL_wf (c := C j) (d := D j) h1 h2 64
      exact ⟨hi2, h3, by omega⟩
theorem difL_cov {c d : Nat → Int} {o : Nat} {a hi : Int} {L : List (Int × Int)} (h : Wf 0 L hi) (ha : hi ≤ a) (x : Int) : ∀ k, cov (difL c d o a L k) x ↔ cov L x ∨ ∃ j, j < k ∧ c (o + j) ≠ d (o + j) ∧ x = a + j
  | 0 => ⟨.inl, fun h => h.elim id (fun ⟨j, hj, _⟩ => by omega)⟩
  | k + 1 => by
    have ih := difL_cov (c := c) (d := d) (o := o) h ha x k
    obtain ⟨hi', h1, _⟩ := difL_wf (c := c) (d := d) (o := o) h ha k
    unfold difL
    split
    · rename_i he
      rw [ih]
      constructor
      · rintro (h | ⟨j, hj, h⟩)
        · exact .inl h
        · exact .inr ⟨j, by omega, h⟩
      · rintro (h | ⟨j, hj, hne, h⟩)
        · exact .inl h
        · by_cases e : j = k
          · subst e; exact absurd he hne
          · exact .inr ⟨j, by omega, hne, h⟩
    · rename_i he
      rw [cov_wth x (a + k) _ (fun g hg => (h1.mem g hg).2.1), ih]
      constructor
      · rintro ((h | ⟨j, hj, h⟩) | h)
        · exact .inl h
        · exact .inr ⟨j, by omega, h⟩
        · exact .inr ⟨k, by omega, he, h⟩
      · rintro (h | ⟨j, hj, hne, h⟩)
        · exact .inl (.inl h)
        · by_cases e : j = k
          · subst e; exact .inr h
          · exact .inl (.inr ⟨j, by omega, hne, h⟩)
theorem pgL_cov {c d : Nat → Int} {a hi : Int} {L : List (Int × Int)} (h : Wf 0 L hi) (ha : hi ≤ a) (x : Int) : ∀ m, cov (pgL c d a L m) x ↔ cov L x ∨ ∃ k, k < m * 64 ∧ c k ≠ d k ∧ x = a + k
  | 0 => ⟨.inl, fun h => h.elim id (fun ⟨j, hj, _⟩ => by omega)⟩
  | m + 1 => by
    obtain ⟨hi', h1, h2⟩ := pgL_wf (c := c) (d := d) h ha m
    rw [show pgL c d a L (m + 1) = difL c d (m * 64) (a + (m * 64 : Nat)) (pgL c d a L m) 64 from rfl, difL_cov h1 h2, pgL_cov h ha x m]
    constructor
    · rintro ((h | ⟨k, hk, h⟩) | ⟨j, hj, hne, h⟩)
      · exact .inl h
      · exact .inr ⟨k, by omega, h⟩
      · exact .inr ⟨m * 64 + j, by omega, hne, by omega⟩
    · rintro (h | ⟨k, hk, hne, h⟩)
      · exact .inl (.inl h)
      · by_cases e : k < m * 64
        · exact .inl (.inr ⟨k, e, hne, h⟩)
        · exact .inr ⟨k - m * 64, by omega, by rw [show m * 64 + (k - m * 64) = k by omega]; exact hne, by omega⟩
theorem bkL_cov {P Q : Nat → Nat} {C D : Nat → Nat → Int} {a hi : Int} {L : List (Int × Int)} (h : Wf 0 L hi) (ha : hi ≤ a) (x : Int) : ∀ n, (∀ j, j < n → P j = Q j → ∀ k, k < 4096 → C j k = D j k) → (cov (bkL P Q C D a L n) x ↔ cov L x ∨ ∃ j k, j < n ∧ k < 4096 ∧ C j k ≠ D j k ∧ x = a + ((j * 4096 + k : Nat) : Int))
  | 0, _ => ⟨.inl, fun h => h.elim id (fun ⟨j, k, hj, _⟩ => by omega)⟩
  | n + 1, hE => by
    have ih := bkL_cov (P := P) (Q := Q) (C := C) (D := D) h ha x n (fun j hj => hE j (by omega))
    obtain ⟨hi', h1, h2⟩ := bkL_wf (P := P) (Q := Q) (C := C) (D := D) h ha n
    unfold bkL
    split
    · rename_i he
      rw [ih]
      constructor
      · rintro (h | ⟨j, k, hj, h⟩)
        · exact .inl h
        · exact .inr ⟨j, k, by omega, h⟩
      · rintro (h | ⟨j, k, hj, hk, hne, h⟩)
        · exact .inl h
        · by_cases e : j = n
          · subst e; exact absurd (hE j (by omega) he k hk) hne
          · exact .inr ⟨j, k, by omega, hk, hne, h⟩
    · rw [pgL_cov h1 h2, ih]
      constructor
      · rintro ((h | ⟨j, k, hj, h⟩) | ⟨k, hk, hne, h⟩)
        · exact .inl h
        · exact .inr ⟨j, k, by omega, h⟩
        · exact .inr ⟨n, k, by omega, by omega, hne, by omega⟩
      · rintro (h | ⟨j, k, hj, hk, hne, h⟩)
        · exact .inl (.inl h)
        · by_cases e : j = n
          · subst e; exact .inr ⟨k, by omega, hne, by omega⟩
          · exact .inl (.inr ⟨j, k, by omega, hk, hne, h⟩)
/-- What ends ahead of b, as its addresses do. -/
theorem Wf.cut {lo hi b : Int} (hb : lo ≤ b) : ∀ {l : List (Int × Int)}, Wf lo l hi → (∀ x, cov l x → x < b) → Wf lo l b
  | [], _, _ => hb
  | g :: l, h, hc => by
    have h1 := hc (g.1 + g.2 - 1) ((cov_cons _ _ _).2 (.inl ⟨by have := h.2.1; omega, by omega⟩))
    exact ⟨h.1, h.2.1, by omega, h.2.2.2.1, h.2.2.2.2.cut hb (fun x hx => hc x ((cov_cons _ _ _).2 (.inr hx)))⟩
/-- A bank that can be held against its mark; M is apart from it. -/
def BkA (w : World) (M : Nat → Prop) (G gb o gn gt np cn ct : Nat) (r : Rg) (P Q : Nat → Nat) (C D : Nat → Nat → Int) : Prop :=
  RdH w G gb o gn np cn r P C ∧ ThH w G gb o gt np ct Q D ∧ G ≤ w.heap.size ∧ ¬ M gb ∧ ¬ M gn ∧ ¬ M gt ∧ ∀ j, j < np → ¬ M (P j) ∧ ¬ M (Q j)
theorem BkA.fr {w w' : World} {M : Nat → Prop} {G gb o gn gt np cn ct : Nat} {r : Rg} {P Q : Nat → Nat} {C D : Nat → Nat → Int} (h : BkA w M G gb o gn gt np cn ct r P Q C D) (hf : Fr M w w') : BkA w' M G gb o gn gt np cn ct r P Q C D := by
  obtain ⟨⟨⟨h0, h1, h2, h3, h4⟩, h5, h6, h7, h8, h9, h10⟩, ⟨t0, t1, t2⟩, hG, m1, m2, m3, m4⟩ := h
  have g : ∀ b, b < G → ¬ M b → w'.heap[b]? = w.heap[b]? := fun b hb hm => hf.block b (by omega) hm
  have c : ∀ b k, b < G → ¬ M b → w'.cell? ⟨b, k, none⟩ = w.cell? ⟨b, k, none⟩ := fun b k hb hm => World.cell?_of_block (a := ⟨b, k, none⟩) (g b hb hm)
  refine ⟨⟨⟨(c _ _ h6 m1).trans h0, (c _ _ h6 m1).trans h1, (c _ _ h6 m1).trans h2, (c _ _ h6 m1).trans h3, (c _ _ h6 m1).trans h4⟩, (c _ _ h6 m1).trans h5, h6, h7, h8, h9, fun j hj => ?_⟩, ⟨(c _ _ h6 m1).trans t0, t1, fun j hj => ?_⟩, Nat.le_trans hG hf.size, m1, m2, m3, m4⟩
  · obtain ⟨k1, k2, k3⟩ := h10 j hj
    exact ⟨(c _ _ h7 m2).trans k1, k2.of_block (g _ k3 (m4 j hj).1), k3⟩
  · obtain ⟨k1, k2, k3⟩ := t2 j hj
    exact ⟨(c _ _ t1 m3).trans k1, k2.of_block (g _ k3 (m4 j hj).2), k3⟩
theorem CR.after_drew {w w2 : World} {v v' : Value} (h : CR w.drew w2 v v') : CR w w2 v v' := (CR.of_below v (Below.refl w.heap.size w).drew).trans h
set_option maxHeartbeats 8000000 in
theorem c_changed (G gb o gn gt np cn ct base : Nat) (r : Rg) (P Q : Nat → Nat) (C D : Nat → Nat → Int) (v : Value) (L : List (Int × Int)) (hi : Int) (w : World) (hB : BkA w (fun b => v.ownBlock = some b) G gb o gn gt np cn ct r P Q C D) (hr : rgB r = true) (hG : GL w base v L) (hW : Wf 0 L hi) (ha : hi ≤ r.fr ∨ np = 0) (hb : base ≤ w.heap.size) :
    Calls Try.prog 48 #[.pointer (some ⟨gb, o, none⟩), v] w fun e w' => ∃ v', e = .returned v' ∧ GL w' base v' (bkL P Q C D r.fr L np) ∧ CR w w' v v' := by
  have HB := Lib.hid hB
  have HG := Lib.hid hG
  have HW := Lib.hid hW
  have ⟨⟨⟨y0, y1, y2, y3, y4⟩, y5, _⟩, _⟩ := hB
  have hnp : np ≤ 4096 := hB.1.2.2.2.2.1
  have hrb := rg_bd hr
  clear hB hG hW hr
  go_enter Try.func48, Try.ntmps48
  go_wp2_with fail
  clear y0 y1 y2 y3 y4 y5
  go_loopw [1, 14] (fun l i wr => ∃ j : Nat, j ≤ np ∧ i = .int .i64 j ∧ Hid (GL wr base l (bkL P Q C D r.fr L j)) ∧ Hid (CR w wr v l)) (fun _ i _ => np - (intOf i).toNat)
  case atStart => exact ⟨0, by omega, rfl, HG, CR.refl _ _⟩
  case round =>
    obtain ⟨j, hj, rfl, HGr, HCr⟩ := hrel
    by_cases hlt : j < np
    · have hBr := HB.out.fr HCr.out.1
      have ⟨⟨⟨y0, y1, y2, y3, y4⟩, y5, y6, y7, y8, y9, y10⟩, ⟨t0, t1, t2⟩, hGr, m1, m2, m3, m4⟩ := hBr
      obtain ⟨z1, z2, z3⟩ := y10 j hlt
      obtain ⟨u1, u2, u3⟩ := t2 j hlt
      have HZ := Lib.hid z2
      have HU := Lib.hid u2
      have HBr := Lib.hid hBr
      have hfr : hi ≤ r.fr := ha.resolve_right (by omega)
      obtain ⟨hi', hW', hle'⟩ := bkL_wf (P := P) (Q := Q) (C := C) (D := D) HW.out hfr j
      have HW' := Lib.hid hW'
      clear hBr y10 t2 hW' y6 y7 y8 y9 t1 hGr m1 m2 m3 m4 z3 u3 y0 y2 y3 y4
      by_cases hpq : P j = Q j
      · have HN : Hid (bkL P Q C D r.fr L (j + 1) = bkL P Q C D r.fr L j) := by
          show _ = _
          rw [show bkL P Q C D r.fr L (j + 1) = if P j = Q j then bkL P Q C D r.fr L j else pgL (C j) (D j) (r.fr + (j * 4096 : Nat)) (bkL P Q C D r.fr L j) 64 from rfl, if_pos hpq]
        have hE := eq_same ⟨Q j, 0, none⟩ wr
        rw [hpq] at z1
        clear z2 u2 hpq
        go_wp2_with fail
        go_roundw
        case rel => exact ⟨j + 1, by omega, by go_num, by rw [show Hid (GL wr base _ (bkL P Q C D r.fr L (j + 1))) = GL wr base _ (bkL P Q C D r.fr L (j + 1)) from rfl, HN.out]; exact HGr.out, HCr⟩
        case measure => simp [intOf]; omega
      · have HN : Hid (bkL P Q C D r.fr L (j + 1) = pgL (C j) (D j) (r.fr + (j * 4096 : Nat)) (bkL P Q C D r.fr L j) 64) := by
          show _ = _
          rw [show bkL P Q C D r.fr L (j + 1) = if P j = Q j then bkL P Q C D r.fr L j else pgL (C j) (D j) (r.fr + (j * 4096 : Nat)) (bkL P Q C D r.fr L j) 64 from rfl, if_neg hpq]
        have hE := eq_other hpq z2 u2
        have HPQ : Hid ((P j = Q j) = False) := eq_false hpq
        clear z2 u2 hpq
        go_wp2_with fail
        have hc1 : wr.cell? ⟨gb, o + 1, none⟩ = some (.int .i64 r.fr) := y1
        clear hE y1 y5 t0 z1 u1
        go_loopw [1, 8] (fun l a wi => ∃ m : Nat, m ≤ 64 ∧ a = .int .i64 ((m * 64 : Nat) : Int) ∧ Hid (GL wi base l (pgL (C j) (D j) (r.fr + (j * 4096 : Nat)) (bkL P Q C D r.fr L j) m)) ∧ Hid (CR w wi v l)) (fun _ a _ => 4096 - (intOf a).toNat)
        case atStart => exact ⟨0, by omega, rfl, HGr, HCr⟩
        case round =>
          obtain ⟨m, hm, rfl, HGi, HCi⟩ := hrel
          by_cases hlt2 : m < 64
          · have hBi := HB.out.fr HCi.out.1
            have y1 := hBi.1.1.2.1
            have hz := (hBi.1.2.2.2.2.2.2 j hlt).2.1
            have hu := (hBi.2.1.2.2 j hlt).2.1
            have hne : ∀ b, b < w.heap.size → ¬ v.ownBlock = some b → ∀ e : Value, (∀ b, e.ownBlock = some b → v.ownBlock = some b ∨ w.heap.size ≤ b) → (e.ownBlock = some b → False) := fun b hb hn e he h => (he b h).elim hn (by omega)
            have hPlt : P j < w.heap.size := Nat.lt_of_lt_of_le (HB.out.1.2.2.2.2.2.2 j hlt).2.2 HB.out.2.2.1
            have hQlt : Q j < w.heap.size := Nat.lt_of_lt_of_le (HB.out.2.1.2.2 j hlt).2.2 HB.out.2.2.1
            have hblt : gb < w.heap.size := Nat.lt_of_lt_of_le HB.out.1.2.2.1 HB.out.2.2.1
            have HPne := Lib.hid (hne (P j) hPlt (HB.out.2.2.2.2.2.2 j hlt).1 _ HCi.out.2)
            have HQne := Lib.hid (hne (Q j) hQlt (HB.out.2.2.2.2.2.2 j hlt).2 _ HCi.out.2)
            have HBne := Lib.hid (hne gb hblt HB.out.2.2.2.1 _ HCi.out.2)
            have HBlt : Hid (gb < _) := Nat.lt_of_lt_of_le hblt HCi.out.1.size
            have HPg := Lib.hid hz
            have HQg := Lib.hid hu
            obtain ⟨hi2, hW2, hle2⟩ := pgL_wf (c := C j) (d := D j) HW'.out hle' m
            have HW2 := Lib.hid hW2
            have hba := Nat.le_trans hb HCi.out.1.size
            have e64 : ((m * 64 : Nat) : Int) = (m : Int) * 64 := by omega
            have eA : r.fr + (j : Int) * 4096 + (m : Int) * 64 = r.fr + ((j * 4096 : Nat) : Int) + ((m * 64 : Nat) : Int) := by omega
            have HEA := Lib.hid eA
            clear hBi hz hu hne hPlt hQlt hblt hW2 eA
            go_wp2_with fail
            have hlim : r.fr + ((j * 4096 : Nat) : Int) + ((m * 64 : Nat) : Int) + 64 ≤ 8589934000 := by omega
            obtain ⟨A, hA⟩ : ∃ A : Int, r.fr + (j : Int) * 4096 + (m : Int) * 64 = A := ⟨_, rfl⟩
            have hAE : A = r.fr + ((j * 4096 : Nat) : Int) + ((m * 64 : Nat) : Int) := by omega
            have q1 : IntKind.i64.wrap ((j : Int) * 4096) = j * 4096 := by simp only [IntKind.wrap, IntKind.bits, IntKind.signed]; simp; omega
            have q2 : IntKind.i64.wrap (r.fr + (j : Int) * 4096) = r.fr + j * 4096 := by simp only [IntKind.wrap, IntKind.bits, IntKind.signed]; simp; omega
            have q3 : IntKind.i64.wrap (r.fr + (j : Int) * 4096 + (m : Int) * 64) = A := by simp only [IntKind.wrap, IntKind.bits, IntKind.signed]; simp; omega
            have HAE := Lib.hid hAE
            have hA1 : hi2 ≤ A := by omega
            have hA2 : A + 64 ≤ 8589934000 := by omega
            have HA1 := Lib.hid hA1
            have HA2 := Lib.hid hA2
            have hmb4 : m * 64 + 64 ≤ 4096 := by omega
            have HM4 := Lib.hid hmb4
            have HLt := Lib.hid hlt2
            have HHlt := Lib.hid hlt
            have HHj := Lib.hid hj
            have HHm := Lib.hid hm
            have HNP := Lib.hid hnp
            have HBa := Lib.hid hba
            have HHle := Lib.hid hle'
            clear hle2 hlim hlt2 hba hle' hrb hfr ha hb hA1 hA2 hAE hA hmb4 hlt hj hm hnp
            go_region_held3 (fun w' => w'.cell? ⟨gb, o + 1, none⟩ = some (.int .i64 r.fr))
              (first
                | exact y1
                | assumption
                | exact (World.cell?_of_block (a := ⟨gb, o + 1, none⟩) (hcr.1.block gb HBlt.out HBne.out)).trans y1)
              (first
                | (go_at_call 69; (first | (refine (c_piece _ (m * 64) HM4.out _).mono ?_) | (rw [← e64]; refine (c_piece _ (m * 64) HM4.out _).mono ?_)); rintro e w' ⟨rfl, rfl⟩)
                | (go_at_call 68; refine (c_dif _ (pgL (C j) (D j) (r.fr + (j * 4096 : Nat)) (bkL P Q C D r.fr L j) m) (P j) (Q j) (m * 64) base (C j) (D j) A hi2 _ (by exact HGi.out) HW2.out HA1.out HA2.out (by exact HPg.out) (by exact HQg.out) HPne.out HQne.out (by exact HBa.out) HM4.out).mono ?_; rintro e w2 ⟨v', rfl, hg2, hcr⟩))
            have HG2 : Hid (GL w2 base v' (pgL (C j) (D j) (r.fr + (j * 4096 : Nat)) (bkL P Q C D r.fr L j) (m + 1))) := by
              show GL _ _ _ _
              rw [HAE.out] at hg2
              exact hg2
            have HC2 : Hid (CR w w2 v v') := HCi.out.trans (CR.after_drew hcr)
            clear hg2 hcr
            clear q1 q2 q3
            go_wp2_with fail
            have hlt2 := HLt.out
            go_roundw
            case rel => exact ⟨m + 1, by omega, by go_num, HG2, HC2⟩
            case measure => simp [intOf]; omega
          · obtain rfl : m = 64 := by omega
            clear hlt2 hm
            go_wp2_with fail
            go_roundw
            case rel => exact ⟨j + 1, by omega, by go_num, by rw [show Hid (GL _ base _ (bkL P Q C D r.fr L (j + 1))) = GL _ base _ (bkL P Q C D r.fr L (j + 1)) from rfl, HN.out]; exact HGi.out, HCi⟩
            case measure => simp [intOf]; omega
    · obtain rfl : j = np := by omega
      clear hlt hj
      go_wp2_with fail
      go_returns
      exact ⟨_, rfl, HGr.out, HCr.out⟩
end Go.Proofs.Ytbfimedgichiiaa
