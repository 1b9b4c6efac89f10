/-
  The contract of Changed, in the code.
-/
import Derived.Test.YtbfimedgichiiaaMemSort
namespace Go.Proofs.Ytbfimedgichiiaa
set_option linter.unusedVariables false
set_option linter.unusedSimpArgs false
set_option maxRecDepth 100000
open Go.ChangeShapes Go.WideShapes Go.ChangeAt Go.RowKit

theorem bkA_of {w w5 : World} {G gm gb nb cap : Nat} {R : Nat → Rg} {gn gt np cn ct : Nat → Nat} {P Q : Nat → Nat → Nat} {C D : Nat → Nat → Nat → Int} (hM : MS w G gm gb nb cap R gn gt np cn ct P Q C D) {i bv : Nat} (hi : i < nb) (hb : Below w.heap.size w w5)
    (hc : ∀ c, c < 7 → w5.cell? ⟨bv, c, none⟩ = (bkC (R i) (np i) (gn i) (cn i) (gt i) (ct i))[c]?) {M : Nat → Prop} (hm : ¬ M bv) (ho : ∀ b, b < w.heap.size → ¬ M b) :
    BkA w5 M w5.heap.size bv 0 (gn i) (gt i) (np i) (cn i) (ct i) (R i) (P i) (Q i) (C i) (D i) := by
  obtain ⟨_, h6, h7, h8, h9, h10⟩ := (hM.1.2.2.2.2.1 i hi).2
  obtain ⟨t0, t1, t2⟩ := hM.2.1 i hi
  have hG := hM.1.2.2.2.2.2
  have hs := hb.size
  have c0 := hc 0 (by decide)
  have c1 := hc 1 (by decide)
  have c2 := hc 2 (by decide)
  have c3 := hc 3 (by decide)
  have c4 := hc 4 (by decide)
  have c5 := hc 5 (by decide)
  have c6 := hc 6 (by decide)
  have hbv : bv < w5.heap.size := cell_lt (show w5.cell? ⟨bv, 0, none⟩ = some (.string ⟨(R i).nm.toArray⟩) from c0)
  refine ⟨⟨⟨c0, c1, c2, c3, c4⟩, c5, hbv, by omega, h8, h9, fun j hj => ?_⟩, ⟨c6, by omega, fun j hj => ?_⟩, Nat.le_refl _, hm, ho _ (by omega), ho _ (by omega), fun j hj => ⟨ho _ ?_, ho _ ?_⟩⟩
  · obtain ⟨k1, k2, k3⟩ := h10 j hj
    exact ⟨(hb.cell (cell_lt k1)).trans k1, k2.next hb k2.lt, by omega⟩
  · obtain ⟨k1, k2, k3⟩ := t2 j hj
    exact ⟨(hb.cell (cell_lt k1)).trans k1, k2.next hb k2.lt, by omega⟩
  · exact (h10 j hj).2.1.lt
  · exact (t2 j hj).2.1.lt
theorem Pg.same {w : World} {g : Nat} {c d : Nat → Int} (h : Pg w g c) (k : Pg w g d) : ∀ q, q < 4096 → c q = d q := by
  intro q hq
  have h1 := pg_src h q q hq rfl
  have h2 := pg_src k q q hq rfl
  rw [h1] at h2
  simpa using h2
/-- An address whose byte differs from that at the mark. -/
def Dif (nb : Nat) (R : Nat → Rg) (C D : Nat → Nat → Nat → Int) (x : Int) : Prop := ∃ i j k, i < nb ∧ j < pgs (R i) ∧ k < 4096 ∧ C i j k ≠ D i j k ∧ x = (R i).fr + ((j * 4096 + k : Nat) : Int)
theorem anyTo_at {r : Rg} {R : Nat → Rg} : ∀ {k i : Nat}, anyTo r R k = false → i < k → clB r (R i) = false
  | k + 1, i, h, hi => by
    have h' : (anyTo r R k || clB r (R k)) = false := h
    simp only [Bool.or_eq_false_iff] at h'
    by_cases e : i = k
    · subst e; exact h'.2
    · exact anyTo_at h'.1 (by omega)
theorem okTo_cl {R : Nat → Rg} {n i j : Nat} (h : okTo R n = true) (hj : j < n) (hij : i < j) : clB (R j) (R i) = false := by
  have h1 := okTo_less R (j + 1) (n - (j + 1)) (by rw [show j + 1 + (n - (j + 1)) = n by omega]; exact h)
  have h2 : (okTo R j && (rgB (R j) && !anyTo (R j) R j)) = true := h1
  simp only [Bool.and_eq_true, Bool.not_eq_true'] at h2
  exact anyTo_at h2.2.2 hij
theorem clB_apart {r o : Rg} (h : clB r o = false) : r.fr + r.sz ≤ o.fr ∨ o.fr + o.sz ≤ r.fr ∨ r.sz ≤ 0 ∨ o.sz ≤ 0 := by
  unfold clB at h
  simp only [Bool.or_eq_false_iff, decide_eq_false_iff_not] at h
  have h2 := h.2
  split at h2 <;> split at h2 <;> omega
/-- Ranges of one memory lie apart. -/
theorem okTo_apart {R : Nat → Rg} {n i j : Nat} (h : okTo R n = true) (hi : i < n) (hj : j < n) (hij : i ≠ j) : (R i).fr + (R i).sz ≤ (R j).fr ∨ (R j).fr + (R j).sz ≤ (R i).fr ∨ (R i).sz ≤ 0 ∨ (R j).sz ≤ 0 := by
  rcases Nat.lt_or_gt_of_ne hij with hlt | hlt
  · have := clB_apart (okTo_cl h hj hlt)
    omega
  · have := clB_apart (okTo_cl h hi hlt)
    omega
def ChInv (nb : Nat) (R : Nat → Rg) (d : Nat → Nat) (C D : Nat → Nat → Nat → Int) (k : Nat) (L : List (Int × Int)) (hi : Int) : Prop :=
  Wf 0 L hi ∧ (∀ m, k ≤ m → m < nb → 0 < pgs (R (d m)) → hi ≤ (R (d m)).fr) ∧ ∀ x, cov L x ↔ ∃ m j q, m < k ∧ j < pgs (R (d m)) ∧ q < 4096 ∧ C (d m) j q ≠ D (d m) j q ∧ x = (R (d m)).fr + ((j * 4096 + q : Nat) : Int)
theorem ChInv.step {nb : Nat} {R : Nat → Rg} {d : Nat → Nat} {C D : Nat → Nat → Nat → Int} {P Q : Nat → Nat → Nat} {k : Nat} {L : List (Int × Int)} {hi : Int} (h : ChInv nb R d C D k L hi) (hk : k < nb) (hok : okTo R nb = true) (hprm : Prm nb d)
    (hso : ∀ i j, i < j → j < nb → (R (d i)).fr ≤ (R (d j)).fr) (htail : ∀ i j q, i < nb → j < pgs (R i) → q < 4096 → (R i).sz ≤ ((j * 4096 + q : Nat) : Int) → C i j q = D i j q) (hE : ∀ i j, i < nb → j < pgs (R i) → P i j = Q i j → ∀ q, q < 4096 → C i j q = D i j q) :
    ∃ hi', ChInv nb R d C D (k + 1) (bkL (P (d k)) (Q (d k)) (C (d k)) (D (d k)) (R (d k)).fr L (pgs (R (d k)))) hi' := by
  obtain ⟨h1, h2, h3⟩ := h
  have hdk := hprm.1 k hk
  by_cases h0 : pgs (R (d k)) = 0
  · rw [h0]
    refine ⟨hi, h1, fun m hm => h2 m (by omega), fun x => ?_⟩
    rw [show bkL (P (d k)) (Q (d k)) (C (d k)) (D (d k)) (R (d k)).fr L 0 = L from rfl, h3]
    constructor
    · rintro ⟨m, j, q, hm, h⟩
      exact ⟨m, j, q, by omega, h⟩
    · rintro ⟨m, j, q, hm, hj, h⟩
      by_cases e : m = k
      · subst e; omega
      · exact ⟨m, j, q, by omega, hj, h⟩
  · have ha := h2 k (Nat.le_refl _) hk (by omega)
    have hcov := fun x => bkL_cov (P := P (d k)) (Q := Q (d k)) (C := C (d k)) (D := D (d k)) h1 ha x (pgs (R (d k))) (fun j hj => hE (d k) j hdk hj)
    have hrg := rg_bd (okTo_rg hok (d k) hdk)
    obtain ⟨hi', h4, h5⟩ := bkL_wf (P := P (d k)) (Q := Q (d k)) (C := C (d k)) (D := D (d k)) h1 ha (pgs (R (d k)))
    have hcut : Wf 0 (bkL (P (d k)) (Q (d k)) (C (d k)) (D (d k)) (R (d k)).fr L (pgs (R (d k)))) ((R (d k)).fr + (R (d k)).sz) := by
      refine h4.cut (by omega) (fun x hx => ?_)
      rcases (hcov x).1 hx with hx | ⟨j, q, hj, hq, hne, e⟩
      · obtain ⟨g, hg, hx⟩ := hx
        have := h1.mem g hg
        omega
      · have : ¬ (R (d k)).sz ≤ ((j * 4096 + q : Nat) : Int) := fun hs => hne (htail (d k) j q hdk hj hq hs)
        omega
    refine ⟨_, hcut, fun m hm hmn hp => ?_, fun x => ?_⟩
    · have hdm := hprm.1 m hmn
      have hne : d k ≠ d m := fun e => by have := hprm.2.1 k m hk hmn e; omega
      have hle := hso k m (by omega) hmn
      have hrm := rg_bd (okTo_rg hok (d m) hdm)
      have hap := okTo_apart hok hdk hdm hne
      unfold pgs at hp h0
      omega
    · rw [hcov, h3]
      constructor
      · rintro (⟨m, j, q, hm, h⟩ | ⟨j, q, hj, h⟩)
        · exact ⟨m, j, q, by omega, h⟩
        · exact ⟨k, j, q, by omega, hj, h⟩
      · rintro ⟨m, j, q, hm, hj, h⟩
        by_cases e : m = k
        · subst e; exact .inr ⟨j, q, hj, h⟩
        · exact .inl ⟨m, j, q, by omega, hj, h⟩
theorem ChInv.dif {nb : Nat} {R : Nat → Rg} {d : Nat → Nat} {C D : Nat → Nat → Nat → Int} {L : List (Int × Int)} {hi : Int} (h : ChInv nb R d C D nb L hi) (hprm : Prm nb d) : ∀ x, cov L x ↔ Dif nb R C D x := by
  intro x
  rw [h.2.2]
  constructor
  · rintro ⟨m, j, q, hm, hj, h⟩
    exact ⟨d m, j, q, hprm.1 m hm, hj, h⟩
  · rintro ⟨i, j, q, hi, hj, h⟩
    obtain ⟨m, hm, rfl⟩ := hprm.2.2 i hi
    exact ⟨m, j, q, hm, hj, h⟩
theorem GL.own_lt {w : World} {base : Nat} {v : Value} {L : List (Int × Int)} (h : GL w base v L) : ∀ b, v.ownBlock = some b → b < w.heap.size := by
  intro b hb
  rcases h.2 with ⟨rfl, _⟩ | ⟨g, cap, cur, rfl, hg, hh, _⟩
  · simp [Value.ownBlock] at hb
  · simp [Value.ownBlock] at hb
    subst hb
    exact (Array.getElem?_eq_some_iff.1 hh).1
/-- What Changed answers. -/
def ChIs (w w' : World) (nb : Nat) (R : Nat → Rg) (C D : Nat → Nat → Nat → Int) (e : Ending) : Prop :=
  ∃ v L hi, e = .returned v ∧ GL w' w.heap.size v L ∧ Wf 0 L hi ∧ (∀ x, cov L x ↔ Dif nb R C D x) ∧ Below w.heap.size w w'
set_option maxHeartbeats 4000000 in
theorem c_MChg (G gm gb nb cap : Nat) (R : Nat → Rg) (gn gt np cn ct : Nat → Nat) (P Q : Nat → Nat → Nat) (C D : Nat → Nat → Nat → Int) (w : World) (hM : MS w G gm gb nb cap R gn gt np cn ct P Q C D) (hnb : 0 < nb) (hnp : ∀ i, i < nb → np i = pgs (R i)) (hok : okTo R nb = true)
    (htail : ∀ i j q, i < nb → j < np i → q < 4096 → (R i).sz ≤ ((j * 4096 + q : Nat) : Int) → C i j q = D i j q) :
    Calls Try.prog 17 #[.pointer (some ⟨gm, 0, none⟩)] w fun e w' => ChIs w w' nb R C D e := by
  have HStep : Hid (∀ d k L hi, k < nb → Prm nb d → (∀ i j, i < j → j < nb → (R (d i)).fr ≤ (R (d j)).fr) → ChInv nb R d C D k L hi → ∃ hi', ChInv nb R d C D (k + 1) (bkL (P (d k)) (Q (d k)) (C (d k)) (D (d k)) (R (d k)).fr L (np (d k))) hi') := by
    intro d k L hi hk hprm hso h
    rw [hnp _ (hprm.1 k hk)]
    refine h.step hk hok hprm hso (fun i j q hi hj => htail i j q hi (by rw [hnp i hi]; exact hj)) (fun i j hi hj e q hq => ?_)
    have hj' : j < np i := by rw [hnp i hi]; exact hj
    have p1 := ((hM.1.2.2.2.2.1 i hi).2.2.2.2.2.2 j hj').2.1
    have p2 := ((hM.2.1 i hi).2.2 j hj').2.1
    rw [← e] at p2
    exact p1.same p2 q hq
  have HNp := Lib.hid hnp
  have HOk := Lib.hid hok
  clear htail hnp hok
  obtain ⟨aB, hc0, haB⟩ := hM.1.1.1
  obtain rfl := haB hnb
  have HM := Lib.hid hM
  have hn16 := hM.1.2.2.1
  have HRow : Hid (BkRow w gb nb (fun i => bkC (R i) (np i) (gn i) (cn i) (gt i) (ct i))) := by
    intro i c hi hc
    obtain ⟨⟨k0, k1, k2, k3, k4⟩, k5, _⟩ := hM.1.2.2.2.2.1 i hi
    have k6 := (hM.2.1 i hi).1
    have : c = 0 ∨ c = 1 ∨ c = 2 ∨ c = 3 ∨ c = 4 ∨ c = 5 ∨ c = 6 := by omega
    rcases this with rfl | rfl | rfl | rfl | rfl | rfl | rfl
    · exact k0
    · exact k1
    · exact k2
    · exact k3
    · exact k4
    · exact k5
    · exact k6
  clear hM haB
  go_enter Try.func17, Try.ntmps17
  go_wp2_with fail
  refine (c_CloneBanks gb nb cap _ _ hn16 (fun i => rfl) (fun i => bkC_one _ _ _ _ _ _) HRow.out).mono ?_
  rintro e w1 ⟨sb, scap, rfl, hsb, hsl, hsf, hsr, hsc, hb1⟩
  have HB1 := Lib.hid hb1
  have HSr := Lib.hid hsr
  have HSf := Lib.hid hsf
  clear hb1 hsr hsf hc0
  go_wp2_with fail
  refine (c_SortBanks sb nb scap R np gn cn gt ct _ hnb hn16 hsl HSf.out HSr.out).mono ?_
  rintro e w2 ⟨rfl, d, hprm, hsorted, hrow, hfr⟩
  have HPrm := Lib.hid hprm
  have HSo := Lib.hid hsorted
  have HRw := Lib.hid hrow
  have HB2 : Hid (Below w.heap.size w w2) := HB1.out.trans (hfr.below (by have := HB1.out.size; exact this) (fun b e => by rw [e]; exact hsb))
  have hsl2 : sb < w2.heap.size := Nat.lt_of_lt_of_le hsl hfr.size
  clear hprm hsorted hrow hfr
  go_wp2_with fail
  go_loopw [4, 16] (fun l i wr => ∃ k : Nat, k ≤ nb ∧ i = .int .i64 k ∧ Hid (∃ L hi, GL wr w.heap.size l L ∧ ChInv nb R d C D k L hi) ∧ Hid (CR w2 wr (.slice none 0 0) l)) (fun _ i _ => nb - (intOf i).toNat)
  case atStart =>
    refine ⟨0, by omega, rfl, ⟨[], 0, ⟨rfl, .inl ⟨rfl, rfl⟩⟩, Int.le_refl _, fun m _ hm _ => ?_, fun x => ⟨fun h => absurd h (cov_nil x), fun ⟨m, j, q, hm, _⟩ => by omega⟩⟩, CR.refl _ _⟩
    have := rg_bd (okTo_rg HOk.out (d m) (HPrm.out.1 m hm))
    omega
  case round =>
    obtain ⟨k, hk, rfl, HI, HCr⟩ := hrel
    by_cases hlt : k < nb
    · have hdk := HPrm.out.1 k hlt
      have rowr : ∀ c, c < 7 → wr.cell? ⟨sb, k * 7 + c, none⟩ = (bkC (R (d k)) (np (d k)) (gn (d k)) (cn (d k)) (gt (d k)) (ct (d k)))[c]? := fun c hc => (World.cell?_of_block (a := ⟨sb, k * 7 + c, none⟩) (HCr.out.1.block sb hsl2 (fun e => by cases e))).trans (HRw.out k c hlt hc)
      have x0 := rowr 0 (by decide)
      have x1 := rowr 1 (by decide)
      have x2 := rowr 2 (by decide)
      have x3 := rowr 3 (by decide)
      have x4 := rowr 4 (by decide)
      have x5 := rowr 5 (by decide)
      have x6 := rowr 6 (by decide)
      simp only [bkC, List.getElem?_cons_zero, List.getElem?_cons_succ, Nat.add_zero] at x0 x1 x2 x3 x4 x5 x6
      clear rowr
      go_wp2_with fail
      obtain ⟨L, hi, hGl, hInv⟩ := HI.out
      have hnew : ∀ b, u4.ownBlock = some b → w2.heap.size ≤ b := fun b e => (HCr.out.2 b e).resolve_left (fun e => by cases e)
      have hlt4 := hGl.own_lt
      have hbr : Below w.heap.size w wr := HB2.out.trans (HCr.out.below HB2.out.size (fun b e => by cases e))
      have h2s : w.heap.size ≤ w2.heap.size := HB2.out.size
      have hA := bkA_of (w5 := wr.alloc (Obj.cells #[Value.string { data := (R (d k)).nm.toArray }, Value.int IntKind.i64 (R (d k)).fr, Value.int IntKind.i64 (R (d k)).sz, Value.bool (R (d k)).wr, Value.bool (R (d k)).ex, Value.slice (some { block := gn (d k), off := 0 }) (np (d k)) (cn (d k)), Value.slice (some { block := gt (d k), off := 0 }) (np (d k)) (ct (d k))] 69)) HM.out (i := d k) (bv := wr.heap.size) hdk (hbr.alloc hbr.size _) (fun c hc => by
          have : c = 0 ∨ c = 1 ∨ c = 2 ∨ c = 3 ∨ c = 4 ∨ c = 5 ∨ c = 6 := by omega
          rcases this with rfl | rfl | rfl | rfl | rfl | rfl | rfl <;> simp [go_sem, bkC])
        (M := fun b => u4.ownBlock = some b) (fun e => by have := hlt4 _ e; omega) (fun b hb e => by have := hnew b e; omega)
      have hrg := okTo_rg HOk.out (d k) hdk
      have hle : hi ≤ (R (d k)).fr ∨ np (d k) = 0 := by
        by_cases h0 : np (d k) = 0
        · exact .inr h0
        · exact .inl (hInv.2.1 k (Nat.le_refl _) hlt (by have := HNp.out _ hdk; omega))
      refine (c_changed _ wr.heap.size 0 (gn (d k)) (gt (d k)) (np (d k)) (cn (d k)) (ct (d k)) w.heap.size (R (d k)) (P (d k)) (Q (d k)) (C (d k)) (D (d k)) u4 L hi _ hA hrg (hGl.bl (below_new wr _)) hInv.1 hle (by have := hbr.size; simp; omega)).mono ?_
      rintro e w6 ⟨v', rfl, hG6, hC6⟩
      obtain ⟨hi', hInv'⟩ := HStep.out d k L hi hlt HPrm.out HSo.out hInv
      have HI6 : Hid (∃ L hi, GL w6 w.heap.size v' L ∧ ChInv nb R d C D (k + 1) L hi) := ⟨_, hi', hG6, hInv'⟩
      have HC6 : Hid (CR w2 w6 (.slice none 0 0) v') := HCr.out.trans ((CR.of_below u4 (below_new wr _)).trans hC6)
      clear hGl hInv hnew hlt4 hbr hA hle hG6 hC6 hInv' x0 x1 x2 x3 x4 x5 x6
      go_wp2_with fail
      go_roundw
      case rel => exact ⟨k + 1, by omega, by go_num, HI6, HC6⟩
      case measure => simp [intOf]; omega
    · obtain rfl : k = nb := by omega
      clear hlt hk
      go_wp2_with fail
      go_returns
      obtain ⟨L, hi, h1, h2⟩ := HI.out
      exact ⟨_, L, hi, rfl, h1, h2.1, h2.dif HPrm.out, HB2.out.trans (HCr.out.below HB2.out.size (fun b e => by cases e))⟩
/-! ### No bank -/
theorem c_CloneNone (cap : Nat) (w : World) :
    Calls Try.prog 44 #[.slice none 0 cap] w fun e w' => (∃ a' cap', e = .returned (.slice a' 0 cap')) ∧ Below w.heap.size w w' := by
  have hnil : ∀ w' : World, (binOp .eql 64 (.slice none 0 cap) (.slice none 0 0)).run Try.prog w' = .ok (.bool true) w' := fun w' => Go.run_eql_slice_nil w' 64 69 none 0 cap Try.underlying64
  go_enter Try.func44, Try.ntmps44
  go_wp2_with fail
  go_ret
  exact ⟨⟨_, _, rfl⟩, Below.refl _ _⟩
theorem c_CloneSome (ad : Addr) (cap : Nat) (w : World) :
    Calls Try.prog 44 #[.slice (some ad) 0 cap] w fun e w' => (∃ a' cap', e = .returned (.slice a' 0 cap')) ∧ Below w.heap.size w w' := by
  obtain ⟨i0, hi, hz0, hz1, hz2⟩ := info_parts infoBk
  have hnil : ∀ w' : World, (binOp .eql 64 (.slice (some ad) 0 cap) (.slice none 0 0)).run Try.prog w' = .ok (.bool false) w' := fun w' => Go.run_eql_slice_nil w' 64 69 _ _ _ Try.underlying64
  go_enter Try.func44, Try.ntmps44
  go_wp2_with (at_builtin; refine wpList_append_own _ rfl _ _ 64 rfl w.heap.size 69 i0 _ 7 88 Try.underlying64 hi hz0 hz1 hz2 rfl (by decide) _ 0 [] rfl (World.ownsRow_made w #[] 0 (Nat.le_refl _) (by decide) rfl) ad 0 cap [] rfl rfl (fun j u h => by simp at h) (fun u h => by simp at h) (by decide) (by decide) (by simp) ?_)
  intro v' w1 hown hgrow hnn
  have HB : Hid (Below w.heap.size w w1) := (below_new w _).grown hgrow (by simp) (fun k hk => by simp [Value.ownBlock] at hk; omega)
  have hown' : w1.ownsRow w.heap.size 69 7 v' 0 [] := by simpa using hown
  obtain ⟨a', cap', rfl⟩ : ∃ a' cap', v' = .slice a' 0 cap' := by
    rcases hown'.2 with ⟨h1, _⟩ | ⟨g', cap', cur, rfl, _⟩
    · exact ⟨none, 0, h1⟩
    · exact ⟨_, _, rfl⟩
  clear hown hgrow hnn hown'
  go_wp2
  go_ret
  exact ⟨⟨_, _, rfl⟩, HB.out⟩
theorem c_Clone0 (a : Option Addr) (cap : Nat) (w : World) :
    Calls Try.prog 44 #[.slice a 0 cap] w fun e w' => (∃ a' cap', e = .returned (.slice a' 0 cap')) ∧ Below w.heap.size w w' := by
  cases a with
  | none => exact c_CloneNone cap w
  | some ad => exact c_CloneSome ad cap w
set_option maxHeartbeats 1000000 in
theorem c_Changed0 (gm cap : Nat) (a : Option Addr) (R : Nat → Rg) (C D : Nat → Nat → Nat → Int) (w : World) (hc : w.cell? ⟨gm, 0, none⟩ = some (.slice a 0 cap)) :
    Calls Try.prog 17 #[.pointer (some ⟨gm, 0, none⟩)] w fun e w' => ChIs w w' 0 R C D e := by
  go_enter Try.func17, Try.ntmps17
  go_wp2_with fail
  refine (c_Clone0 a cap _).mono ?_
  rintro e w1 ⟨⟨a', cap', rfl⟩, hb1⟩
  have HB1 := Lib.hid hb1
  clear hb1 hc
  go_wp2_with fail
  refine (AnyF.slices_SortFunc_none Try.laysSlF06_f45 a' cap' _ _).mono ?_
  rintro e w2 ⟨rfl, rfl⟩
  go_wp2_with fail
  go_rounds 1
  all_goals
    go_wp2_with fail
    go_returns
    exact ⟨.slice none 0 0, [], 0, rfl, ⟨rfl, .inl ⟨rfl, rfl⟩⟩, Int.le_refl _, fun x => ⟨fun h => absurd h (cov_nil x), fun ⟨i, j, q, hi, _⟩ => by omega⟩, HB1.out⟩
/-- Changed, whatever the memory. -/
theorem c_Changed (A M : Nat → Prop) (gm nb : Nat) (R : Nat → Rg) (C D : Nat → Nat → Nat → Int) (w : World) (hM : Mm w A M gm nb R C D) :
    Calls Try.prog 17 #[.pointer (some ⟨gm, 0, none⟩)] w fun e w' => ChIs w w' nb R C D e := by
  obtain ⟨G, gb, cap, gn, gt, np, cn, ct, P, Q, hMS, hnp, hok, _, _, ht⟩ := hM
  by_cases hnb : 0 < nb
  · exact c_MChg G gm gb nb cap R gn gt np cn ct P Q C D w hMS hnb hnp hok ht
  · obtain rfl : nb = 0 := by omega
    obtain ⟨a, hc, _⟩ := hMS.1.1.1
    exact c_Changed0 gm cap a R C D w hc
end Go.Proofs.Ytbfimedgichiiaa
