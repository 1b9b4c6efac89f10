/-
  Several contracts on types, in the code.
-/
import Derived.Test.YtacbjhbiaaieoaaGreatDoorTyLr
/-! The contract of takeApart at every text; of decay, promotion and the common type, in the code. -/
namespace Go.Proofs.YtacbjhbiaaieoaaGreatDoor
set_option linter.unusedVariables false
set_option linter.unusedSimpArgs false
set_option maxRecDepth 100000
open Go.RowKit

theorem add_s (x y : List UInt8) (h : x.length + y.length ≤ 9223372036854775807) (W : World) : (Op.stringOp .add ⟨x.toArray⟩ ⟨y.toArray⟩).run Tryz.prog W = .ok (.string ⟨(x ++ y).toArray⟩) W := by
  have e : (⟨x.toArray⟩ : ByteArray) ++ ⟨y.toArray⟩ = ⟨(x ++ y).toArray⟩ := by
    apply ByteArray.ext
    simp [ByteArray.data_append]
  have h' : ¬ ((9223372036854775807 : Int) < ((⟨x.toArray⟩ : ByteArray).size : Int) + ((⟨y.toArray⟩ : ByteArray).size : Int)) := by
    show ¬ ((9223372036854775807 : Int) < ((x.toArray.size : Nat) : Int) + ((y.toArray.size : Nat) : Int))
    simp only [List.size_toArray]
    omega
  simp [Op.stringOp, h', e]
/-- A text as a type, if it is not too long. -/
def tk (l : List UInt8) : Option Ty := if l.length ≤ 65536 then tyR l else none
theorem tk_some {l : List UInt8} {t : Ty} (h : tk l = some t) : t.wf ∧ l = t.code ∧ l.length ≤ 65536 := by
  unfold tk at h
  split at h
  · rename_i hl
    have := tyR_some h
    exact ⟨this.1, this.2, hl⟩
  · cases h
theorem tk_code {t : Ty} (h : t.wf) (hl : t.code.length ≤ 65536) : tk t.code = some t := by
  unfold tk
  rw [if_pos hl, tyR_code h]
/-- What takeApart answers. -/
def TkR (l : List UInt8) (w : World) (e : Ending) (w' : World) : Prop :=
  Below w.heap.size w w' ∧ ((∃ t a n c, tk l = some t ∧ e = .returned (.tuple #[nV t.letter.toNat ⟨t.code.toArray⟩ t.count ⟨t.tag.toArray⟩ a n c, .bool true]) ∧ Nd (Fm w.heap.size w') w' t (.slice a n c)) ∨ (tk l = none ∧ e = .returned (.tuple #[zV, .bool false])))
set_option maxHeartbeats 2000000 in
theorem c_tk (B : Nat) (l : List UInt8) (w : World) (hE : Env B w) (hB : B ≤ w.heap.size) (hm : l.length ≤ 9223372036854775807) :
    Calls Tryz.prog 43 #[.string ⟨l.toArray⟩] w fun e w' => TkR l w e w' := by
  by_cases hl : l.length ≤ 65536
  · refine (c_takeApart B l w hE hB hl).mono fun e w' h => ?_
    obtain ⟨hb, h⟩ := h
    refine ⟨hb, ?_⟩
    rcases h with ⟨t, s, h1, h2, h3⟩ | ⟨h1, h2⟩
    · obtain ⟨a, c, hs, _⟩ := h3.sl
      subst hs
      refine .inl ⟨t, a, _, c, by unfold tk; rw [if_pos hl, h1], ?_, h3⟩
      rw [h2]
      rfl
    · exact .inr ⟨by unfold tk; rw [if_pos hl, h1], h2⟩
  · have hgt : decide (65536 < (l.length : Int)) = true := by simp; omega
    have HT : Hid (tk l = none) := by show _ = _; unfold tk; rw [if_neg hl]
    clear hE hl
    go_enter Tryz.func43, Tryz.ntmps43
    go_wp2_with fail
    refine bodyPost_ret (v := .tuple #[zV, .bool false]) (by simp [zV, results, Tryz.results43, go_sem]) rfl ?_
    refine ⟨?_, .inr ⟨HT.out, rfl⟩⟩
    first
      | exact below_a _ _
      | (refine Below.alloc ?_ ?_ _; · exact below_stp (below_a _ _) (Stp.five0 w.heap.size _ (.int .u8 0) (.string ⟨#[]⟩) (.int .i64 0) (.string ⟨#[]⟩) (.slice none 0 0)) (Nat.le_refl _); · simp)
      | exact below_stp (below_a _ _) (Stp.five0 w.heap.size _ (.int .u8 0) (.string ⟨#[]⟩) (.int .i64 0) (.string ⟨#[]⟩) (.slice none 0 0)) (Nat.le_refl _)
      | (refine below_stp ?_ (Stp.five0 w.heap.size _ (.int .u8 0) (.string ⟨#[]⟩) (.int .i64 0) (.string ⟨#[]⟩) (.slice none 0 0)) (Nat.le_refl _); exact (below_a _ _).alloc (by simp) _)
theorem c_tkS (B : Nat) (l : List UInt8) (w : World) (hE : Env B w) (hB : B ≤ w.heap.size) (hm : l.length ≤ 9223372036854775807) (t : Ty) (ht : tk l = some t) :
    Calls Tryz.prog 43 #[.string ⟨l.toArray⟩] w fun e w' => (∃ a n c, e = .returned (.tuple #[nV t.letter.toNat ⟨t.code.toArray⟩ t.count ⟨t.tag.toArray⟩ a n c, .bool true]) ∧ Nd (Fm w.heap.size w') w' t (.slice a n c)) ∧ Below w.heap.size w w' :=
  (c_tk B l w hE hB hm).mono fun e w' h => by
    obtain ⟨hb, ⟨t', a, n, c, h1, h2, h3⟩ | ⟨h1, _⟩⟩ := h
    · rw [ht] at h1
      cases h1
      exact ⟨⟨a, n, c, h2, h3⟩, hb⟩
    · rw [ht] at h1
      cases h1
theorem c_tkN (B : Nat) (l : List UInt8) (w : World) (hE : Env B w) (hB : B ≤ w.heap.size) (hm : l.length ≤ 9223372036854775807) (ht : tk l = none) :
    Calls Tryz.prog 43 #[.string ⟨l.toArray⟩] w fun e w' => e = .returned (.tuple #[nV 0 ⟨#[]⟩ 0 ⟨#[]⟩ none 0 0, .bool false]) ∧ Below w.heap.size w w' :=
  (c_tk B l w hE hB hm).mono fun e w' h => by
    obtain ⟨hb, ⟨t', a, n, c, h1, h2, h3⟩ | ⟨_, h2⟩⟩ := h
    · rw [ht] at h1
      cases h1
    · exact ⟨h2, hb⟩
def prA (l : List UInt8) : List UInt8 × Int := match tk l with
  | none => ([], 2)
  | some t => (if ((t.letter.toNat : Int) == 99 || (t.letter.toNat : Int) == 115) = true then [105] else t.code, 0)
set_option maxHeartbeats 2000000 in
theorem c_Promote (B : Nat) (l : List UInt8) (w : World) (hE : Env B w) (hB : B ≤ w.heap.size) (hm : l.length ≤ 9223372036854775807) :
    Calls Tryz.prog 31 #[.string ⟨l.toArray⟩] w fun e w' => e = .returned (.tuple #[.string ⟨(prA l).1.toArray⟩, .int .i64 (prA l).2]) ∧ Below w.heap.size w w' := by
  unfold prA
  rcases ho : tk l with _ | t
  · have HT := Lib.hid (c_tkN B l w hE hB hm ho)
    clear hE ho
    show Calls _ _ _ w fun e w' => e = .returned (.tuple #[.string ⟨#[]⟩, .int .i64 2]) ∧ Below w.heap.size w w'
    go_enter Tryz.func31, Tryz.ntmps31
    go_wp2_with fail
    refine HT.out.mono ?_
    rintro e w1 ⟨rfl, hb⟩
    have HB := Lib.hid hb
    clear hb HT
    go_wp2_with fail
    go_ret2
    exact ⟨rfl, HB.out.alloc HB.out.size _⟩
  · have HT := Lib.hid (c_tkS B l w hE hB hm t ho)
    obtain ⟨x0, hx0⟩ : ∃ x0 : Int, (t.letter.toNat : Int) = x0 := ⟨_, rfl⟩
    obtain ⟨x2, hx2⟩ : ∃ x2 : Int, (t.count : Int) = x2 := ⟨_, rfl⟩
    simp only [hx0, hx2] at HT ⊢
    obtain ⟨r, hr⟩ : ∃ r, (if (x0 == 99 || x0 == 115) = true then [105] else t.code) = r := ⟨_, rfl⟩
    have HP : Hid (∀ a n c w, Calls Tryz.prog 63 #[nV x0 ⟨t.code.toArray⟩ x2 ⟨t.tag.toArray⟩ a n c] w fun e w' => e = .returned (.string ⟨r.toArray⟩) ∧ Below w.heap.size w w') := fun a n c w => (c_promoted x0 _ x2 _ a n c w).mono fun e w' h => ⟨by
      rw [h.1, ← hr]
      split <;> rfl, h.2⟩
    rw [hr]
    clear hx0 hx2 hE ho hr
    go_enter Tryz.func31, Tryz.ntmps31
    go_wp2_with fail
    refine HT.out.mono ?_
    rintro e w1 ⟨⟨a, n, c, rfl, _⟩, hb⟩
    have HB := Lib.hid hb
    clear hb HT
    go_wp2_with fail
    refine (HP.out _ _ _ _).mono ?_
    rintro e w2 ⟨rfl, hb2⟩
    have HB2 := Lib.hid (below_on (HB.out.alloc HB.out.size _) hb2 (by have := HB.out.size; simp; omega))
    clear hb2
    go_wp2_with fail
    go_ret2
    exact ⟨rfl, HB2.out⟩
theorem c_bounded (s : List UInt8) (w : World) :
    Calls Tryz.prog 61 #[.string ⟨s.toArray⟩] w fun e w' => e = .returned (.tuple #[.string ⟨(if s.length ≤ 65536 then s else []).toArray⟩, .int .i64 (if s.length ≤ 65536 then 0 else 3)]) ∧ w' = w := by
  by_cases h : s.length ≤ 65536
  · have hd : decide (65536 < (s.length : Int)) = false := by simp; omega
    rw [if_pos h, if_pos h]
    clear h
    go_enter Tryz.func61, Tryz.ntmps61
    go_wp2_with fail
    go_ret2
    exact ⟨rfl, rfl⟩
  · have hd : decide (65536 < (s.length : Int)) = true := by simp; omega
    rw [if_neg h, if_neg h]
    clear h
    go_enter Tryz.func61, Tryz.ntmps61
    go_wp2_with fail
    go_ret2
    exact ⟨rfl, rfl⟩
end Go.Proofs.YtacbjhbiaaieoaaGreatDoor
/-! The contracts of decay and of the common type, in the code; what holds of them. -/
namespace Go.Proofs.YtacbjhbiaaieoaaGreatDoor
set_option linter.unusedVariables false
set_option linter.unusedSimpArgs false
set_option maxRecDepth 100000
open Go.RowKit

def dcT (t : Ty) (l : List UInt8) : List UInt8 × Int := match t with
  | .arr _ u => (112 :: u.code, 0)
  | .fn _ _ => if l.length + 1 ≤ 65536 then (112 :: l, 0) else ([], 3)
  | .base c => if c = 106 then if l.length + 1 ≤ 65536 then (112 :: l, 0) else ([], 3) else (l, 0)
  | _ => (l, 0)
def dcA (l : List UInt8) : List UInt8 × Int := match tk l with
  | none => ([], 2)
  | some t => dcT t l
def cmA (l m : List UInt8) : List UInt8 × Int := match tk l, tk m with
  | some t, some u => if (intI t.letter.toNat && intI u.letter.toNat) = true then (if t.letter = 117 ∨ u.letter = 117 then [117] else [105], 0) else ([], 5)
  | _, _ => ([], 2)
theorem wf_letter {t : Ty} (h : t.wf) : intI t.letter.toNat = true → ∃ c, t = .base c ∧ (c = 99 ∨ c = 115 ∨ c = 105 ∨ c = 117) := by
  cases t with
  | base c =>
    intro h2
    have hc : baseC c = true := h
    unfold baseC at hc
    simp at hc
    rcases hc with ((((hc | hc) | hc) | hc) | hc) | hc
    · subst hc; exact absurd h2 (by decide)
    · exact ⟨c, rfl, .inl hc⟩
    · exact ⟨c, rfl, .inr (.inl hc)⟩
    · exact ⟨c, rfl, .inr (.inr (.inl hc))⟩
    · exact ⟨c, rfl, .inr (.inr (.inr hc))⟩
    · subst hc; exact absurd h2 (by decide)
  | ptr t => intro h2; exact absurd (show intI _ = true from h2) (by show ¬ intI (112 : Int) = true; decide)
  | arr n t => intro h2; exact absurd (show intI _ = true from h2) (by show ¬ intI (97 : Int) = true; decide)
  | str s => intro h2; exact absurd (show intI _ = true from h2) (by show ¬ intI (83 : Int) = true; decide)
  | fn ps r => intro h2; exact absurd (show intI _ = true from h2) (by show ¬ intI (102 : Int) = true; decide)
theorem tk_b (c : UInt8) (h : baseC c = true) : tk [c] = some (.base c) := tk_code (t := .base c) h (by show 1 ≤ 65536; decide)
theorem pr_i : prA [105] = ([105], 0) := by unfold prA; rw [tk_b 105 rfl]; rfl
theorem pr_u : prA [117] = ([117], 0) := by unfold prA; rw [tk_b 117 rfl]; rfl
theorem tw_common {l m c : List UInt8} (h : cmA l m = (c, 0)) : cmA m l = (c, 0) ∧ prA c = (c, 0) ∧ ∃ q, prA l = (q, 0) ∧ (c = q ∨ c = [117]) := by
  unfold cmA at h
  cases hl : tk l with
  | none => rw [hl] at h; cases h
  | some t =>
    cases hm : tk m with
    | none => rw [hl, hm] at h; cases h
    | some u =>
      rw [hl, hm] at h
      simp only at h
      split at h
      · rename_i hi
        rw [Bool.and_eq_true] at hi
        obtain ⟨c1, rfl, h1⟩ := wf_letter (tk_some hl).1 hi.1
        obtain ⟨c2, rfl, h2⟩ := wf_letter (tk_some hm).1 hi.2
        have e1 : cmA m l = (if c2 = 117 ∨ c1 = 117 then [117] else [105], 0) := by
          unfold cmA
          rw [hl, hm]
          simp only
          rw [if_pos (by rw [Bool.and_eq_true]; exact ⟨hi.2, hi.1⟩)]
          rfl
        have e2 : (if c1 = 117 ∨ c2 = 117 then ([117] : List UInt8) else [105]) = c := (Prod.mk.inj h).1
        have e3 : prA l = (if c1 = 99 ∨ c1 = 115 then [105] else [c1], 0) := by
          unfold prA
          rw [hl]
          rcases h1 with rfl | rfl | rfl | rfl <;> rfl
        refine ⟨by rw [e1, ← e2]; simp only [or_comm], ?_, _, e3, ?_⟩
        · rw [← e2]
          split
          · exact pr_u
          · exact pr_i
        · rw [← e2]
          rcases h1 with rfl | rfl | rfl | rfl <;> rcases h2 with rfl | rfl | rfl | rfl <;> decide
      · cases h
theorem tw_prom {l p : List UInt8} (h : prA l = (p, 0)) : prA p = (p, 0) := by
  have h0 := h
  unfold prA at h
  cases hl : tk l with
  | none => rw [hl] at h; cases h
  | some t =>
    rw [hl] at h
    simp only at h
    have e := (Prod.mk.inj h).1
    split at e
    · rw [← e]
      exact pr_i
    · rw [← (tk_some hl).2.1] at e
      rw [← e] at h0 ⊢
      exact h0
theorem dc_ptr {u : Ty} (h : u.wf) (hl : (112 :: u.code).length ≤ 65536) : dcA (112 :: u.code) = (112 :: u.code, 0) := by
  unfold dcA
  rw [show tk (112 :: u.code) = some (.ptr u) from tk_code (t := .ptr u) h hl]
  rfl
theorem arr_len (m : Nat) (u : Ty) : u.code.length + 2 ≤ (Ty.arr m u).code.length := by
  show _ ≤ (97 :: (Lib.decDigits m ++ 58 :: u.code)).length
  simp only [List.length_cons, List.length_append]
  omega
theorem tw_decay {l d : List UInt8} (h : dcA l = (d, 0)) : dcA d = (d, 0) := by
  have h0 := h
  unfold dcA at h
  cases hl : tk l with
  | none => rw [hl] at h; cases h
  | some t =>
    rw [hl] at h
    obtain ⟨hw, hc, hlen⟩ := tk_some hl
    have hsame : (l, (0 : Int)) = (d, 0) → dcA d = (d, 0) := fun e => by
      rw [← (Prod.mk.inj e).1] at h0 ⊢
      exact h0
    have hp : (if l.length + 1 ≤ 65536 then (112 :: l, (0 : Int)) else ([], 3)) = (d, 0) → dcA d = (d, 0) := fun e => by
      split at e
      · rw [← (Prod.mk.inj e).1, hc]
        exact dc_ptr hw (by rw [List.length_cons, ← hc]; assumption)
      · cases e
    cases t with
    | arr m u =>
      have e : 112 :: u.code = d := (Prod.mk.inj h).1
      rw [← e]
      have := arr_len m u
      rw [hc] at hlen
      exact dc_ptr hw.2 (by rw [List.length_cons]; omega)
    | fn ps r => exact hp h
    | base c =>
      have h2 : (if c = 106 then if l.length + 1 ≤ 65536 then (112 :: l, (0 : Int)) else ([], 3) else (l, 0)) = (d, 0) := h
      split at h2
      · exact hp h2
      · exact hsame h2
    | ptr t => exact hsame h
    | str s => exact hsame h
set_option maxHeartbeats 4000000 in
theorem c_Decay (B : Nat) (l : List UInt8) (w : World) (hE : Env B w) (hB : B ≤ w.heap.size) (hm : l.length ≤ 9223372036854775807) :
    Calls Tryz.prog 29 #[.string ⟨l.toArray⟩] w fun e w' => e = .returned (.tuple #[.string ⟨(dcA l).1.toArray⟩, .int .i64 (dcA l).2]) ∧ Below w.heap.size w w' := by
  unfold dcA
  rcases ho : tk l with _ | t
  · have HT := Lib.hid (c_tkN B l w hE hB hm ho)
    clear hE ho
    show Calls _ _ _ w fun e w' => e = .returned (.tuple #[.string ⟨#[]⟩, .int .i64 2]) ∧ Below w.heap.size w w'
    go_enter Tryz.func29, Tryz.ntmps29
    go_wp2_with fail
    refine HT.out.mono ?_
    rintro e w1 ⟨rfl, hb⟩
    have HB := Lib.hid hb
    clear hb HT
    go_wp2_with fail
    go_ret2
    exact ⟨rfl, HB.out.alloc HB.out.size _⟩
  · have HT := Lib.hid (c_tkS B l w hE hB hm t ho)
    obtain ⟨hwf, hlc, hlen⟩ := tk_some ho
    have HBd := Lib.hid (fun w => c_bounded (112 :: l) w)
    rw [show (112 :: l).length = l.length + 1 from rfl] at HBd
    have hsame : ∀ x0 : Int, (t.letter.toNat : Int) = x0 → (x0 == 97) = false → (x0 == 102) = false → (x0 == 106) = false → Calls Tryz.prog 29 #[.string ⟨l.toArray⟩] w fun e w' => e = .returned (.tuple #[.string ⟨l.toArray⟩, .int .i64 0]) ∧ Below w.heap.size w w' := fun x0 hx0 h1 h2 h3 => by
      rw [hx0] at HT
      obtain ⟨x2, hx2⟩ : ∃ x2 : Int, (t.count : Int) = x2 := ⟨_, rfl⟩
      rw [hx2] at HT
      clear hx0 hx2 hE ho hwf hlc HBd
      go_enter Tryz.func29, Tryz.ntmps29
      go_wp2_with fail
      refine HT.out.mono ?_
      rintro e w1 ⟨⟨a, n, c, rfl, _⟩, hb⟩
      have HB := Lib.hid hb
      clear hb HT
      go_wp2_with fail
      go_ret2
      exact ⟨rfl, HB.out.alloc HB.out.size _⟩
    have hptr : ∀ x0 : Int, (t.letter.toNat : Int) = x0 → (x0 = 102 ∨ x0 = 106) → Calls Tryz.prog 29 #[.string ⟨l.toArray⟩] w fun e w' => e = .returned (.tuple #[.string ⟨(if l.length + 1 ≤ 65536 then (112 :: l) else []).toArray⟩, .int .i64 (if l.length + 1 ≤ 65536 then 0 else 3)]) ∧ Below w.heap.size w w' := fun x0 hx0 h1 => by
      rw [hx0] at HT
      obtain ⟨x2, hx2⟩ : ∃ x2 : Int, (t.count : Int) = x2 := ⟨_, rfl⟩
      rw [hx2] at HT
      obtain ⟨r1, hr1⟩ : ∃ r, (if l.length + 1 ≤ 65536 then (112 :: l) else []) = r := ⟨_, rfl⟩
      obtain ⟨r2, hr2⟩ : ∃ r : Int, (if l.length + 1 ≤ 65536 then 0 else 3) = r := ⟨_, rfl⟩
      rw [hr1, hr2] at HBd ⊢
      have hap := add_s [112] l (by simp; omega)
      clear hx0 hx2 hE ho hwf hlc hr1 hr2 hsame
      rcases h1 with rfl | rfl
      all_goals
        go_enter Tryz.func29, Tryz.ntmps29
        go_wp2_with fail
        refine HT.out.mono ?_
        rintro e w1 ⟨⟨a, n, c, rfl, _⟩, hb⟩
        have HB := Lib.hid hb
        clear hb HT
        go_wp2_with fail
        refine (HBd.out _).mono ?_
        rintro e w2 ⟨rfl, rfl⟩
        go_wp2_with fail
        go_ret2
        exact ⟨rfl, HB.out.alloc HB.out.size _⟩
    cases t with
    | arr m u =>
      have hul : u.code.length + 1 ≤ 65536 := by have := arr_len m u; rw [← hlc] at this; omega
      have HBu := Lib.hid (fun w => c_bounded (112 :: u.code) w)
      rw [show (112 :: u.code).length = u.code.length + 1 from rfl, if_pos hul, if_pos hul] at HBu
      have hap := add_s [112] u.code (by simp; omega)
      have hZ : ∀ w', Below w.heap.size w w' → True := fun _ _ => trivial
      have HI := Lib.hid (fun (a : Option Addr) (n c : Nat) (w1 : World) (hn : NdIn (.arr m u) (.slice a n c) w1) => c_inner (fun j => j < w1.heap.size) (.arr m u) (.slice a n c) w1 hn [] u rfl (by simp))
      show Calls _ _ _ w fun e w' => e = .returned (.tuple #[.string ⟨(112 :: u.code).toArray⟩, .int .i64 0]) ∧ Below w.heap.size w w'
      have HT' : Hid (Calls Tryz.prog 43 #[.string ⟨l.toArray⟩] w fun e w' => (∃ a n c, e = .returned (.tuple #[nV 97 ⟨(Ty.arr m u).code.toArray⟩ (m : Int) ⟨#[]⟩ a n c, .bool true]) ∧ Nd (Fm w.heap.size w') w' (.arr m u) (.slice a n c)) ∧ Below w.heap.size w w') := HT
      have HI' : Hid (∀ (a : Option Addr) (n c : Nat) (w1 : World), NdIn (.arr m u) (.slice a n c) w1 → Calls Tryz.prog 55 #[nV 97 ⟨(Ty.arr m u).code.toArray⟩ (m : Int) ⟨#[]⟩ a n c] w1 fun e w' => (∃ a n c, e = .returned (ndV u (.slice a n c)) ∧ Nd (fun j => j < w1.heap.size) w1 u (.slice a n c)) ∧ Below w1.heap.size w1 w') := HI
      obtain ⟨s1, hs1⟩ : ∃ s1, (⟨(Ty.arr m u).code.toArray⟩ : ByteArray) = s1 := ⟨_, rfl⟩
      obtain ⟨x2, hx2⟩ : ∃ x2 : Int, (m : Int) = x2 := ⟨_, rfl⟩
      rw [hs1, hx2] at HT' HI'
      clear hE ho hwf hlc HBd hs1 hx2 HT HI hsame hptr hul hZ
      go_enter Tryz.func29, Tryz.ntmps29
      go_wp2_with fail
      refine HT'.out.mono ?_
      rintro e w1 ⟨⟨a, n, c, rfl, hn⟩, hb⟩
      have HB := Lib.hid hb
      have HNd := Lib.hid (show NdIn (.arr m u) (.slice a n c) w1 from hn.mono (fun j hj => hj.2) (fun _ _ => rfl))
      clear hb HT' hn
      go_wp2_with fail
      refine (HI'.out _ _ _ _ (HNd.out.next (below_a _ _))).mono ?_
      rintro e w2 ⟨⟨a', n', c', rfl, hn'⟩, hb2⟩
      have HB2 := Lib.hid (below_on (HB.out.alloc HB.out.size _) hb2 (by have := HB.out.size; simp; omega))
      obtain ⟨y0, hy0⟩ : ∃ y0 : Int, (u.letter.toNat : Int) = y0 := ⟨_, rfl⟩
      obtain ⟨y2, hy2⟩ : ∃ y2 : Int, (u.count : Int) = y2 := ⟨_, rfl⟩
      rw [nd_val, hy0, hy2]
      have hfd : ∀ W : World, (Instr.field 68 (.agg #[.int .u8 y0, .string ⟨u.code.toArray⟩, .int .i64 y2, .string ⟨u.tag.toArray⟩, .slice a' n' c']) 1).run Tryz.prog W = .ok (.string ⟨u.code.toArray⟩) W := fun _ => by kernel_rfl
      clear hb2 hn' HI' hy0 hy2
      go_wp2_with fail
      refine (HBu.out _).mono ?_
      rintro e w3 ⟨rfl, rfl⟩
      go_wp2_with fail
      go_ret2
      exact ⟨rfl, HB2.out⟩
    | fn ps r =>
      have h := hptr 102 rfl (.inl rfl)
      show Calls _ _ _ w fun e w' => e = .returned (.tuple #[.string ⟨(if l.length + 1 ≤ 65536 then (112 :: l, (0 : Int)) else ([], 3)).1.toArray⟩, .int .i64 (if l.length + 1 ≤ 65536 then (112 :: l, (0 : Int)) else ([], 3)).2]) ∧ Below w.heap.size w w'
      split <;> (rename_i hh; simpa [hh] using h)
    | ptr u => exact hsame 112 rfl rfl rfl rfl
    | str s => exact hsame 83 rfl rfl rfl rfl
    | base x =>
      by_cases hx : x = 106
      · have h := hptr 106 (by subst hx; rfl) (.inr rfl)
        show Calls _ _ _ w fun e w' => e = .returned (.tuple #[.string ⟨(if x = 106 then if l.length + 1 ≤ 65536 then (112 :: l, (0 : Int)) else ([], 3) else (l, 0)).1.toArray⟩, .int .i64 (if x = 106 then if l.length + 1 ≤ 65536 then (112 :: l, (0 : Int)) else ([], 3) else (l, 0)).2]) ∧ Below w.heap.size w w'
        rw [if_pos hx]
        split <;> (rename_i hh; simpa [hh] using h)
      · show Calls _ _ _ w fun e w' => e = .returned (.tuple #[.string ⟨(if x = 106 then if l.length + 1 ≤ 65536 then (112 :: l, (0 : Int)) else ([], 3) else (l, 0)).1.toArray⟩, .int .i64 (if x = 106 then if l.length + 1 ≤ 65536 then (112 :: l, (0 : Int)) else ([], 3) else (l, 0)).2]) ∧ Below w.heap.size w w'
        rw [if_neg hx]
        have hc : baseC x = true := hwf
        unfold baseC at hc
        simp at hc
        rcases hc with ((((hc | hc) | hc) | hc) | hc) | hc
        · subst hc; exact hsame 118 rfl rfl rfl rfl
        · subst hc; exact hsame 99 rfl rfl rfl rfl
        · subst hc; exact hsame 115 rfl rfl rfl rfl
        · subst hc; exact hsame 105 rfl rfl rfl rfl
        · subst hc; exact hsame 117 rfl rfl rfl rfl
        · exact absurd hc hx
end Go.Proofs.YtacbjhbiaaieoaaGreatDoor
/-! The contracts of the common type and of form, in the code. -/
namespace Go.Proofs.YtacbjhbiaaieoaaGreatDoor
set_option linter.unusedVariables false
set_option linter.unusedSimpArgs false
set_option maxRecDepth 100000
open Go.RowKit

set_option maxHeartbeats 4000000 in
theorem c_Form (B : Nat) (l : List UInt8) (w : World) (hE : Env B w) (hB : B ≤ w.heap.size) (hm : l.length ≤ 9223372036854775807) :
    Calls Tryz.prog 10 #[.string ⟨l.toArray⟩] w fun e w' => e = .returned (.bool (tk l).isSome) ∧ Below w.heap.size w w' := by
  rcases ho : tk l with _ | t
  · have HT := Lib.hid (c_tkN B l w hE hB hm ho)
    clear hE ho
    show Calls _ _ _ w fun e w' => e = .returned (.bool false) ∧ Below w.heap.size w w'
    go_enter Tryz.func10, Tryz.ntmps10
    go_wp2_with fail
    refine HT.out.mono ?_
    rintro e w1 ⟨rfl, hb⟩
    have HB := Lib.hid hb
    clear hb HT
    go_wp2_with fail
    go_ret
    exact ⟨rfl, HB.out.alloc HB.out.size _⟩
  · have HT := Lib.hid (c_tkS B l w hE hB hm t ho)
    obtain ⟨x0, hx0⟩ : ∃ x0 : Int, (t.letter.toNat : Int) = x0 := ⟨_, rfl⟩
    obtain ⟨x2, hx2⟩ : ∃ x2 : Int, (t.count : Int) = x2 := ⟨_, rfl⟩
    rw [hx0, hx2] at HT
    clear hE ho hx0 hx2
    show Calls _ _ _ w fun e w' => e = .returned (.bool true) ∧ Below w.heap.size w w'
    go_enter Tryz.func10, Tryz.ntmps10
    go_wp2_with fail
    refine HT.out.mono ?_
    rintro e w1 ⟨⟨a, n, c, rfl, _⟩, hb⟩
    have HB := Lib.hid hb
    clear hb HT
    go_wp2_with fail
    go_ret
    exact ⟨rfl, HB.out.alloc HB.out.size _⟩
/-- What takeApart answers, in either case: a letter, and whether it is a type. -/
def TkI (l : List UInt8) (w : World) (e : Ending) (w' : World) : Prop :=
  (∃ (x0 : Int) (s1 : ByteArray) (x2 : Int) (s3 : ByteArray) (a : Option Addr) (n c : Nat) (q : Bool), e = .returned (.tuple #[nV x0 s1 x2 s3 a n c, .bool q]) ∧ q = (tk l).isSome ∧ (∀ t, tk l = some t → x0 = t.letter.toNat)) ∧ Below w.heap.size w w'
theorem c_tkI (B : Nat) (l : List UInt8) (w : World) (hE : Env B w) (hB : B ≤ w.heap.size) (hm : l.length ≤ 9223372036854775807) :
    Calls Tryz.prog 43 #[.string ⟨l.toArray⟩] w fun e w' => TkI l w e w' :=
  (c_tk B l w hE hB hm).mono fun e w' h => by
    obtain ⟨hb, ⟨t', a, n, c, h1, h2, h3⟩ | ⟨h1, h2⟩⟩ := h
    · exact ⟨⟨_, _, _, _, a, n, c, true, h2, by rw [h1]; rfl, fun t ht => by rw [h1] at ht; cases ht; rfl⟩, hb⟩
    · exact ⟨⟨0, ⟨#[]⟩, 0, ⟨#[]⟩, none, 0, 0, false, h2, by rw [h1]; rfl, fun t ht => by rw [h1] at ht; cases ht⟩, hb⟩
set_option maxHeartbeats 4000000 in
theorem c_Common (B : Nat) (l m : List UInt8) (w : World) (hE : Env B w) (hB : B ≤ w.heap.size) (hl : l.length ≤ 9223372036854775807) (hm : m.length ≤ 9223372036854775807) :
    Calls Tryz.prog 33 #[.string ⟨l.toArray⟩, .string ⟨m.toArray⟩] w fun e w' => e = .returned (.tuple #[.string ⟨(cmA l m).1.toArray⟩, .int .i64 (cmA l m).2]) ∧ Below w.heap.size w w' := by
  have HT := Lib.hid (c_tkI B l w hE hB hl)
  have HU := Lib.hid (fun w' (hb : Below w.heap.size w w') => c_tkI B m w' (hE.next (hb.mono hB)) (Nat.le_trans hB hb.size) hm)
  have HI := Lib.hid (c_isInt)
  obtain ⟨r, hr⟩ : ∃ r, cmA l m = r := ⟨_, rfl⟩
  have HRs : Hid (∀ x y : Int, (∀ t, tk l = some t → x = t.letter.toNat) → (∀ t, tk m = some t → y = t.letter.toNat) → r = if (tk l).isSome = true then if (tk m).isSome = true then if intI x = true then if intI y = true then if (x == 117) = true then ([117], 0) else if (y == 117) = true then ([117], 0) else ([105], 0) else ([], 5) else ([], 5) else ([], 2) else ([], 2)) := fun x y hx hy => by
    rw [← hr]
    unfold cmA
    rcases h1 : tk l with _ | t
    · rfl
    · rcases h2 : tk m with _ | u
      · rfl
      · have ex := hx t h1
        have ey := hy u h2
        subst ex ey
        simp only [Option.isSome_some, if_true]
        by_cases i1 : intI t.letter.toNat = true
        · by_cases i2 : intI u.letter.toNat = true
          · rw [if_pos (by rw [i1, i2]; rfl), if_pos i1, if_pos i2]
            have e1 : (((t.letter.toNat : Int) == 117) = true) = (t.letter = 117) := by
              apply propext
              rw [beq_iff_eq]
              constructor
              · intro h; apply UInt8.toNat_inj.1; show t.letter.toNat = 117; omega
              · intro h; rw [h]; rfl
            have e2 : (((u.letter.toNat : Int) == 117) = true) = (u.letter = 117) := by
              apply propext
              rw [beq_iff_eq]
              constructor
              · intro h; apply UInt8.toNat_inj.1; show u.letter.toNat = 117; omega
              · intro h; rw [h]; rfl
            simp only [e1, e2]
            by_cases a1 : t.letter = 117
            · rw [if_pos (Or.inl a1), if_pos a1]
            · by_cases a2 : u.letter = 117
              · rw [if_pos (Or.inr a2), if_neg a1, if_pos a2]
              · rw [if_neg (fun h => h.elim a1 a2), if_neg a1, if_neg a2]
          · rw [if_neg (by rw [Bool.and_eq_true]; exact fun h => i2 h.2), if_pos i1, if_neg i2]
        · rw [if_neg (by rw [Bool.and_eq_true]; exact fun h => i1 h.1), if_neg i1]
  rw [hr]
  clear hE hr
  go_enter Tryz.func33, Tryz.ntmps33
  go_wp2_with fail
  refine HT.out.mono ?_
  rintro e w1 ⟨⟨x0, s1, x2, s3, a, n, c, q, rfl, hq, hx⟩, hb⟩
  have HB := Lib.hid hb
  have HQ := Lib.hid (And.intro hq hx)
  clear hb hq hx HT
  go_wp2_with fail
  refine (HU.out _ (HB.out.alloc HB.out.size _)).mono ?_
  rintro e w2 ⟨⟨y0, t1, y2, t3, a', n', c', q', rfl, hq', hy⟩, hb⟩
  have HB2 := Lib.hid (below_on (HB.out.alloc HB.out.size (.cells #[.int .u8 x0, .string s1, .int .i64 x2, .string s3, .slice a n c] 68)) hb (by have := HB.out.size; simp; omega))
  have HN2 := Lib.hid (blk_next (heap_alloc_new w1 (.cells #[.int .u8 x0, .string s1, .int .i64 x2, .string s3, .slice a n c] 68)) hb)
  have HQ' := Lib.hid (And.intro hq' hy)
  have HR2 : Hid (r = if q = true then if q' = true then if intI x0 = true then if intI y0 = true then if (x0 == 117) = true then ([117], 0) else if (y0 == 117) = true then ([117], 0) else ([105], 0) else ([], 5) else ([], 5) else ([], 2) else ([], 2)) := by
    show _ = _
    rw [HRs.out x0 y0 HQ.out.2 HQ'.out.2, HQ.out.1, HQ'.out.1]
  obtain ⟨n0, n1, n2, n3, n4, nf⟩ := five_cells HN2.out
  have hlt := (Array.getElem?_eq_some_iff.1 HN2.out).1
  clear hb hq' hy HU HRs HQ HQ' nf
  generalize hw3 : w2.alloc (.cells #[.int .u8 y0, .string t1, .int .i64 y2, .string t3, .slice a' n' c'] 68) = w3
  have HB3 : Hid (Below w.heap.size w w3) := by rw [← hw3]; exact HB2.out.alloc HB2.out.size _
  have HN3 : Hid (w3.heap[w1.heap.size]? = some (.cells #[.int .u8 x0, .string s1, .int .i64 x2, .string s3, .slice a n c] 68)) := by rw [← hw3]; exact (Below.heap_alloc _ _ _ hlt).trans HN2.out
  have HM3 : Hid (w3.heap[w2.heap.size]? = some (.cells #[.int .u8 y0, .string t1, .int .i64 y2, .string t3, .slice a' n' c'] 68)) := by rw [← hw3]; exact heap_alloc_new _ _
  have hX3 := (Array.getElem?_eq_some_iff.1 HN3.out).1
  have hY3 := (Array.getElem?_eq_some_iff.1 HM3.out).1
  clear n0 n1 n2 n3 n4 hlt
  obtain ⟨n0, n1, n2, n3, n4, nf⟩ := five_cells HN3.out
  obtain ⟨m0, m1, m2, m3, m4, mf⟩ := five_cells HM3.out
  clear nf mf
  cases q
  · have hr : r = ([], 2) := by rw [HR2.out]; rfl
    subst hr
    go_wp2_with fail
    go_ret2
    exact ⟨rfl, HB3.out⟩
  · cases q'
    · have hr : r = ([], 2) := by rw [HR2.out]; rfl
      subst hr
      go_wp2_with fail
      go_ret2
      exact ⟨rfl, HB3.out⟩
    · have hr : r = if intI x0 = true then if intI y0 = true then if (x0 == 117) = true then ([117], 0) else if (y0 == 117) = true then ([117], 0) else ([105], 0) else ([], 5) else ([], 5) := by rw [HR2.out]; rfl
      have HI1 := Lib.hid (HI.out x0 s1 x2 s3 a n c)
      have HI2 := Lib.hid (HI.out y0 t1 y2 t3 a' n' c')
      clear HI HR2 HN2
      cases ix : intI x0
      · rw [ix] at HI1 hr
        have hr' : r = ([], 5) := by rw [hr]; rfl
        clear hr
        subst hr'
        go_wp2_with fail
        refine (HI1.out _).mono ?_
        rintro e w4 ⟨rfl, hb⟩
        clear hw3
        have HB4 := Lib.hid (below_on HB3.out hb HB3.out.size)
        clear hb
        go_wp2_with fail
        go_ret2
        exact ⟨rfl, HB4.out⟩
      · rw [ix] at HI1 hr
        rw [if_pos rfl] at hr
        cases iy : intI y0
        · rw [iy] at HI2 hr
          have hr' : r = ([], 5) := by rw [hr]; rfl
          clear hr
          subst hr'
          go_wp2_with fail
          refine (HI1.out _).mono ?_
          rintro e w4 ⟨rfl, hb⟩
          clear hw3
          have HB4 := Lib.hid (below_on HB3.out hb HB3.out.size)
          have HM4 := Lib.hid (blk_next HM3.out hb)
          clear hb m0 m1 m2 m3 m4 n0 n1 n2 n3 n4
          obtain ⟨m0, m1, m2, m3, m4, mf⟩ := five_cells HM4.out
          have hY4 := (Array.getElem?_eq_some_iff.1 HM4.out).1
          clear mf
          go_wp2_with fail
          refine (HI2.out _).mono ?_
          rintro e w5 ⟨rfl, hb⟩
          have HB5 := Lib.hid (below_on HB4.out hb HB4.out.size)
          clear hb
          go_wp2_with fail
          go_ret2
          exact ⟨rfl, HB5.out⟩
        · rw [iy] at HI2 hr
          rw [if_pos rfl] at hr
          have HRr := Lib.hid hr
          clear hr ix iy
          cases hx7 : x0 == 117
          all_goals
            cases hy7 : y0 == 117
            all_goals
              rw [hx7, hy7] at HRr
              obtain ⟨r1, r2⟩ := r
              obtain ⟨hr1, hr2⟩ := Prod.mk.inj HRr.out
              subst hr1 hr2
              go_wp2_with fail
              refine (HI1.out _).mono ?_
              rintro e w4 ⟨rfl, hb⟩
              clear hw3
              have HB4 := Lib.hid (below_on HB3.out hb HB3.out.size)
              have HM4 := Lib.hid (blk_next HM3.out hb)
              have HN4 := Lib.hid (blk_next HN3.out hb)
              clear hb m0 m1 m2 m3 m4 n0 n1 n2 n3 n4
              obtain ⟨m0, m1, m2, m3, m4, mf⟩ := five_cells HM4.out
              have hY4 := (Array.getElem?_eq_some_iff.1 HM4.out).1
              clear mf
              go_wp2_with fail
              refine (HI2.out _).mono ?_
              rintro e w5 ⟨rfl, hb⟩
              have HB5 := Lib.hid (below_on HB4.out hb HB4.out.size)
              have HM5 := Lib.hid (blk_next HM4.out hb)
              have HN5 := Lib.hid (blk_next HN4.out hb)
              clear hb m0 m1 m2 m3 m4
              obtain ⟨m0, m1, m2, m3, m4, mf⟩ := five_cells HM5.out
              obtain ⟨n0, n1, n2, n3, n4, nf⟩ := five_cells HN5.out
              clear mf nf
              go_wp2_with fail
              go_ret2
              exact ⟨rfl, HB5.out⟩
end Go.Proofs.YtacbjhbiaaieoaaGreatDoor
