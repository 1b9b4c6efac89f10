/-
  The contracts of the code's answers of integers and scalars, and of its parts of any type.
-/
import Derived.Test.YtacbjhbiaaieoaaGreatDoorTyRo
import Derived.Test.YtacbjhbiaaieoaaGreatDoorTzRr
import Derived.Test.YtacbjhbiaaieoaaGreatDoorTySg
namespace Go.Proofs.YtacbjhbiaaieoaaGreatDoor
set_option linter.unusedVariables false
set_option linter.unusedSimpArgs false
set_option maxRecDepth 100000
open Go.RowKit

theorem beq_one (l : List UInt8) (c : UInt8) (x : UInt8) (h : l = [x]) : (l == [c]) = (x == c) := by
  subst h
  simp
set_option maxHeartbeats 4000000 in
theorem c_rPromote (l : List UInt8) (w : World) (hm : l.length ≤ 9223372036854775807) :
    Calls Tryz.prog 32 #[.string ⟨l.toArray⟩] w fun e w' => e = .returned (.tuple #[.string ⟨(prA l).1.toArray⟩, .int .i64 (prA l).2]) ∧ Below w.heap.size w w' := by
  have HF := Lib.hid (c_rForm l w hm)
  unfold prA
  rcases ho : tk l with _ | t
  · rw [ho] at HF
    clear ho
    show Calls _ _ _ w fun e w' => e = .returned (.tuple #[.string ⟨#[]⟩, .int .i64 2]) ∧ Below w.heap.size w w'
    go_enter Tryz.func32, Tryz.ntmps32
    go_wp2_with fail
    refine HF.out.mono ?_
    rintro e w2 ⟨rfl, hb⟩
    have HB := Lib.hid hb
    clear hb
    rw [show (none : Option Ty).isSome = false from rfl]
    go_wp2_with fail
    go_ret2
    exact ⟨rfl, HB.out⟩
  · rw [ho] at HF
    obtain ⟨hwf, hlc, _⟩ := tk_some ho
    have hr : ∃ r, (if ((t.letter.toNat : Int) == 99 || (t.letter.toNat : Int) == 115) = true then [105] else t.code) = r ∧ r = if (l == [99]) = true then [105] else if (l == [115]) = true then [105] else l := by
      refine ⟨_, rfl, ?_⟩
      rw [← hlc]
      cases t with
      | base c =>
        have hc : baseC c = true := hwf
        unfold baseC at hc
        simp at hc
        have hl1 : l = [c] := hlc
        subst hl1
        rcases hc with ((((hc | hc) | hc) | hc) | hc) | hc <;> (subst hc; rfl)
      | ptr u => have hl1 : l = 112 :: u.code := hlc; subst hl1; rfl
      | arr n u => have hl1 : l = 97 :: (Lib.decDigits n ++ 58 :: u.code) := hlc; subst hl1; rfl
      | str s => have hl1 : l = 83 :: (s ++ [59]) := hlc; subst hl1; rfl
      | fn ps r =>
        cases ps with
        | nil => have hl1 : l = 102 :: 40 :: 41 :: r.code := hlc; subst hl1; rfl
        | cons a b => have hl1 : l = 102 :: 40 :: (a.code ++ (b.code ++ 41 :: r.code)) := hlc; subst hl1; rfl
    obtain ⟨r, hr1, hr2⟩ := hr
    show Calls _ _ _ w fun e w' => e = .returned (.tuple #[.string ⟨(if ((t.letter.toNat : Int) == 99 || (t.letter.toNat : Int) == 115) = true then [105] else t.code).toArray⟩, .int .i64 0]) ∧ Below w.heap.size w w'
    rw [hr1]
    clear hr1 ho hwf hlc
    cases h1 : l == [99]
    · cases h2 : l == [115]
      · have hr : r = l := by rw [hr2, h1, h2]; rfl
        subst hr
        clear hr2
        go_enter Tryz.func32, Tryz.ntmps32
        go_wp2_with fail
        refine HF.out.mono ?_
        rintro e w2 ⟨rfl, hb⟩
        have HB := Lib.hid hb
        clear hb
        rw [show (some t).isSome = true from rfl]
        go_wp2_with fail
        go_ret2
        exact ⟨rfl, HB.out⟩
      · have hr : r = [105] := by rw [hr2, h1, h2]; rfl
        subst hr
        clear hr2
        go_enter Tryz.func32, Tryz.ntmps32
        go_wp2_with fail
        refine HF.out.mono ?_
        rintro e w2 ⟨rfl, hb⟩
        have HB := Lib.hid hb
        clear hb
        rw [show (some t).isSome = true from rfl]
        go_wp2_with fail
        go_ret2
        exact ⟨rfl, HB.out⟩
    · have hr : r = [105] := by rw [hr2, h1]; rfl
      subst hr
      clear hr2
      go_enter Tryz.func32, Tryz.ntmps32
      go_wp2_with fail
      refine HF.out.mono ?_
      rintro e w2 ⟨rfl, hb⟩
      have HB := Lib.hid hb
      clear hb
      rw [show (some t).isSome = true from rfl]
      go_wp2_with fail
      go_ret2
      exact ⟨rfl, HB.out⟩
/-- A letter alone. -/
theorem let_117 (t : Ty) (h : t.wf) : (t.code == [117]) = ((t.letter.toNat : Int) == 117) := by
  cases t with
  | base c =>
    have hc : baseC c = true := h
    unfold baseC at hc
    simp at hc
    rcases hc with ((((hc | hc) | hc) | hc) | hc) | hc <;> (subst hc; rfl)
  | ptr u => rfl
  | arr n u => rfl
  | str s => rfl
  | fn ps r => cases ps <;> rfl
set_option maxHeartbeats 8000000 in
theorem c_rCommon (l m : List UInt8) (w : World) (hl : l.length ≤ 9223372036854775807) (hm : m.length ≤ 9223372036854775807) :
    Calls Tryz.prog 34 #[.string ⟨l.toArray⟩, .string ⟨m.toArray⟩] w fun e w' => e = .returned (.tuple #[.string ⟨(cmA l m).1.toArray⟩, .int .i64 (cmA l m).2]) ∧ Below w.heap.size w w' := by
  have HF := Lib.hid (c_rForm l w hl)
  have HG := Lib.hid (fun w => c_rForm m w hm)
  have HI := Lib.hid (c_rIsInt)
  obtain ⟨r, hr⟩ : ∃ r, cmA l m = r := ⟨_, rfl⟩
  have hR : r = if (tk l).isSome = true then if (tk m).isSome = true then if riI l = true then if riI m = true then if (l == [117]) = true then ([117], 0) else if (m == [117]) = true then ([117], 0) else ([105], 0) else ([], 5) else ([], 5) else ([], 2) else ([], 2) := by
    rw [← hr]
    unfold cmA
    rcases h1 : tk l with _ | t
    · rfl
    · rcases h2 : tk m with _ | u
      · rfl
      · obtain ⟨hw1, hc1, _⟩ := tk_some h1
        obtain ⟨hw2, hc2, _⟩ := tk_some h2
        simp only [Option.isSome_some, if_true]
        rw [hc1, hc2, ri_int t hw1, ri_int u hw2, let_117 t hw1, let_117 u hw2]
        by_cases i1 : intI t.letter.toNat = true
        · by_cases i2 : intI u.letter.toNat = true
          · rw [if_pos (by rw [i1, i2]; rfl), if_pos i1, if_pos i2]
            have e1 : (((t.letter.toNat : Int) == 117) = true) = (t.letter = 117) := by
              apply propext
              rw [beq_iff_eq]
              constructor
              · intro h; apply UInt8.toNat_inj.1; show t.letter.toNat = 117; omega
              · intro h; rw [h]; rfl
            have e2 : (((u.letter.toNat : Int) == 117) = true) = (u.letter = 117) := by
              apply propext
              rw [beq_iff_eq]
              constructor
              · intro h; apply UInt8.toNat_inj.1; show u.letter.toNat = 117; omega
              · intro h; rw [h]; rfl
            simp only [e1, e2]
            by_cases a1 : t.letter = 117
            · rw [if_pos (Or.inl a1), if_pos a1]
            · by_cases a2 : u.letter = 117
              · rw [if_pos (Or.inr a2), if_neg a1, if_pos a2]
              · rw [if_neg (fun h => h.elim a1 a2), if_neg a1, if_neg a2]
          · rw [if_neg (by rw [Bool.and_eq_true]; exact fun h => i2 h.2), if_pos i1, if_neg i2]
        · rw [if_neg (by rw [Bool.and_eq_true]; exact fun h => i1 h.1), if_neg i1]
  rw [hr]
  clear hr hl hm
  cases q1 : (tk l).isSome
  · rw [q1] at HF hR
    obtain rfl : r = ([], 2) := hR
    clear q1
    go_enter Tryz.func34, Tryz.ntmps34
    go_wp2_with fail
    refine HF.out.mono ?_
    rintro e w2 ⟨rfl, hb⟩
    have HB := Lib.hid hb
    clear hb
    go_wp2_with fail
    go_ret2
    exact ⟨rfl, HB.out⟩
  · rw [q1] at HF hR
    cases q2 : (tk m).isSome
    · rw [q2] at HG hR
      obtain rfl : r = ([], 2) := hR
      clear q1 q2
      go_enter Tryz.func34, Tryz.ntmps34
      go_wp2_with fail
      refine HF.out.mono ?_
      rintro e w2 ⟨rfl, hb⟩
      have HB := Lib.hid hb
      clear hb
      go_wp2_with fail
      refine (HG.out _).mono ?_
      rintro e w3 ⟨rfl, hb3⟩
      have HB3 := Lib.hid (below_on HB.out hb3 HB.out.size)
      clear hb3
      go_wp2_with fail
      go_ret2
      exact ⟨rfl, HB3.out⟩
    · rw [q2] at HG hR
      have HI1 := Lib.hid (HI.out l)
      have HI2 := Lib.hid (HI.out m)
      clear HI
      cases q3 : riI l
      · rw [q3] at HI1 hR
        obtain rfl : r = ([], 5) := hR
        clear q1 q2 q3
        go_enter Tryz.func34, Tryz.ntmps34
        go_wp2_with fail
        refine HF.out.mono ?_
        rintro e w2 ⟨rfl, hb⟩
        have HB := Lib.hid hb
        clear hb
        go_wp2_with fail
        refine (HG.out _).mono ?_
        rintro e w3 ⟨rfl, hb3⟩
        have HB3 := Lib.hid (below_on HB.out hb3 HB.out.size)
        clear hb3
        go_wp2_with fail
        refine (HI1.out _).mono ?_
        rintro e w4 ⟨rfl, rfl⟩
        go_wp2_with fail
        go_ret2
        exact ⟨rfl, HB3.out⟩
      · rw [q3] at HI1 hR
        cases q4 : riI m
        · rw [q4] at HI2 hR
          obtain rfl : r = ([], 5) := hR
          clear q1 q2 q3 q4
          go_enter Tryz.func34, Tryz.ntmps34
          go_wp2_with fail
          refine HF.out.mono ?_
          rintro e w2 ⟨rfl, hb⟩
          have HB := Lib.hid hb
          clear hb
          go_wp2_with fail
          refine (HG.out _).mono ?_
          rintro e w3 ⟨rfl, hb3⟩
          have HB3 := Lib.hid (below_on HB.out hb3 HB.out.size)
          clear hb3
          go_wp2_with fail
          refine (HI1.out _).mono ?_
          rintro e w4 ⟨rfl, rfl⟩
          go_wp2_with fail
          refine (HI2.out _).mono ?_
          rintro e w5 ⟨rfl, rfl⟩
          go_wp2_with fail
          go_ret2
          exact ⟨rfl, HB3.out⟩
        · rw [q4] at HI2 hR
          cases q5 : (l == [117])
          · cases q6 : (m == [117])
            all_goals
              rw [q5, q6] at hR
              obtain rfl : r = _ := hR
              clear q1 q2 q3 q4
              go_enter Tryz.func34, Tryz.ntmps34
              go_wp2_with fail
              refine HF.out.mono ?_
              rintro e w2 ⟨rfl, hb⟩
              have HB := Lib.hid hb
              clear hb
              go_wp2_with fail
              refine (HG.out _).mono ?_
              rintro e w3 ⟨rfl, hb3⟩
              have HB3 := Lib.hid (below_on HB.out hb3 HB.out.size)
              clear hb3
              go_wp2_with fail
              refine (HI1.out _).mono ?_
              rintro e w4 ⟨rfl, rfl⟩
              go_wp2_with fail
              refine (HI2.out _).mono ?_
              rintro e w5 ⟨rfl, rfl⟩
              go_wp2_with fail
              go_ret2
              exact ⟨rfl, HB3.out⟩
          · rw [q5] at hR
            obtain rfl : r = _ := hR
            clear q1 q2 q3 q4
            go_enter Tryz.func34, Tryz.ntmps34
            go_wp2_with fail
            refine HF.out.mono ?_
            rintro e w2 ⟨rfl, hb⟩
            have HB := Lib.hid hb
            clear hb
            go_wp2_with fail
            refine (HG.out _).mono ?_
            rintro e w3 ⟨rfl, hb3⟩
            have HB3 := Lib.hid (below_on HB.out hb3 HB.out.size)
            clear hb3
            go_wp2_with fail
            refine (HI1.out _).mono ?_
            rintro e w4 ⟨rfl, rfl⟩
            go_wp2_with fail
            refine (HI2.out _).mono ?_
            rintro e w5 ⟨rfl, rfl⟩
            go_wp2_with fail
            go_ret2
            exact ⟨rfl, HB3.out⟩
end Go.Proofs.YtacbjhbiaaieoaaGreatDoor
namespace Go.Proofs.YtacbjhbiaaieoaaGreatDoor
set_option linter.unusedVariables false
set_option linter.unusedSimpArgs false
set_option maxRecDepth 100000
open Go.RowKit

set_option maxHeartbeats 4000000 in
theorem rdc_same (l : List UInt8) (t : Ty) (ho : tk l = some t) (xI : Int) (hxI : (t.letter.toNat : Int) = xI) (h1 : (xI == 97) = false) (h2 : (xI == 102) = false) (h3 : (xI == 106) = false) (w : World) (hm : l.length ≤ 9223372036854775807) :
    Calls Tryz.prog 30 #[.string ⟨l.toArray⟩] w fun e w' => e = .returned (.tuple #[.string ⟨l.toArray⟩, .int .i64 0]) ∧ Below w.heap.size w w' := by
  have HF := Lib.hid (c_rForm l w hm)
  rw [ho] at HF
  obtain ⟨hwf, hlc, _⟩ := tk_some ho
  have HK := Lib.hid (c_rkind t)
  rw [← hlc, hxI] at HK
  clear ho hwf hlc hxI
  go_enter Tryz.func30, Tryz.ntmps30
  go_wp2_with fail
  refine HF.out.mono ?_
  rintro e w2 ⟨rfl, hb⟩
  have HB := Lib.hid hb
  clear hb
  rw [show (some t).isSome = true from rfl]
  go_wp2_with fail
  refine (HK.out _).mono ?_
  rintro e w3 ⟨rfl, rfl⟩
  go_wp2_with fail
  go_ret2
  exact ⟨rfl, HB.out⟩
set_option maxHeartbeats 4000000 in
theorem rdc_ptr (l : List UInt8) (t : Ty) (ho : tk l = some t) (xI : Int) (hxI : (t.letter.toNat : Int) = xI) (hx : xI = 102 ∨ xI = 106) (w : World) (hm : l.length ≤ 9223372036854775807) :
    Calls Tryz.prog 30 #[.string ⟨l.toArray⟩] w fun e w' => e = .returned (.tuple #[.string ⟨(if l.length + 1 ≤ 65536 then 112 :: l else []).toArray⟩, .int .i64 (if l.length + 1 ≤ 65536 then 0 else 3)]) ∧ Below w.heap.size w w' := by
  have HF := Lib.hid (c_rForm l w hm)
  rw [ho] at HF
  obtain ⟨hwf, hlc, hln⟩ := tk_some ho
  have HK := Lib.hid (c_rkind t)
  rw [← hlc, hxI] at HK
  clear ho hwf hlc hxI
  by_cases hle : l.length + 1 ≤ 65536
  · rw [if_pos hle, if_pos hle]
    have hd : decide ((65536 : Int) ≤ (l.length : Int)) = false := by simp; omega
    have hdn : decide ((65536 : Nat) ≤ l.length) = false := by simp; omega
    have ap1 := b_app' [112] l
    have ha1 := add_s [112] l (by simp; omega)
    have hs1 : ¬ 9223372036854775807 < 1 + l.length := by omega
    clear hle hln
    rcases hx with rfl | rfl
    all_goals
      go_enter Tryz.func30, Tryz.ntmps30
      go_wp2_with fail
      refine HF.out.mono ?_
      rintro e w2 ⟨rfl, hb⟩
      have HB := Lib.hid hb
      clear hb
      rw [show (some t).isSome = true from rfl]
      go_wp2_with fail
      refine (HK.out _).mono ?_
      rintro e w3 ⟨rfl, rfl⟩
      go_wp2_with fail
      go_ret2
      exact ⟨rfl, HB.out⟩
  · rw [if_neg hle, if_neg hle]
    have hd : decide ((65536 : Int) ≤ (l.length : Int)) = true := by simp; omega
    have hdn : decide ((65536 : Nat) ≤ l.length) = true := by simp; omega
    clear hle hln
    rcases hx with rfl | rfl
    all_goals
      go_enter Tryz.func30, Tryz.ntmps30
      go_wp2_with fail
      refine HF.out.mono ?_
      rintro e w2 ⟨rfl, hb⟩
      have HB := Lib.hid hb
      clear hb
      rw [show (some t).isSome = true from rfl]
      go_wp2_with fail
      refine (HK.out _).mono ?_
      rintro e w3 ⟨rfl, rfl⟩
      go_wp2_with fail
      go_ret2
      exact ⟨rfl, HB.out⟩
set_option maxHeartbeats 4000000 in
theorem rdc_arr (l : List UInt8) (n : Nat) (u : Ty) (ho : tk l = some (.arr n u)) (w : World) (hm : l.length ≤ 9223372036854775807) :
    Calls Tryz.prog 30 #[.string ⟨l.toArray⟩] w fun e w' => e = .returned (.tuple #[.string ⟨(112 :: u.code).toArray⟩, .int .i64 0]) ∧ Below w.heap.size w w' := by
  have HF := Lib.hid (c_rForm l w hm)
  rw [ho] at HF
  obtain ⟨hwf, hlc, hln⟩ := tk_some ho
  have HK := Lib.hid (c_rkind (.arr n u))
  rw [show (((Ty.arr n u).letter.toNat : Nat) : Int) = 97 from rfl] at HK
  have HI := Lib.hid (fun w => c_rinner_arr n u w hwf.1 (by rw [← hlc]; exact hln))
  have hul : u.code.length ≤ 65536 := by have := arr_len n u; rw [← hlc] at this; omega
  rw [← hlc] at HK HI
  have ap1 := b_app' [112] u.code
  have ha1 := add_s [112] u.code (by simp; omega)
  obtain ⟨c, hc⟩ : ∃ c, u.code = c := ⟨_, rfl⟩
  rw [hc] at HI ap1 ha1 hul ⊢
  have hs1 : ¬ 9223372036854775807 < 1 + c.length := by omega
  clear ho hwf hlc hln hc
  go_enter Tryz.func30, Tryz.ntmps30
  go_wp2_with fail
  refine HF.out.mono ?_
  rintro e w2 ⟨rfl, hb⟩
  have HB := Lib.hid hb
  clear hb
  rw [show (some (Ty.arr n u)).isSome = true from rfl]
  go_wp2_with fail
  refine (HK.out _).mono ?_
  rintro e w3 ⟨rfl, rfl⟩
  go_wp2_with fail
  refine (HI.out _).mono ?_
  rintro e w4 ⟨rfl, hb4⟩
  have HB4 := Lib.hid (below_on HB.out hb4 HB.out.size)
  clear hb4
  go_wp2_with fail
  go_ret2
  exact ⟨rfl, HB4.out⟩
theorem c_rDecay (l : List UInt8) (w : World) (hm : l.length ≤ 9223372036854775807) :
    Calls Tryz.prog 30 #[.string ⟨l.toArray⟩] w fun e w' => e = .returned (.tuple #[.string ⟨(dcA l).1.toArray⟩, .int .i64 (dcA l).2]) ∧ Below w.heap.size w w' := by
  rcases ho : tk l with _ | t
  · have HF := Lib.hid (c_rForm l w hm)
    rw [ho] at HF
    have hd : dcA l = ([], 2) := by unfold dcA; rw [ho]
    rw [hd]
    clear ho hd
    go_enter Tryz.func30, Tryz.ntmps30
    go_wp2_with fail
    refine HF.out.mono ?_
    rintro e w2 ⟨rfl, hb⟩
    have HB := Lib.hid hb
    clear hb
    rw [show (none : Option Ty).isSome = false from rfl]
    go_wp2_with fail
    go_ret2
    exact ⟨rfl, HB.out⟩
  · have hd : dcA l = dcT t l := by unfold dcA; rw [ho]
    rw [hd]
    obtain ⟨hwf, hlc, hln⟩ := tk_some ho
    match t, ho, hwf with
    | .arr n u, ho, _ => exact rdc_arr l n u ho w hm
    | .ptr u, ho, _ => exact rdc_same l _ ho 112 rfl rfl rfl rfl w hm
    | .str s, ho, _ => exact rdc_same l _ ho 83 rfl rfl rfl rfl w hm
    | .fn ps r, ho, _ =>
      refine (rdc_ptr l _ ho 102 rfl (.inl rfl) w hm).mono fun e w' h => ?_
      show e = .returned (.tuple #[.string ⟨(if l.length + 1 ≤ 65536 then ((112 :: l, 0) : List UInt8 × Int) else ([], 3)).1.toArray⟩, .int .i64 (if l.length + 1 ≤ 65536 then ((112 :: l, 0) : List UInt8 × Int) else ([], 3)).2]) ∧ _
      by_cases hle : l.length + 1 ≤ 65536
      · simp only [if_pos hle] at h ⊢
        exact h
      · simp only [if_neg hle] at h ⊢
        exact h
    | .base c, ho, hwf =>
      have hc : baseC c = true := hwf
      unfold baseC at hc
      simp at hc
      rcases hc with ((((hc | hc) | hc) | hc) | hc) | hc
      · subst hc; exact rdc_same l _ ho 118 rfl rfl rfl rfl w hm
      · subst hc; exact rdc_same l _ ho 99 rfl rfl rfl rfl w hm
      · subst hc; exact rdc_same l _ ho 115 rfl rfl rfl rfl w hm
      · subst hc; exact rdc_same l _ ho 105 rfl rfl rfl rfl w hm
      · subst hc; exact rdc_same l _ ho 117 rfl rfl rfl rfl w hm
      · subst hc
        refine (rdc_ptr l _ ho 106 rfl (.inr rfl) w hm).mono fun e w' h => ?_
        show e = .returned (.tuple #[.string ⟨(if l.length + 1 ≤ 65536 then ((112 :: l, 0) : List UInt8 × Int) else ([], 3)).1.toArray⟩, .int .i64 (if l.length + 1 ≤ 65536 then ((112 :: l, 0) : List UInt8 × Int) else ([], 3)).2]) ∧ _
        by_cases hle : l.length + 1 ≤ 65536
        · simp only [if_pos hle] at h ⊢
          exact h
        · simp only [if_neg hle] at h ⊢
          exact h
/-- What a pointer, an array is made of: the answer. -/
def elT (t : Ty) : List UInt8 × Int × Int := match t with
  | .ptr u => (u.code, 0, 0)
  | .arr n u => (u.code, (n : Int), 0)
  | _ => ([], 0, 5)
def elA (l : List UInt8) : List UInt8 × Int × Int := match tk l with
  | none => ([], 0, 2)
  | some t => elT t
abbrev ElR (x : List UInt8 × Int × Int) (w : World) (e : Ending) (w' : World) : Prop := e = .returned (.tuple #[.string ⟨x.1.toArray⟩, .int .i64 x.2.1, .int .i64 x.2.2]) ∧ Below w.heap.size w w'
set_option maxHeartbeats 4000000 in
theorem rel_in (l : List UInt8) (t u : Ty) (n : Int) (ho : tk l = some t) (xI : Int) (hxI : (t.letter.toNat : Int) = xI) (hx : xI = 112 ∨ xI = 97) (w : World) (hm : l.length ≤ 9223372036854775807)
    (HIn : ∀ w, Calls Tryz.prog 57 #[.string ⟨t.code.toArray⟩] w fun e w' => e = .returned (.tuple #[.string ⟨u.code.toArray⟩, .int .i64 n]) ∧ Below w.heap.size w w') :
    Calls Tryz.prog 23 #[.string ⟨l.toArray⟩] w fun e w' => ElR (u.code, n, 0) w e w' := by
  have HF := Lib.hid (c_rForm l w hm)
  rw [ho] at HF
  obtain ⟨hwf, hlc, hln⟩ := tk_some ho
  have HK := Lib.hid (c_rkind t)
  have HI := Lib.hid HIn
  rw [← hlc] at HI
  rw [← hlc, hxI] at HK
  clear ho hwf hlc hln hxI HIn
  rcases hx with rfl | rfl
  · go_enter Tryz.func23, Tryz.ntmps23
    go_wp2_with fail
    refine HF.out.mono ?_
    rintro e w2 ⟨rfl, hb⟩
    have HB := Lib.hid hb
    clear hb
    rw [show (some t).isSome = true from rfl]
    go_wp2_with fail
    refine (HK.out _).mono ?_
    rintro e w3 ⟨rfl, rfl⟩
    go_wp2_with fail
    refine (HI.out _).mono ?_
    rintro e w4 ⟨rfl, hb4⟩
    have HB4 := Lib.hid (below_on HB.out hb4 HB.out.size)
    clear hb4
    go_wp2_with fail
    go_ret3
    exact ⟨rfl, HB4.out⟩
  · go_enter Tryz.func23, Tryz.ntmps23
    go_wp2_with fail
    refine HF.out.mono ?_
    rintro e w2 ⟨rfl, hb⟩
    have HB := Lib.hid hb
    clear hb
    rw [show (some t).isSome = true from rfl]
    go_wp2_with fail
    refine (HK.out _).mono ?_
    rintro e w3 ⟨rfl, rfl⟩
    go_wp2_with fail
    refine (HK.out _).mono ?_
    rintro e w3 ⟨rfl, rfl⟩
    go_wp2_with fail
    refine (HI.out _).mono ?_
    rintro e w4 ⟨rfl, hb4⟩
    have HB4 := Lib.hid (below_on HB.out hb4 HB.out.size)
    clear hb4
    go_wp2_with fail
    go_ret3
    exact ⟨rfl, HB4.out⟩
set_option maxHeartbeats 4000000 in
theorem rel_no (l : List UInt8) (t : Ty) (ho : tk l = some t) (xI : Int) (hxI : (t.letter.toNat : Int) = xI) (h1 : (xI == 112) = false) (h2 : (xI == 97) = false) (w : World) (hm : l.length ≤ 9223372036854775807) :
    Calls Tryz.prog 23 #[.string ⟨l.toArray⟩] w fun e w' => ElR ([], 0, 5) w e w' := by
  have HF := Lib.hid (c_rForm l w hm)
  rw [ho] at HF
  obtain ⟨hwf, hlc, hln⟩ := tk_some ho
  have HK := Lib.hid (c_rkind t)
  rw [← hlc, hxI] at HK
  have h3 : (xI != 112) = true := by simp [bne, h1]
  have h4 : (xI != 97) = true := by simp [bne, h2]
  clear ho hwf hlc hln hxI
  go_enter Tryz.func23, Tryz.ntmps23
  go_wp2_with fail
  refine HF.out.mono ?_
  rintro e w2 ⟨rfl, hb⟩
  have HB := Lib.hid hb
  clear hb
  rw [show (some t).isSome = true from rfl]
  go_wp2_with fail
  refine (HK.out _).mono ?_
  rintro e w3 ⟨rfl, rfl⟩
  go_wp2_with fail
  refine (HK.out _).mono ?_
  rintro e w3 ⟨rfl, rfl⟩
  go_wp2_with fail
  go_ret3
  exact ⟨rfl, HB.out⟩
set_option maxHeartbeats 4000000 in
theorem c_rElem (l : List UInt8) (w : World) (hm : l.length ≤ 9223372036854775807) :
    Calls Tryz.prog 23 #[.string ⟨l.toArray⟩] w fun e w' => ElR (elA l) w e w' := by
  rcases ho : tk l with _ | t
  · have HF := Lib.hid (c_rForm l w hm)
    rw [ho] at HF
    have hd : elA l = ([], 0, 2) := by unfold elA; rw [ho]
    rw [hd]
    clear ho hd
    go_enter Tryz.func23, Tryz.ntmps23
    go_wp2_with fail
    refine HF.out.mono ?_
    rintro e w2 ⟨rfl, hb⟩
    have HB := Lib.hid hb
    clear hb
    rw [show (none : Option Ty).isSome = false from rfl]
    go_wp2_with fail
    go_ret3
    exact ⟨rfl, HB.out⟩
  · have hd : elA l = elT t := by unfold elA; rw [ho]
    rw [hd]
    obtain ⟨hwf, hlc, hln⟩ := tk_some ho
    match t, ho, hwf, hlc with
    | .arr n u, ho, hwf, hlc => exact rel_in l _ u n ho 97 rfl (.inr rfl) w hm (fun w => c_rinner_arr n u w hwf.1 (by rw [← hlc]; exact hln))
    | .ptr u, ho, _, hlc => exact rel_in l _ u 0 ho 112 rfl (.inl rfl) w hm (fun w => c_rinner_ptr u w (by rw [← hlc]; exact hln))
    | .str s, ho, _, _ => exact rel_no l _ ho 83 rfl rfl rfl w hm
    | .fn ps r, ho, _, _ => exact rel_no l _ ho 102 rfl rfl rfl w hm
    | .base c, ho, hwf, _ =>
      have hc : baseC c = true := hwf
      unfold baseC at hc
      simp at hc
      rcases hc with ((((hc | hc) | hc) | hc) | hc) | hc
      · subst hc; exact rel_no l _ ho 118 rfl rfl rfl w hm
      · subst hc; exact rel_no l _ ho 99 rfl rfl rfl w hm
      · subst hc; exact rel_no l _ ho 115 rfl rfl rfl w hm
      · subst hc; exact rel_no l _ ho 105 rfl rfl rfl w hm
      · subst hc; exact rel_no l _ ho 117 rfl rfl rfl w hm
      · subst hc; exact rel_no l _ ho 106 rfl rfl rfl w hm
/-- What a function answers, and its parameters: the answer. -/
def sgT (t : Ty) : List UInt8 × List (List UInt8) × Int := match t with
  | .fn ps r => (r.code, ps.list.map Ty.code, 0)
  | _ => ([], [], 5)
def sgA (l : List UInt8) : List UInt8 × List (List UInt8) × Int := match tk l with
  | none => ([], [], 2)
  | some t => sgT t
abbrev SgR (x : List UInt8 × List (List UInt8) × Int) (w : World) (e : Ending) (w' : World) : Prop := (∃ a c, e = .returned (.tuple #[.string ⟨x.1.toArray⟩, .slice a x.2.1.length c, .int .i64 x.2.2]) ∧ StrIn w' a x.2.1) ∧ Below w.heap.size w w'
theorem StrIn.nil (w : World) : StrIn w none [] := fun h => by simp at h
set_option maxHeartbeats 4000000 in
theorem rsg_no (l : List UInt8) (t : Ty) (ho : tk l = some t) (xI : Int) (hxI : (t.letter.toNat : Int) = xI) (h1 : (xI == 102) = false) (w : World) (hm : l.length ≤ 9223372036854775807) :
    Calls Tryz.prog 25 #[.string ⟨l.toArray⟩] w fun e w' => SgR ([], [], 5) w e w' := by
  have HF := Lib.hid (c_rForm l w hm)
  rw [ho] at HF
  obtain ⟨hwf, hlc, hln⟩ := tk_some ho
  have HK := Lib.hid (c_rkind t)
  rw [← hlc, hxI] at HK
  have h3 : (xI != 102) = true := by simp [bne, h1]
  clear ho hwf hlc hln hxI
  go_enter Tryz.func25, Tryz.ntmps25
  go_wp2_with fail
  refine HF.out.mono ?_
  rintro e w2 ⟨rfl, hb⟩
  have HB := Lib.hid hb
  clear hb
  rw [show (some t).isSome = true from rfl]
  go_wp2_with fail
  refine (HK.out _).mono ?_
  rintro e w3 ⟨rfl, rfl⟩
  go_wp2_with fail
  go_ret3
  exact ⟨⟨none, 0, rfl, StrIn.nil _⟩, HB.out⟩
set_option maxHeartbeats 4000000 in
theorem rsg_fn (l : List UInt8) (ps : Tys) (r : Ty) (ho : tk l = some (.fn ps r)) (w : World) (hm : l.length ≤ 9223372036854775807) :
    Calls Tryz.prog 25 #[.string ⟨l.toArray⟩] w fun e w' => SgR (r.code, ps.list.map Ty.code, 0) w e w' := by
  have HF := Lib.hid (c_rForm l w hm)
  rw [ho] at HF
  obtain ⟨hwf, hlc, hln⟩ := tk_some ho
  have HK := Lib.hid (c_rkind (.fn ps r))
  have hk0 : (((Ty.fn ps r).letter.toNat : Int)) = 102 := rfl
  rw [hk0, ← hlc] at HK
  have HS := Lib.hid (fun w => c_rsign ps r hwf w (by rw [← hlc]; exact hln))
  rw [← hlc] at HS
  clear ho hwf hlc hln hk0
  go_enter Tryz.func25, Tryz.ntmps25
  go_wp2_with fail
  refine HF.out.mono ?_
  rintro e w2 ⟨rfl, hb⟩
  have HB := Lib.hid hb
  clear hb
  rw [show (some (Ty.fn ps r)).isSome = true from rfl]
  go_wp2_with fail
  refine (HK.out _).mono ?_
  rintro e w3 ⟨rfl, rfl⟩
  go_wp2_with fail
  refine (HS.out _).mono ?_
  rintro e w4 ⟨⟨a, c, rfl, hst⟩, hb4⟩
  have HB4 := Lib.hid (below_on HB.out hb4 HB.out.size)
  have HSt := Lib.hid hst
  clear hb4 hst
  go_wp2_with fail
  go_ret3
  exact ⟨⟨a, c, by simp, HSt.out⟩, HB4.out⟩
set_option maxHeartbeats 4000000 in
theorem c_rSign (l : List UInt8) (w : World) (hm : l.length ≤ 9223372036854775807) :
    Calls Tryz.prog 25 #[.string ⟨l.toArray⟩] w fun e w' => SgR (sgA l) w e w' := by
  rcases ho : tk l with _ | t
  · have HF := Lib.hid (c_rForm l w hm)
    rw [ho] at HF
    have hd : sgA l = ([], [], 2) := by unfold sgA; rw [ho]
    rw [hd]
    clear ho hd
    go_enter Tryz.func25, Tryz.ntmps25
    go_wp2_with fail
    refine HF.out.mono ?_
    rintro e w2 ⟨rfl, hb⟩
    have HB := Lib.hid hb
    clear hb
    rw [show (none : Option Ty).isSome = false from rfl]
    go_wp2_with fail
    go_ret3
    exact ⟨⟨none, 0, rfl, StrIn.nil _⟩, HB.out⟩
  · have hd : sgA l = sgT t := by unfold sgA; rw [ho]
    rw [hd]
    obtain ⟨hwf, hlc, hln⟩ := tk_some ho
    match t, ho, hwf, hlc with
    | .arr n u, ho, _, _ => exact rsg_no l _ ho 97 rfl rfl w hm
    | .ptr u, ho, _, _ => exact rsg_no l _ ho 112 rfl rfl w hm
    | .str s, ho, _, _ => exact rsg_no l _ ho 83 rfl rfl w hm
    | .fn ps r, ho, _, _ => exact rsg_fn l ps r ho w hm
    | .base c, ho, hwf, _ =>
      have hc : baseC c = true := hwf
      unfold baseC at hc
      simp at hc
      rcases hc with ((((hc | hc) | hc) | hc) | hc) | hc
      · subst hc; exact rsg_no l _ ho 118 rfl rfl w hm
      · subst hc; exact rsg_no l _ ho 99 rfl rfl w hm
      · subst hc; exact rsg_no l _ ho 115 rfl rfl w hm
      · subst hc; exact rsg_no l _ ho 105 rfl rfl w hm
      · subst hc; exact rsg_no l _ ho 117 rfl rfl w hm
      · subst hc; exact rsg_no l _ ho 106 rfl rfl w hm
end Go.Proofs.YtacbjhbiaaieoaaGreatDoor
namespace Go.Proofs.YtacbjhbiaaieoaaGreatDoor
set_option linter.unusedVariables false
set_option linter.unusedSimpArgs false
set_option maxRecDepth 100000
open Go.RowKit

def isIA (l : List UInt8) : Bool := match tk l with | none => false | some t => intI t.letter.toNat
def scA (l : List UInt8) : Bool := match tk l with | none => false | some t => scaI t.letter.toNat
theorem ri_tk (l : List UInt8) : riI l = isIA l := by
  unfold isIA
  rcases ho : tk l with _ | t
  · show riI l = false
    cases hr : riI l with
    | false => rfl
    | true =>
      unfold riI at hr
      simp only [Bool.or_eq_true, beq_iff_eq] at hr
      rcases hr with ((hr | hr) | hr) | hr
      all_goals
        rw [hr, tk_b _ (by decide)] at ho
        cases ho
  · obtain ⟨hwf, hlc, _⟩ := tk_some ho
    show riI l = intI t.letter.toNat
    rw [hlc]
    exact ri_int t hwf
set_option maxHeartbeats 4000000 in
theorem c_IsInt (B : Nat) (l : List UInt8) (w : World) (hE : Env B w) (hB : B ≤ w.heap.size) (hm : l.length ≤ 9223372036854775807) :
    Calls Tryz.prog 37 #[.string ⟨l.toArray⟩] w fun e w' => e = .returned (.bool (isIA l)) ∧ Below w.heap.size w w' := by
  have HT := Lib.hid (c_tkI B l w hE hB hm)
  have HI := Lib.hid (c_isInt)
  obtain ⟨r, hr⟩ : ∃ r, isIA l = r := ⟨_, rfl⟩
  have HRs : Hid (∀ x : Int, (∀ t, tk l = some t → x = t.letter.toNat) → r = ((tk l).isSome && intI x)) := fun x hx => by
    rw [← hr]
    unfold isIA
    rcases h1 : tk l with _ | t
    · rfl
    · have ex := hx t h1
      subst ex
      rfl
  rw [hr]
  clear hE hr
  go_enter Tryz.func37, Tryz.ntmps37
  go_wp2_with fail
  refine HT.out.mono ?_
  rintro e w1 ⟨⟨x0, s1, x2, s3, a, n, c, q, rfl, hq, hx⟩, hb⟩
  have HB := Lib.hid hb
  have hR : r = (q && intI x0) := by rw [HRs.out x0 hx, hq]
  clear hb hq hx HRs
  cases q
  · obtain rfl : r = false := hR
    go_wp2_with fail
    go_ret
    exact ⟨rfl, HB.out.alloc HB.out.size _⟩
  · obtain rfl : r = intI x0 := hR
    go_wp2_with fail
    refine (HI.out x0 s1 x2 s3 a n c _).mono ?_
    rintro e w2 ⟨rfl, hb2⟩
    have HB2 := Lib.hid (below_on (HB.out.alloc HB.out.size (.cells #[.int .u8 x0, .string s1, .int .i64 x2, .string s3, .slice a n c] 68)) hb2 (by have := HB.out.size; simp; omega))
    clear hb2
    go_wp2_with fail
    go_ret
    exact ⟨rfl, HB2.out⟩
set_option maxHeartbeats 4000000 in
theorem c_IsScalar (B : Nat) (l : List UInt8) (w : World) (hE : Env B w) (hB : B ≤ w.heap.size) (hm : l.length ≤ 9223372036854775807) :
    Calls Tryz.prog 39 #[.string ⟨l.toArray⟩] w fun e w' => e = .returned (.bool (scA l)) ∧ Below w.heap.size w w' := by
  have HT := Lib.hid (c_tkI B l w hE hB hm)
  have HI := Lib.hid (c_isScalar)
  obtain ⟨r, hr⟩ : ∃ r, scA l = r := ⟨_, rfl⟩
  have HRs : Hid (∀ x : Int, (∀ t, tk l = some t → x = t.letter.toNat) → r = ((tk l).isSome && scaI x)) := fun x hx => by
    rw [← hr]
    unfold scA
    rcases h1 : tk l with _ | t
    · rfl
    · have ex := hx t h1
      subst ex
      rfl
  rw [hr]
  clear hE hr
  go_enter Tryz.func39, Tryz.ntmps39
  go_wp2_with fail
  refine HT.out.mono ?_
  rintro e w1 ⟨⟨x0, s1, x2, s3, a, n, c, q, rfl, hq, hx⟩, hb⟩
  have HB := Lib.hid hb
  have hR : r = (q && scaI x0) := by rw [HRs.out x0 hx, hq]
  clear hb hq hx HRs
  cases q
  · obtain rfl : r = false := hR
    go_wp2_with fail
    go_ret
    exact ⟨rfl, HB.out.alloc HB.out.size _⟩
  · obtain rfl : r = scaI x0 := hR
    go_wp2_with fail
    refine (HI.out x0 s1 x2 s3 a n c _).mono ?_
    rintro e w2 ⟨rfl, hb2⟩
    have HB2 := Lib.hid (below_on (HB.out.alloc HB.out.size (.cells #[.int .u8 x0, .string s1, .int .i64 x2, .string s3, .slice a n c] 68)) hb2 (by have := HB.out.size; simp; omega))
    clear hb2
    go_wp2_with fail
    go_ret
    exact ⟨rfl, HB2.out⟩
set_option maxHeartbeats 4000000 in
theorem el_no (B : Nat) (l : List UInt8) (t : Ty) (ho : tk l = some t) (xI : Int) (hxI : (t.letter.toNat : Int) = xI) (h1 : (xI == 112) = false) (h2 : (xI == 97) = false) (w : World) (hE : Env B w) (hB : B ≤ w.heap.size) (hm : l.length ≤ 9223372036854775807) :
    Calls Tryz.prog 22 #[.string ⟨l.toArray⟩] w fun e w' => ElR ([], 0, 5) w e w' := by
  have HT := Lib.hid (c_tkS B l w hE hB hm t ho)
  obtain ⟨x2, hx2⟩ : ∃ x2 : Int, (t.count : Int) = x2 := ⟨_, rfl⟩
  obtain ⟨s1, hs1⟩ : ∃ s1, (⟨t.code.toArray⟩ : ByteArray) = s1 := ⟨_, rfl⟩
  obtain ⟨s3, hs3⟩ : ∃ s3, (⟨t.tag.toArray⟩ : ByteArray) = s3 := ⟨_, rfl⟩
  rw [hxI, hx2, hs1, hs3] at HT
  have h3 : (xI != 112) = true := by simp [bne, h1]
  have h4 : (xI != 97) = true := by simp [bne, h2]
  clear hxI hx2 hs1 hs3 hE ho
  go_enter Tryz.func22, Tryz.ntmps22
  go_wp2_with fail
  refine HT.out.mono ?_
  rintro e w1 ⟨⟨a, n, c, rfl, hn⟩, hb⟩
  have HB := Lib.hid hb
  clear hb HT hn
  go_wp2_with fail
  go_ret3
  exact ⟨rfl, HB.out.alloc HB.out.size _⟩
set_option maxHeartbeats 4000000 in
theorem c_ElemA (B : Nat) (l : List UInt8) (w : World) (hE : Env B w) (hB : B ≤ w.heap.size) (hm : l.length ≤ 9223372036854775807) :
    Calls Tryz.prog 22 #[.string ⟨l.toArray⟩] w fun e w' => ElR (elA l) w e w' := by
  rcases ho : tk l with _ | t
  · have HT := Lib.hid (c_tkN B l w hE hB hm ho)
    have hd : elA l = ([], 0, 2) := by unfold elA; rw [ho]
    rw [hd]
    clear hE ho hd
    go_enter Tryz.func22, Tryz.ntmps22
    go_wp2_with fail
    refine HT.out.mono ?_
    rintro e w1 ⟨rfl, hb⟩
    have HB := Lib.hid hb
    clear hb HT
    go_wp2_with fail
    go_ret3
    exact ⟨rfl, HB.out.alloc HB.out.size _⟩
  · have hd : elA l = elT t := by unfold elA; rw [ho]
    rw [hd]
    obtain ⟨hwf, hlc, hln⟩ := tk_some ho
    match t, ho, hwf with
    | .arr n u, ho, _ => exact c_Elem B l w hE hB hm _ u ho rfl 97 rfl (.inr rfl)
    | .ptr u, ho, _ => exact c_Elem B l w hE hB hm _ u ho rfl 112 rfl (.inl rfl)
    | .str s, ho, _ => exact el_no B l _ ho 83 rfl rfl rfl w hE hB hm
    | .fn ps r, ho, _ => exact el_no B l _ ho 102 rfl rfl rfl w hE hB hm
    | .base c, ho, hwf =>
      have hc : baseC c = true := hwf
      unfold baseC at hc
      simp at hc
      rcases hc with ((((hc | hc) | hc) | hc) | hc) | hc
      · subst hc; exact el_no B l _ ho 118 rfl rfl rfl w hE hB hm
      · subst hc; exact el_no B l _ ho 99 rfl rfl rfl w hE hB hm
      · subst hc; exact el_no B l _ ho 115 rfl rfl rfl w hE hB hm
      · subst hc; exact el_no B l _ ho 105 rfl rfl rfl w hE hB hm
      · subst hc; exact el_no B l _ ho 117 rfl rfl rfl w hE hB hm
      · subst hc; exact el_no B l _ ho 106 rfl rfl rfl w hE hB hm
set_option maxHeartbeats 4000000 in
theorem sg_no (B : Nat) (l : List UInt8) (t : Ty) (ho : tk l = some t) (xI : Int) (hxI : (t.letter.toNat : Int) = xI) (h1 : (xI == 102) = false) (w : World) (hE : Env B w) (hB : B ≤ w.heap.size) (hm : l.length ≤ 9223372036854775807) :
    Calls Tryz.prog 24 #[.string ⟨l.toArray⟩] w fun e w' => SgR ([], [], 5) w e w' := by
  have HT := Lib.hid (c_tkS B l w hE hB hm t ho)
  obtain ⟨x2, hx2⟩ : ∃ x2 : Int, (t.count : Int) = x2 := ⟨_, rfl⟩
  obtain ⟨s1, hs1⟩ : ∃ s1, (⟨t.code.toArray⟩ : ByteArray) = s1 := ⟨_, rfl⟩
  obtain ⟨s3, hs3⟩ : ∃ s3, (⟨t.tag.toArray⟩ : ByteArray) = s3 := ⟨_, rfl⟩
  rw [hxI, hx2, hs1, hs3] at HT
  have h3 : (xI != 102) = true := by simp [bne, h1]
  clear hxI hx2 hs1 hs3 hE ho
  go_enter Tryz.func24, Tryz.ntmps24
  go_wp2_with fail
  refine HT.out.mono ?_
  rintro e w1 ⟨⟨a, n, c, rfl, hn⟩, hb⟩
  have HB := Lib.hid hb
  clear hb HT hn
  go_wp2_with fail
  go_ret3
  exact ⟨⟨none, 0, rfl, StrIn.nil _⟩, HB.out.alloc HB.out.size _⟩
set_option maxHeartbeats 4000000 in
theorem c_SignA (B : Nat) (l : List UInt8) (w : World) (hE : Env B w) (hB : B ≤ w.heap.size) (hm : l.length ≤ 9223372036854775807) :
    Calls Tryz.prog 24 #[.string ⟨l.toArray⟩] w fun e w' => SgR (sgA l) w e w' := by
  rcases ho : tk l with _ | t
  · have HT := Lib.hid (c_tkN B l w hE hB hm ho)
    have hd : sgA l = ([], [], 2) := by unfold sgA; rw [ho]
    rw [hd]
    clear hE ho hd
    go_enter Tryz.func24, Tryz.ntmps24
    go_wp2_with fail
    refine HT.out.mono ?_
    rintro e w1 ⟨rfl, hb⟩
    have HB := Lib.hid hb
    clear hb HT
    go_wp2_with fail
    go_ret3
    exact ⟨⟨none, 0, rfl, StrIn.nil _⟩, HB.out.alloc HB.out.size _⟩
  · have hd : sgA l = sgT t := by unfold sgA; rw [ho]
    rw [hd]
    obtain ⟨hwf, hlc, hln⟩ := tk_some ho
    match t, ho, hwf with
    | .fn ps r, ho, _ => exact (c_Sign B l w hE hB hm ps r ho).mono fun e w' h => ⟨by
        obtain ⟨⟨a, c, h1, h2⟩, _⟩ := h
        exact ⟨a, c, by rw [h1]; simp [sgT], h2⟩, h.2⟩
    | .arr n u, ho, _ => exact sg_no B l _ ho 97 rfl rfl w hE hB hm
    | .ptr u, ho, _ => exact sg_no B l _ ho 112 rfl rfl w hE hB hm
    | .str s, ho, _ => exact sg_no B l _ ho 83 rfl rfl w hE hB hm
    | .base c, ho, hwf =>
      have hc : baseC c = true := hwf
      unfold baseC at hc
      simp at hc
      rcases hc with ((((hc | hc) | hc) | hc) | hc) | hc
      · subst hc; exact sg_no B l _ ho 118 rfl rfl w hE hB hm
      · subst hc; exact sg_no B l _ ho 99 rfl rfl w hE hB hm
      · subst hc; exact sg_no B l _ ho 115 rfl rfl w hE hB hm
      · subst hc; exact sg_no B l _ ho 105 rfl rfl w hE hB hm
      · subst hc; exact sg_no B l _ ho 117 rfl rfl w hE hB hm
      · subst hc; exact sg_no B l _ ho 106 rfl rfl w hE hB hm
end Go.Proofs.YtacbjhbiaaieoaaGreatDoor
