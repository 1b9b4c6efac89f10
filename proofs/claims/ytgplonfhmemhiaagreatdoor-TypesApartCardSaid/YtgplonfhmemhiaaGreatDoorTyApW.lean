/-
  The walk of the law: what a pointer, an array, a function is made of is told again.
-/
import Derived.Test.YtgplonfhmemhiaaGreatDoorTyWk
import Derived.Test.YtgplonfhmemhiaaGreatDoorTySg
import Derived.Test.YtgplonfhmemhiaaGreatDoorTySm
import Derived.Test.YtgplonfhmemhiaaGreatDoorTyN3
namespace Go.Proofs.YtgplonfhmemhiaaGreatDoor
set_option linter.unusedVariables false
set_option linter.unusedSimpArgs false
set_option maxRecDepth 100000
open Go.RowKit

theorem b_app (x y : List UInt8) : (⟨x.toArray⟩ : ByteArray) ++ ⟨y.toArray⟩ = ⟨(x ++ y).toArray⟩ := by
  apply ByteArray.ext
  simp [ByteArray.data_append]
/-- The contract of a function's type put together. -/
abbrev FuC (fx : List UInt8) (fe : Int) (B : Nat) (r : List UInt8) (a : Option Addr) (n c : Nat) (w : World) : Prop :=
  Calls Tryz.prog 21 #[.string ⟨r.toArray⟩, .slice a n c] w fun e w' => e = .returned (.tuple #[.string ⟨fx.toArray⟩, .int .i64 fe]) ∧ Below w.heap.size w w'
set_option maxHeartbeats 8000000 in
theorem c_Apart (B : Nat) (l : List UInt8) (a : Option Addr) (c : Nat) (L : List (List UInt8)) (n : Int) (fx : List UInt8) (fe : Int) (w : World) (hE : Env B w) (hB : B ≤ w.heap.size) (hl : l.length ≤ 9223372036854775807) (hS : StrIn w a L)
    (hF : ∀ w', Below w.heap.size w w' → FuC fx fe B l a L.length c w')
    (hok : fe = 0 → ∃ (ts : List Ty) (t : Ty), L = ts.map Ty.code ∧ l = t.code ∧ tk fx = some (.fn (Tys.of ts) t) ∧ L.length ≤ 8) (herr : fe ≠ 0 → fx = []) :
    Calls Tryz.prog 5 #[.string ⟨l.toArray⟩, .slice a L.length c, .int .i64 n] w fun e w' => e = .returned (.bool true) ∧ Below w.heap.size w w' := by
  have HW := Lib.hid (c_works B w hE hB)
  have HFm := Lib.hid (fun (a : List UInt8) (ha : a.length ≤ 9223372036854775807) w' (h : Below w.heap.size w w') => c_Form B a w' (hE.next (h.mono hB)) (Nat.le_trans hB h.size) ha)
  have HEl := Lib.hid (fun (a : List UInt8) (ha : a.length ≤ 9223372036854775807) (t u : Ty) (ht : tk a = some t) (hp : t.parts = [u]) (x0 : Int) (hx0 : (t.letter.toNat : Int) = x0) (hx : x0 = 112 ∨ x0 = 97) w' (h : Below w.heap.size w w') => c_Elem B a w' (hE.next (h.mono hB)) (Nat.le_trans hB h.size) ha t u ht hp x0 hx0 hx)
  have HSg := Lib.hid (fun (a : List UInt8) (ha : a.length ≤ 9223372036854775807) (ps : Tys) (r : Ty) (ht : tk a = some (.fn ps r)) w' (h : Below w.heap.size w w') => c_Sign B a w' (hE.next (h.mono hB)) (Nat.le_trans hB h.size) ha ps r ht)
  have HSt := Lib.hid (fun w' (h : Below w.heap.size w w') => hS.next h)
  have HFu := Lib.hid hF
  have HOk := Lib.hid (And.intro hok herr)
  have HFl := Lib.hid (HFm.out l hl)
  clear hE hS hF hok herr
  go_enter Tryz.func5, Tryz.ntmps5
  go_wp2_with fail
  refine HW.out.mono ?_
  rintro e9 w1 ⟨rfl, hb⟩
  have HB1 := Lib.hid hb
  clear hb HW
  go_wp2_with fail
  refine (HFl.out _ HB1.out).mono ?_
  rintro e9 w2 ⟨rfl, hb⟩
  have HB2 := Lib.hid (below_on HB1.out hb HB1.out.size)
  clear hb HFl
  rcases htl : tk l with _ | t
  · rw [show (none : Option Ty).isSome = false from rfl]
    clear htl
    go_wp2_with fail
    have HBx := HB2
    refine (HFu.out _ HBx.out).mono ?_
    rintro e9 wf ⟨rfl, hb⟩
    have HBf := Lib.hid (below_on HBx.out hb HBx.out.size)
    clear hb HFu
    cases hz : fe == 0
    · have h1 : fx = [] := HOk.out.2 (by intro e; rw [e] at hz; cases hz)
      subst h1
      go_wp2_with fail
      go_ret
      exact ⟨rfl, HBf.out⟩
    · obtain rfl : fe = 0 := by simpa using hz
      obtain ⟨ts, t0, hL, hlt0, htx, h8⟩ := HOk.out.1 rfl
      have HG : Hid (∀ w', Below w.heap.size w w' → Calls Tryz.prog 22 #[.string ⟨fx.toArray⟩] w' fun e w'' => (∃ a c, e = .returned (.tuple #[.string ⟨l.toArray⟩, .slice a L.length c, .int .i64 0]) ∧ StrIn w'' a L) ∧ Below w'.heap.size w' w'') := fun w' h => by
        have h1 := HSg.out fx (by have := (tk_some htx).2.2; omega) (Tys.of ts) t0 htx w' h
        rw [of_list, ← hL, ← hlt0, show ts.length = L.length by rw [hL]; simp] at h1
        exact h1
      have HFx := Lib.hid (HFm.out fx (by have := (tk_some htx).2.2; omega))
      rw [htx] at HFx
      have H8 := Lib.hid h8
      clear hz hL hlt0 htx h8
      go_wp2_with fail
      refine (HG.out _ HBf.out).mono ?_
      rintro e9 wg ⟨⟨a', c', rfl, hst⟩, hb⟩
      have HBg := Lib.hid (below_on HBf.out hb HBf.out.size)
      have HS2 := Lib.hid hst
      clear hb hst HG
      go_wp2_with fail
      refine (c_same a' c' a c L wg HS2.out (HSt.out _ HBg.out) (by have := H8.out; omega)).mono ?_
      rintro e9 wh ⟨rfl, nn, rfl⟩
      have HBh := Lib.hid (below_drewN HBg.out nn)
      go_wp2_with fail
      refine (HFx.out _ HBh.out).mono ?_
      rintro e9 wi ⟨rfl, hb⟩
      have HBi := Lib.hid (below_on HBh.out hb HBh.out.size)
      clear hb
      go_wp2_with fail
      go_ret
      exact ⟨rfl, HBi.out⟩
  · rw [show (some t).isSome = true from rfl]
    by_cases hln : l.length < 65528
    · have hd : decide ((l.length : Int) < 65528) = true := by simp; omega
      have HTl := Lib.hid htl
      have HLn := Lib.hid hln
      clear hln
      obtain ⟨k, kI, a1, b0, b1, c1, A, Bb, Cc, x, y, z, hD⟩ := dig3 n
      have HD := Lib.hid hD
      obtain ⟨hk1, hki, e1, _, _, _, _, _, _, _, _, _, _, xA, yB, zC, hx8, hy8, hz8⟩ := hD
      have hA : 48 + kI / 100 = A := by rw [← xA, hx8, of8 _ (by omega), ← hki]; omega
      have hB' : 48 + kI / 10 % 10 = Bb := by rw [← yB, hy8, of8 _ (by omega), ← hki]; omega
      have hC : 48 + kI % 10 = Cc := by rw [← zC, hz8, of8 _ (by omega), ← hki]; omega
      have hk0 : 0 ≤ kI := by omega
      have hk9 : kI < 1000 := by omega
      have hcv : ∀ o : Obj, o = .cells #[.int .u8 A, .int .u8 Bb, .int .u8 Cc] 5 → (convert 45 9 (.slice (some ⟨w2.heap.size, 0, none⟩) 3 3)).run Tryz.prog (w2.alloc o) = .ok (.string ⟨[x, y, z].toArray⟩) (w2.alloc o) := fun o ho => by
        subst ho
        refine run_convert_bytes_back (w2.alloc _) 45 9 5 ⟨w2.heap.size, 0, none⟩ 3 [x, y, z] Tryz.underlying45 Tryz.underlying5 Tryz.underlying9 ?_
        intro j hj
        have hb := heap_alloc_new w2 (.cells #[.int .u8 A, .int .u8 Bb, .int .u8 Cc] 5)
        match j, hj with
        | 0, _ => rw [show ((⟨w2.heap.size, 0, none⟩ : Addr).add 0) = ⟨w2.heap.size, 0, none⟩ from rfl, Lib.cell_of_heap hb]; show some (Value.int .u8 A) = _; rw [← xA]; rfl
        | 1, _ => rw [show ((⟨w2.heap.size, 0, none⟩ : Addr).add 1) = ⟨w2.heap.size, 1, none⟩ from rfl, Lib.cell_of_heap hb]; show some (Value.int .u8 Bb) = _; rw [← yB]; rfl
        | 2, _ => rw [show ((⟨w2.heap.size, 0, none⟩ : Addr).add 2) = ⟨w2.heap.size, 2, none⟩ from rfl, Lib.cell_of_heap hb]; show some (Value.int .u8 Cc) = _; rw [← zC]; rfl
      have hcw := hcv _ rfl
      clear htl hcv hx8 hy8 hz8 hki hk1
      go_wp2_with fail
      clear hd hcw
      by_cases k100 : k < 100
      · have hA48 : (A == 48) = true := by rw [beq_iff_eq, ← hA, ← HD.out.ki]; omega
        have hi0 : ∀ h, (((⟨#[x, y, z]⟩ : ByteArray)[0]'h).toNat : Int) = A := fun h => xA
        have hi1 : ∀ h, (((⟨#[y, z]⟩ : ByteArray)[0]'h).toNat : Int) = Bb := fun h => yB
        have hex1 : (⟨#[x, y, z]⟩ : ByteArray).extract 1 3 = ⟨#[y, z]⟩ := rfl
        by_cases k10 : k < 10
        · have hB48 : (Bb == 48) = true := by rw [beq_iff_eq, ← hB', ← HD.out.ki]; omega
          have hex2 : (⟨#[y, z]⟩ : ByteArray).extract 1 2 = ⟨#[z]⟩ := rfl
          have hdk : Lib.decDigits k = [z] := by rw [HD.out.z_]; exact dd1 k10
          refine wp_loop_rounds 3 ?_
          rw [rounds_succ]
          go_wp2_with fail
          rw [rounds_succ]
          go_wp2_with fail
          rw [rounds_succ]
          have hln := HLn.out
          have ap1 : (⟨#[112]⟩ : ByteArray) ++ ⟨l.toArray⟩ = ⟨([112] ++ l).toArray⟩ := b_app [112] l
          have ap2 : (⟨#[97]⟩ : ByteArray) ++ ⟨#[z]⟩ = ⟨#[97, z]⟩ := b_app [97] [z]
          have ap3 : (⟨#[97, z]⟩ : ByteArray) ++ ⟨#[58]⟩ = ⟨#[97, z, 58]⟩ := b_app [97, z] [58]
          have ap4 : (⟨#[97, z, 58]⟩ : ByteArray) ++ ⟨l.toArray⟩ = ⟨([97] ++ [z] ++ [58] ++ l).toArray⟩ := b_app [97, z, 58] l
          have hs1 : ¬ 9223372036854775807 < 1 + l.length := by omega
          have hs3 : ¬ 9223372036854775807 < 3 + l.length := by omega
          have hs4 : ¬ 9223372036854775807 < 4 + l.length := by omega
          have hs5 : ¬ 9223372036854775807 < 5 + l.length := by omega
          have HE1 : Hid (∀ w', Below w.heap.size w w' → Calls Tryz.prog 20 #[.string ⟨([112] ++ l).toArray⟩] w' fun e w'' => e = .returned (.tuple #[.string ⟨l.toArray⟩, .int .i64 0, .int .i64 0]) ∧ Below w'.heap.size w' w'') := fun w' h => by
            obtain ⟨hwf, hlc, hlen⟩ := tk_some HTl.out
            have htp : tk ([112] ++ l) = some (.ptr t) := by
              rw [hlc] at hln ⊢
              exact tk_code (t := .ptr t) hwf (by show (112 :: t.code).length ≤ _; rw [List.length_cons]; omega)
            have h1 := HEl.out ([112] ++ l) (by simp; omega) (.ptr t) t htp rfl 112 rfl (.inl rfl) w' h
            rw [← hlc] at h1
            exact h1
          have HE2 : Hid (∀ w', Below w.heap.size w w' → Calls Tryz.prog 20 #[.string ⟨([97] ++ [z] ++ [58] ++ l).toArray⟩] w' fun e w'' => e = .returned (.tuple #[.string ⟨l.toArray⟩, .int .i64 kI, .int .i64 0]) ∧ Below w'.heap.size w' w'') := fun w' h => by
            obtain ⟨hwf, hlc, hlen⟩ := tk_some HTl.out
            have hta : tk ([97] ++ [z] ++ [58] ++ l) = some (.arr k t) := by
              have hcd : (Ty.arr k t).code = [97] ++ [z] ++ [58] ++ l := by
                show 97 :: (Lib.decDigits k ++ 58 :: t.code) = _
                rw [hdk, ← hlc]
                simp
              rw [← hcd]
              exact tk_code (t := .arr k t) ⟨by have := HD.out.lt; omega, hwf⟩ (by rw [hcd]; simp; omega)
            have h1 := HEl.out ([97] ++ [z] ++ [58] ++ l) (by simp; omega) (.arr k t) t hta rfl 97 rfl (.inr rfl) w' h
            rw [← hlc, show ((Ty.arr k t).count : Int) = kI from HD.out.ki] at h1
            exact h1
          have HBa := Lib.hid (HB2.out.alloc HB2.out.size (.cells #[.int .u8 A, .int .u8 Bb, .int .u8 Cc] 5))
          clear hdk hln
          go_wp2_with fail
          refine (HE1.out _ HBa.out).mono ?_
          rintro e9 wp ⟨rfl, hb⟩
          have HBp := Lib.hid (below_on HBa.out hb HBa.out.size)
          clear hb HE1
          go_wp2_with fail
          refine (HE2.out _ HBp.out).mono ?_
          rintro e9 wq ⟨rfl, hb⟩
          have HBx := Lib.hid (below_on HBp.out hb HBp.out.size)
          clear hb HE2
          go_wp2_with fail

          refine (HFu.out _ HBx.out).mono ?_
          rintro e9 wf ⟨rfl, hb⟩
          have HBf := Lib.hid (below_on HBx.out hb HBx.out.size)
          clear hb HFu
          cases hz : fe == 0
          · have h1 : fx = [] := HOk.out.2 (by intro e; rw [e] at hz; cases hz)
            subst h1
            go_wp2_with fail
            go_ret
            exact ⟨rfl, HBf.out⟩
          · obtain rfl : fe = 0 := by simpa using hz
            obtain ⟨ts, t0, hL, hlt0, htx, h8⟩ := HOk.out.1 rfl
            have HG : Hid (∀ w', Below w.heap.size w w' → Calls Tryz.prog 22 #[.string ⟨fx.toArray⟩] w' fun e w'' => (∃ a c, e = .returned (.tuple #[.string ⟨l.toArray⟩, .slice a L.length c, .int .i64 0]) ∧ StrIn w'' a L) ∧ Below w'.heap.size w' w'') := fun w' h => by
              have h1 := HSg.out fx (by have := (tk_some htx).2.2; omega) (Tys.of ts) t0 htx w' h
              rw [of_list, ← hL, ← hlt0, show ts.length = L.length by rw [hL]; simp] at h1
              exact h1
            have HFx := Lib.hid (HFm.out fx (by have := (tk_some htx).2.2; omega))
            rw [htx] at HFx
            have H8 := Lib.hid h8
            clear hz hL hlt0 htx h8
            go_wp2_with fail
            refine (HG.out _ HBf.out).mono ?_
            rintro e9 wg ⟨⟨a', c', rfl, hst⟩, hb⟩
            have HBg := Lib.hid (below_on HBf.out hb HBf.out.size)
            have HS2 := Lib.hid hst
            clear hb hst HG
            go_wp2_with fail
            refine (c_same a' c' a c L wg HS2.out (HSt.out _ HBg.out) (by have := H8.out; omega)).mono ?_
            rintro e9 wh ⟨rfl, nn, rfl⟩
            have HBh := Lib.hid (below_drewN HBg.out nn)
            go_wp2_with fail
            refine (HFx.out _ HBh.out).mono ?_
            rintro e9 wi ⟨rfl, hb⟩
            have HBi := Lib.hid (below_on HBh.out hb HBh.out.size)
            clear hb
            go_wp2_with fail
            go_ret
            exact ⟨rfl, HBi.out⟩
        · have hB48 : (Bb == 48) = false := by rw [beq_eq_false_iff_ne, ← hB', ← HD.out.ki]; omega
          have hdk : Lib.decDigits k = [y, z] := by rw [HD.out.y_, HD.out.z_]; exact dd2 k10 k100
          refine wp_loop_rounds 2 ?_
          rw [rounds_succ]
          go_wp2_with fail
          rw [rounds_succ]
          have hln := HLn.out
          have ap1 : (⟨#[112]⟩ : ByteArray) ++ ⟨l.toArray⟩ = ⟨([112] ++ l).toArray⟩ := b_app [112] l
          have ap2 : (⟨#[97]⟩ : ByteArray) ++ ⟨#[y, z]⟩ = ⟨#[97, y, z]⟩ := b_app [97] [y, z]
          have ap3 : (⟨#[97, y, z]⟩ : ByteArray) ++ ⟨#[58]⟩ = ⟨#[97, y, z, 58]⟩ := b_app [97, y, z] [58]
          have ap4 : (⟨#[97, y, z, 58]⟩ : ByteArray) ++ ⟨l.toArray⟩ = ⟨([97] ++ [y, z] ++ [58] ++ l).toArray⟩ := b_app [97, y, z, 58] l
          have hs1 : ¬ 9223372036854775807 < 1 + l.length := by omega
          have hs3 : ¬ 9223372036854775807 < 3 + l.length := by omega
          have hs4 : ¬ 9223372036854775807 < 4 + l.length := by omega
          have hs5 : ¬ 9223372036854775807 < 5 + l.length := by omega
          have HE1 : Hid (∀ w', Below w.heap.size w w' → Calls Tryz.prog 20 #[.string ⟨([112] ++ l).toArray⟩] w' fun e w'' => e = .returned (.tuple #[.string ⟨l.toArray⟩, .int .i64 0, .int .i64 0]) ∧ Below w'.heap.size w' w'') := fun w' h => by
            obtain ⟨hwf, hlc, hlen⟩ := tk_some HTl.out
            have htp : tk ([112] ++ l) = some (.ptr t) := by
              rw [hlc] at hln ⊢
              exact tk_code (t := .ptr t) hwf (by show (112 :: t.code).length ≤ _; rw [List.length_cons]; omega)
            have h1 := HEl.out ([112] ++ l) (by simp; omega) (.ptr t) t htp rfl 112 rfl (.inl rfl) w' h
            rw [← hlc] at h1
            exact h1
          have HE2 : Hid (∀ w', Below w.heap.size w w' → Calls Tryz.prog 20 #[.string ⟨([97] ++ [y, z] ++ [58] ++ l).toArray⟩] w' fun e w'' => e = .returned (.tuple #[.string ⟨l.toArray⟩, .int .i64 kI, .int .i64 0]) ∧ Below w'.heap.size w' w'') := fun w' h => by
            obtain ⟨hwf, hlc, hlen⟩ := tk_some HTl.out
            have hta : tk ([97] ++ [y, z] ++ [58] ++ l) = some (.arr k t) := by
              have hcd : (Ty.arr k t).code = [97] ++ [y, z] ++ [58] ++ l := by
                show 97 :: (Lib.decDigits k ++ 58 :: t.code) = _
                rw [hdk, ← hlc]
                simp
              rw [← hcd]
              exact tk_code (t := .arr k t) ⟨by have := HD.out.lt; omega, hwf⟩ (by rw [hcd]; simp; omega)
            have h1 := HEl.out ([97] ++ [y, z] ++ [58] ++ l) (by simp; omega) (.arr k t) t hta rfl 97 rfl (.inr rfl) w' h
            rw [← hlc, show ((Ty.arr k t).count : Int) = kI from HD.out.ki] at h1
            exact h1
          have HBa := Lib.hid (HB2.out.alloc HB2.out.size (.cells #[.int .u8 A, .int .u8 Bb, .int .u8 Cc] 5))
          clear hdk hln
          go_wp2_with fail
          refine (HE1.out _ HBa.out).mono ?_
          rintro e9 wp ⟨rfl, hb⟩
          have HBp := Lib.hid (below_on HBa.out hb HBa.out.size)
          clear hb HE1
          go_wp2_with fail
          refine (HE2.out _ HBp.out).mono ?_
          rintro e9 wq ⟨rfl, hb⟩
          have HBx := Lib.hid (below_on HBp.out hb HBp.out.size)
          clear hb HE2
          go_wp2_with fail

          refine (HFu.out _ HBx.out).mono ?_
          rintro e9 wf ⟨rfl, hb⟩
          have HBf := Lib.hid (below_on HBx.out hb HBx.out.size)
          clear hb HFu
          cases hz : fe == 0
          · have h1 : fx = [] := HOk.out.2 (by intro e; rw [e] at hz; cases hz)
            subst h1
            go_wp2_with fail
            go_ret
            exact ⟨rfl, HBf.out⟩
          · obtain rfl : fe = 0 := by simpa using hz
            obtain ⟨ts, t0, hL, hlt0, htx, h8⟩ := HOk.out.1 rfl
            have HG : Hid (∀ w', Below w.heap.size w w' → Calls Tryz.prog 22 #[.string ⟨fx.toArray⟩] w' fun e w'' => (∃ a c, e = .returned (.tuple #[.string ⟨l.toArray⟩, .slice a L.length c, .int .i64 0]) ∧ StrIn w'' a L) ∧ Below w'.heap.size w' w'') := fun w' h => by
              have h1 := HSg.out fx (by have := (tk_some htx).2.2; omega) (Tys.of ts) t0 htx w' h
              rw [of_list, ← hL, ← hlt0, show ts.length = L.length by rw [hL]; simp] at h1
              exact h1
            have HFx := Lib.hid (HFm.out fx (by have := (tk_some htx).2.2; omega))
            rw [htx] at HFx
            have H8 := Lib.hid h8
            clear hz hL hlt0 htx h8
            go_wp2_with fail
            refine (HG.out _ HBf.out).mono ?_
            rintro e9 wg ⟨⟨a', c', rfl, hst⟩, hb⟩
            have HBg := Lib.hid (below_on HBf.out hb HBf.out.size)
            have HS2 := Lib.hid hst
            clear hb hst HG
            go_wp2_with fail
            refine (c_same a' c' a c L wg HS2.out (HSt.out _ HBg.out) (by have := H8.out; omega)).mono ?_
            rintro e9 wh ⟨rfl, nn, rfl⟩
            have HBh := Lib.hid (below_drewN HBg.out nn)
            go_wp2_with fail
            refine (HFx.out _ HBh.out).mono ?_
            rintro e9 wi ⟨rfl, hb⟩
            have HBi := Lib.hid (below_on HBh.out hb HBh.out.size)
            clear hb
            go_wp2_with fail
            go_ret
            exact ⟨rfl, HBi.out⟩
      · have hA48 : (A == 48) = false := by rw [beq_eq_false_iff_ne, ← hA, ← HD.out.ki]; omega
        have hi0 : ∀ h, (((⟨#[x, y, z]⟩ : ByteArray)[0]'h).toNat : Int) = A := fun h => xA
        have hdk : Lib.decDigits k = [x, y, z] := by rw [HD.out.x_, HD.out.y_, HD.out.z_]; exact dd3 k100 HD.out.lt
        refine wp_loop_rounds 1 ?_
        rw [rounds_succ]
        have hln := HLn.out
        have ap1 : (⟨#[112]⟩ : ByteArray) ++ ⟨l.toArray⟩ = ⟨([112] ++ l).toArray⟩ := b_app [112] l
        have ap2 : (⟨#[97]⟩ : ByteArray) ++ ⟨#[x, y, z]⟩ = ⟨#[97, x, y, z]⟩ := b_app [97] [x, y, z]
        have ap3 : (⟨#[97, x, y, z]⟩ : ByteArray) ++ ⟨#[58]⟩ = ⟨#[97, x, y, z, 58]⟩ := b_app [97, x, y, z] [58]
        have ap4 : (⟨#[97, x, y, z, 58]⟩ : ByteArray) ++ ⟨l.toArray⟩ = ⟨([97] ++ [x, y, z] ++ [58] ++ l).toArray⟩ := b_app [97, x, y, z, 58] l
        have hs1 : ¬ 9223372036854775807 < 1 + l.length := by omega
        have hs3 : ¬ 9223372036854775807 < 3 + l.length := by omega
        have hs4 : ¬ 9223372036854775807 < 4 + l.length := by omega
        have hs5 : ¬ 9223372036854775807 < 5 + l.length := by omega
        have HE1 : Hid (∀ w', Below w.heap.size w w' → Calls Tryz.prog 20 #[.string ⟨([112] ++ l).toArray⟩] w' fun e w'' => e = .returned (.tuple #[.string ⟨l.toArray⟩, .int .i64 0, .int .i64 0]) ∧ Below w'.heap.size w' w'') := fun w' h => by
          obtain ⟨hwf, hlc, hlen⟩ := tk_some HTl.out
          have htp : tk ([112] ++ l) = some (.ptr t) := by
            rw [hlc] at hln ⊢
            exact tk_code (t := .ptr t) hwf (by show (112 :: t.code).length ≤ _; rw [List.length_cons]; omega)
          have h1 := HEl.out ([112] ++ l) (by simp; omega) (.ptr t) t htp rfl 112 rfl (.inl rfl) w' h
          rw [← hlc] at h1
          exact h1
        have HE2 : Hid (∀ w', Below w.heap.size w w' → Calls Tryz.prog 20 #[.string ⟨([97] ++ [x, y, z] ++ [58] ++ l).toArray⟩] w' fun e w'' => e = .returned (.tuple #[.string ⟨l.toArray⟩, .int .i64 kI, .int .i64 0]) ∧ Below w'.heap.size w' w'') := fun w' h => by
          obtain ⟨hwf, hlc, hlen⟩ := tk_some HTl.out
          have hta : tk ([97] ++ [x, y, z] ++ [58] ++ l) = some (.arr k t) := by
            have hcd : (Ty.arr k t).code = [97] ++ [x, y, z] ++ [58] ++ l := by
              show 97 :: (Lib.decDigits k ++ 58 :: t.code) = _
              rw [hdk, ← hlc]
              simp
            rw [← hcd]
            exact tk_code (t := .arr k t) ⟨by have := HD.out.lt; omega, hwf⟩ (by rw [hcd]; simp; omega)
          have h1 := HEl.out ([97] ++ [x, y, z] ++ [58] ++ l) (by simp; omega) (.arr k t) t hta rfl 97 rfl (.inr rfl) w' h
          rw [← hlc, show ((Ty.arr k t).count : Int) = kI from HD.out.ki] at h1
          exact h1
        have HBa := Lib.hid (HB2.out.alloc HB2.out.size (.cells #[.int .u8 A, .int .u8 Bb, .int .u8 Cc] 5))
        clear hdk hln
        go_wp2_with fail
        refine (HE1.out _ HBa.out).mono ?_
        rintro e9 wp ⟨rfl, hb⟩
        have HBp := Lib.hid (below_on HBa.out hb HBa.out.size)
        clear hb HE1
        go_wp2_with fail
        refine (HE2.out _ HBp.out).mono ?_
        rintro e9 wq ⟨rfl, hb⟩
        have HBx := Lib.hid (below_on HBp.out hb HBp.out.size)
        clear hb HE2
        go_wp2_with fail

        refine (HFu.out _ HBx.out).mono ?_
        rintro e9 wf ⟨rfl, hb⟩
        have HBf := Lib.hid (below_on HBx.out hb HBx.out.size)
        clear hb HFu
        cases hz : fe == 0
        · have h1 : fx = [] := HOk.out.2 (by intro e; rw [e] at hz; cases hz)
          subst h1
          go_wp2_with fail
          go_ret
          exact ⟨rfl, HBf.out⟩
        · obtain rfl : fe = 0 := by simpa using hz
          obtain ⟨ts, t0, hL, hlt0, htx, h8⟩ := HOk.out.1 rfl
          have HG : Hid (∀ w', Below w.heap.size w w' → Calls Tryz.prog 22 #[.string ⟨fx.toArray⟩] w' fun e w'' => (∃ a c, e = .returned (.tuple #[.string ⟨l.toArray⟩, .slice a L.length c, .int .i64 0]) ∧ StrIn w'' a L) ∧ Below w'.heap.size w' w'') := fun w' h => by
            have h1 := HSg.out fx (by have := (tk_some htx).2.2; omega) (Tys.of ts) t0 htx w' h
            rw [of_list, ← hL, ← hlt0, show ts.length = L.length by rw [hL]; simp] at h1
            exact h1
          have HFx := Lib.hid (HFm.out fx (by have := (tk_some htx).2.2; omega))
          rw [htx] at HFx
          have H8 := Lib.hid h8
          clear hz hL hlt0 htx h8
          go_wp2_with fail
          refine (HG.out _ HBf.out).mono ?_
          rintro e9 wg ⟨⟨a', c', rfl, hst⟩, hb⟩
          have HBg := Lib.hid (below_on HBf.out hb HBf.out.size)
          have HS2 := Lib.hid hst
          clear hb hst HG
          go_wp2_with fail
          refine (c_same a' c' a c L wg HS2.out (HSt.out _ HBg.out) (by have := H8.out; omega)).mono ?_
          rintro e9 wh ⟨rfl, nn, rfl⟩
          have HBh := Lib.hid (below_drewN HBg.out nn)
          go_wp2_with fail
          refine (HFx.out _ HBh.out).mono ?_
          rintro e9 wi ⟨rfl, hb⟩
          have HBi := Lib.hid (below_on HBh.out hb HBh.out.size)
          clear hb
          go_wp2_with fail
          go_ret
          exact ⟨rfl, HBi.out⟩
    · have hd : decide ((l.length : Int) < 65528) = false := by simp; omega
      clear htl hln
      go_wp2_with fail
      clear hd
      have HBx := HB2
      refine (HFu.out _ HBx.out).mono ?_
      rintro e9 wf ⟨rfl, hb⟩
      have HBf := Lib.hid (below_on HBx.out hb HBx.out.size)
      clear hb HFu
      cases hz : fe == 0
      · have h1 : fx = [] := HOk.out.2 (by intro e; rw [e] at hz; cases hz)
        subst h1
        go_wp2_with fail
        go_ret
        exact ⟨rfl, HBf.out⟩
      · obtain rfl : fe = 0 := by simpa using hz
        obtain ⟨ts, t0, hL, hlt0, htx, h8⟩ := HOk.out.1 rfl
        have HG : Hid (∀ w', Below w.heap.size w w' → Calls Tryz.prog 22 #[.string ⟨fx.toArray⟩] w' fun e w'' => (∃ a c, e = .returned (.tuple #[.string ⟨l.toArray⟩, .slice a L.length c, .int .i64 0]) ∧ StrIn w'' a L) ∧ Below w'.heap.size w' w'') := fun w' h => by
          have h1 := HSg.out fx (by have := (tk_some htx).2.2; omega) (Tys.of ts) t0 htx w' h
          rw [of_list, ← hL, ← hlt0, show ts.length = L.length by rw [hL]; simp] at h1
          exact h1
        have HFx := Lib.hid (HFm.out fx (by have := (tk_some htx).2.2; omega))
        rw [htx] at HFx
        have H8 := Lib.hid h8
        clear hz hL hlt0 htx h8
        go_wp2_with fail
        refine (HG.out _ HBf.out).mono ?_
        rintro e9 wg ⟨⟨a', c', rfl, hst⟩, hb⟩
        have HBg := Lib.hid (below_on HBf.out hb HBf.out.size)
        have HS2 := Lib.hid hst
        clear hb hst HG
        go_wp2_with fail
        refine (c_same a' c' a c L wg HS2.out (HSt.out _ HBg.out) (by have := H8.out; omega)).mono ?_
        rintro e9 wh ⟨rfl, nn, rfl⟩
        have HBh := Lib.hid (below_drewN HBg.out nn)
        go_wp2_with fail
        refine (HFx.out _ HBh.out).mono ?_
        rintro e9 wi ⟨rfl, hb⟩
        have HBi := Lib.hid (below_on HBh.out hb HBh.out.size)
        clear hb
        go_wp2_with fail
        go_ret
        exact ⟨rfl, HBi.out⟩
end Go.Proofs.YtgplonfhmemhiaaGreatDoor
