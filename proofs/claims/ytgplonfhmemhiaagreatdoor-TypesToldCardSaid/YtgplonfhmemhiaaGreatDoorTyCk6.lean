/-
  The contract of whether any type is well made, in the code: the whole.
-/
import Derived.Test.YtgplonfhmemhiaaGreatDoorTyCk5
namespace Go.Proofs.YtgplonfhmemhiaaGreatDoor
set_option linter.unusedVariables false
set_option linter.unusedSimpArgs false
set_option maxRecDepth 100000
open Go.RowKit

def Gate : Ty → Prop
  | .arr _ u => u.isFn = false
  | .fn ps r => (∀ u ∈ ps.list, u.scal = true) ∧ r.tight = false
  | _ => True
theorem lst_rt : ∀ (ts : Tys), (∀ u ∈ ts.list, u.rt) → (∀ u ∈ ts.list, u.scal = true) → ts.rt
  | .nil, _, _ => trivial
  | .cons t ts, h, g => ⟨⟨h t List.mem_cons_self, g t List.mem_cons_self⟩, lst_rt ts (fun u hu => h u (List.mem_cons_of_mem _ hu)) (fun u hu => g u (List.mem_cons_of_mem _ hu))⟩
theorem rt_of (t : Ty) (hw : t.wf) (hg : Gate t) (hp : ∀ u ∈ t.parts, u.rt) : t.rt := by
  cases t with
  | base c => exact hw
  | str s => exact hw
  | ptr u => exact hp u (by simp [Ty.parts])
  | arr n u => exact ⟨hp u (by simp [Ty.parts]), hg⟩
  | fn ps r => exact ⟨lst_rt ps (fun u hu => hp u (List.mem_append_left _ hu)) hg.1, hp r (by simp [Ty.parts]), hg.2⟩
def WmC (m : Nat) : Prop := ∀ (t : Ty) (a : Option Addr) (n c : Nat) (w : World), t.size ≤ m → t.wf → NdIn t (.slice a n c) w → t.size ≤ 65536 →
  Calls Tryz.prog 91 #[nT t a n c] w fun e w' => (∃ d : Bool, e = .returned (.bool d) ∧ (d = true → t.rt)) ∧ Below w.heap.size w w'
set_option maxHeartbeats 8000000 in
theorem wm_succ (m : Nat) (hD : WmC m) : WmC (m + 1) := fun t a n c w hsz hwf hN hbig => by
  have hNn := hN
  obtain ⟨rfl, hc, hP⟩ := hN.allp
  have HP := Lib.hid hP
  have HD := Lib.hid hD
  have HSz := Lib.hid (And.intro hsz (And.intro hbig hwf))
  have hlen : t.parts.length ≤ 65536 := Nat.le_trans (parts_le t) hbig
  obtain ⟨x0, hx0⟩ : ∃ x0 : Int, (t.letter.toNat : Int) = x0 := ⟨_, rfl⟩
  obtain ⟨x2, hx2⟩ : ∃ x2 : Int, (t.count : Int) = x2 := ⟨_, rfl⟩
  obtain ⟨s1, hs1⟩ : ∃ s1, (⟨t.code.toArray⟩ : ByteArray) = s1 := ⟨_, rfl⟩
  obtain ⟨s3, hs3⟩ : ∃ s3, (⟨t.tag.toArray⟩ : ByteArray) = s3 := ⟨_, rfl⟩
  have HAr : Hid (x0 = 97 → ∀ w', Below w.heap.size w w' → Calls Tryz.prog 106 #[nV x0 s1 x2 s3 a t.parts.length c] w' fun e w'' => (∃ d : Bool, e = .returned (.bool d) ∧ (d = true → Gate t)) ∧ Below w'.heap.size w' w'') := fun h w' hb => by
    cases t with
    | arr k u =>
      have h2 := c_fitAr k u hwf a _ c w' (nd_all _ _ _ _ w w' hNn hb)
      unfold nT at h2
      rw [hx0, hx2, hs1, hs3] at h2
      exact h2
    | ptr u => exact absurd (show (112 : Int) = 97 from hx0.trans h) (by decide)
    | str s => exact absurd (show (83 : Int) = 97 from hx0.trans h) (by decide)
    | fn ps r => exact absurd (show (102 : Int) = 97 from hx0.trans h) (by decide)
    | base y =>
      have hc : baseC y = true := hwf
      unfold baseC at hc
      simp at hc
      rcases hc with ((((hc | hc) | hc) | hc) | hc) | hc <;> (subst hc; exact absurd (hx0.trans h) (by decide))
  have HFn : Hid (x0 = 102 → ∀ w', Below w.heap.size w w' → Calls Tryz.prog 107 #[nV x0 s1 x2 s3 a t.parts.length c] w' fun e w'' => (∃ d : Bool, e = .returned (.bool d) ∧ (d = true → Gate t)) ∧ Below w'.heap.size w' w'') := fun h w' hb => by
    cases t with
    | fn ps r =>
      have h2 := c_fitFn ps r hwf hbig a _ c w' (nd_all _ _ _ _ w w' hNn hb)
      unfold nT at h2
      rw [hx0, hx2, hs1, hs3] at h2
      exact h2
    | ptr u => exact absurd (show (112 : Int) = 102 from hx0.trans h) (by decide)
    | str s => exact absurd (show (83 : Int) = 102 from hx0.trans h) (by decide)
    | arr k u => exact absurd (show (97 : Int) = 102 from hx0.trans h) (by decide)
    | base y =>
      have hc : baseC y = true := hwf
      unfold baseC at hc
      simp at hc
      rcases hc with ((((hc | hc) | hc) | hc) | hc) | hc <;> (subst hc; exact absurd (hx0.trans h) (by decide))
  have HOt : Hid (x0 ≠ 97 → x0 ≠ 102 → Gate t) := fun h1 h2 => by
    cases t with
    | arr k u => exact absurd hx0.symm h1
    | fn ps r => exact absurd hx0.symm h2
    | ptr u => trivial
    | str s => trivial
    | base y => trivial
  unfold nT
  rw [hx0, hx2, hs1, hs3]
  clear hN hNn hP hD hsz hbig hwf hx0 hx2 hs1 hs3
  by_cases h97 : x0 = 97
  · subst h97
    have HF := Lib.hid (HAr.out rfl)
    clear HAr HFn HOt
    go_enter Tryz.func91, Tryz.ntmps91
    go_wp2_with fail
    refine (HF.out _ (below_a _ _)).mono ?_
    rintro e w2 ⟨⟨d, rfl, hd⟩, hb⟩
    have HB3 := Lib.hid (below_on (below_a w (.cells #[.int .u8 97, .string s1, .int .i64 x2, .string s3, .slice a t.parts.length c] 61)) hb (by simp))
    have HN2 := Lib.hid (blk_next (heap_alloc_new w (.cells #[.int .u8 97, .string s1, .int .i64 x2, .string s3, .slice a t.parts.length c] 61)) hb)
    have HGd := Lib.hid hd
    clear hb hd HF
    obtain ⟨n0, n1, n2, n3, n4, nf⟩ := five_cells HN2.out
    have hlt2 := (Array.getElem?_eq_some_iff.1 HN2.out).1
    clear nf
    cases d
    · go_wp2_with fail
      go_ret
      exact ⟨⟨false, rfl, fun h => by cases h⟩, HB3.out⟩
    · have HGt : Hid (Gate t) := HGd.out rfl
      go_wp2_with fail
      clear n0 n1 n2 n3 n4 hlt2
      go_loopg [25] t.parts.length (fun g v9 wr => ∃ q : Nat, q + g = t.parts.length ∧ v9 = .int .i64 (q : Int) ∧ Hid (Below w.heap.size w wr ∧ ∀ j u, j < q → t.parts[j]? = some u → u.rt))
      case atStart => exact ⟨0, by omega, rfl, HB3.out, fun j u hj => by omega⟩
      case round =>
        obtain ⟨q, hq, rfl, HR⟩ := hrel
        by_cases hlt : q < t.parts.length
        · have hd : decide ((q : Int) < (t.parts.length : Int)) = true := by simp; omega
          obtain ⟨u, hu⟩ : ∃ u, t.parts[q]? = some u := ⟨_, List.getElem?_eq_getElem hlt⟩
          obtain ⟨g, a3, n3', c3, ha, hn, hg, n0, n1, n2, n3, n4⟩ := HP.out.at (fun j hj => hj) (fun j hj => HR.out.1.block j hj) HR.out.1.size hu
          have hus := parts_sub t u (List.mem_of_getElem? hu)
          have huw := parts_wf t u HSz.out.2.2 (List.mem_of_getElem? hu)
          have HU := Lib.hid hu
          have HDu := Lib.hid (fun o => HD.out u a3 n3' c3 (wr.alloc o) (by have := HSz.out.1; omega) huw (hn.next (below_a _ _)) (by have := HSz.out.2.1; omega))
          unfold nT at HDu
          obtain ⟨z0, hz0⟩ : ∃ z : Int, (u.letter.toNat : Int) = z := ⟨_, rfl⟩
          obtain ⟨z2, hz2⟩ : ∃ z : Int, (u.count : Int) = z := ⟨_, rfl⟩
          rw [hz0] at n0 HDu
          rw [hz2] at n2 HDu
          have hq0 : (0 : Int) ≤ (q : Int) := by omega
          have hql : (q : Int) < (t.parts.length : Int) := by omega
          have hwm : IntKind.i64.wrap ((q : Int) + 1) = ((q + 1 : Nat) : Int) := by rw [IntKind.wrap_i64]; omega
          have HM : Hid (t.parts.length - (q + 1) < gk ∧ q + 1 + (t.parts.length - (q + 1)) = t.parts.length) := ⟨by omega, by omega⟩
          subst ha
          clear hu hn hz0 hz2 hus huw
          go_wp2_with fail
          refine (HDu.out _).mono ?_
          rintro e w5 ⟨⟨d', rfl, hd'⟩, hb⟩
          have HB5 := Lib.hid (below_on (HR.out.1.alloc HR.out.1.size (.cells #[.int .u8 z0, .string ⟨u.code.toArray⟩, .int .i64 z2, .string ⟨u.tag.toArray⟩, .slice a3 n3' c3] 61)) hb (HR.out.1.alloc HR.out.1.size _).size)
          have HRt := Lib.hid hd'
          clear hb n0 n1 n2 n3 n4 hd'
          cases d'
          · go_wp2_with fail
            go_ret
            exact ⟨⟨false, rfl, fun h => by cases h⟩, HB5.out⟩
          · have HN5 : Hid (Below w.heap.size w w5 ∧ ∀ j u, j < q + 1 → t.parts[j]? = some u → u.rt) := ⟨HB5.out, fun j u' hj hu' => by
              by_cases e : j = q
              · subst e
                rw [HU.out] at hu'
                cases hu'
                exact HRt.out rfl
              · exact HR.out.2 j u' (by omega) hu'⟩
            go_wp2_with fail
            go_roundg (t.parts.length - (q + 1))
            case measure => exact HM.out.1
            case rel => exact ⟨q + 1, HM.out.2, rfl, HN5⟩
        · have hd : decide ((q : Int) < (t.parts.length : Int)) = false := by simp; omega
          have HAll : Hid (t.rt) := rt_of t HSz.out.2.2 HGt.out fun u hu => by
            obtain ⟨j, hj, e⟩ := List.getElem_of_mem hu
            exact HR.out.2 j u (by omega) (by rw [List.getElem?_eq_getElem hj, e])
          go_wp2_with fail
          go_ret
          exact ⟨⟨true, rfl, fun _ => HAll.out⟩, HR.out.1⟩
  · by_cases h102 : x0 = 102
    · subst h102
      have HF := Lib.hid (HFn.out rfl)
      clear HAr HFn HOt h97
      go_enter Tryz.func91, Tryz.ntmps91
      go_wp2_with fail
      refine (HF.out _ (below_a _ _)).mono ?_
      rintro e w2 ⟨⟨d, rfl, hd⟩, hb⟩
      have HB3 := Lib.hid (below_on (below_a w (.cells #[.int .u8 102, .string s1, .int .i64 x2, .string s3, .slice a t.parts.length c] 61)) hb (by simp))
      have HN2 := Lib.hid (blk_next (heap_alloc_new w (.cells #[.int .u8 102, .string s1, .int .i64 x2, .string s3, .slice a t.parts.length c] 61)) hb)
      have HGd := Lib.hid hd
      clear hb hd HF
      obtain ⟨n0, n1, n2, n3, n4, nf⟩ := five_cells HN2.out
      have hlt2 := (Array.getElem?_eq_some_iff.1 HN2.out).1
      clear nf
      cases d
      · go_wp2_with fail
        go_ret
        exact ⟨⟨false, rfl, fun h => by cases h⟩, HB3.out⟩
      · have HGt : Hid (Gate t) := HGd.out rfl
        go_wp2_with fail
        clear n0 n1 n2 n3 n4 hlt2
        go_loopg [25] t.parts.length (fun g v9 wr => ∃ q : Nat, q + g = t.parts.length ∧ v9 = .int .i64 (q : Int) ∧ Hid (Below w.heap.size w wr ∧ ∀ j u, j < q → t.parts[j]? = some u → u.rt))
        case atStart => exact ⟨0, by omega, rfl, HB3.out, fun j u hj => by omega⟩
        case round =>
          obtain ⟨q, hq, rfl, HR⟩ := hrel
          by_cases hlt : q < t.parts.length
          · have hd : decide ((q : Int) < (t.parts.length : Int)) = true := by simp; omega
            obtain ⟨u, hu⟩ : ∃ u, t.parts[q]? = some u := ⟨_, List.getElem?_eq_getElem hlt⟩
            obtain ⟨g, a3, n3', c3, ha, hn, hg, n0, n1, n2, n3, n4⟩ := HP.out.at (fun j hj => hj) (fun j hj => HR.out.1.block j hj) HR.out.1.size hu
            have hus := parts_sub t u (List.mem_of_getElem? hu)
            have huw := parts_wf t u HSz.out.2.2 (List.mem_of_getElem? hu)
            have HU := Lib.hid hu
            have HDu := Lib.hid (fun o => HD.out u a3 n3' c3 (wr.alloc o) (by have := HSz.out.1; omega) huw (hn.next (below_a _ _)) (by have := HSz.out.2.1; omega))
            unfold nT at HDu
            obtain ⟨z0, hz0⟩ : ∃ z : Int, (u.letter.toNat : Int) = z := ⟨_, rfl⟩
            obtain ⟨z2, hz2⟩ : ∃ z : Int, (u.count : Int) = z := ⟨_, rfl⟩
            rw [hz0] at n0 HDu
            rw [hz2] at n2 HDu
            have hq0 : (0 : Int) ≤ (q : Int) := by omega
            have hql : (q : Int) < (t.parts.length : Int) := by omega
            have hwm : IntKind.i64.wrap ((q : Int) + 1) = ((q + 1 : Nat) : Int) := by rw [IntKind.wrap_i64]; omega
            have HM : Hid (t.parts.length - (q + 1) < gk ∧ q + 1 + (t.parts.length - (q + 1)) = t.parts.length) := ⟨by omega, by omega⟩
            subst ha
            clear hu hn hz0 hz2 hus huw
            go_wp2_with fail
            refine (HDu.out _).mono ?_
            rintro e w5 ⟨⟨d', rfl, hd'⟩, hb⟩
            have HB5 := Lib.hid (below_on (HR.out.1.alloc HR.out.1.size (.cells #[.int .u8 z0, .string ⟨u.code.toArray⟩, .int .i64 z2, .string ⟨u.tag.toArray⟩, .slice a3 n3' c3] 61)) hb (HR.out.1.alloc HR.out.1.size _).size)
            have HRt := Lib.hid hd'
            clear hb n0 n1 n2 n3 n4 hd'
            cases d'
            · go_wp2_with fail
              go_ret
              exact ⟨⟨false, rfl, fun h => by cases h⟩, HB5.out⟩
            · have HN5 : Hid (Below w.heap.size w w5 ∧ ∀ j u, j < q + 1 → t.parts[j]? = some u → u.rt) := ⟨HB5.out, fun j u' hj hu' => by
                by_cases e : j = q
                · subst e
                  rw [HU.out] at hu'
                  cases hu'
                  exact HRt.out rfl
                · exact HR.out.2 j u' (by omega) hu'⟩
              go_wp2_with fail
              go_roundg (t.parts.length - (q + 1))
              case measure => exact HM.out.1
              case rel => exact ⟨q + 1, HM.out.2, rfl, HN5⟩
          · have hd : decide ((q : Int) < (t.parts.length : Int)) = false := by simp; omega
            have HAll : Hid (t.rt) := rt_of t HSz.out.2.2 HGt.out fun u hu => by
              obtain ⟨j, hj, e⟩ := List.getElem_of_mem hu
              exact HR.out.2 j u (by omega) (by rw [List.getElem?_eq_getElem hj, e])
            go_wp2_with fail
            go_ret
            exact ⟨⟨true, rfl, fun _ => HAll.out⟩, HR.out.1⟩
    · have HGt : Hid (Gate t) := HOt.out h97 h102
      have e97 : (x0 == 97) = false := by simp [h97]
      have e102 : (x0 == 102) = false := by simp [h102]
      have HB3 := Lib.hid (below_a w (.cells #[.int .u8 x0, .string s1, .int .i64 x2, .string s3, .slice a t.parts.length c] 61))
      clear HAr HFn HOt h97 h102
      go_enter Tryz.func91, Tryz.ntmps91
      go_wp2_with fail
      go_loopg [25] t.parts.length (fun g v9 wr => ∃ q : Nat, q + g = t.parts.length ∧ v9 = .int .i64 (q : Int) ∧ Hid (Below w.heap.size w wr ∧ ∀ j u, j < q → t.parts[j]? = some u → u.rt))
      case atStart => exact ⟨0, by omega, rfl, HB3.out, fun j u hj => by omega⟩
      case round =>
        obtain ⟨q, hq, rfl, HR⟩ := hrel
        by_cases hlt : q < t.parts.length
        · have hd : decide ((q : Int) < (t.parts.length : Int)) = true := by simp; omega
          obtain ⟨u, hu⟩ : ∃ u, t.parts[q]? = some u := ⟨_, List.getElem?_eq_getElem hlt⟩
          obtain ⟨g, a3, n3', c3, ha, hn, hg, n0, n1, n2, n3, n4⟩ := HP.out.at (fun j hj => hj) (fun j hj => HR.out.1.block j hj) HR.out.1.size hu
          have hus := parts_sub t u (List.mem_of_getElem? hu)
          have huw := parts_wf t u HSz.out.2.2 (List.mem_of_getElem? hu)
          have HU := Lib.hid hu
          have HDu := Lib.hid (fun o => HD.out u a3 n3' c3 (wr.alloc o) (by have := HSz.out.1; omega) huw (hn.next (below_a _ _)) (by have := HSz.out.2.1; omega))
          unfold nT at HDu
          obtain ⟨z0, hz0⟩ : ∃ z : Int, (u.letter.toNat : Int) = z := ⟨_, rfl⟩
          obtain ⟨z2, hz2⟩ : ∃ z : Int, (u.count : Int) = z := ⟨_, rfl⟩
          rw [hz0] at n0 HDu
          rw [hz2] at n2 HDu
          have hq0 : (0 : Int) ≤ (q : Int) := by omega
          have hql : (q : Int) < (t.parts.length : Int) := by omega
          have hwm : IntKind.i64.wrap ((q : Int) + 1) = ((q + 1 : Nat) : Int) := by rw [IntKind.wrap_i64]; omega
          have HM : Hid (t.parts.length - (q + 1) < gk ∧ q + 1 + (t.parts.length - (q + 1)) = t.parts.length) := ⟨by omega, by omega⟩
          subst ha
          clear hu hn hz0 hz2 hus huw
          go_wp2_with fail
          refine (HDu.out _).mono ?_
          rintro e w5 ⟨⟨d', rfl, hd'⟩, hb⟩
          have HB5 := Lib.hid (below_on (HR.out.1.alloc HR.out.1.size (.cells #[.int .u8 z0, .string ⟨u.code.toArray⟩, .int .i64 z2, .string ⟨u.tag.toArray⟩, .slice a3 n3' c3] 61)) hb (HR.out.1.alloc HR.out.1.size _).size)
          have HRt := Lib.hid hd'
          clear hb n0 n1 n2 n3 n4 hd'
          cases d'
          · go_wp2_with fail
            go_ret
            exact ⟨⟨false, rfl, fun h => by cases h⟩, HB5.out⟩
          · have HN5 : Hid (Below w.heap.size w w5 ∧ ∀ j u, j < q + 1 → t.parts[j]? = some u → u.rt) := ⟨HB5.out, fun j u' hj hu' => by
              by_cases e : j = q
              · subst e
                rw [HU.out] at hu'
                cases hu'
                exact HRt.out rfl
              · exact HR.out.2 j u' (by omega) hu'⟩
            go_wp2_with fail
            go_roundg (t.parts.length - (q + 1))
            case measure => exact HM.out.1
            case rel => exact ⟨q + 1, HM.out.2, rfl, HN5⟩
        · have hd : decide ((q : Int) < (t.parts.length : Int)) = false := by simp; omega
          have HAll : Hid (t.rt) := rt_of t HSz.out.2.2 HGt.out fun u hu => by
            obtain ⟨j, hj, e⟩ := List.getElem_of_mem hu
            exact HR.out.2 j u (by omega) (by rw [List.getElem?_eq_getElem hj, e])
          go_wp2_with fail
          go_ret
          exact ⟨⟨true, rfl, fun _ => HAll.out⟩, HR.out.1⟩
theorem c_wm : ∀ m, WmC m
  | 0 => fun t a n c w hsz => by
    have : 1 ≤ t.size := by cases t <;> (unfold Ty.size; omega)
    omega
  | m + 1 => wm_succ m (c_wm m)
end Go.Proofs.YtgplonfhmemhiaaGreatDoor
