/-
  The contracts of what is too great, in the code.
-/
import Derived.Test.YtgplonfhmemhiaaGreatDoorTyCk2
namespace Go.Proofs.YtgplonfhmemhiaaGreatDoor
set_option linter.unusedVariables false
set_option linter.unusedSimpArgs false
set_option maxRecDepth 100000
open Go.RowKit

def GrC (m : Nat) : Prop := ∀ (t : Ty) (a : Option Addr) (n c : Nat) (w : World), t.size ≤ m → t.wf → NdIn t (.slice a n c) w → t.size ≤ 65536 →
  Calls Tryz.prog 93 #[.slice none 0 0, nT t a n c] w fun e w' => (∃ d : Bool, e = .returned (.bool d)) ∧ Below w.heap.size w w'
set_option maxHeartbeats 4000000 in
theorem great_succ (m : Nat) (hD : GrC m) : GrC (m + 1) := fun t a n c w hsz hwf hN hbig => by
  obtain ⟨rfl, hc, hP⟩ := hN.allp
  have HP := Lib.hid hP
  have HD := Lib.hid hD
  have HSz := Lib.hid (And.intro hsz (And.intro hbig hwf))
  have hlen : t.parts.length ≤ 65536 := Nat.le_trans (parts_le t) hbig
  have HX := Lib.hid (fun w' (hb : Below w.heap.size w w') => c_extent t.size t a t.parts.length c w' (Nat.le_refl _) hwf (hN.next hb))
  obtain ⟨x0, hx0⟩ : ∃ x0 : Int, (t.letter.toNat : Int) = x0 := ⟨_, rfl⟩
  obtain ⟨x2, hx2⟩ : ∃ x2 : Int, (t.count : Int) = x2 := ⟨_, rfl⟩
  obtain ⟨s1, hs1⟩ : ∃ s1, (⟨t.code.toArray⟩ : ByteArray) = s1 := ⟨_, rfl⟩
  obtain ⟨s3, hs3⟩ : ∃ s3, (⟨t.tag.toArray⟩ : ByteArray) = s3 := ⟨_, rfl⟩
  unfold nT at HX ⊢
  rw [hx0, hx2, hs1, hs3] at HX ⊢
  clear hN hP hD hsz hbig hwf hx0 hx2 hs1 hs3
  go_enter Tryz.func93, Tryz.ntmps93
  go_wp2_with fail
  refine (HX.out _ (below_a _ _)).mono ?_
  rintro e w2 ⟨⟨y1, y2, y3, q, rfl⟩, hb⟩
  have HB2 := Lib.hid (below_on (below_a w (.cells #[.int .u8 x0, .string s1, .int .i64 x2, .string s3, .slice a t.parts.length c] 61)) hb (by simp))
  have HN2 := Lib.hid (blk_next (heap_alloc_new w (.cells #[.int .u8 x0, .string s1, .int .i64 x2, .string s3, .slice a t.parts.length c] 61)) hb)
  obtain ⟨n0, n1, n2, n3, n4, nf⟩ := five_cells HN2.out
  have hlt := (Array.getElem?_eq_some_iff.1 HN2.out).1
  clear hb nf
  cases q
  · go_wp2_with fail
    have HB3 := Lib.hid (HB2.out.alloc HB2.out.size (.cells #[.int .i64 y1, .int .i64 y2, .int .i64 y3] 67))
    clear n0 n1 n2 n3 n4 hlt
    go_loopg [24] t.parts.length (fun g v9 wr => ∃ q : Nat, q + g = t.parts.length ∧ v9 = .int .i64 (q : Int) ∧ Hid (Below w.heap.size w wr))
    case atStart => exact ⟨0, by omega, rfl, HB3.out⟩
    case round =>
      obtain ⟨q, hq, rfl, HR⟩ := hrel
      by_cases hlt : q < t.parts.length
      · have hd : decide ((q : Int) < (t.parts.length : Int)) = true := by simp; omega
        obtain ⟨u, hu⟩ : ∃ u, t.parts[q]? = some u := ⟨_, List.getElem?_eq_getElem hlt⟩
        obtain ⟨g, a3, n3', c3, ha, hn, hg, n0, n1, n2, n3, n4⟩ := HP.out.at (fun j hj => hj) (fun j hj => HR.out.block j hj) HR.out.size hu
        have hus := parts_sub t u (List.mem_of_getElem? hu)
        have huw := parts_wf t u HSz.out.2.2 (List.mem_of_getElem? hu)
        have HDu := Lib.hid (fun o => HD.out u a3 n3' c3 (wr.alloc o) (by have := HSz.out.1; omega) huw (hn.next (below_a _ _)) (by have := HSz.out.2.1; omega))
        unfold nT at HDu
        obtain ⟨z0, hz0⟩ : ∃ z : Int, (u.letter.toNat : Int) = z := ⟨_, rfl⟩
        obtain ⟨z2, hz2⟩ : ∃ z : Int, (u.count : Int) = z := ⟨_, rfl⟩
        rw [hz0] at n0 HDu
        rw [hz2] at n2 HDu
        have hq0 : (0 : Int) ≤ (q : Int) := by omega
        have hql : (q : Int) < (t.parts.length : Int) := by omega
        have hwm : IntKind.i64.wrap ((q : Int) + 1) = ((q + 1 : Nat) : Int) := by rw [IntKind.wrap_i64]; omega
        have HM : Hid (t.parts.length - (q + 1) < gk ∧ q + 1 + (t.parts.length - (q + 1)) = t.parts.length) := ⟨by omega, by omega⟩
        subst ha
        clear hu hn hz0 hz2 hus huw
        go_wp2_with fail
        refine (HDu.out _).mono ?_
        rintro e w5 ⟨⟨d', rfl⟩, hb⟩
        have HB5 := Lib.hid (below_on (HR.out.alloc HR.out.size (.cells #[.int .u8 z0, .string ⟨u.code.toArray⟩, .int .i64 z2, .string ⟨u.tag.toArray⟩, .slice a3 n3' c3] 61)) hb (HR.out.alloc HR.out.size _).size)
        clear hb n0 n1 n2 n3 n4
        cases d'
        · go_wp2_with fail
          go_roundg (t.parts.length - (q + 1))
          case measure => exact HM.out.1
          case rel => exact ⟨q + 1, HM.out.2, rfl, HB5⟩
        · go_wp2_with fail
          go_ret
          exact ⟨⟨_, rfl⟩, HB5.out⟩
      · have hd : decide ((q : Int) < (t.parts.length : Int)) = false := by simp; omega
        go_wp2_with fail
        go_ret
        exact ⟨⟨_, rfl⟩, HR.out⟩
  · cases hy : decide (65536 < y1)
    · go_wp2_with fail
      have HB3 := Lib.hid (HB2.out.alloc HB2.out.size (.cells #[.int .i64 y1, .int .i64 y2, .int .i64 y3] 67))
      clear n0 n1 n2 n3 n4 hlt
      go_loopg [24] t.parts.length (fun g v9 wr => ∃ q : Nat, q + g = t.parts.length ∧ v9 = .int .i64 (q : Int) ∧ Hid (Below w.heap.size w wr))
      case atStart => exact ⟨0, by omega, rfl, HB3.out⟩
      case round =>
        obtain ⟨q, hq, rfl, HR⟩ := hrel
        by_cases hlt : q < t.parts.length
        · have hd : decide ((q : Int) < (t.parts.length : Int)) = true := by simp; omega
          obtain ⟨u, hu⟩ : ∃ u, t.parts[q]? = some u := ⟨_, List.getElem?_eq_getElem hlt⟩
          obtain ⟨g, a3, n3', c3, ha, hn, hg, n0, n1, n2, n3, n4⟩ := HP.out.at (fun j hj => hj) (fun j hj => HR.out.block j hj) HR.out.size hu
          have hus := parts_sub t u (List.mem_of_getElem? hu)
          have huw := parts_wf t u HSz.out.2.2 (List.mem_of_getElem? hu)
          have HDu := Lib.hid (fun o => HD.out u a3 n3' c3 (wr.alloc o) (by have := HSz.out.1; omega) huw (hn.next (below_a _ _)) (by have := HSz.out.2.1; omega))
          unfold nT at HDu
          obtain ⟨z0, hz0⟩ : ∃ z : Int, (u.letter.toNat : Int) = z := ⟨_, rfl⟩
          obtain ⟨z2, hz2⟩ : ∃ z : Int, (u.count : Int) = z := ⟨_, rfl⟩
          rw [hz0] at n0 HDu
          rw [hz2] at n2 HDu
          have hq0 : (0 : Int) ≤ (q : Int) := by omega
          have hql : (q : Int) < (t.parts.length : Int) := by omega
          have hwm : IntKind.i64.wrap ((q : Int) + 1) = ((q + 1 : Nat) : Int) := by rw [IntKind.wrap_i64]; omega
          have HM : Hid (t.parts.length - (q + 1) < gk ∧ q + 1 + (t.parts.length - (q + 1)) = t.parts.length) := ⟨by omega, by omega⟩
          subst ha
          clear hu hn hz0 hz2 hus huw
          go_wp2_with fail
          refine (HDu.out _).mono ?_
          rintro e w5 ⟨⟨d', rfl⟩, hb⟩
          have HB5 := Lib.hid (below_on (HR.out.alloc HR.out.size (.cells #[.int .u8 z0, .string ⟨u.code.toArray⟩, .int .i64 z2, .string ⟨u.tag.toArray⟩, .slice a3 n3' c3] 61)) hb (HR.out.alloc HR.out.size _).size)
          clear hb n0 n1 n2 n3 n4
          cases d'
          · go_wp2_with fail
            go_roundg (t.parts.length - (q + 1))
            case measure => exact HM.out.1
            case rel => exact ⟨q + 1, HM.out.2, rfl, HB5⟩
          · go_wp2_with fail
            go_ret
            exact ⟨⟨_, rfl⟩, HB5.out⟩
        · have hd : decide ((q : Int) < (t.parts.length : Int)) = false := by simp; omega
          go_wp2_with fail
          go_ret
          exact ⟨⟨_, rfl⟩, HR.out⟩
    · go_wp2_with fail
      go_ret
      exact ⟨⟨_, rfl⟩, HB2.out.alloc HB2.out.size _⟩
theorem c_great : ∀ m, GrC m
  | 0 => fun t a n c w hsz => by
    have : 1 ≤ t.size := by cases t <;> (unfold Ty.size; omega)
    omega
  | m + 1 => great_succ m (c_great m)
end Go.Proofs.YtgplonfhmemhiaaGreatDoor
