/-
  A type taken apart, as it lies in memory.
-/
import Derived.Test.YtjadckhngalmlaaGreatDoorZTyDe
import Derived.Test.YtjadckhngalmlaaGreatDoorChecked
import Derived.WalkKit
import Derived.WalkSmall
import Derived.Below
import Derived.Lib.Hide
import Derived.Outline
import Derived.Deep.QuietTactic
import Derived.Deep.LoopGhost
import Derived.Deep.RegionWith
import Derived.Handy
import Derived.Laws.AppendOwn
import Derived.Test.YtjadckhngalmlaaGreatDoorShelf
import Derived.Shelf.Strings.Cut
import Derived.Shelf.Strings.Prefix
import Derived.Lib.ItoaMem
import Derived.BigCall
import Derived.BigGuard
import Derived.Shelf.Pu.ParseUintPublic10
namespace Go.Proofs.YtjadckhngalmlaaGreatDoor
set_option linter.unusedVariables false
set_option linter.unusedSimpArgs false
set_option maxRecDepth 100000
open Go.RowKit

theorem ret_b {a b : Bool} (h : a = b) : Ending.returned (.bool a) = .returned (.bool b) := by rw [h]
theorem byte_at (l : List UInt8) (k : Nat) (h : k < (ByteArray.mk l.toArray).size) : (((ByteArray.mk l.toArray)[k]'h).toNat : Int) = ((l[k]?.getD 0).toNat : Int) := by
  have h' : k < l.length := by
    have h2 : k < l.toArray.size := h
    simpa using h2
  rw [List.getElem?_eq_getElem h']
  rfl
theorem c_isLetter (c : Int) (w : World) (h0 : 0 ≤ c) (h1 : c ≤ 255) :
    Calls Tryz.prog 80 #[.int .u8 c] w fun e w' => e = .returned (.bool (ltrI c)) ∧ w = w' := by
  go_enter Tryz.func80, Tryz.ntmps80
  go_wp2
  all_goals
    go_ret
    refine ⟨ret_b ?_, rfl⟩
    unfold ltrI
    rw [Bool.eq_iff_iff]
    simp
    omega
theorem c_isDigit (c : Int) (w : World) (h0 : 0 ≤ c) (h1 : c ≤ 255) :
    Calls Tryz.prog 100 #[.int .u8 c] w fun e w' => e = .returned (.bool (digI c)) ∧ w = w' := by
  go_enter Tryz.func100, Tryz.ntmps100
  go_wp2
  all_goals
    go_ret
    refine ⟨ret_b ?_, rfl⟩
    unfold digI
    rw [Bool.eq_iff_iff]
    simp
    omega
set_option maxHeartbeats 2000000 in
theorem c_IsKey (l : List UInt8) (w : World) :
    Calls Tryz.prog 82 #[.string ⟨l.toArray⟩] w fun e w' => e = .returned (.bool (keyB l)) ∧ w = w' := by
  go_enter Tryz.func82, Tryz.ntmps82
  go_wp2
  all_goals
    go_ret
    refine ⟨ret_b ?_, rfl⟩
    first
      | (exfalso; simp_all; done)
      | (unfold keyB keyTab; simp only [List.contains_cons, List.contains_nil]; simp [*]; done)
theorem c_isOver (b o : Nat) (l : List UInt8) (k : Nat) (w : World) (h0 : w.cell? ⟨b, o, none⟩ = some (.string ⟨l.toArray⟩)) (h1 : w.cell? ⟨b, o + 1, none⟩ = some (.int .i64 k)) :
    Calls Tryz.prog 99 #[.pointer (some ⟨b, o, none⟩)] w fun e w' => e = .returned (.bool (k == l.length)) ∧ ∃ n, w' = w.drewN n := by
  have hk : ((k : Int) == (l.length : Int)) = (k == l.length) := by
    rw [Bool.eq_iff_iff]
    simp
    omega
  go_enter Tryz.func99, Tryz.ntmps99
  go_wp2
  go_quiet (fail)
  go_wp2
  go_ret
  exact ⟨rfl, _, rfl⟩
/-- A reader in cells o, o + 1 of block b that stands at place k, in a world behind w. -/
structure RdW (b o : Nat) (w : World) (k : Nat) (wr : World) : Prop where
  other : ∀ a : Addr, a ≠ ⟨b, o + 1, none⟩ → wr.cell? a = w.cell? a
  pos : wr.cell? ⟨b, o + 1, none⟩ = some (.int .i64 k)
  frz : ∀ a : Addr, wr.frozen? a = w.frozen? a
  size : wr.heap.size = w.heap.size
  blk : ∀ j, j ≠ b → wr.heap[j]? = w.heap[j]?
  os : wr.os = w.os
  tape : wr.tape = w.tape
  output : wr.output = w.output
theorem RdW.start {b o k : Nat} {w : World} (h : w.cell? ⟨b, o + 1, none⟩ = some (.int .i64 k)) : RdW b o w k w := ⟨fun _ _ => rfl, h, fun _ => rfl, rfl, fun _ _ => rfl, rfl, rfl, rfl⟩
theorem RdW.drewN {b o k : Nat} {w wr : World} (h : RdW b o w k wr) (m : Nat) : RdW b o w k (wr.drewN m) := ⟨h.other, h.pos, h.frz, h.size, h.blk, h.os, h.tape, h.output⟩
theorem RdW.set {b o k : Nat} {w wr : World} (h : RdW b o w k wr) (j : Nat) : RdW b o w j (wr.setCell ⟨b, o + 1, none⟩ (.int .i64 j)) :=
  ⟨fun a ha => (World.cell?_setCell_other _ _ _ _ (fun e => ha e.symm)).trans (h.other a ha), World.cell?_setCell_same _ _ _ h.pos, fun a => (World.frozen?_setCell _ _ _ _).trans (h.frz a), by simp [World.setCell, h.size],
    fun i hi => (Below.heap_setCell _ _ _ _ hi).trans (h.blk i hi), h.os, h.tape, h.output⟩
theorem RdW.text {b o k : Nat} {w wr : World} (h : RdW b o w k wr) : wr.cell? ⟨b, o, none⟩ = w.cell? ⟨b, o, none⟩ := h.other _ (fun e => by injection e with _ e2; omega)
theorem RdW.below {B b o k : Nat} {w wr : World} (h : RdW b o w k wr) (hB : B ≤ b) : Below B w wr := ⟨h.os, h.tape, h.output, Nat.le_of_eq h.size.symm, fun j hj => h.blk j (by omega)⟩
theorem RdW.trans {b o j k : Nat} {w wr wx : World} (h : RdW b o w j wr) (h2 : RdW b o wr k wx) : RdW b o w k wx :=
  ⟨fun a ha => (h2.other a ha).trans (h.other a ha), h2.pos, fun a => (h2.frz a).trans (h.frz a), h2.size.trans h.size, fun i hi => (h2.blk i hi).trans (h.blk i hi), h2.os.trans h.os, h2.tape.trans h.tape, h2.output.trans h.output⟩
/-- Where a run of letters and digits ends. -/
@[irreducible] def runE (l : List UInt8) (k : Nat) : Nat := k + ((l.drop k).takeWhile wrd8).length
theorem run_all (l : List UInt8) (k j : Nat) (hk : k ≤ j) (hj : j ≤ l.length) (h : ∀ i, k ≤ i → i < j → wrd8 (l[i]?.getD 0) = true) (he : j = l.length ∨ wrd8 (l[j]?.getD 0) = false) : runE l k = j := by
  unfold runE
  have e : (l.drop k).takeWhile wrd8 = (l.drop k).take (j - k) := by
    have e2 : l.drop k = (l.drop k).take (j - k) ++ (l.drop k).drop (j - k) := (List.take_append_drop _ _).symm
    have h1 : ∀ c ∈ (l.drop k).take (j - k), wrd8 c = true := by
      intro c hc
      obtain ⟨i, hi, e3⟩ := List.mem_iff_getElem.1 hc
      have hi2 : i < j - k := by simp at hi; omega
      have := h (k + i) (by omega) (by omega)
      rw [List.getElem?_eq_getElem (by omega)] at this
      rw [← e3]
      simpa using this
    conv => lhs; rw [e2]
    rw [List.takeWhile_append_of_pos h1]
    have h2 : ((l.drop k).drop (j - k)).takeWhile wrd8 = [] := by
      rw [List.drop_drop, show k + (j - k) = j by omega]
      rcases he with he | he
      · rw [List.drop_eq_nil_of_le (by omega)]; rfl
      · by_cases hjl : j < l.length
        · rw [List.drop_eq_getElem_cons hjl]
          rw [List.getElem?_eq_getElem hjl, Option.getD_some] at he
          rw [List.takeWhile_cons_of_neg (by rw [he]; simp)]
        · rw [List.drop_eq_nil_of_le (by omega)]; rfl
    rw [h2, List.append_nil]
  rw [e]
  simp
  omega
theorem ext_sub (l : List UInt8) (k j : Nat) : (⟨l.toArray⟩ : ByteArray).extract k j = ⟨((l.drop k).take (j - k)).toArray⟩ := by
  apply ByteArray.ext
  rw [ByteArray.data_extract]
  simp
set_option maxHeartbeats 2000000 in
theorem c_letters (b o : Nat) (l : List UInt8) (k : Nat) (w : World) (hk : k ≤ l.length) (hl : l.length ≤ 140737488355328) (h0 : w.cell? ⟨b, o, none⟩ = some (.string ⟨l.toArray⟩)) (h1 : w.cell? ⟨b, o + 1, none⟩ = some (.int .i64 k)) (hf : w.frozen? ⟨b, o + 1, none⟩ = false) :
    Calls Tryz.prog 81 #[.pointer (some ⟨b, o, none⟩)] w fun e w' => e = .returned (.string ⟨((l.drop k).take (runE l k - k)).toArray⟩) ∧ RdW b o w (runE l k) w' := by
  go_enter Tryz.func81, Tryz.ntmps81
  go_wp2_with fail
  go_step3
  go_wp2_with fail
  go_step3
  go_wp2_with fail
  have HF := Lib.hid hf
  have HT := Lib.hid h0
  have HRun := Lib.hid (run_all l k)
  go_loopg [] (l.length - k) (fun g wr => ∃ j : Nat, j + g = l.length ∧ k ≤ j ∧ Hid (RdW b o w j wr) ∧ Hid (∀ i, k ≤ i → i < j → wrd8 (l[i]?.getD 0) = true))
  case atStart => exact ⟨k, by omega, Nat.le_refl _, RdW.start h1, fun i h h' => by omega⟩
  case round =>
    obtain ⟨j, hjg, hkj, HW, HA⟩ := hrel
    have ht : wr.cell? ⟨b, o, none⟩ = some (.string ⟨l.toArray⟩) := HW.out.text.trans HT.out
    have hp : wr.cell? ⟨b, o + 1, none⟩ = some (.int .i64 j) := HW.out.pos
    have hfz : wr.frozen? ⟨b, o + 1, none⟩ = false := (HW.out.frz _).trans HF.out
    clear h0 h1 hf
    by_cases hlt : j < l.length
    · have hov : (j == l.length) = false := by simp; omega
      obtain ⟨cI, hcI⟩ : ∃ cI : Int, ((l[j]?.getD 0).toNat : Int) = cI := ⟨_, rfl⟩
      have hby : ∀ h, (((ByteArray.mk l.toArray)[j]'h).toNat : Int) = cI := fun h => (byte_at l j h).trans hcI
      have hcb : 0 ≤ cI ∧ cI ≤ 255 := by have := (l[j]?.getD 0).toNat_lt; omega
      obtain ⟨hc0, hc1⟩ := hcb
      have HWr : Hid (wrd8 (l[j]?.getD 0) = (ltrI cI || digI cI)) := by show (ltrI _ || digI _) = _; rw [hcI]
      have hj0 : (0 : Int) ≤ (j : Int) := by omega
      have hj1 : (j : Int) < (l.length : Int) := by omega
      clear hcI
      go_wp2_with fail
      refine (c_isOver b o l j _ ht hp).mono ?_
      rw [hov]
      rintro e w2 ⟨rfl, n, rfl⟩
      go_wp2_with fail
      go_quiet (fail)
      go_wp2_with fail
      have HN1 : Hid ((ltrI cI || digI cI) = true → ∀ i, k ≤ i → i < j + 1 → wrd8 (l[i]?.getD 0) = true) := fun h i hi hi2 => by
        by_cases e : i < j
        · exact HA.out i hi e
        · obtain rfl : i = j := by omega
          rw [HWr.out]
          exact h
      have HE : Hid ((ltrI cI || digI cI) = false → runE l k = j) := fun h => HRun.out j hkj (by omega) HA.out (.inr (by rw [HWr.out]; exact h))
      refine (c_isLetter cI _ hc0 hc1).mono ?_
      rintro e w3 ⟨rfl, rfl⟩
      cases hL : ltrI cI
      · go_wp2_with fail
        refine (c_isDigit cI _ hc0 hc1).mono ?_
        rintro e w3 ⟨rfl, rfl⟩
        cases hD : digI cI
        · have hre := HE.out (by rw [hL, hD]; rfl)
          have hj2 : (j : Int) ≤ (l.length : Int) := by omega
          have hex := ext_sub l k j
          have HV : Hid (runE l k = j) := hre
          clear hre
          go_wp2_with fail
          go_quiet (fail)
          go_wp2_with fail
          rw [Exit.noGoto_ret]
          go_ret
          rw [HV.out]
          exact ⟨rfl, (HW.out.drewN _).drewN _⟩
        · have HA2 := HN1.out (by rw [hL, hD]; rfl)
          go_wp2_with fail
          go_roundg (gk - 1)
          case measure => omega
          case rel => exact ⟨j + 1, by omega, by omega, (HW.out.drewN _).set (j + 1), HA2⟩
      · have HA2 := HN1.out (by rw [hL]; rfl)
        go_wp2_with fail
        go_roundg (gk - 1)
        case measure => omega
        case rel => exact ⟨j + 1, by omega, by omega, (HW.out.drewN _).set (j + 1), HA2⟩
    · have hov : (j == l.length) = true := by simp; omega
      have hre := HRun.out j hkj (by omega) HA.out (.inl (by omega))
      have HV : Hid (runE l k = j) := hre
      have hex := ext_sub l k j
      have hj0 : (0 : Int) ≤ (j : Int) := by omega
      have hj1 : (j : Int) ≤ (l.length : Int) := by omega
      clear hre
      go_wp2_with fail
      refine (c_isOver b o l j _ ht hp).mono ?_
      rw [hov]
      rintro e w2 ⟨rfl, n, rfl⟩
      go_wp2_with fail
      go_quiet (fail)
      go_wp2_with fail
      rw [Exit.noGoto_ret]
      go_ret
      rw [HV.out]
      exact ⟨rfl, (HW.out.drewN _).drewN _⟩
theorem name_no (l : List UInt8) (h : l = [] ∨ 31 < l.length ∨ ltr8 (l[0]?.getD 0) = false ∨ l.all wrd8 = false ∨ keyB l = true) : nameB l = false := by
  unfold nameB wordB
  rcases h with h | h | h | h | h
  · simp [h]
  · have : decide (l.length ≤ 31) = false := by simp; omega
    rw [this]; rfl
  · rw [h]; simp
  · rw [h]; simp
  · rw [h]; simp
theorem name_yes (l : List UInt8) (h0 : l ≠ []) (h1 : l.length ≤ 31) (h2 : ltr8 (l[0]?.getD 0) = true) (h3 : l.all wrd8 = true) (h4 : keyB l = false) : nameB l = true := by
  unfold nameB wordB
  simp [h0, h1, h2, h3, h4]
theorem all_take : ∀ (l : List UInt8), (l.takeWhile wrd8 == l) = l.all wrd8
  | [] => rfl
  | c :: l => by
    have ih := all_take l
    rw [List.takeWhile_cons, List.all_cons]
    cases h : wrd8 c
    · rfl
    · rw [← ih, Bool.true_and, if_pos rfl]
      simp
theorem run_whole (l : List UInt8) : ((l.drop 0).take (runE l 0 - 0) == l) = l.all wrd8 := by
  rw [← all_take]
  unfold runE
  have h2 := List.takeWhile_prefix (p := wrd8) (l := l)
  have h3 := List.prefix_iff_eq_take.1 h2
  simp only [List.drop_zero, Nat.zero_add, Nat.sub_zero]
  rw [← h3]
set_option maxHeartbeats 2000000 in
theorem c_IsName (l : List UInt8) (w : World) (hl : l.length ≤ 9223372036854775807) :
    Calls Tryz.prog 62 #[.string ⟨l.toArray⟩] w fun e w' => e = .returned (.bool (nameB l)) ∧ Below w.heap.size w w' := by
  by_cases h0 : l = []
  · have HV : Hid (nameB l = false) := name_no l (.inl h0)
    rw [HV.out]
    subst h0
    go_enter Tryz.func62, Tryz.ntmps62
    go_wp2_with fail
    go_ret
    exact ⟨rfl, (Below.refl _ _).alloc (Nat.le_refl _) _⟩
  have he : l.isEmpty = false := by cases l with
    | nil => exact absurd rfl h0
    | cons => rfl
  have he2 : (l == []) = false := by simp [h0]
  have hpos : 0 < l.length := List.length_pos_iff.2 h0
  by_cases h1 : l.length ≤ 31
  · have hd : decide ((l.length : Int) ≤ 31) = true := by simp; omega
    obtain ⟨cI, hcI⟩ : ∃ cI : Int, ((l[0]?.getD 0).toNat : Int) = cI := ⟨_, rfl⟩
    have hby : ∀ h, (((ByteArray.mk l.toArray)[0]'h).toNat : Int) = cI := fun h => (byte_at l 0 h).trans hcI
    have hcb : 0 ≤ cI ∧ cI ≤ 255 := by have := (l[0]?.getD 0).toNat_lt; omega
    obtain ⟨hc0, hc1⟩ := hcb
    have HL : Hid (ltr8 (l[0]?.getD 0) = ltrI cI) := by show ltrI _ = _; rw [hcI]
    have H0 := Lib.hid h0
    have H1 := Lib.hid h1
    have HR := Lib.hid (run_whole l)
    clear hcI
    cases hL : ltrI cI
    · have HV : Hid (nameB l = false) := name_no l (.inr (.inr (.inl (by rw [HL.out, hL]))))
      rw [HV.out]
      go_enter Tryz.func62, Tryz.ntmps62
      go_wp2_with fail
      refine (c_isLetter cI _ hc0 hc1).mono ?_
      rw [hL]
      rintro e w2 ⟨rfl, rfl⟩
      go_wp2_with fail
      go_ret
      exact ⟨rfl, (Below.refl _ _).alloc (Nat.le_refl _) _⟩
    · cases hA : l.all wrd8
      · have HV : Hid (nameB l = false) := name_no l (.inr (.inr (.inr (.inl hA))))
        rw [HV.out]
        have hq := HR.out.trans hA
        obtain ⟨m, hm⟩ : ∃ m, (l.drop 0).take (runE l 0 - 0) = m := ⟨_, rfl⟩
        have HC := Lib.hid (c_letters w.heap.size 0 l 0)
        rw [hm] at hq HC
        clear hm
        go_enter Tryz.func62, Tryz.ntmps62
        go_wp2_with fail
        refine (c_isLetter cI _ hc0 hc1).mono ?_
        rw [hL]
        rintro e w2 ⟨rfl, rfl⟩
        go_wp2_with fail
        refine (HC.out (w.alloc _) (Nat.zero_le _) (by have := H1.out; omega) (by simp) (by simp) (by simp)).mono ?_
        rintro e w2 ⟨rfl, hw⟩
        have HB := Lib.hid (hw.below (Nat.le_refl w.heap.size))
        clear hw
        go_wp2_with fail
        go_ret
        exact ⟨rfl, ((Below.refl _ _).alloc (Nat.le_refl _) _).trans HB.out⟩
      · have hq := HR.out.trans hA
        obtain ⟨m, hm⟩ : ∃ m, (l.drop 0).take (runE l 0 - 0) = m := ⟨_, rfl⟩
        have HC := Lib.hid (c_letters w.heap.size 0 l 0)
        rw [hm] at hq HC
        clear hm
        have hml : m = l := by simpa using hq
        subst hml
        have HVy : Hid (nameB m = !keyB m) := by
          show _ = _
          cases hK : keyB m
          · exact name_yes m H0.out H1.out (by rw [HL.out, hL]) hA hK
          · exact name_no m (.inr (.inr (.inr (.inr hK))))
        rw [HVy.out]
        go_enter Tryz.func62, Tryz.ntmps62
        go_wp2_with fail
        refine (c_isLetter cI _ hc0 hc1).mono ?_
        rw [hL]
        rintro e w2 ⟨rfl, rfl⟩
        go_wp2_with fail
        refine (HC.out (w.alloc _) (Nat.zero_le _) (by have := H1.out; omega) (by simp) (by simp) (by simp)).mono ?_
        rintro e w2 ⟨rfl, hw⟩
        have HB := Lib.hid (hw.below (Nat.le_refl w.heap.size))
        clear hw
        go_wp2_with fail
        refine (c_IsKey m _).mono ?_
        rintro e w3 ⟨rfl, rfl⟩
        cases hK : keyB m
        all_goals
          go_wp2_with fail
          go_ret
          exact ⟨by rw [hK]; rfl, ((Below.refl _ _).alloc (Nat.le_refl _) _).trans HB.out⟩
  · have HV : Hid (nameB l = false) := name_no l (.inr (.inl (by omega)))
    rw [HV.out]
    have hd : decide ((l.length : Int) ≤ 31) = false := by simp; omega
    go_enter Tryz.func62, Tryz.ntmps62
    go_wp2_with fail
    go_ret
    exact ⟨rfl, (Below.refl _ _).alloc (Nat.le_refl _) _⟩
end Go.Proofs.YtjadckhngalmlaaGreatDoor
namespace Go.Proofs.YtjadckhngalmlaaGreatDoor
set_option linter.unusedVariables false
set_option linter.unusedSimpArgs false
set_option maxRecDepth 100000
open Go.RowKit

theorem ext_end (l : List UInt8) (k : Nat) : (⟨l.toArray⟩ : ByteArray).extract k l.length = ⟨(l.drop k).toArray⟩ := by
  rw [ext_sub, List.take_of_length_le (by rw [List.length_drop]; omega)]
theorem c_isEnd (b : Nat) (l : List UInt8) (k : Nat) (w : World) (h0 : w.cell? ⟨b, 0, none⟩ = some (.string ⟨l.toArray⟩)) (h1 : w.cell? ⟨b, 1, none⟩ = some (.int .i64 k)) :
    Calls Tryz.prog 111 #[.pointer (some ⟨b, 0, none⟩)] w fun e w' => e = .returned (.bool (k == l.length)) ∧ ∃ n, w' = w.drewN n := by
  have hk : ((k : Int) == (l.length : Int)) = (k == l.length) := by
    rw [Bool.eq_iff_iff]
    simp
    omega
  go_enter Tryz.func111, Tryz.ntmps111
  go_wp2
  go_quiet (fail)
  go_wp2
  go_ret
  exact ⟨rfl, _, rfl⟩
set_option maxHeartbeats 2000000 in
theorem c_letter0 (b : Nat) (l : List UInt8) (w : World) (h0 : w.cell? ⟨b, 0, none⟩ = some (.string ⟨l.toArray⟩)) (h1 : w.cell? ⟨b, 1, none⟩ = some (.int .i64 l.length)) :
    Calls Tryz.prog 118 #[.pointer (some ⟨b, 0, none⟩)] w fun e w' => e = .returned (.int .u8 0) ∧ RdW b 0 w l.length w' := by
  have HR := Lib.hid (RdW.start (o := 0) h1)
  go_enter Tryz.func118, Tryz.ntmps118
  go_wp2_with fail
  refine (c_isEnd b l l.length _ h0 h1).mono ?_
  rw [show (l.length == l.length) = true by simp]
  rintro e w2 ⟨rfl, n, rfl⟩
  go_wp2_with fail
  go_ret
  exact ⟨rfl, HR.out.drewN _⟩
set_option maxHeartbeats 2000000 in
theorem c_letter (b : Nat) (l : List UInt8) (k : Nat) (cI : Int) (hcI : ((l[k]?.getD 0).toNat : Int) = cI) (w : World) (hk : k < l.length) (hl : l.length ≤ 65536) (h0 : w.cell? ⟨b, 0, none⟩ = some (.string ⟨l.toArray⟩)) (h1 : w.cell? ⟨b, 1, none⟩ = some (.int .i64 k)) (hf : w.frozen? ⟨b, 1, none⟩ = false) :
    Calls Tryz.prog 118 #[.pointer (some ⟨b, 0, none⟩)] w fun e w' => e = .returned (.int .u8 cI) ∧ RdW b 0 w (k + 1) w' := by
  have HR := Lib.hid (RdW.start (o := 0) h1)
  have hby : ∀ h, (((ByteArray.mk l.toArray)[k]'h).toNat : Int) = cI := fun h => (byte_at l k h).trans hcI
  have hov : (k == l.length) = false := by simp; omega
  have hj0 : (0 : Int) ≤ (k : Int) := by omega
  have hj1 : (k : Int) < (l.length : Int) := by omega
  have hw : IntKind.i64.wrap (k : Int) = k := by rw [IntKind.wrap_i64]; omega
  clear hcI
  go_enter Tryz.func118, Tryz.ntmps118
  go_wp2_with fail
  refine (c_isEnd b l k _ h0 h1).mono ?_
  rw [hov]
  rintro e w2 ⟨rfl, n, rfl⟩
  go_wp2_with fail
  go_quiet (fail)
  go_wp2_with fail
  go_ret
  exact ⟨rfl, ((HR.out.drewN _).set (k + 1)).drewN _⟩
theorem c_sHasPrefix (x p : List UInt8) (w : World) :
    Calls Tryz.prog 134 #[.string ⟨x.toArray⟩, .string ⟨p.toArray⟩] w fun e w' => e = .returned (.bool (p.isPrefixOf x)) ∧ w = w' :=
  (Any.strings_HasPrefix Tryz.lays99 ⟨x.toArray⟩ ⟨p.toArray⟩ w).mono fun e w' ⟨he, hw⟩ => ⟨by simpa [Lib.hasPrefix] using he, hw.symm⟩
theorem c_sCut (x p : List UInt8) (m : Int) (w : World) (hx : x.length ≤ 65536) (hm : w.cell? ⟨3, 0, none⟩ = some (.int .i64 m)) :
    Calls Tryz.prog 130 #[.string ⟨x.toArray⟩, .string ⟨p.toArray⟩] w fun e w' => e = .returned (.tuple #[.string ⟨(Lib.cut x p).1.toArray⟩, .string ⟨(Lib.cut x p).2.1.toArray⟩, .bool (Lib.cut x p).2.2]) ∧ ∃ n, w' = w.drewN n :=
  (Any.strings_Cut Tryz.lays145 ⟨x.toArray⟩ ⟨p.toArray⟩ m w (by show x.toArray.size < _; simp; omega) hm).mono fun e w' ⟨he, hw⟩ => ⟨by simpa using he, hw⟩
theorem head_pre (c : UInt8) (r : List UInt8) : ([c] : List UInt8).isPrefixOf r = (r.head? == some c) := by
  cases r with
  | nil => rfl
  | cons d r =>
    simp [List.isPrefixOf]
    rw [Bool.eq_iff_iff]
    simp
    exact ⟨fun h => h.symm, fun h => h.symm⟩
set_option maxHeartbeats 2000000 in
attribute [local irreducible] Go.wpQuiet in
/-- One byte, if it comes next. -/
theorem c_take (b : Nat) (l : List UInt8) (c : UInt8) (k : Nat) (w : World) (hk : k ≤ l.length) (hl : l.length ≤ 65536) (h0 : w.cell? ⟨b, 0, none⟩ = some (.string ⟨l.toArray⟩)) (h1 : w.cell? ⟨b, 1, none⟩ = some (.int .i64 k)) (hf : w.frozen? ⟨b, 1, none⟩ = false) :
    Calls Tryz.prog 128 #[.pointer (some ⟨b, 0, none⟩), .string ⟨#[c]⟩] w fun e w' => e = .returned (.bool ((l.drop k).head? == some c)) ∧ RdW b 0 w (if (l.drop k).head? == some c then k + 1 else k) w' := by
  have HR := Lib.hid (RdW.start (o := 0) h1)
  have HP : Hid (∀ w : World, Calls Tryz.prog 134 #[.string ⟨(l.drop k).toArray⟩, .string ⟨#[c]⟩] w fun e w' => e = .returned (.bool ((l.drop k).head? == some c)) ∧ w' = w) := fun w => (c_sHasPrefix (l.drop k) [c] w).mono fun e w' h => ⟨by rw [← head_pre]; exact h.1, h.2.symm⟩
  have hex := ext_end l k
  have hj0 : (0 : Int) ≤ (k : Int) := by omega
  have hj1 : (k : Int) ≤ (l.length : Int) := by omega
  obtain ⟨q, hq⟩ : ∃ q, ((l.drop k).head? == some c) = q := ⟨_, rfl⟩
  rw [hq] at HP ⊢
  clear hq
  go_enter Tryz.func128, Tryz.ntmps128
  go_wp2_with fail
  go_quiet (first | (go_at_call 134; refine Calls.quiet_of_same (HP.out _)))
  cases q
  all_goals
    go_wp2_with fail
    go_ret
  · exact ⟨rfl, HR.out.drewN _⟩
  · exact ⟨rfl, (HR.out.drewN _).set (k + 1)⟩
set_option maxHeartbeats 2000000 in
attribute [local irreducible] Go.wpQuiet in
/-- What stands ahead of the next such byte, and that. -/
theorem c_upTo (b : Nat) (l : List UInt8) (c : UInt8) (k : Nat) (m : Int) (w : World) (hk : k ≤ l.length) (hl : l.length ≤ 65536) (hm : w.cell? ⟨3, 0, none⟩ = some (.int .i64 m)) (h0 : w.cell? ⟨b, 0, none⟩ = some (.string ⟨l.toArray⟩)) (h1 : w.cell? ⟨b, 1, none⟩ = some (.int .i64 k)) (hf : w.frozen? ⟨b, 1, none⟩ = false) :
    Calls Tryz.prog 125 #[.pointer (some ⟨b, 0, none⟩), .string ⟨#[c]⟩] w fun e w' =>
      (∃ s y, upTo c (l.drop k) = some (s, y) ∧ e = .returned (.tuple #[.string ⟨s.toArray⟩, .bool true]) ∧ RdW b 0 w (k + s.length + 1) w') ∨
      (upTo c (l.drop k) = none ∧ e = .returned (.tuple #[.string ⟨(l.drop k).toArray⟩, .bool false]) ∧ RdW b 0 w k w') := by
  have HR := Lib.hid (RdW.start (o := 0) h1)
  have HP : Hid (∀ w2 : World, (∃ n, w2 = w.drewN n) → Calls Tryz.prog 130 #[.string ⟨(l.drop k).toArray⟩, .string ⟨#[c]⟩] w2 fun e w' => e = .returned (.tuple #[.string ⟨(Lib.cut (l.drop k) [c]).1.toArray⟩, .string ⟨(Lib.cut (l.drop k) [c]).2.1.toArray⟩, .bool (Lib.cut (l.drop k) [c]).2.2]) ∧ ∃ n, w' = w2.drewN n) := fun w2 hn => by
    obtain ⟨n, rfl⟩ := hn
    exact c_sCut (l.drop k) [c] m _ (by rw [List.length_drop]; omega) hm
  have hex := ext_end l k
  have hj0 : (0 : Int) ≤ (k : Int) := by omega
  have hj1 : (k : Int) ≤ (l.length : Int) := by omega
  rcases hu : upTo c (l.drop k) with _ | ⟨s, y⟩
  · rw [cut_none hu] at HP
    have HU := Lib.hid hu
    clear hu
    go_enter Tryz.func125, Tryz.ntmps125
    go_wp2_with fail
    go_quiet (first | (go_at_call 130; refine Calls.quiet_of (HP.out _ ⟨_, rfl⟩)))
    go_wp2_with fail
    go_ret2
    exact .inr ⟨trivial, rfl, HR.out.drewN _⟩
  · rw [cut_some hu] at HP
    have hsl := upTo_len hu
    rw [List.length_drop] at hsl
    have HU := Lib.hid hu
    have hw1 : IntKind.i64.wrap ((s.length : Int) + 1) = (s.length : Int) + 1 := by rw [IntKind.wrap_i64]; omega
    have hw2 : IntKind.i64.wrap ((k : Int) + ((s.length : Int) + 1)) = ((k + s.length + 1 : Nat) : Int) := by rw [IntKind.wrap_i64]; omega
    clear hu
    go_enter Tryz.func125, Tryz.ntmps125
    go_wp2_with fail
    go_quiet (first | (go_at_call 130; refine Calls.quiet_of (HP.out _ ⟨_, rfl⟩)))
    go_wp2_with fail
    go_ret2
    exact .inl ⟨s, y, rfl, rfl, (HR.out.drewN _).set _⟩
end Go.Proofs.YtjadckhngalmlaaGreatDoor
namespace Go.Proofs.YtjadckhngalmlaaGreatDoor
set_option linter.unusedVariables false
set_option linter.unusedSimpArgs false
set_option maxRecDepth 100000
open Go.RowKit Go.Lib Go.Sort

theorem holds_zero0 (w : World) (T : TypeId) (nd : Nat) (hs : nd ≤ 24) : Holds (fun (b : UInt8) => Value.int .u8 (b.toNat : Int)) (w.alloc (.cells zeros24 T)) w.heap.size 0 (Array.replicate nd (0 : UInt8)) := fun j hj => by
  have hj' : j < nd := by simpa using hj
  refine ⟨?_, World.frozen?_alloc_new _ _ _ _⟩
  rw [World.cell?_alloc_new, zeros24_at _ (by omega), getElem!_pos _ j hj]
  simp
theorem fin_pos0 (w : World) (o : Obj) (dk : Array UInt8) (k : Nat) : ∃ os, (putRow (fun (b : UInt8) => Value.int .u8 (b.toNat : Int)) (w.alloc o) w.heap.size 0 dk).drewN k = grow (w.drewN k) os := by
  rw [alloc_eq_grow]
  obtain ⟨os', _, e⟩ := putRow_grow_new (fun (b : UInt8) => Value.int .u8 (b.toNat : Int)) w #[o] w.heap.size 0 dk (Nat.le_refl _)
  exact ⟨os', by rw [e]; rfl⟩
set_option maxHeartbeats 6400000 in
theorem c_iFormatUint (u : Nat) (hu64 : u < 18446744073709551616) (w : World) (htab : Lib.TabIs Tryz.prog w "internal/strconv.uint64pow10" .u64 Lib.pow10Tab) :
    Calls Tryz.prog 133 #[.int .u64 u, .int .i64 10] w fun e w' => e = .returned (.string ⟨(Lib.decDigits u).toArray⟩) ∧ ∃ k os, w' = grow (w.drewN k) os := by
  by_cases hs : u < 100
  · have hwr : IntKind.i64.wrap (u : Int) = (u : Int) := by rw [IntKind.wrap_i64]; omega
    have hd : decide ((u : Int) < 100) = true := by simp; omega
    go_enter Tryz.func133, Tryz.ntmps133
    go_wp2_with fail
    refine (Any.internal_strconv_small Tryz.lays283 u hs _).mono ?_
    rintro e w' ⟨rfl, rfl⟩
    go_wp2_with fail
    go_ret
    exact ⟨rfl, 0, #[], by simp [World.drewN_zero, Go.Sort.grow]⟩
  · have hu1 : 1 ≤ u := by omega
    have hd : decide ((u : Int) < 100) = false := by simp; omega
    have hnd20 : Lib.nDigits u ≤ 20 := by have := Lib.numDigits_eq u hu1 hu64; split at this <;> omega
    have hal : Tryz.prog.arrayLen 225 = 24 := by kernel_rfl
    have hel : Tryz.prog.cellsOf 5 = 1 := by kernel_rfl
    have hH0 := holds_zero0 w 225 (Lib.nDigits u) (by omega)
    have hfmt := Any.internal_strconv_formatBase10 Tryz.lays285 w.heap.size 0 24 u (Array.replicate (Lib.nDigits u) 0) (w.alloc (.cells Lib.zeros24 225)) hH0 (by rw [Array.size_replicate]; exact Lib.lt_pow_nDigits u) hu64 (by rw [Array.size_replicate]; omega)
    rw [Array.size_replicate] at hfmt
    have HH0 := Lib.hid hH0
    have HFm := Lib.hid hfmt
    have HNd := Lib.hid (fun w (h : Lib.TabIs Tryz.prog w "internal/strconv.uint64pow10" .u64 Lib.pow10Tab) => Any.internal_strconv_numDigits Tryz.laysM284 u hu1 hu64 w h)
    obtain ⟨nd, hnd⟩ : ∃ nd, Lib.nDigits u = nd := ⟨_, rfl⟩
    have HN := Lib.hid hnd
    rw [hnd] at HFm HNd hnd20
    have hsl : ∀ W, (Instr.sliceAt 225 (.pointer (some ⟨w.heap.size, 0, none⟩)) none (some (.int .i64 (nd : Int))) none).run Tryz.prog W = .ok (.slice (some ⟨w.heap.size, 0, none⟩) nd 24) W := fun W => by
      rw [run_sliceAt_array_h W 225 ⟨w.heap.size, 0, none⟩ (by kernel_rfl) .i64 (nd : Int) (by omega) (by rw [hal]; omega)]
      go_simp
    clear hH0 hfmt hnd hs
    go_enter Tryz.func133, Tryz.ntmps133
    go_wp2_with fail
    refine (HNd.out _ (Lib.tabIs_alloc htab _)).mono ?_
    rintro e w' ⟨rfl, rfl⟩
    go_wp2_with fail
    refine HFm.out.mono ?_
    rintro e w' ⟨rfl, k, v', dk, rfl, hF⟩
    have hcv : (convert 220 9 (.slice (some ⟨w.heap.size, 0, none⟩) nd 24)).run Tryz.prog ((putRow (fun (b : UInt8) => Value.int .u8 (b.toNat : Int)) (w.alloc (.cells Lib.zeros24 225)) w.heap.size 0 dk).drewN k) = .ok (.string ⟨(Lib.decDigits u).toArray⟩) ((putRow (fun (b : UInt8) => Value.int .u8 (b.toNat : Int)) (w.alloc (.cells Lib.zeros24 225)) w.heap.size 0 dk).drewN k) := by
      rw [← HN.out] at hF ⊢
      have h := run_convert_bytes_back (P := Tryz.prog) ((putRow (fun (b : UInt8) => Value.int .u8 (b.toNat : Int)) (w.alloc (.cells Lib.zeros24 225)) w.heap.size 0 dk).drewN k) 220 9 5 ⟨w.heap.size, 0, none⟩ 24 (Lib.decDigits u) Tryz.underlying220 Tryz.underlying5 Tryz.underlying9 (fun j hj => by
        rw [Lib.row_is_numeral hF j hj, Lib.add_plain, World.cell?_drewN]
        exact cell?_putRow (fun (b : UInt8) => Value.int .u8 (b.toNat : Int)) _ w.heap.size 0 _ dk HH0.out (by rw [hF.size, Array.size_replicate]) j (by rw [hF.size]; rw [Lib.decDigits_length] at hj; exact hj))
      rw [Lib.decDigits_length] at h
      exact h
    go_wp2_with fail
    go_ret
    obtain ⟨os, eo⟩ := fin_pos0 w (.cells Lib.zeros24 225) dk k
    exact ⟨rfl, k, os, eo⟩
theorem c_FormatUint (u : Nat) (hu64 : u < 18446744073709551616) (w : World) (htab : Lib.TabIs Tryz.prog w "internal/strconv.uint64pow10" .u64 Lib.pow10Tab) :
    Calls Tryz.prog 127 #[.int .u64 u, .int .i64 10] w fun e w' => e = .returned (.string ⟨(Lib.decDigits u).toArray⟩) ∧ ∃ k os, w' = grow (w.drewN k) os := by
  go_enter Tryz.func127, Tryz.ntmps127
  go_wp2_with fail
  refine (c_iFormatUint u hu64 w htab).mono ?_
  rintro e w' ⟨rfl, k, os, rfl⟩
  go_wp2_with fail
  go_ret
  exact ⟨rfl, k, os, rfl⟩
end Go.Proofs.YtjadckhngalmlaaGreatDoor
namespace Go.Proofs.YtjadckhngalmlaaGreatDoor
set_option linter.unusedVariables false
set_option linter.unusedSimpArgs false
set_option maxRecDepth 100000
open Go.RowKit

/-- Behind w: every other block that was there is as it was; of block b all but the place, which is k. -/
structure RdX (b : Nat) (w : World) (k : Nat) (wr : World) : Prop where
  oth : ∀ i, i ≠ 1 → wr.cell? ⟨b, i, none⟩ = w.cell? ⟨b, i, none⟩
  pos : wr.cell? ⟨b, 1, none⟩ = some (.int .i64 k)
  frz : ∀ i, wr.frozen? ⟨b, i, none⟩ = w.frozen? ⟨b, i, none⟩
  blk : ∀ j, j ≠ b → j < w.heap.size → wr.heap[j]? = w.heap[j]?
  size : w.heap.size ≤ wr.heap.size
  os : wr.os = w.os
  tape : wr.tape = w.tape
  output : wr.output = w.output
theorem RdW.x {b k : Nat} {w wr : World} (h : RdW b 0 w k wr) : RdX b w k wr :=
  ⟨fun i hi => h.other _ (fun e => hi (by injection e)), h.pos, fun i => h.frz _, fun j hj _ => h.blk j hj, Nat.le_of_eq h.size.symm, h.os, h.tape, h.output⟩
theorem RdX.start {b k : Nat} {w : World} (h : w.cell? ⟨b, 1, none⟩ = some (.int .i64 k)) : RdX b w k w := ⟨fun _ _ => rfl, h, fun _ => rfl, fun _ _ _ => rfl, Nat.le_refl _, rfl, rfl, rfl⟩
theorem RdX.trans {b j k : Nat} {w wr wx : World} (h : RdX b w j wr) (h2 : RdX b wr k wx) : RdX b w k wx :=
  ⟨fun i hi => (h2.oth i hi).trans (h.oth i hi), h2.pos, fun i => (h2.frz i).trans (h.frz i), fun j hj hs => (h2.blk j hj (Nat.lt_of_lt_of_le hs h.size)).trans (h.blk j hj hs), Nat.le_trans h.size h2.size, h2.os.trans h.os, h2.tape.trans h.tape, h2.output.trans h.output⟩
theorem cell_of_blk {w w' : World} {b : Nat} (h : w'.heap[b]? = w.heap[b]?) (i : Nat) : w'.cell? ⟨b, i, none⟩ = w.cell? ⟨b, i, none⟩ := by unfold World.cell?; rw [h]
theorem frozen_of_blk {w w' : World} {b : Nat} (h : w'.heap[b]? = w.heap[b]?) (i : Nat) : w'.frozen? ⟨b, i, none⟩ = w.frozen? ⟨b, i, none⟩ := by unfold World.frozen?; rw [h]
theorem RdX.next {b k : Nat} {w wr w2 : World} (h : RdX b w k wr) (hb : b < w.heap.size) (hn : Below wr.heap.size wr w2) : RdX b w k w2 := by
  have hbw : b < wr.heap.size := Nat.lt_of_lt_of_le hb h.size
  have e := hn.block b hbw
  exact ⟨fun i hi => (cell_of_blk e i).trans (h.oth i hi), (cell_of_blk e 1).trans h.pos, fun i => (frozen_of_blk e i).trans (h.frz i), fun j hj hs => (hn.block j (Nat.lt_of_lt_of_le hs h.size)).trans (h.blk j hj hs), Nat.le_trans h.size hn.size, hn.os.trans h.os, hn.tape.trans h.tape, hn.output.trans h.output⟩
theorem RdX.set {b k : Nat} {w wr : World} (h : RdX b w k wr) (j : Nat) : RdX b w j (wr.setCell ⟨b, 1, none⟩ (.int .i64 j)) :=
  ⟨fun i hi => (World.cell?_setCell_other _ _ _ _ (fun e => hi (by injection e with _ e2; exact e2.symm))).trans (h.oth i hi), World.cell?_setCell_same _ _ _ h.pos, fun i => (World.frozen?_setCell _ _ _ _).trans (h.frz i),
    fun i hi hs => (Below.heap_setCell _ _ _ _ hi).trans (h.blk i hi hs), by simpa [World.setCell] using h.size, h.os, h.tape, h.output⟩
theorem RdX.below {B b k : Nat} {w wr : World} (h : RdX b w k wr) (hB : B ≤ b) (hb : b < w.heap.size) : Below B w wr := ⟨h.os, h.tape, h.output, h.size, fun j hj => h.blk j (by omega) (by omega)⟩
theorem RdX.all {b k : Nat} {l : List UInt8} {w wr : World} (h : RdX b w k wr) (h0 : w.cell? ⟨b, 0, none⟩ = some (.string ⟨l.toArray⟩)) (hf : w.frozen? ⟨b, 1, none⟩ = false) :
    wr.cell? ⟨b, 0, none⟩ = some (.string ⟨l.toArray⟩) ∧ wr.cell? ⟨b, 1, none⟩ = some (.int .i64 k) ∧ wr.frozen? ⟨b, 1, none⟩ = false := ⟨(h.oth 0 (by decide)).trans h0, h.pos, (h.frz 1).trans hf⟩
/-- The library's table of powers of ten holds them. -/
def PwH (w : World) : Prop := ∃ T fr, w.heap[2]? = some (.cells (Lib.pow10Tab.map fun z => Value.int .u64 z).toArray T fr)
theorem PwH.next {N : Nat} {w w' : World} (h : PwH w) (hb : Below N w w') (hN : N = w.heap.size) : PwH w' := by
  subst hN
  obtain ⟨T, fr, h1⟩ := h
  exact ⟨T, fr, (hb.block _ (Array.getElem?_eq_some_iff.1 h1).1).trans h1⟩
theorem below_grow {B : Nat} {w w' : World} (h : Below B w w') (os : Array Obj) (hB : B ≤ w'.heap.size) : Below B w (Go.Sort.grow w' os) :=
  h.trans ⟨rfl, rfl, rfl, by simp [Go.Sort.grow], fun j hj => by
    show (w'.heap ++ os)[j]? = w'.heap[j]?
    rw [Array.getElem?_append_left (by omega)]⟩
theorem tab_of {w : World} (h : PwH w) : ∀ nm, Tryz.prog.globalNamed nm = some 2 → Lib.TabIs Tryz.prog w nm .u64 Lib.pow10Tab := by
  intro nm hn
  obtain ⟨T, fr, h1⟩ := h
  unfold Lib.TabIs World.var?
  rw [hn]
  simp only [Option.bind_some]
  rw [h1]
theorem parse10_le : ∀ (l : List UInt8) (M acc u : Nat), acc ≤ M → Lib.parseUintM M acc l = .ok u → u ≤ M
  | [], M, acc, u, h, he => by unfold Lib.parseUintM at he; cases he; exact h
  | c :: r, M, acc, u, h, he => by
    unfold Lib.parseUintM at he
    split at he
    · split at he
      · cases he
      · split at he
        · cases he
        · exact parse10_le r M _ u (by omega) he
    · cases he
/-- The variables that reading looks at, all below B. -/
structure Env (B : Nat) (w : World) : Prop where
  lt : 3 < B ∧ 0 < B ∧ 1 < B ∧ 2 < B
  ml : ∃ m, w.cell? ⟨3, 0, none⟩ = some (.int .i64 m)
  es : ∃ t p, w.cell? ⟨0, 0, none⟩ = some (.iface t p)
  er : ∃ t p, w.cell? ⟨1, 0, none⟩ = some (.iface t p)
  pw : PwH w
theorem Env.next {B : Nat} {w w' : World} (h : Env B w) (hb : Below B w w') : Env B w' := by
  obtain ⟨l1, l2, l3, l4⟩ := h.lt
  obtain ⟨m, hm⟩ := h.ml
  obtain ⟨t, p, hs⟩ := h.es
  obtain ⟨t2, p2, hr⟩ := h.er
  obtain ⟨T, fr, hk⟩ := h.pw
  exact ⟨h.lt, ⟨m, (cell_of_blk (hb.block _ l1) 0).trans hm⟩, ⟨t, p, (cell_of_blk (hb.block _ l2) 0).trans hs⟩, ⟨t2, p2, (cell_of_blk (hb.block _ l3) 0).trans hr⟩, ⟨T, fr, (hb.block _ l4).trans hk⟩⟩
def NumR (x : Lib.NumEnd Nat) (e : Ending) : Prop := (∃ (u : Nat) (uI : Int), (u : Int) = uI ∧ x = .ok u ∧ e = .returned (.tuple #[.int .u64 uI, .nilIface])) ∨ ((∀ u, x ≠ .ok u) ∧ ∃ (v : Int) (tp : TypeId) (p : Value), e = .returned (.tuple #[.int .u64 v, .iface tp p]))
theorem c_par10_64 (B : Nat) (x : List UInt8) (w : World) (hE : Env B w) (hx : x.length ≤ 65536) :
    Calls Tryz.prog 126 #[.string ⟨x.toArray⟩, .int .i64 10, .int .i64 64] w fun e w' => NumR (Lib.parseUintB 64 x) e ∧ Below w.heap.size w w' := by
  obtain ⟨t, p, hs⟩ := hE.es
  obtain ⟨t2, p2, hr⟩ := hE.er
  have hsz : (⟨x.toArray⟩ : ByteArray).size ≤ 281474976710656 := by show x.toArray.size ≤ _; simp; omega
  rcases hv : Lib.parseUintB 64 x with u | _ | _
  · refine (Any.strconv_ParseUint_10_at64_ok Tryz.laysPu14 ⟨x.toArray⟩ (by omega) u (by simpa using hv) w).mono fun e w' h => ⟨.inl ⟨u, _, rfl, rfl, h.1⟩, ?_⟩
    rcases h.2 with h2 | h2
    · rw [h2]; exact Below.refl _ _
    · rw [h2]; exact Lib.bytesWorld_below _ _ _
  · exact (Any.strconv_ParseUint_10_at64_syntax Tryz.laysPu14 ⟨x.toArray⟩ hsz (by simpa using hv) _ w hs (.inr ⟨_, _, rfl⟩)).mono fun e w' ⟨N, h1, _, _, h4⟩ => ⟨.inr ⟨(fun u h => by cases h), _, _, _, h1⟩, h4⟩
  · exact (Any.strconv_ParseUint_10_at64_range Tryz.laysPu14 ⟨x.toArray⟩ hsz (by simpa using hv) _ w hr (.inr ⟨_, _, rfl⟩)).mono fun e w' ⟨N, h1, _, _, h4⟩ => ⟨.inr ⟨(fun u h => by cases h), _, _, _, h1⟩, h4⟩
theorem parse64_le {u : Nat} {x : List UInt8} (h : Lib.parseUintB 64 x = .ok u) : u < 18446744073709551616 := by
  unfold Lib.parseUintB at h
  split at h
  · cases h
  · have := parse10_le _ _ _ _ (Nat.zero_le _) h
    have e : 2 ^ 64 - 1 = 18446744073709551615 := by decide
    omega
theorem c_Fmt (B u : Nat) (hu : u < 18446744073709551616) (w : World) (hE : Env B w) :
    Calls Tryz.prog 127 #[.int .u64 u, .int .i64 10] w fun e w' => e = .returned (.string ⟨(Lib.decDigits u).toArray⟩) ∧ Below w.heap.size w w' :=
  (c_FormatUint u hu w (tab_of hE.pw _ (by kernel_rfl))).mono fun e w' ⟨he, k, os, hw⟩ => ⟨he, by
    rw [hw]
    have hb := _root_.Go.below_drewN (Below.refl w.heap.size w) k
    exact below_grow hb os hb.size⟩
/-- Where a rest of a text begins. -/
def plc (l y : List UInt8) : Nat := l.length - y.length
theorem plc_le (l y : List UInt8) : plc l y ≤ l.length := by unfold plc; omega
theorem drop_plc {l y : List UInt8} (h : y <:+ l) : l.drop (plc l y) = y := by
  obtain ⟨t, rfl⟩ := h
  unfold plc
  rw [List.length_append, show t.length + y.length - y.length = t.length by omega, List.drop_left]
theorem plc_drop {l : List UInt8} {k : Nat} (h : k ≤ l.length) : plc l (l.drop k) = k := by unfold plc; rw [List.length_drop]; omega
set_option maxHeartbeats 2000000 in
/-- A struct's name. -/
theorem c_tag (B b : Nat) (l : List UInt8) (k : Nat) (w : World) (hE : Env B w) (hB : B ≤ b) (hbw : b < w.heap.size) (hk : k ≤ l.length) (hl : l.length ≤ 65536) (h0 : w.cell? ⟨b, 0, none⟩ = some (.string ⟨l.toArray⟩)) (h1 : w.cell? ⟨b, 1, none⟩ = some (.int .i64 k)) (hf : w.frozen? ⟨b, 1, none⟩ = false) :
    Calls Tryz.prog 121 #[.pointer (some ⟨b, 0, none⟩)] w fun e w' =>
      (∃ s y, tagP (l.drop k) = some (s, y) ∧ e = .returned (.tuple #[.string ⟨s.toArray⟩, .bool true]) ∧ RdX b w (plc l y) w' ∧ k ≤ plc l y) ∨
      (tagP (l.drop k) = none ∧ ∃ (s : List UInt8) (j : Nat), e = .returned (.tuple #[.string ⟨s.toArray⟩, .bool false]) ∧ k ≤ j ∧ j ≤ l.length ∧ RdX b w j w') := by
  obtain ⟨m, hm⟩ := hE.ml
  have HU := Lib.hid (c_upTo b l 59 k m w hk hl hm h0 h1 hf)
  have HK := Lib.hid hk
  have HL := Lib.hid hl
  clear hm h0 h1 hf
  go_enter Tryz.func121, Tryz.ntmps121
  go_wp2_with fail
  refine HU.out.mono ?_
  rintro e w2 (⟨s, y, hu, rfl, hw⟩ | ⟨hu, rfl, hw⟩)
  · have HX := Lib.hid hw.x
    have hsl := upTo_len hu
    rw [List.length_drop] at hsl
    have hsb : s.length ≤ 9223372036854775807 := by have := HL.out; omega
    have HP : Hid (plc l y = k + s.length + 1) := by have := HK.out; show l.length - y.length = _; omega
    have HT : Hid (tagP (l.drop k) = if nameB s then some (s, y) else none) := by show _ = _; unfold tagP; rw [hu]
    clear hu hw hsl
    go_wp2_with fail
    refine (c_IsName s _ hsb).mono ?_
    rintro e w3 ⟨rfl, hb3⟩
    have HX3 := Lib.hid (HX.out.next hbw hb3)
    cases hn : nameB s
    · go_wp2_with fail
      go_ret2
      exact .inr ⟨by rw [HT.out, hn]; rfl, s, _, rfl, by omega, by rw [← HP.out]; exact plc_le _ _, HX3.out⟩
    · go_wp2_with fail
      go_ret2
      exact .inl ⟨s, y, by rw [HT.out, hn]; rfl, rfl, by rw [HP.out]; exact HX3.out, by rw [HP.out]; omega⟩
  · have HX := Lib.hid hw.x
    have HT : Hid (tagP (l.drop k) = none) := by show _ = _; unfold tagP; rw [hu]
    clear hu hw
    go_wp2_with fail
    go_ret2
    exact .inr ⟨HT.out, _, k, rfl, Nat.le_refl _, HK.out, HX.out⟩
set_option maxHeartbeats 4000000 in
/-- How many members an array has. -/
theorem c_count (B b : Nat) (l : List UInt8) (k : Nat) (w : World) (hE : Env B w) (hB : B ≤ b) (hbw : b < w.heap.size) (hk : k ≤ l.length) (hl : l.length ≤ 65536) (h0 : w.cell? ⟨b, 0, none⟩ = some (.string ⟨l.toArray⟩)) (h1 : w.cell? ⟨b, 1, none⟩ = some (.int .i64 k)) (hf : w.frozen? ⟨b, 1, none⟩ = false) :
    Calls Tryz.prog 120 #[.pointer (some ⟨b, 0, none⟩)] w fun e w' =>
      (∃ (n : Nat) (y : List UInt8), cntP (l.drop k) = some (n, y) ∧ e = .returned (.tuple #[.int .i64 n, .bool true]) ∧ RdX b w (plc l y) w' ∧ k ≤ plc l y) ∨
      (cntP (l.drop k) = none ∧ ∃ (j : Nat), e = .returned (.tuple #[.int .i64 0, .bool false]) ∧ k ≤ j ∧ j ≤ l.length ∧ RdX b w j w') := by
  obtain ⟨m, hm⟩ := hE.ml
  have HU := Lib.hid (c_upTo b l 58 k m w hk hl hm h0 h1 hf)
  have HK := Lib.hid hk
  have HL := Lib.hid hl
  have HEn := Lib.hid (fun (wr : World) (j : Nat) (h : RdX b w j wr) => hE.next (h.below hB hbw))
  clear hm h0 h1 hf hE
  go_enter Tryz.func120, Tryz.ntmps120
  go_wp2_with fail
  refine HU.out.mono ?_
  rintro e w2 (⟨s, y, hu, rfl, hw⟩ | ⟨hu, rfl, hw⟩)
  · have HX := Lib.hid hw.x
    have hsl := upTo_len hu
    rw [List.length_drop] at hsl
    have hsb : s.length ≤ 65536 := by have := HL.out; omega
    have HP : Hid (plc l y = k + s.length + 1) := by have := HK.out; show l.length - y.length = _; omega
    have HT : Hid (cntP (l.drop k) = match Lib.parseUintB 64 s with
      | .ok n => if n ≤ 1099511627776 ∧ Lib.decDigits n = s then some (n, y) else none
      | _ => none) := by
      show _ = _
      unfold cntP
      rw [hu]
      simp only
      rcases Lib.parseUintB 64 s with _ | _ | _ <;> rfl
    clear hu hw hsl
    go_wp2_with fail
    refine (c_par10_64 B s _ (HEn.out _ _ HX.out) hsb).mono ?_
    rintro e w3 ⟨hN, hb3⟩
    have HX3 := Lib.hid (HX.out.next hbw hb3)
    clear hb3
    rcases hN with ⟨u, uI, huI, hu, rfl⟩ | ⟨hu, v, tp, p, rfl⟩
    · rw [hu] at HT
      have hu64 := parse64_le hu
      have HF := Lib.hid (c_Fmt B u hu64 w3 (HEn.out _ _ HX3.out))
      have HI := Lib.hid huI
      rw [huI] at HF
      clear hu
      by_cases hm : u ≤ 1099511627776
      · have hmI : uI ≤ 1099511627776 := by omega
        have hgt : decide (1099511627776 < uI) = false := by simp; omega
        have hwr : IntKind.i64.wrap uI = uI := by rw [IntKind.wrap_i64]; omega
        have HM := Lib.hid hm
        have hu0 : 0 ≤ uI := by omega
        by_cases hd : Lib.decDigits u = s
        · have HD := Lib.hid hd
          have HT2 : Hid (cntP (l.drop k) = some (u, y)) := by rw [show Hid (cntP (l.drop k) = some (u, y)) = (cntP (l.drop k) = some (u, y)) from rfl, HT.out]; simp only; rw [if_pos ⟨hm, hd⟩]
          clear hd hm hu64 huI HT
          rw [HD.out] at HF
          go_wp2_with fail
          refine HF.out.mono ?_
          rintro e w4 ⟨rfl, hb4⟩
          have HX4 := Lib.hid (HX3.out.next hbw hb4)
          clear hb4
          go_wp2_with fail
          go_ret2
          exact .inl ⟨u, y, HT2.out, (by rw [HI.out]; rfl), by rw [HP.out]; exact HX4.out, by rw [HP.out]; omega⟩
        · have HT2 : Hid (cntP (l.drop k) = none) := by rw [show Hid (cntP (l.drop k) = none) = (cntP (l.drop k) = none) from rfl, HT.out]; simp only; rw [if_neg (fun h => hd h.2)]
          have hne : (Lib.decDigits u == s) = false := by rw [beq_eq_false_iff_ne]; exact hd
          clear hd hm hu64 huI HT
          go_wp2_with fail
          refine HF.out.mono ?_
          rintro e w4 ⟨rfl, hb4⟩
          have HX4 := Lib.hid (HX3.out.next hbw hb4)
          clear hb4
          go_wp2_with fail
          go_ret2
          exact .inr ⟨HT2.out, _, rfl, by omega, by rw [← HP.out]; exact plc_le _ _, HX4.out⟩
      · have hgt : decide (1099511627776 < uI) = true := by simp; omega
        have HT2 : Hid (cntP (l.drop k) = none) := by rw [show Hid (cntP (l.drop k) = none) = (cntP (l.drop k) = none) from rfl, HT.out]; simp only; rw [if_neg (fun h => hm h.1)]
        clear hm hu64 huI HT
        go_wp2_with fail
        go_ret2
        exact .inr ⟨HT2.out, _, rfl, by omega, by rw [← HP.out]; exact plc_le _ _, HX3.out⟩
    · have HT2 : Hid (cntP (l.drop k) = none) := by
        rw [show Hid (cntP (l.drop k) = none) = (cntP (l.drop k) = none) from rfl, HT.out]
        rcases h : Lib.parseUintB 64 s with u | _ | _
        · exact absurd h (hu u)
        · rfl
        · rfl
      clear hu HT
      go_wp2_with fail
      go_ret2
      exact .inr ⟨HT2.out, _, rfl, by omega, by rw [← HP.out]; exact plc_le _ _, HX3.out⟩
  · have HX := Lib.hid hw.x
    have HT : Hid (cntP (l.drop k) = none) := by show _ = _; unfold cntP; rw [hu]
    have hsb : (l.drop k).length ≤ 65536 := by rw [List.length_drop]; have := HL.out; omega
    clear hu hw
    go_wp2_with fail
    refine (c_par10_64 B _ _ (HEn.out _ _ HX.out) hsb).mono ?_
    rintro e w3 ⟨hN, hb3⟩
    have HX3 := Lib.hid (HX.out.next hbw hb3)
    clear hb3
    rcases hN with ⟨u, uI, huI, hu, rfl⟩ | ⟨hu, v, tp, p, rfl⟩
    all_goals
      clear hu
      go_wp2_with fail
      go_ret2
      exact .inr ⟨HT.out, k, rfl, Nat.le_refl _, HK.out, HX3.out⟩
end Go.Proofs.YtjadckhngalmlaaGreatDoor
namespace Go.Proofs.YtjadckhngalmlaaGreatDoor
set_option linter.unusedVariables false
set_option linter.unusedSimpArgs false
open Go.RowKit

/-- A node's five cells: of type t, its parts in the slice v. -/
def ndC (t : Ty) (v : Value) : List Value := [.int .u8 t.letter.toNat, .string ⟨t.code.toArray⟩, .int .i64 t.count, .string ⟨t.tag.toArray⟩, v]
def ndV (t : Ty) (v : Value) : Value := .agg (ndC t v).toArray
def ndCs (L : List (Ty × Value)) : List Value := L.flatMap fun p => ndC p.1 p.2
theorem ndC_len (t : Ty) (v : Value) : (ndC t v).length = 5 := rfl
theorem ndCs_len (L : List (Ty × Value)) : (ndCs L).length = L.length * 5 := by
  unfold ndCs
  induction L with
  | nil => rfl
  | cons p L ih => rw [List.flatMap_cons, List.length_append, ih, ndC_len, List.length_cons]; omega
theorem ndCs_snoc (L : List (Ty × Value)) (t : Ty) (v : Value) : ndCs (L ++ [(t, v)]) = ndCs L ++ ndC t v := by
  unfold ndCs
  simp
theorem ndCs_at : ∀ (L : List (Ty × Value)) (k : Nat) (t : Ty) (v : Value), L[k]? = some (t, v) → ∀ i, i < 5 → (ndCs L)[k * 5 + i]? = (ndC t v)[i]?
  | [], k, t, v, h => by simp at h
  | p :: L, 0, t, v, h => by
    intro i hi
    simp at h
    subst h
    show ((ndC t v) ++ ndCs L)[0 * 5 + i]? = _
    rw [List.getElem?_append_left (by rw [ndC_len]; omega)]
    congr 1
    omega
  | p :: L, k + 1, t, v, h => by
    intro i hi
    have ih := ndCs_at L k t v (by simpa using h) i hi
    show ((ndC p.1 p.2) ++ ndCs L)[(k + 1) * 5 + i]? = _
    rw [List.getElem?_append_right (by rw [ndC_len]; omega), ndC_len, ← ih]
    congr 1
    omega
/-- The parts of t lie in the slice v, all their blocks in S. -/
inductive Nd (S : Nat → Prop) (w : World) : Ty → Value → Prop
  | leaf (t : Ty) : t.parts = [] → Nd S w t (.slice none 0 0)
  | row (t : Ty) (g cap : Nat) (L : List (Ty × Value)) : t.parts = L.map Prod.fst → L ≠ [] → L.length ≤ cap → S g → (∀ (j : Nat) (u : Value), (ndCs L)[j]? = some u → w.cell? ⟨g, j, none⟩ = some u) → (∀ p ∈ L, Nd S w p.1 p.2) → Nd S w t (.slice (some ⟨g, 0, none⟩) L.length cap)
theorem Nd.mono {S S' : Nat → Prop} {w w' : World} {t : Ty} {v : Value} (h : Nd S w t v) (hS : ∀ j, S j → S' j) (hw : ∀ j, S j → w'.heap[j]? = w.heap[j]?) : Nd S' w' t v := by
  induction h with
  | leaf t h => exact .leaf t h
  | row t g cap L h1 h2 h3 h4 h5 h6 ih =>
    exact .row t g cap L h1 h2 h3 (hS _ h4) (fun j u hu => by
      have e : w'.cell? ⟨g, j, none⟩ = w.cell? ⟨g, j, none⟩ := by simp [World.cell?, hw g h4]
      rw [e]
      exact h5 j u hu) ih
theorem Nd.sl {S : Nat → Prop} {w : World} {t : Ty} {v : Value} (h : Nd S w t v) : ∃ a cap, v = .slice a t.parts.length cap ∧ t.parts.length ≤ cap := by
  cases h with
  | leaf t h => exact ⟨none, 0, by rw [h]; exact ⟨rfl, Nat.le_refl _⟩⟩
  | row t g cap L h1 h2 h3 h4 h5 h6 => exact ⟨_, cap, by rw [h1, List.length_map]; exact ⟨rfl, h3⟩⟩
theorem Nd.one {S : Nat → Prop} {w : World} {t : Ty} {v : Value} (h : Nd S w t v) : v.oneCell' = true := by
  obtain ⟨a, cap, rfl, _⟩ := h.sl
  rfl
/-- The part at a place: its cells, and its own parts. -/
theorem Nd.part {S : Nat → Prop} {w : World} {t : Ty} {v : Value} (h : Nd S w t v) {k : Nat} {u : Ty} (hk : t.parts[k]? = some u) :
    ∃ g cap s, v = .slice (some ⟨g, 0, none⟩) t.parts.length cap ∧ t.parts.length ≤ cap ∧ S g ∧ Nd S w u s ∧ ∀ i x, (ndC u s)[i]? = some x → w.cell? ⟨g, k * 5 + i, none⟩ = some x := by
  cases h with
  | leaf t h => rw [h] at hk; simp at hk
  | row t g cap L h1 h2 h3 h4 h5 h6 =>
    rw [h1, List.getElem?_map] at hk
    obtain ⟨p, hp, hpu⟩ := Option.map_eq_some_iff.1 hk
    obtain ⟨u', s⟩ := p
    have hpu2 : u' = u := hpu
    rw [hpu2] at hp
    clear hpu hpu2 u'
    refine ⟨g, cap, s, by rw [h1, List.length_map], by rw [h1, List.length_map]; exact h3, h4, h6 _ (List.mem_of_getElem? hp), fun i x hx => ?_⟩
    have hi : i < 5 := by
      have := (List.getElem?_eq_some_iff.1 hx).1
      rwa [ndC_len] at this
    exact h5 _ _ ((ndCs_at L k u s hp i hi).trans hx)
/-- The world's blocks from N on that lie in it. -/
def Fm (N : Nat) (w : World) : Nat → Prop := fun j => N ≤ j ∧ j < w.heap.size
end Go.Proofs.YtjadckhngalmlaaGreatDoor
