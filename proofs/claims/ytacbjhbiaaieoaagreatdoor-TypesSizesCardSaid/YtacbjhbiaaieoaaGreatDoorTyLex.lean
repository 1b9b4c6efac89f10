/-
  The contract of IsName, in the code.
-/
import Derived.Test.YtacbjhbiaaieoaaGreatDoorTyPu
import Derived.Test.YtacbjhbiaaieoaaGreatDoorChecked
import Derived.WalkKit
import Derived.WalkSmall
import Derived.Below
import Derived.Lib.Hide
import Derived.Outline
import Derived.Deep.QuietTactic
import Derived.Deep.LoopGhost
import Derived.Deep.RegionWith
import Derived.Handy
import Derived.Laws.AppendOwn
namespace Go.Proofs.YtacbjhbiaaieoaaGreatDoor
set_option linter.unusedVariables false
set_option linter.unusedSimpArgs false
set_option maxRecDepth 100000
open Go.RowKit

theorem ret_b {a b : Bool} (h : a = b) : Ending.returned (.bool a) = .returned (.bool b) := by rw [h]
theorem byte_at (l : List UInt8) (k : Nat) (h : k < (ByteArray.mk l.toArray).size) : (((ByteArray.mk l.toArray)[k]'h).toNat : Int) = ((l[k]?.getD 0).toNat : Int) := by
  have h' : k < l.length := by
    have h2 : k < l.toArray.size := h
    simpa using h2
  rw [List.getElem?_eq_getElem h']
  rfl
theorem c_isLetter (c : Int) (w : World) (h0 : 0 ≤ c) (h1 : c ≤ 255) :
    Calls Tryz.prog 85 #[.int .u8 c] w fun e w' => e = .returned (.bool (ltrI c)) ∧ w = w' := by
  go_enter Tryz.func85, Tryz.ntmps85
  go_wp2
  all_goals
    go_ret
    refine ⟨ret_b ?_, rfl⟩
    unfold ltrI
    rw [Bool.eq_iff_iff]
    simp
    omega
theorem c_isDigit (c : Int) (w : World) (h0 : 0 ≤ c) (h1 : c ≤ 255) :
    Calls Tryz.prog 110 #[.int .u8 c] w fun e w' => e = .returned (.bool (digI c)) ∧ w = w' := by
  go_enter Tryz.func110, Tryz.ntmps110
  go_wp2
  all_goals
    go_ret
    refine ⟨ret_b ?_, rfl⟩
    unfold digI
    rw [Bool.eq_iff_iff]
    simp
    omega
set_option maxHeartbeats 2000000 in
theorem c_IsKey (l : List UInt8) (w : World) :
    Calls Tryz.prog 87 #[.string ⟨l.toArray⟩] w fun e w' => e = .returned (.bool (keyB l)) ∧ w = w' := by
  go_enter Tryz.func87, Tryz.ntmps87
  go_wp2
  all_goals
    go_ret
    refine ⟨ret_b ?_, rfl⟩
    first
      | (exfalso; simp_all; done)
      | (unfold keyB keyTab; simp only [List.contains_cons, List.contains_nil]; simp [*]; done)
theorem c_isOver (b o : Nat) (l : List UInt8) (k : Nat) (w : World) (h0 : w.cell? ⟨b, o, none⟩ = some (.string ⟨l.toArray⟩)) (h1 : w.cell? ⟨b, o + 1, none⟩ = some (.int .i64 k)) :
    Calls Tryz.prog 109 #[.pointer (some ⟨b, o, none⟩)] w fun e w' => e = .returned (.bool (k == l.length)) ∧ ∃ n, w' = w.drewN n := by
  have hk : ((k : Int) == (l.length : Int)) = (k == l.length) := by
    rw [Bool.eq_iff_iff]
    simp
    omega
  go_enter Tryz.func109, Tryz.ntmps109
  go_wp2
  go_quiet (fail)
  go_wp2
  go_ret
  exact ⟨rfl, _, rfl⟩
/-- A reader in cells o, o + 1 of block b that stands at place k, in a world behind w. -/
structure RdW (b o : Nat) (w : World) (k : Nat) (wr : World) : Prop where
  other : ∀ a : Addr, a ≠ ⟨b, o + 1, none⟩ → wr.cell? a = w.cell? a
  pos : wr.cell? ⟨b, o + 1, none⟩ = some (.int .i64 k)
  frz : ∀ a : Addr, wr.frozen? a = w.frozen? a
  size : wr.heap.size = w.heap.size
  blk : ∀ j, j ≠ b → wr.heap[j]? = w.heap[j]?
  os : wr.os = w.os
  tape : wr.tape = w.tape
  output : wr.output = w.output
theorem RdW.start {b o k : Nat} {w : World} (h : w.cell? ⟨b, o + 1, none⟩ = some (.int .i64 k)) : RdW b o w k w := ⟨fun _ _ => rfl, h, fun _ => rfl, rfl, fun _ _ => rfl, rfl, rfl, rfl⟩
theorem RdW.drewN {b o k : Nat} {w wr : World} (h : RdW b o w k wr) (m : Nat) : RdW b o w k (wr.drewN m) := ⟨h.other, h.pos, h.frz, h.size, h.blk, h.os, h.tape, h.output⟩
theorem RdW.set {b o k : Nat} {w wr : World} (h : RdW b o w k wr) (j : Nat) : RdW b o w j (wr.setCell ⟨b, o + 1, none⟩ (.int .i64 j)) :=
  ⟨fun a ha => (World.cell?_setCell_other _ _ _ _ (fun e => ha e.symm)).trans (h.other a ha), World.cell?_setCell_same _ _ _ h.pos, fun a => (World.frozen?_setCell _ _ _ _).trans (h.frz a), by simp [World.setCell, h.size],
    fun i hi => (Below.heap_setCell _ _ _ _ hi).trans (h.blk i hi), h.os, h.tape, h.output⟩
theorem RdW.text {b o k : Nat} {w wr : World} (h : RdW b o w k wr) : wr.cell? ⟨b, o, none⟩ = w.cell? ⟨b, o, none⟩ := h.other _ (fun e => by injection e with _ e2; omega)
theorem RdW.below {B b o k : Nat} {w wr : World} (h : RdW b o w k wr) (hB : B ≤ b) : Below B w wr := ⟨h.os, h.tape, h.output, Nat.le_of_eq h.size.symm, fun j hj => h.blk j (by omega)⟩
theorem RdW.trans {b o j k : Nat} {w wr wx : World} (h : RdW b o w j wr) (h2 : RdW b o wr k wx) : RdW b o w k wx :=
  ⟨fun a ha => (h2.other a ha).trans (h.other a ha), h2.pos, fun a => (h2.frz a).trans (h.frz a), h2.size.trans h.size, fun i hi => (h2.blk i hi).trans (h.blk i hi), h2.os.trans h.os, h2.tape.trans h.tape, h2.output.trans h.output⟩
/-- Where a run of letters and digits ends. -/
@[irreducible] def runE (l : List UInt8) (k : Nat) : Nat := k + ((l.drop k).takeWhile wrd8).length
theorem run_all (l : List UInt8) (k j : Nat) (hk : k ≤ j) (hj : j ≤ l.length) (h : ∀ i, k ≤ i → i < j → wrd8 (l[i]?.getD 0) = true) (he : j = l.length ∨ wrd8 (l[j]?.getD 0) = false) : runE l k = j := by
  unfold runE
  have e : (l.drop k).takeWhile wrd8 = (l.drop k).take (j - k) := by
    have e2 : l.drop k = (l.drop k).take (j - k) ++ (l.drop k).drop (j - k) := (List.take_append_drop _ _).symm
    have h1 : ∀ c ∈ (l.drop k).take (j - k), wrd8 c = true := by
      intro c hc
      obtain ⟨i, hi, e3⟩ := List.mem_iff_getElem.1 hc
      have hi2 : i < j - k := by simp at hi; omega
      have := h (k + i) (by omega) (by omega)
      rw [List.getElem?_eq_getElem (by omega)] at this
      rw [← e3]
      simpa using this
    conv => lhs; rw [e2]
    rw [List.takeWhile_append_of_pos h1]
    have h2 : ((l.drop k).drop (j - k)).takeWhile wrd8 = [] := by
      rw [List.drop_drop, show k + (j - k) = j by omega]
      rcases he with he | he
      · rw [List.drop_eq_nil_of_le (by omega)]; rfl
      · by_cases hjl : j < l.length
        · rw [List.drop_eq_getElem_cons hjl]
          rw [List.getElem?_eq_getElem hjl, Option.getD_some] at he
          rw [List.takeWhile_cons_of_neg (by rw [he]; simp)]
        · rw [List.drop_eq_nil_of_le (by omega)]; rfl
    rw [h2, List.append_nil]
  rw [e]
  simp
  omega
theorem ext_sub (l : List UInt8) (k j : Nat) : (⟨l.toArray⟩ : ByteArray).extract k j = ⟨((l.drop k).take (j - k)).toArray⟩ := by
  apply ByteArray.ext
  rw [ByteArray.data_extract]
  simp
set_option maxHeartbeats 2000000 in
theorem c_letters (b o : Nat) (l : List UInt8) (k : Nat) (w : World) (hk : k ≤ l.length) (hl : l.length ≤ 140737488355328) (h0 : w.cell? ⟨b, o, none⟩ = some (.string ⟨l.toArray⟩)) (h1 : w.cell? ⟨b, o + 1, none⟩ = some (.int .i64 k)) (hf : w.frozen? ⟨b, o + 1, none⟩ = false) :
    Calls Tryz.prog 86 #[.pointer (some ⟨b, o, none⟩)] w fun e w' => e = .returned (.string ⟨((l.drop k).take (runE l k - k)).toArray⟩) ∧ RdW b o w (runE l k) w' := by
  go_enter Tryz.func86, Tryz.ntmps86
  go_wp2_with fail
  go_step3
  go_wp2_with fail
  go_step3
  go_wp2_with fail
  have HF := Lib.hid hf
  have HT := Lib.hid h0
  have HRun := Lib.hid (run_all l k)
  go_loopg [] (l.length - k) (fun g wr => ∃ j : Nat, j + g = l.length ∧ k ≤ j ∧ Hid (RdW b o w j wr) ∧ Hid (∀ i, k ≤ i → i < j → wrd8 (l[i]?.getD 0) = true))
  case atStart => exact ⟨k, by omega, Nat.le_refl _, RdW.start h1, fun i h h' => by omega⟩
  case round =>
    obtain ⟨j, hjg, hkj, HW, HA⟩ := hrel
    have ht : wr.cell? ⟨b, o, none⟩ = some (.string ⟨l.toArray⟩) := HW.out.text.trans HT.out
    have hp : wr.cell? ⟨b, o + 1, none⟩ = some (.int .i64 j) := HW.out.pos
    have hfz : wr.frozen? ⟨b, o + 1, none⟩ = false := (HW.out.frz _).trans HF.out
    clear h0 h1 hf
    by_cases hlt : j < l.length
    · have hov : (j == l.length) = false := by simp; omega
      obtain ⟨cI, hcI⟩ : ∃ cI : Int, ((l[j]?.getD 0).toNat : Int) = cI := ⟨_, rfl⟩
      have hby : ∀ h, (((ByteArray.mk l.toArray)[j]'h).toNat : Int) = cI := fun h => (byte_at l j h).trans hcI
      have hcb : 0 ≤ cI ∧ cI ≤ 255 := by have := (l[j]?.getD 0).toNat_lt; omega
      obtain ⟨hc0, hc1⟩ := hcb
      have HWr : Hid (wrd8 (l[j]?.getD 0) = (ltrI cI || digI cI)) := by show (ltrI _ || digI _) = _; rw [hcI]
      have hj0 : (0 : Int) ≤ (j : Int) := by omega
      have hj1 : (j : Int) < (l.length : Int) := by omega
      clear hcI
      go_wp2_with fail
      refine (c_isOver b o l j _ ht hp).mono ?_
      rw [hov]
      rintro e w2 ⟨rfl, n, rfl⟩
      go_wp2_with fail
      go_quiet (fail)
      go_wp2_with fail
      have HN1 : Hid ((ltrI cI || digI cI) = true → ∀ i, k ≤ i → i < j + 1 → wrd8 (l[i]?.getD 0) = true) := fun h i hi hi2 => by
        by_cases e : i < j
        · exact HA.out i hi e
        · obtain rfl : i = j := by omega
          rw [HWr.out]
          exact h
      have HE : Hid ((ltrI cI || digI cI) = false → runE l k = j) := fun h => HRun.out j hkj (by omega) HA.out (.inr (by rw [HWr.out]; exact h))
      refine (c_isLetter cI _ hc0 hc1).mono ?_
      rintro e w3 ⟨rfl, rfl⟩
      cases hL : ltrI cI
      · go_wp2_with fail
        refine (c_isDigit cI _ hc0 hc1).mono ?_
        rintro e w3 ⟨rfl, rfl⟩
        cases hD : digI cI
        · have hre := HE.out (by rw [hL, hD]; rfl)
          have hj2 : (j : Int) ≤ (l.length : Int) := by omega
          have hex := ext_sub l k j
          have HV : Hid (runE l k = j) := hre
          clear hre
          go_wp2_with fail
          go_quiet (fail)
          go_wp2_with fail
          rw [Exit.noGoto_ret]
          go_ret
          rw [HV.out]
          exact ⟨rfl, (HW.out.drewN _).drewN _⟩
        · have HA2 := HN1.out (by rw [hL, hD]; rfl)
          go_wp2_with fail
          go_roundg (gk - 1)
          case measure => omega
          case rel => exact ⟨j + 1, by omega, by omega, (HW.out.drewN _).set (j + 1), HA2⟩
      · have HA2 := HN1.out (by rw [hL]; rfl)
        go_wp2_with fail
        go_roundg (gk - 1)
        case measure => omega
        case rel => exact ⟨j + 1, by omega, by omega, (HW.out.drewN _).set (j + 1), HA2⟩
    · have hov : (j == l.length) = true := by simp; omega
      have hre := HRun.out j hkj (by omega) HA.out (.inl (by omega))
      have HV : Hid (runE l k = j) := hre
      have hex := ext_sub l k j
      have hj0 : (0 : Int) ≤ (j : Int) := by omega
      have hj1 : (j : Int) ≤ (l.length : Int) := by omega
      clear hre
      go_wp2_with fail
      refine (c_isOver b o l j _ ht hp).mono ?_
      rw [hov]
      rintro e w2 ⟨rfl, n, rfl⟩
      go_wp2_with fail
      go_quiet (fail)
      go_wp2_with fail
      rw [Exit.noGoto_ret]
      go_ret
      rw [HV.out]
      exact ⟨rfl, (HW.out.drewN _).drewN _⟩
theorem name_no (l : List UInt8) (h : l = [] ∨ 31 < l.length ∨ ltr8 (l[0]?.getD 0) = false ∨ l.all wrd8 = false ∨ keyB l = true) : nameB l = false := by
  unfold nameB wordB
  rcases h with h | h | h | h | h
  · simp [h]
  · have : decide (l.length ≤ 31) = false := by simp; omega
    rw [this]; rfl
  · rw [h]; simp
  · rw [h]; simp
  · rw [h]; simp
theorem name_yes (l : List UInt8) (h0 : l ≠ []) (h1 : l.length ≤ 31) (h2 : ltr8 (l[0]?.getD 0) = true) (h3 : l.all wrd8 = true) (h4 : keyB l = false) : nameB l = true := by
  unfold nameB wordB
  simp [h0, h1, h2, h3, h4]
theorem all_take : ∀ (l : List UInt8), (l.takeWhile wrd8 == l) = l.all wrd8
  | [] => rfl
  | c :: l => by
    have ih := all_take l
    rw [List.takeWhile_cons, List.all_cons]
    cases h : wrd8 c
    · rfl
    · rw [← ih, Bool.true_and, if_pos rfl]
      simp
theorem run_whole (l : List UInt8) : ((l.drop 0).take (runE l 0 - 0) == l) = l.all wrd8 := by
  rw [← all_take]
  unfold runE
  have h2 := List.takeWhile_prefix (p := wrd8) (l := l)
  have h3 := List.prefix_iff_eq_take.1 h2
  simp only [List.drop_zero, Nat.zero_add, Nat.sub_zero]
  rw [← h3]
set_option maxHeartbeats 2000000 in
theorem c_IsName (l : List UInt8) (w : World) (hl : l.length ≤ 9223372036854775807) :
    Calls Tryz.prog 65 #[.string ⟨l.toArray⟩] w fun e w' => e = .returned (.bool (nameB l)) ∧ Below w.heap.size w w' := by
  by_cases h0 : l = []
  · have HV : Hid (nameB l = false) := name_no l (.inl h0)
    rw [HV.out]
    subst h0
    go_enter Tryz.func65, Tryz.ntmps65
    go_wp2_with fail
    go_ret
    exact ⟨rfl, (Below.refl _ _).alloc (Nat.le_refl _) _⟩
  have he : l.isEmpty = false := by cases l with
    | nil => exact absurd rfl h0
    | cons => rfl
  have he2 : (l == []) = false := by simp [h0]
  have hpos : 0 < l.length := List.length_pos_iff.2 h0
  by_cases h1 : l.length ≤ 31
  · have hd : decide ((l.length : Int) ≤ 31) = true := by simp; omega
    obtain ⟨cI, hcI⟩ : ∃ cI : Int, ((l[0]?.getD 0).toNat : Int) = cI := ⟨_, rfl⟩
    have hby : ∀ h, (((ByteArray.mk l.toArray)[0]'h).toNat : Int) = cI := fun h => (byte_at l 0 h).trans hcI
    have hcb : 0 ≤ cI ∧ cI ≤ 255 := by have := (l[0]?.getD 0).toNat_lt; omega
    obtain ⟨hc0, hc1⟩ := hcb
    have HL : Hid (ltr8 (l[0]?.getD 0) = ltrI cI) := by show ltrI _ = _; rw [hcI]
    have H0 := Lib.hid h0
    have H1 := Lib.hid h1
    have HR := Lib.hid (run_whole l)
    clear hcI
    cases hL : ltrI cI
    · have HV : Hid (nameB l = false) := name_no l (.inr (.inr (.inl (by rw [HL.out, hL]))))
      rw [HV.out]
      go_enter Tryz.func65, Tryz.ntmps65
      go_wp2_with fail
      refine (c_isLetter cI _ hc0 hc1).mono ?_
      rw [hL]
      rintro e w2 ⟨rfl, rfl⟩
      go_wp2_with fail
      go_ret
      exact ⟨rfl, (Below.refl _ _).alloc (Nat.le_refl _) _⟩
    · cases hA : l.all wrd8
      · have HV : Hid (nameB l = false) := name_no l (.inr (.inr (.inr (.inl hA))))
        rw [HV.out]
        have hq := HR.out.trans hA
        obtain ⟨m, hm⟩ : ∃ m, (l.drop 0).take (runE l 0 - 0) = m := ⟨_, rfl⟩
        have HC := Lib.hid (c_letters w.heap.size 0 l 0)
        rw [hm] at hq HC
        clear hm
        go_enter Tryz.func65, Tryz.ntmps65
        go_wp2_with fail
        refine (c_isLetter cI _ hc0 hc1).mono ?_
        rw [hL]
        rintro e w2 ⟨rfl, rfl⟩
        go_wp2_with fail
        refine (HC.out (w.alloc _) (Nat.zero_le _) (by have := H1.out; omega) (by simp) (by simp) (by simp)).mono ?_
        rintro e w2 ⟨rfl, hw⟩
        have HB := Lib.hid (hw.below (Nat.le_refl w.heap.size))
        clear hw
        go_wp2_with fail
        go_ret
        exact ⟨rfl, ((Below.refl _ _).alloc (Nat.le_refl _) _).trans HB.out⟩
      · have hq := HR.out.trans hA
        obtain ⟨m, hm⟩ : ∃ m, (l.drop 0).take (runE l 0 - 0) = m := ⟨_, rfl⟩
        have HC := Lib.hid (c_letters w.heap.size 0 l 0)
        rw [hm] at hq HC
        clear hm
        have hml : m = l := by simpa using hq
        subst hml
        have HVy : Hid (nameB m = !keyB m) := by
          show _ = _
          cases hK : keyB m
          · exact name_yes m H0.out H1.out (by rw [HL.out, hL]) hA hK
          · exact name_no m (.inr (.inr (.inr (.inr hK))))
        rw [HVy.out]
        go_enter Tryz.func65, Tryz.ntmps65
        go_wp2_with fail
        refine (c_isLetter cI _ hc0 hc1).mono ?_
        rw [hL]
        rintro e w2 ⟨rfl, rfl⟩
        go_wp2_with fail
        refine (HC.out (w.alloc _) (Nat.zero_le _) (by have := H1.out; omega) (by simp) (by simp) (by simp)).mono ?_
        rintro e w2 ⟨rfl, hw⟩
        have HB := Lib.hid (hw.below (Nat.le_refl w.heap.size))
        clear hw
        go_wp2_with fail
        refine (c_IsKey m _).mono ?_
        rintro e w3 ⟨rfl, rfl⟩
        cases hK : keyB m
        all_goals
          go_wp2_with fail
          go_ret
          exact ⟨by rw [hK]; rfl, ((Below.refl _ _).alloc (Nat.le_refl _) _).trans HB.out⟩
  · have HV : Hid (nameB l = false) := name_no l (.inr (.inl (by omega)))
    rw [HV.out]
    have hd : decide ((l.length : Int) ≤ 31) = false := by simp; omega
    go_enter Tryz.func65, Tryz.ntmps65
    go_wp2_with fail
    go_ret
    exact ⟨rfl, (Below.refl _ _).alloc (Nat.le_refl _) _⟩
end Go.Proofs.YtacbjhbiaaieoaaGreatDoor
