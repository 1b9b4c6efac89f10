/-
  The contracts of a number's size, of a word and of a number, in the code.
-/
import Derived.Test.YtbccabpcljkamaaDoorLexRd5
import Derived.Shelf.Strings.SlTrimAscii
namespace Go.Proofs.YtbccabpcljkamaaDoor
set_option linter.unusedVariables false
set_option linter.unusedSimpArgs false
set_option maxRecDepth 100000
open Go.RowKit

theorem c_TrimU (x : List UInt8) (w : World) (hx : x.length ≤ 65536) :
    Calls Tryd.prog 45 #[.string ⟨x.toArray⟩, .string ⟨#[117, 85]⟩] w fun e w' => e = .returned (.string ⟨(trimU x).toArray⟩) ∧ Below w.heap.size w w' :=
  (Any.strings_TrimRight_laid Tryd.lays162 (by kernel_rfl) ⟨x.toArray⟩ ⟨#[117, 85]⟩ w (by show x.toArray.size ≤ _; simp; omega) (by decide) (ascii_of_all (by decide))).mono fun e w' h => ⟨by simpa [trimU] using h.1, h.2⟩
theorem dropWhile_le (p : UInt8 → Bool) (l : List UInt8) : (l.dropWhile p).length ≤ l.length := (List.dropWhile_suffix p).length_le
theorem trimU_le (x : List UInt8) : (trimU x).length ≤ x.length := by
  unfold trimU Lib.trimRightS
  have := dropWhile_le (fun c => ([117, 85] : List UInt8).contains c) x.reverse
  simp only [List.length_reverse] at this ⊢
  exact this
theorem parse16_le : ∀ (l : List UInt8) (M acc u : Nat), acc ≤ M → parse16 M acc l = .ok u → u ≤ M
  | [], M, acc, u, h, he => by unfold parse16 at he; cases he; exact h
  | c :: r, M, acc, u, h, he => by
    unfold parse16 at he
    split at he
    · cases he
    · split at he
      · cases he
      · exact parse16_le r M _ u (by omega) he
theorem parse10_le : ∀ (l : List UInt8) (M acc u : Nat), acc ≤ M → Lib.parseUintM M acc l = .ok u → u ≤ M
  | [], M, acc, u, h, he => by unfold Lib.parseUintM at he; cases he; exact h
  | c :: r, M, acc, u, h, he => by
    unfold Lib.parseUintM at he
    split at he
    · split at he
      · cases he
      · split at he
        · cases he
        · exact parse10_le r M _ u (by omega) he
    · cases he
theorem num_le {u : Nat} (l : List UInt8) (h : parse16B 32 l = .ok u ∨ Lib.parseUintB 32 l = .ok u) : u ≤ 4294967295 := by
  rcases h with h | h
  · unfold parse16B at h
    split at h
    · cases h
    · exact parse16_le _ _ _ _ (Nat.zero_le _) h
  · unfold Lib.parseUintB at h
    split at h
    · cases h
    · exact parse10_le _ _ _ _ (Nat.zero_le _) h
theorem size_le {u : Nat} (d : List UInt8) (h : sizeP d = some u) : u ≤ 4294967295 := by
  unfold sizeP at h
  split at h
  · unfold numOk at h
    split at h
    · rename_i v hv; cases h; exact num_le _ (.inl hv)
    · cases h
  · split at h
    · cases h
    · unfold numOk at h
      split at h
      · rename_i v hv; cases h; exact num_le _ (.inr hv)
      · cases h
/-- What sizeOf answers. -/
def SzR (o : Option Nat) (e : Ending) : Prop := (∃ u : Nat, o = some u ∧ e = .returned (.tuple #[.int .i64 u, .bool true])) ∨ (o = none ∧ ∃ v : Int, e = .returned (.tuple #[.int .i64 v, .bool false]))
theorem SzR.of {x : Lib.NumEnd Nat} {e : Ending} {o : Option Nat} (ho : numOk x = o) (h : (∃ u : Nat, x = .ok u ∧ e = .returned (.tuple #[.int .i64 u, .bool true])) ∨ (numOk x = none ∧ ∃ v : Int, e = .returned (.tuple #[.int .i64 v, .bool false]))) : SzR o e := by
  subst ho
  rcases h with ⟨u, rfl, h⟩ | h
  · exact .inl ⟨u, rfl, h⟩
  · exact .inr h
set_option maxHeartbeats 4000000 in
attribute [local irreducible] Go.wpQuiet in
theorem c_sizeOf (B : Nat) (d : List UInt8) (w : World) (hE : Env B w) (hB : B ≤ w.heap.size) (hd : d.length ≤ 65536) :
    Calls Tryd.prog 46 #[.string ⟨d.toArray⟩] w fun e w' => SzR (sizeP d) e ∧ Below w.heap.size w w' := by
  have HE := Lib.hid hE
  have HBw := Lib.hid hB
  obtain ⟨o, ho⟩ : ∃ o, sizeP d = o := ⟨_, rfl⟩
  rw [ho]
  have HP : Hid (∀ (p : List UInt8) (w : World), Calls Tryd.prog 51 #[.string ⟨d.toArray⟩, .string ⟨p.toArray⟩] w fun e w' => e = .returned (.bool (p.isPrefixOf d)) ∧ w' = w) := fun p w => (c_sHasPrefix d p w).mono fun e w' h => ⟨h.1, h.2.symm⟩
  have HB2 : Hid (∀ w2, (∃ n, w2 = w.drewN n) → Env B w2 ∧ w2.heap.size = w.heap.size ∧ Below w.heap.size w w2) := fun w2 ⟨n, hn⟩ => by
    subst hn
    exact ⟨HE.out.next (below_drewN (Below.refl _ _) n), rfl, below_drewN (Below.refl _ _) n⟩
  clear hE hB
  cases h1 : ([48, 120] : List UInt8).isPrefixOf d
  · cases h2 : ([48, 88] : List UInt8).isPrefixOf d
    · have HP1 := Lib.hid (HP.out [48, 120])
      rw [h1] at HP1
      have HP2 := Lib.hid (HP.out [48, 88])
      rw [h2] at HP2
      by_cases hl1 : 1 < d.length
      · obtain ⟨cI, hcI⟩ : ∃ cI : Int, ((d[0]?.getD 0).toNat : Int) = cI := ⟨_, rfl⟩
        have hby : ∀ h, (((ByteArray.mk d.toArray)[0]'h).toNat : Int) = cI := fun h => (byte_at d 0 h).trans hcI
        have hld : decide ((1 : Int) < (d.length : Int)) = true := by simp; omega
        have e48 : d[0]?.getD 0 = 48 ↔ cI = 48 := u8_eq hcI
        by_cases h48 : d[0]?.getD 0 = 48
        · have HV : Hid (o = none) := by show _ = _; rw [← ho]; unfold sizeP; rw [if_neg (by simp [h1, h2]), if_pos ⟨hl1, h48⟩]
          have hc48 : (cI == 48) = true := by rw [beq_iff_eq]; exact e48.1 h48
          clear ho h48 e48 hcI
          go_enter Tryd.func46, Tryd.ntmps46
          go_wp2_with fail
          refine (HP1.out _).mono ?_
          rintro e w1 ⟨rfl, rfl⟩
          go_wp2_with fail
          refine (HP2.out _).mono ?_
          rintro e w1 ⟨rfl, rfl⟩
          go_wp2_with fail
          go_ret2
          exact ⟨.inr ⟨HV.out, _, rfl⟩, Below.refl _ _⟩
        · have hc48 : (cI == 48) = false := by rw [beq_eq_false_iff_ne]; exact fun h => h48 (e48.2 h)
          have HYl := Lib.hid hd
          have HV : Hid (o = numOk (Lib.parseUintB 32 d)) := by show _ = _; rw [← ho]; unfold sizeP; rw [if_neg (by simp [h1, h2]), if_neg (fun h => h48 h.2)]
          clear ho h48 e48 hcI
          go_enter Tryd.func46, Tryd.ntmps46
          go_wp2_with fail
          refine (HP1.out _).mono ?_
          rintro e w1 ⟨rfl, rfl⟩
          go_wp2_with fail
          refine (HP2.out _).mono ?_
          rintro e w1 ⟨rfl, rfl⟩
          go_wp2_with fail
          have HEx := HE
          have HBx : Hid (Below w1.heap.size w1 w1) := Below.refl _ _
          have HSx : Hid (w1.heap.size ≤ w1.heap.size) := Nat.le_refl _
          refine (c_par10_32 B d _ HEx.out HYl.out).mono ?_
          rintro e w3 ⟨hN, hb3⟩
          have HB3 := Lib.hid hb3
          clear hb3
          rcases hN with ⟨u, hu, rfl⟩ | ⟨hn, v, tp, p, rfl⟩
          · have HU : Hid (o = some u) := by show _ = _; rw [HV.out, hu]; rfl
            have hub := num_le d (.inr hu)
            have hu1 : (u : Int) ≤ 4294967295 := by omega
            clear hu hub
            go_wp2_with fail
            go_region
            all_goals
              go_wp2_with fail
              go_ret2
              exact ⟨.inl ⟨u, HU.out, rfl⟩, HBx.out.trans (HB3.out.drew.mono HSx.out)⟩
          · have HU : Hid (o = none) := by show _ = _; rw [HV.out, hn]
            clear hn
            go_wp2_with fail
            go_region
            all_goals
              go_wp2_with fail
              go_ret2
              exact ⟨.inr ⟨HU.out, _, rfl⟩, HBx.out.trans (HB3.out.drew.mono HSx.out)⟩
      · have hld : decide ((1 : Int) < (d.length : Int)) = false := by simp; omega
        have HYl := Lib.hid hd
        have HV : Hid (o = numOk (Lib.parseUintB 32 d)) := by show _ = _; rw [← ho]; unfold sizeP; rw [if_neg (by simp [h1, h2]), if_neg (fun h => hl1 h.1)]
        clear ho
        go_enter Tryd.func46, Tryd.ntmps46
        go_wp2_with fail
        refine (HP1.out _).mono ?_
        rintro e w1 ⟨rfl, rfl⟩
        go_wp2_with fail
        refine (HP2.out _).mono ?_
        rintro e w1 ⟨rfl, rfl⟩
        go_wp2_with fail
        have HEx := HE
        have HBx : Hid (Below w1.heap.size w1 w1) := Below.refl _ _
        have HSx : Hid (w1.heap.size ≤ w1.heap.size) := Nat.le_refl _
        refine (c_par10_32 B d _ HEx.out HYl.out).mono ?_
        rintro e w3 ⟨hN, hb3⟩
        have HB3 := Lib.hid hb3
        clear hb3
        rcases hN with ⟨u, hu, rfl⟩ | ⟨hn, v, tp, p, rfl⟩
        · have HU : Hid (o = some u) := by show _ = _; rw [HV.out, hu]; rfl
          have hub := num_le d (.inr hu)
          have hu1 : (u : Int) ≤ 4294967295 := by omega
          clear hu hub
          go_wp2_with fail
          go_region
          all_goals
            go_wp2_with fail
            go_ret2
            exact ⟨.inl ⟨u, HU.out, rfl⟩, HBx.out.trans (HB3.out.drew.mono HSx.out)⟩
        · have HU : Hid (o = none) := by show _ = _; rw [HV.out, hn]
          clear hn
          go_wp2_with fail
          go_region
          all_goals
            go_wp2_with fail
            go_ret2
            exact ⟨.inr ⟨HU.out, _, rfl⟩, HBx.out.trans (HB3.out.drew.mono HSx.out)⟩
    · have HP1 := Lib.hid (HP.out [48, 120])
      rw [h1] at HP1
      have HP2 := Lib.hid (HP.out [48, 88])
      rw [h2] at HP2
      have h2d : 2 ≤ d.length := by obtain ⟨t, ht⟩ := pre2 h2; rw [ht]; simp
      have h2i : (2 : Int) ≤ (d.length : Int) := by omega
      obtain ⟨y, hy⟩ : ∃ y, d.drop 2 = y := ⟨_, rfl⟩
      have hex : (⟨d.toArray⟩ : ByteArray).extract 2 d.length = ⟨y.toArray⟩ := by rw [ext_end, hy]
      have HYl : Hid (y.length ≤ 65536) := by show _ ≤ _; rw [← hy, List.length_drop]; omega
      have HV : Hid (o = numOk (parse16B 32 y)) := by show _ = _; rw [← ho, ← hy]; unfold sizeP; rw [if_pos (by simp [h2])]
      have HEx := HE
      have HBx : Hid (Below w.heap.size w w) := Below.refl _ _
      have HSx : Hid (w.heap.size ≤ w.heap.size) := Nat.le_refl _
      clear ho hy h2d
      go_enter Tryd.func46, Tryd.ntmps46
      go_wp2_with fail
      refine (HP1.out _).mono ?_
      rintro e w1 ⟨rfl, rfl⟩
      go_wp2_with fail
      refine (HP2.out _).mono ?_
      rintro e w1 ⟨rfl, rfl⟩
      go_wp2_with fail
      refine (c_par16_32 B y _ HEx.out HYl.out).mono ?_
      rintro e w3 ⟨hN, hb3⟩
      have HB3 := Lib.hid hb3
      clear hb3
      rcases hN with ⟨u, hu, rfl⟩ | ⟨hn, v, tp, p, rfl⟩
      · have HU : Hid (o = some u) := by show _ = _; rw [HV.out, hu]; rfl
        have hub := num_le y (.inl hu)
        have hu1 : (u : Int) ≤ 4294967295 := by omega
        clear hu hub
        go_wp2_with fail
        go_region
        all_goals
          go_wp2_with fail
          go_ret2
          exact ⟨.inl ⟨u, HU.out, rfl⟩, HBx.out.trans (HB3.out.drew.mono HSx.out)⟩
      · have HU : Hid (o = none) := by show _ = _; rw [HV.out, hn]
        clear hn
        go_wp2_with fail
        go_region
        all_goals
          go_wp2_with fail
          go_ret2
          exact ⟨.inr ⟨HU.out, _, rfl⟩, HBx.out.trans (HB3.out.drew.mono HSx.out)⟩
  · have HP1 := Lib.hid (HP.out [48, 120])
    rw [h1] at HP1
    have h2d : 2 ≤ d.length := by obtain ⟨t, ht⟩ := pre2 h1; rw [ht]; simp
    have h2i : (2 : Int) ≤ (d.length : Int) := by omega
    obtain ⟨y, hy⟩ : ∃ y, d.drop 2 = y := ⟨_, rfl⟩
    have hex : (⟨d.toArray⟩ : ByteArray).extract 2 d.length = ⟨y.toArray⟩ := by rw [ext_end, hy]
    have HYl : Hid (y.length ≤ 65536) := by show _ ≤ _; rw [← hy, List.length_drop]; omega
    have HV : Hid (o = numOk (parse16B 32 y)) := by show _ = _; rw [← ho, ← hy]; unfold sizeP; rw [if_pos (by simp [h1])]
    have HEx := HE
    have HBx : Hid (Below w.heap.size w w) := Below.refl _ _
    have HSx : Hid (w.heap.size ≤ w.heap.size) := Nat.le_refl _
    clear ho hy h2d
    go_enter Tryd.func46, Tryd.ntmps46
    go_wp2_with fail
    refine (HP1.out _).mono ?_
    rintro e w1 ⟨rfl, rfl⟩
    go_wp2_with fail
    refine (c_par16_32 B y _ HEx.out HYl.out).mono ?_
    rintro e w3 ⟨hN, hb3⟩
    have HB3 := Lib.hid hb3
    clear hb3
    rcases hN with ⟨u, hu, rfl⟩ | ⟨hn, v, tp, p, rfl⟩
    · have HU : Hid (o = some u) := by show _ = _; rw [HV.out, hu]; rfl
      have hub := num_le y (.inl hu)
      have hu1 : (u : Int) ≤ 4294967295 := by omega
      clear hu hub
      go_wp2_with fail
      go_region
      all_goals
        go_wp2_with fail
        go_ret2
        exact ⟨.inl ⟨u, HU.out, rfl⟩, HBx.out.trans (HB3.out.drew.mono HSx.out)⟩
    · have HU : Hid (o = none) := by show _ = _; rw [HV.out, hn]
      clear hn
      go_wp2_with fail
      go_region
      all_goals
        go_wp2_with fail
        go_ret2
        exact ⟨.inr ⟨HU.out, _, rfl⟩, HBx.out.trans (HB3.out.drew.mono HSx.out)⟩
/-- Behind w: every other block that was there is as it was; of block b all but the place, which is k, and where that begins which is read, which is f. -/
structure LxX (b : Nat) (w : World) (k f : Nat) (wr : World) : Prop where
  oth : ∀ i, i ≠ 1 → i ≠ 2 → wr.cell? ⟨b, i, none⟩ = w.cell? ⟨b, i, none⟩
  pos : wr.cell? ⟨b, 1, none⟩ = some (.int .i64 k)
  frm : wr.cell? ⟨b, 2, none⟩ = some (.int .i64 f)
  frz : ∀ i, wr.frozen? ⟨b, i, none⟩ = w.frozen? ⟨b, i, none⟩
  blk : ∀ j, j ≠ b → j < w.heap.size → wr.heap[j]? = w.heap[j]?
  size : w.heap.size ≤ wr.heap.size
  os : wr.os = w.os
  tape : wr.tape = w.tape
  output : wr.output = w.output
theorem RdX.l {b k f : Nat} {w wr : World} (h : RdX b w k wr) (hf : w.cell? ⟨b, 2, none⟩ = some (.int .i64 f)) : LxX b w k f wr :=
  ⟨fun i h1 _ => h.oth i h1, h.pos, (h.oth 2 (by decide)).trans hf, h.frz, h.blk, h.size, h.os, h.tape, h.output⟩
theorem LxX.x {b k f j : Nat} {w wr w2 : World} (h : LxX b w k f wr) (h2 : RdX b wr j w2) : LxX b w j f w2 :=
  ⟨fun i h1 h3 => (h2.oth i h1).trans (h.oth i h1 h3), h2.pos, (h2.oth 2 (by decide)).trans h.frm, fun i => (h2.frz i).trans (h.frz i), fun j hj hs => (h2.blk j hj (Nat.lt_of_lt_of_le hs h.size)).trans (h.blk j hj hs), Nat.le_trans h.size h2.size, h2.os.trans h.os, h2.tape.trans h.tape, h2.output.trans h.output⟩
theorem LxX.trans {b k f j g : Nat} {w wr w2 : World} (h : LxX b w k f wr) (h2 : LxX b wr j g w2) : LxX b w j g w2 :=
  ⟨fun i h1 h3 => (h2.oth i h1 h3).trans (h.oth i h1 h3), h2.pos, h2.frm, fun i => (h2.frz i).trans (h.frz i), fun j hj hs => (h2.blk j hj (Nat.lt_of_lt_of_le hs h.size)).trans (h.blk j hj hs), Nat.le_trans h.size h2.size, h2.os.trans h.os, h2.tape.trans h.tape, h2.output.trans h.output⟩
theorem LxX.start {b k f : Nat} {w : World} (h1 : w.cell? ⟨b, 1, none⟩ = some (.int .i64 k)) (h2 : w.cell? ⟨b, 2, none⟩ = some (.int .i64 f)) : LxX b w k f w := (RdX.start h1).l h2
theorem LxX.below {B b k f : Nat} {w wr : World} (h : LxX b w k f wr) (hB : B ≤ b) (hb : b < w.heap.size) : Below B w wr := ⟨h.os, h.tape, h.output, h.size, fun j hj => h.blk j (by omega) (by omega)⟩
theorem LxX.setf {b k f : Nat} {w wr : World} (h : LxX b w k f wr) (j : Nat) : LxX b w k j (wr.setCell ⟨b, 2, none⟩ (.int .i64 j)) :=
  ⟨fun i h1 h2 => (World.cell?_setCell_other _ _ _ _ (fun e => h2 (by injection e with _ e2; exact e2.symm))).trans (h.oth i h1 h2), (World.cell?_setCell_other _ _ _ _ (fun e => by injection e with _ e2; cases e2)).trans h.pos, World.cell?_setCell_same _ _ _ h.frm, fun i => (World.frozen?_setCell _ _ _ _).trans (h.frz i),
    fun i hi hs => (Below.heap_setCell _ _ _ _ hi).trans (h.blk i hi hs), by simpa [World.setCell] using h.size, h.os, h.tape, h.output⟩
theorem LxX.all {b k f : Nat} {l : List UInt8} {w wr : World} (h : LxX b w k f wr) (h0 : w.cell? ⟨b, 0, none⟩ = some (.string ⟨l.toArray⟩)) (hf : ∀ i, i < 4 → w.frozen? ⟨b, i, none⟩ = false) :
    wr.cell? ⟨b, 0, none⟩ = some (.string ⟨l.toArray⟩) ∧ wr.cell? ⟨b, 1, none⟩ = some (.int .i64 k) ∧ wr.cell? ⟨b, 2, none⟩ = some (.int .i64 f) ∧ (∀ i, i < 4 → wr.frozen? ⟨b, i, none⟩ = false) :=
  ⟨(h.oth 0 (by decide) (by decide)).trans h0, h.pos, h.frm, fun i hi => (h.frz i).trans (hf i hi)⟩
theorem LxX.next {b k f : Nat} {w wr w2 : World} (h : LxX b w k f wr) (hb : b < w.heap.size) (hn : Below wr.heap.size wr w2) : LxX b w k f w2 := by
  have hbw : b < wr.heap.size := Nat.lt_of_lt_of_le hb h.size
  have e := hn.block b hbw
  exact ⟨fun i h1 h2 => (cell_of_blk e i).trans (h.oth i h1 h2), (cell_of_blk e 1).trans h.pos, (cell_of_blk e 2).trans h.frm, fun i => (frozen_of_blk e i).trans (h.frz i), fun j hj hs => (hn.block j (Nat.lt_of_lt_of_le hs h.size)).trans (h.blk j hj hs), Nat.le_trans h.size hn.size, hn.os.trans h.os, hn.tape.trans h.tape, hn.output.trans h.output⟩
theorem LxX.draw {b k f : Nat} {w wr w2 : World} (h : LxX b w k f wr) (hn : ∃ n, w2 = wr.drewN n) : LxX b w k f w2 := by
  obtain ⟨n, rfl⟩ := hn
  exact ⟨h.oth, h.pos, h.frm, h.frz, h.blk, h.size, h.os, h.tape, h.output⟩
abbrev tV (k a n : Int) (l : List UInt8) : Value := .agg #[.int .i64 k, .int .i64 a, .int .i64 n, .string ⟨l.toArray⟩]
/-- A call's own token, which it hands back. -/
abbrev tOb (k a n : Int) (l : List UInt8) : Obj := .cells #[.int .i64 k, .int .i64 a, .int .i64 n, .string ⟨l.toArray⟩] 33 (0, 0)
theorem tob_cells {w : World} {N : Nat} {k a n : Int} {l : List UInt8} (h : w.heap[N]? = some (tOb k a n l)) :
    w.cell? ⟨N, 0, none⟩ = some (.int .i64 k) ∧ w.cell? ⟨N, 1, none⟩ = some (.int .i64 a) ∧ w.cell? ⟨N, 2, none⟩ = some (.int .i64 n) ∧ w.cell? ⟨N, 3, none⟩ = some (.string ⟨l.toArray⟩) ∧ ∀ i, w.frozen? ⟨N, i, none⟩ = false :=
  ⟨by rw [Lib.cell_of_heap h]; rfl, by rw [Lib.cell_of_heap h]; rfl, by rw [Lib.cell_of_heap h]; rfl, by rw [Lib.cell_of_heap h]; rfl, fun i => Lib.frozen_of_heap h i⟩
theorem LxX.own {b k f N : Nat} {w wr : World} (h : LxX b w k f wr) (i : Nat) (v : Value) (hN : w.heap.size ≤ N) (hb : b < w.heap.size) : LxX b w k f (wr.setCell ⟨N, i, none⟩ v) := by
  have hne : b ≠ N := by omega
  have e : (wr.setCell ⟨N, i, none⟩ v).heap[b]? = wr.heap[b]? := Below.heap_setCell _ _ _ _ (show b ≠ N from hne)
  exact ⟨fun j h1 h2 => (cell_of_blk e j).trans (h.oth j h1 h2), (cell_of_blk e 1).trans h.pos, (cell_of_blk e 2).trans h.frm, fun j => (frozen_of_blk e j).trans (h.frz j), fun j hj hs => (Below.heap_setCell _ _ _ _ (show j ≠ N by omega)).trans (h.blk j hj hs), by simpa [World.setCell] using h.size, h.os, h.tape, h.output⟩
theorem LxX.own4 {b k f N : Nat} {w wr : World} (h : LxX b w k f wr) (v0 v1 v2 v3 : Value) (hN : w.heap.size ≤ N) (hb : b < w.heap.size) :
    LxX b w k f ((((wr.setCell ⟨N, 0, none⟩ v0).setCell ⟨N, 1, none⟩ v1).setCell ⟨N, 2, none⟩ v2).setCell ⟨N, 3, none⟩ v3) :=
  (((h.own 0 v0 hN hb).own 1 v1 hN hb).own 2 v2 hN hb).own 3 v3 hN hb
theorem tob_set4 {w : World} {N : Nat} {k0 a0 n0 : Int} {l0 : List UInt8} (h : w.heap[N]? = some (tOb k0 a0 n0 l0)) (k a n : Int) (l : List UInt8) (o : Obj) :
    (((((w.setCell ⟨N, 0, none⟩ (.int .i64 k)).setCell ⟨N, 1, none⟩ (.int .i64 a)).setCell ⟨N, 2, none⟩ (.int .i64 n)).setCell ⟨N, 3, none⟩ (.string ⟨l.toArray⟩)).alloc o).heap[N]? = some (tOb k a n l) := by
  have hlt : N < w.heap.size := (Array.getElem?_eq_some_iff.1 h).1
  rw [Lib.alloc_old _ _ _ (by simpa [World.setCell] using hlt)]
  simp [World.setCell, Array.getElem?_modify, h]
/-- What a token's reader answers. -/
def TkR (b : Nat) (l : List UInt8) (f : Nat) (w : World) (o : Tr) (e : Ending) (w' : World) : Prop :=
  (∃ kd n x r f', o = .ok kd n x r ∧ e = .returned (.tuple #[tV kd f n x, .int .i64 0]) ∧ LxX b w (plc l r) f' w') ∨ (∃ c r k', o = .bad c r ∧ e = .returned (.tuple #[tV 0 0 0 [], .int .i64 c]) ∧ LxX b w k' (plc l r) w')
theorem TkR.no {b f k' g : Nat} {l r : List UInt8} {w w' : World} {o : Tr} {e : Ending} {c : Int} (ho : o = .bad c r) (hp : plc l r = g) (he : e = .returned (.tuple #[tV 0 0 0 [], .int .i64 c])) (h : LxX b w k' g w') : TkR b l f w o e w' :=
  .inr ⟨c, r, k', ho, he, by rw [hp]; exact h⟩
theorem c_lets (b : Nat) (l : List UInt8) (k : Nat) (w : World) (hk : k ≤ l.length) (hl : l.length ≤ 65536) (h0 : w.cell? ⟨b, 0, none⟩ = some (.string ⟨l.toArray⟩)) (h1 : w.cell? ⟨b, 1, none⟩ = some (.int .i64 k)) (hf : w.frozen? ⟨b, 1, none⟩ = false) :
    Calls Tryd.prog 36 #[.pointer (some ⟨b, 0, none⟩)] w fun e w' => e = .returned (.string ⟨((l.drop k).takeWhile wrd8).toArray⟩) ∧ RdX b w (plc l ((l.drop k).drop ((l.drop k).takeWhile wrd8).length)) w' := by
  have hp := (List.takeWhile_prefix (p := wrd8) (l := l.drop k))
  have hle := hp.length_le
  rw [List.length_drop] at hle
  have e1 : runE l k - k = ((l.drop k).takeWhile wrd8).length := by unfold runE; omega
  have e2 : (l.drop k).take (runE l k - k) = (l.drop k).takeWhile wrd8 := by rw [e1]; exact (List.prefix_iff_eq_take.1 hp).symm
  have e3 : runE l k = plc l ((l.drop k).drop ((l.drop k).takeWhile wrd8).length) := by
    unfold runE plc
    rw [List.drop_drop, List.length_drop]
    omega
  refine (c_letters b 0 l k w hk (by omega) h0 h1 hf).mono fun e w' h => ?_
  rw [e2, e3] at h
  exact ⟨h.1, h.2.x⟩
set_option maxHeartbeats 4000000 in
theorem c_word (b : Nat) (l : List UInt8) (k : Nat) (w : World) (hbw : b < w.heap.size) (hk : k ≤ l.length) (hl : l.length ≤ 65536) (h0 : w.cell? ⟨b, 0, none⟩ = some (.string ⟨l.toArray⟩)) (h1 : w.cell? ⟨b, 1, none⟩ = some (.int .i64 k)) (h2 : w.cell? ⟨b, 2, none⟩ = some (.int .i64 k)) (hf : ∀ i, i < 4 → w.frozen? ⟨b, i, none⟩ = false)  :
    Calls Tryd.prog 30 #[.pointer (some ⟨b, 0, none⟩)] w fun e w' => TkR b l k w (wordT (l.drop k)) e w' := by
  have HX := Lib.hid (LxX.start h1 h2)
  have HBw := Lib.hid hbw
  have HL : Hid (∀ wr, LxX b w k k wr → Calls Tryd.prog 36 #[.pointer (some ⟨b, 0, none⟩)] wr fun e w' => e = .returned (.string ⟨((l.drop k).takeWhile wrd8).toArray⟩) ∧ RdX b wr (plc l ((l.drop k).drop ((l.drop k).takeWhile wrd8).length)) w') := fun wr h => by
    obtain ⟨g0, g1, g2, g3⟩ := h.all h0 hf
    exact c_lets b l k wr hk hl g0 g1 (g3 1 (by decide))
  have HPk : Hid (plc l (l.drop k) = k) := plc_drop l k hk
  obtain ⟨r, hr⟩ : ∃ r, l.drop k = r := ⟨_, rfl⟩
  rw [hr] at HL HPk ⊢
  have hxl : (r.takeWhile wrd8).length ≤ 65536 := by
    have := (List.takeWhile_prefix (p := wrd8) (l := r)).length_le
    rw [← hr, List.length_drop] at this
    rw [← hr]
    omega
  obtain ⟨o, ho⟩ : ∃ o, wordT r = o := ⟨_, rfl⟩
  rw [ho]
  unfold wordT at ho
  obtain ⟨x, hx⟩ : ∃ x, r.takeWhile wrd8 = x := ⟨_, rfl⟩
  rw [hx] at HL hxl ho
  clear hr hx h0 h1 hf h2
  go_enter Tryd.func30, Tryd.ntmps30
  go_wp2_with fail
  have HX1 := Lib.hid (HX.out.next HBw.out ((Below.refl w.heap.size w).alloc (Nat.le_refl _) (tOb 0 0 0 [])))
  have HN1 : Hid ((w.alloc (tOb 0 0 0 [])).heap[w.heap.size]? = some (tOb 0 0 0 [])) := heap_alloc_new w _
  refine (HL.out _ HX1.out).mono ?_
  rintro e w2 ⟨rfl, hx2⟩
  have HX2 := Lib.hid (HX1.out.x hx2)
  have HN2 : Hid (w2.heap[w.heap.size]? = some (tOb 0 0 0 [])) := (hx2.blk _ (by have := HBw.out; omega) (by simp)).trans HN1.out
  have hc2 := HX2.out.frm
  obtain ⟨n0, n1, n2, n3, n4⟩ := tob_cells HN2.out
  have nf := n4 0
  clear hx2 HX1 HN1
  go_wp2_with fail
  refine (c_IsKey x _).mono ?_
  rintro e w3 ⟨rfl, rfl⟩
  cases hK : keyB x
  · rw [hK, if_neg (by simp)] at ho
    by_cases hl31 : 31 < x.length
    · rw [if_pos hl31] at ho
      have hd : decide ((31 : Int) < (x.length : Int)) = true := by simp; omega
      have Ho := Lib.hid ho
      clear ho hl31
      go_wp2_with fail
      refine bodyPost_ret (v := .tuple #[tV 0 0 0 [], .int .i64 3]) (by simp [results, Tryd.results30, go_sem, n0, n1, n2, n3]) rfl ?_
      exact TkR.no Ho.out.symm HPk.out rfl (HX2.out.own4 _ _ _ _ (Nat.le_refl _) HBw.out)
    · rw [if_neg hl31] at ho
      have hd : decide ((31 : Int) < (x.length : Int)) = false := by simp; omega
      have Ho := Lib.hid ho
      clear ho hl31
      go_wp2_with fail
      refine bodyPost_ret (v := .tuple #[tV 1 k 0 x, .int .i64 0]) (by simp [results, Tryd.results30, go_sem, n0, n1, n2, n3]) rfl ?_
      exact .inl ⟨1, 0, x, _, _, Ho.out.symm, rfl, HX2.out.own4 _ _ _ _ (Nat.le_refl _) HBw.out⟩
  · rw [hK, if_pos rfl] at ho
    have Ho := Lib.hid ho
    clear ho
    go_wp2_with fail
    refine bodyPost_ret (v := .tuple #[tV 2 k 0 x, .int .i64 0]) (by simp [results, Tryd.results30, go_sem, n0, n1, n2, n3]) rfl ?_
    exact .inl ⟨2, 0, x, _, _, Ho.out.symm, rfl, HX2.out.own4 _ _ _ _ (Nat.le_refl _) HBw.out⟩
set_option maxHeartbeats 4000000 in
attribute [local irreducible] Go.wpQuiet in
theorem c_lnumber (B b : Nat) (l : List UInt8) (k : Nat) (w : World) (hE : Env B w) (hB : B ≤ b) (hbw : b < w.heap.size) (hk : k ≤ l.length) (hl : l.length ≤ 65536) (h0 : w.cell? ⟨b, 0, none⟩ = some (.string ⟨l.toArray⟩)) (h1 : w.cell? ⟨b, 1, none⟩ = some (.int .i64 k)) (h2 : w.cell? ⟨b, 2, none⟩ = some (.int .i64 k)) (hf : ∀ i, i < 4 → w.frozen? ⟨b, i, none⟩ = false) :
    Calls Tryd.prog 32 #[.pointer (some ⟨b, 0, none⟩)] w fun e w' => TkR b l k w (numT (l.drop k)) e w' := by
  have HX := Lib.hid (LxX.start h1 h2)
  have HBw := Lib.hid hbw
  have HEn := Lib.hid (fun (wr : World) (j f : Nat) (h : LxX b w j f wr) => hE.next (h.below hB hbw))
  have HL : Hid (∀ wr, LxX b w k k wr → Calls Tryd.prog 36 #[.pointer (some ⟨b, 0, none⟩)] wr fun e w' => e = .returned (.string ⟨((l.drop k).takeWhile wrd8).toArray⟩) ∧ RdX b wr (plc l ((l.drop k).drop ((l.drop k).takeWhile wrd8).length)) w') := fun wr h => by
    obtain ⟨g0, g1, g2, g3⟩ := h.all h0 hf
    exact c_lets b l k wr hk hl g0 g1 (g3 1 (by decide))
  have HPk : Hid (plc l (l.drop k) = k) := plc_drop l k hk
  obtain ⟨r, hr⟩ : ∃ r, l.drop k = r := ⟨_, rfl⟩
  rw [hr] at HL HPk ⊢
  have hxl : (r.takeWhile wrd8).length ≤ 65536 := by
    have := (List.takeWhile_prefix (p := wrd8) (l := r)).length_le
    rw [← hr, List.length_drop] at this
    rw [← hr]
    omega
  obtain ⟨o, ho⟩ : ∃ o, numT r = o := ⟨_, rfl⟩
  rw [ho]
  unfold numT at ho
  obtain ⟨x, hx⟩ : ∃ x, r.takeWhile wrd8 = x := ⟨_, rfl⟩
  rw [hx] at HL hxl ho
  have HT := Lib.hid (fun w => c_TrimU x w hxl)
  have hdl := trimU_le x
  obtain ⟨d, hd⟩ : ∃ d, trimU x = d := ⟨_, rfl⟩
  rw [hd] at HT hdl ho
  have HZ : Hid (∀ wr, Env B wr → B ≤ wr.heap.size → Calls Tryd.prog 46 #[.string ⟨d.toArray⟩] wr fun e w' => SzR (sizeP d) e ∧ Below wr.heap.size wr w') := fun wr h1 h2 => c_sizeOf B d wr h1 h2 (by omega)
  have HZl := Lib.hid (fun u => size_le (u := u) d)
  clear hr hx hd h0 h1 hf h2 hE
  go_enter Tryd.func32, Tryd.ntmps32
  go_wp2_with fail
  have HX1 := Lib.hid (HX.out.next HBw.out ((Below.refl w.heap.size w).alloc (Nat.le_refl _) (tOb 0 0 0 [])))
  have HN1 : Hid ((w.alloc (tOb 0 0 0 [])).heap[w.heap.size]? = some (tOb 0 0 0 [])) := heap_alloc_new w _
  refine (HL.out _ HX1.out).mono ?_
  rintro e w2 ⟨rfl, hx2⟩
  have HX2 := Lib.hid (HX1.out.x hx2)
  have HN2 : Hid (w2.heap[w.heap.size]? = some (tOb 0 0 0 [])) := (hx2.blk _ (by have := HBw.out; omega) (by simp)).trans HN1.out
  clear hx2 HX1 HN1
  go_wp2_with fail
  refine (HT.out _).mono ?_
  rintro e w3 ⟨rfl, hb3⟩
  have HX3 := Lib.hid (HX2.out.next HBw.out hb3)
  have HN3 : Hid (w3.heap[w.heap.size]? = some (tOb 0 0 0 [])) := (hb3.block _ (Array.getElem?_eq_some_iff.1 HN2.out).1).trans HN2.out
  have HE3 := Lib.hid (HEn.out _ _ _ HX3.out)
  have HS3 : Hid (B ≤ w3.heap.size) := by have := HX3.out.size; have := HBw.out; show _ ≤ _; omega
  clear hb3 HX2 HN2
  go_wp2_with fail
  refine (HZ.out _ HE3.out HS3.out).mono ?_
  rintro e w4 ⟨hz, hb4⟩
  have HX4 := Lib.hid (HX3.out.next HBw.out hb4)
  have HN4 : Hid (w4.heap[w.heap.size]? = some (tOb 0 0 0 [])) := (hb4.block _ (Array.getElem?_eq_some_iff.1 HN3.out).1).trans HN3.out
  obtain ⟨n0, n1, n2, n3, n4⟩ := tob_cells HN4.out
  have nf := n4 0
  have hc2 := HX4.out.frm
  clear hb4 HX3 HN3
  have hxi : (0 : Int) ≤ (x.length : Int) - (d.length : Int) ∧ (x.length : Int) ≤ 65536 := by omega
  obtain ⟨hxi0, hxi1⟩ := hxi
  have hlt4 : w.heap.size < w4.heap.size := (Array.getElem?_eq_some_iff.1 HN4.out).1
  have hne1 : ¬ w.heap.size = w4.heap.size := by omega
  have hne2 : ¬ w4.heap.size = w.heap.size := by omega
  rcases hz with ⟨u, hu, rfl⟩ | ⟨hu, v, rfl⟩
  · rw [hu] at ho
    have hub := HZl.out u hu
    obtain ⟨uI, huI⟩ : ∃ uI : Int, (u : Int) = uI := ⟨_, rfl⟩
    rw [huI]
    have hu0 : 0 ≤ uI := by omega
    have hu1 : uI ≤ 4294967295 := by omega
    have HuI := Lib.hid huI
    clear hu
    have ho2 : (if 1 < x.length - d.length then Tr.bad 73 r else Tr.ok 3 u (if 2147483648 ≤ u ∨ d ≠ x then [117] else []) (r.drop x.length)) = o := ho
    clear ho
    by_cases h1d : 1 < x.length - d.length
    · rw [if_pos h1d] at ho2
      have Ho := Lib.hid ho2
      have hdd : decide ((1 : Int) < (x.length : Int) - (d.length : Int)) = true := by simp; omega
      clear ho2 h1d huI hub
      go_wp2_with fail
      refine bodyPost_ret (v := .tuple #[tV 0 0 0 [], .int .i64 73]) (by simp [results, Tryd.results32, go_sem, n0, n1, n2, n3]) rfl ?_
      exact TkR.no Ho.out.symm HPk.out rfl (HX4.out.own4 _ _ _ _ (Nat.le_refl _) HBw.out)
    · rw [if_neg h1d] at ho2
      obtain ⟨sI, hsI⟩ : ∃ sI : Int, (x.length : Int) - (d.length : Int) = sI := ⟨_, rfl⟩
      have hdd : decide ((1 : Int) < sI) = false := by simp; omega
      have hwr : IntKind.i64.wrap ((x.length : Int) - (d.length : Int)) = sI := by rw [IntKind.wrap_i64]; omega
      clear h1d hxi0 hxi1 hdl hxl
      by_cases hu31 : 2147483648 ≤ u
      · have hg : 2147483648 ≤ uI := by omega
        rw [if_pos (.inl hu31)] at ho2
        have Ho := Lib.hid ho2
        clear ho2 hu31 hsI huI hub
        go_wp2_with fail
        obtain ⟨q0, q1, q2, q3, _⟩ := tob_cells (tob_set4 HN4.out 3 k uI [117] (tOb 3 k uI [117]))
        refine bodyPost_ret (v := .tuple #[tV 3 k uI [117], .int .i64 0]) (by simp [results, Tryd.results32, go_sem, q0, q1, q2, q3]) rfl ?_
        exact .inl ⟨3, u, _, _, _, Ho.out.symm, by rw [HuI.out], (HX4.out.own4 _ _ _ _ (Nat.le_refl _) HBw.out).next HBw.out ((Below.refl _ _).alloc (Nat.le_refl _) _)⟩
      · have hg : uI < 2147483648 := by omega
        by_cases hdx : d = x
        · have hdb : (d == x) = true := by simp [hdx]
          rw [if_neg (by simp [hu31, hdx])] at ho2
          have Ho := Lib.hid ho2
          clear ho2 hu31 hsI hdx huI hub
          go_wp2_with fail
          obtain ⟨q0, q1, q2, q3, _⟩ := tob_cells (tob_set4 HN4.out 3 k uI [] (tOb 3 k uI []))
          refine bodyPost_ret (v := .tuple #[tV 3 k uI [], .int .i64 0]) (by simp [results, Tryd.results32, go_sem, q0, q1, q2, q3]) rfl ?_
          exact .inl ⟨3, u, _, _, _, Ho.out.symm, by rw [HuI.out], (HX4.out.own4 _ _ _ _ (Nat.le_refl _) HBw.out).next HBw.out ((Below.refl _ _).alloc (Nat.le_refl _) _)⟩
        · have hdb : (d == x) = false := by simp [hdx]
          rw [if_pos (.inr hdx)] at ho2
          have Ho := Lib.hid ho2
          clear ho2 hu31 hsI hdx huI hub
          go_wp2_with fail
          obtain ⟨q0, q1, q2, q3, _⟩ := tob_cells (tob_set4 HN4.out 3 k uI [117] (tOb 3 k uI [117]))
          refine bodyPost_ret (v := .tuple #[tV 3 k uI [117], .int .i64 0]) (by simp [results, Tryd.results32, go_sem, q0, q1, q2, q3]) rfl ?_
          exact .inl ⟨3, u, _, _, _, Ho.out.symm, by rw [HuI.out], (HX4.out.own4 _ _ _ _ (Nat.le_refl _) HBw.out).next HBw.out ((Below.refl _ _).alloc (Nat.le_refl _) _)⟩
  · rw [hu] at ho
    have Ho : Hid (Tr.bad 73 r = o) := ho
    clear ho hu
    go_wp2_with fail
    refine bodyPost_ret (v := .tuple #[tV 0 0 0 [], .int .i64 73]) (by simp [results, Tryd.results32, go_sem, n0, n1, n2, n3]) rfl ?_
    exact TkR.no Ho.out.symm HPk.out rfl (HX4.out.own4 _ _ _ _ (Nat.le_refl _) HBw.out)
end Go.Proofs.YtbccabpcljkamaaDoor
