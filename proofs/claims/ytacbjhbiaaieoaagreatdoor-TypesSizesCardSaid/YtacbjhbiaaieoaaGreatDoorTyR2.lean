/-
  The contracts of a struct's name and of an array's count, in the code.
-/
import Derived.Test.YtacbjhbiaaieoaaGreatDoorTyR1
import Derived.Test.YtacbjhbiaaieoaaGreatDoorTyFmt
import Derived.Shelf.Pu.ParseUintPublic10
namespace Go.Proofs.YtacbjhbiaaieoaaGreatDoor
set_option linter.unusedVariables false
set_option linter.unusedSimpArgs false
set_option maxRecDepth 100000
open Go.RowKit

/-- Behind w: every other block that was there is as it was; of block b all but the place, which is k. -/
structure RdX (b : Nat) (w : World) (k : Nat) (wr : World) : Prop where
  oth : ∀ i, i ≠ 1 → wr.cell? ⟨b, i, none⟩ = w.cell? ⟨b, i, none⟩
  pos : wr.cell? ⟨b, 1, none⟩ = some (.int .i64 k)
  frz : ∀ i, wr.frozen? ⟨b, i, none⟩ = w.frozen? ⟨b, i, none⟩
  blk : ∀ j, j ≠ b → j < w.heap.size → wr.heap[j]? = w.heap[j]?
  size : w.heap.size ≤ wr.heap.size
  os : wr.os = w.os
  tape : wr.tape = w.tape
  output : wr.output = w.output
theorem RdW.x {b k : Nat} {w wr : World} (h : RdW b 0 w k wr) : RdX b w k wr :=
  ⟨fun i hi => h.other _ (fun e => hi (by injection e)), h.pos, fun i => h.frz _, fun j hj _ => h.blk j hj, Nat.le_of_eq h.size.symm, h.os, h.tape, h.output⟩
theorem RdX.start {b k : Nat} {w : World} (h : w.cell? ⟨b, 1, none⟩ = some (.int .i64 k)) : RdX b w k w := ⟨fun _ _ => rfl, h, fun _ => rfl, fun _ _ _ => rfl, Nat.le_refl _, rfl, rfl, rfl⟩
theorem RdX.draw {b k : Nat} {w wr w2 : World} (h : RdX b w k wr) (hn : ∃ n, w2 = wr.drewN n) : RdX b w k w2 := by
  obtain ⟨n, rfl⟩ := hn
  exact ⟨h.oth, h.pos, h.frz, h.blk, h.size, h.os, h.tape, h.output⟩
theorem RdX.trans {b j k : Nat} {w wr wx : World} (h : RdX b w j wr) (h2 : RdX b wr k wx) : RdX b w k wx :=
  ⟨fun i hi => (h2.oth i hi).trans (h.oth i hi), h2.pos, fun i => (h2.frz i).trans (h.frz i), fun j hj hs => (h2.blk j hj (Nat.lt_of_lt_of_le hs h.size)).trans (h.blk j hj hs), Nat.le_trans h.size h2.size, h2.os.trans h.os, h2.tape.trans h.tape, h2.output.trans h.output⟩
theorem cell_of_blk {w w' : World} {b : Nat} (h : w'.heap[b]? = w.heap[b]?) (i : Nat) : w'.cell? ⟨b, i, none⟩ = w.cell? ⟨b, i, none⟩ := by unfold World.cell?; rw [h]
theorem frozen_of_blk {w w' : World} {b : Nat} (h : w'.heap[b]? = w.heap[b]?) (i : Nat) : w'.frozen? ⟨b, i, none⟩ = w.frozen? ⟨b, i, none⟩ := by unfold World.frozen?; rw [h]
theorem RdX.next {b k : Nat} {w wr w2 : World} (h : RdX b w k wr) (hb : b < w.heap.size) (hn : Below wr.heap.size wr w2) : RdX b w k w2 := by
  have hbw : b < wr.heap.size := Nat.lt_of_lt_of_le hb h.size
  have e := hn.block b hbw
  exact ⟨fun i hi => (cell_of_blk e i).trans (h.oth i hi), (cell_of_blk e 1).trans h.pos, fun i => (frozen_of_blk e i).trans (h.frz i), fun j hj hs => (hn.block j (Nat.lt_of_lt_of_le hs h.size)).trans (h.blk j hj hs), Nat.le_trans h.size hn.size, hn.os.trans h.os, hn.tape.trans h.tape, hn.output.trans h.output⟩
theorem RdX.set {b k : Nat} {w wr : World} (h : RdX b w k wr) (j : Nat) : RdX b w j (wr.setCell ⟨b, 1, none⟩ (.int .i64 j)) :=
  ⟨fun i hi => (World.cell?_setCell_other _ _ _ _ (fun e => hi (by injection e with _ e2; exact e2.symm))).trans (h.oth i hi), World.cell?_setCell_same _ _ _ h.pos, fun i => (World.frozen?_setCell _ _ _ _).trans (h.frz i),
    fun i hi hs => (Below.heap_setCell _ _ _ _ hi).trans (h.blk i hi hs), by simpa [World.setCell] using h.size, h.os, h.tape, h.output⟩
theorem RdX.below {B b k : Nat} {w wr : World} (h : RdX b w k wr) (hB : B ≤ b) (hb : b < w.heap.size) : Below B w wr := ⟨h.os, h.tape, h.output, h.size, fun j hj => h.blk j (by omega) (by omega)⟩
theorem RdX.all {b k : Nat} {l : List UInt8} {w wr : World} (h : RdX b w k wr) (h0 : w.cell? ⟨b, 0, none⟩ = some (.string ⟨l.toArray⟩)) (hf : w.frozen? ⟨b, 1, none⟩ = false) :
    wr.cell? ⟨b, 0, none⟩ = some (.string ⟨l.toArray⟩) ∧ wr.cell? ⟨b, 1, none⟩ = some (.int .i64 k) ∧ wr.frozen? ⟨b, 1, none⟩ = false := ⟨(h.oth 0 (by decide)).trans h0, h.pos, (h.frz 1).trans hf⟩
/-- The library's table of powers of ten holds them. -/
def PwH (w : World) : Prop := ∃ T fr, w.heap[2]? = some (.cells (Lib.pow10Tab.map fun z => Value.int .u64 z).toArray T fr)
theorem PwH.next {N : Nat} {w w' : World} (h : PwH w) (hb : Below N w w') (hN : N = w.heap.size) : PwH w' := by
  subst hN
  obtain ⟨T, fr, h1⟩ := h
  exact ⟨T, fr, (hb.block _ (Array.getElem?_eq_some_iff.1 h1).1).trans h1⟩
theorem below_grow {B : Nat} {w w' : World} (h : Below B w w') (os : Array Obj) (hB : B ≤ w'.heap.size) : Below B w (Go.Sort.grow w' os) :=
  h.trans ⟨rfl, rfl, rfl, by simp [Go.Sort.grow], fun j hj => by
    show (w'.heap ++ os)[j]? = w'.heap[j]?
    rw [Array.getElem?_append_left (by omega)]⟩
theorem tab_of {w : World} (h : PwH w) : ∀ nm, Tryz.prog.globalNamed nm = some 2 → Lib.TabIs Tryz.prog w nm .u64 Lib.pow10Tab := by
  intro nm hn
  obtain ⟨T, fr, h1⟩ := h
  unfold Lib.TabIs World.var?
  rw [hn]
  simp only [Option.bind_some]
  rw [h1]
theorem parse10_le : ∀ (l : List UInt8) (M acc u : Nat), acc ≤ M → Lib.parseUintM M acc l = .ok u → u ≤ M
  | [], M, acc, u, h, he => by unfold Lib.parseUintM at he; cases he; exact h
  | c :: r, M, acc, u, h, he => by
    unfold Lib.parseUintM at he
    split at he
    · split at he
      · cases he
      · split at he
        · cases he
        · exact parse10_le r M _ u (by omega) he
    · cases he
/-- The variables that reading looks at, all below B. -/
structure Env (B : Nat) (w : World) : Prop where
  lt : 3 < B ∧ 0 < B ∧ 1 < B ∧ 2 < B
  ml : ∃ m, w.cell? ⟨3, 0, none⟩ = some (.int .i64 m)
  es : ∃ t p, w.cell? ⟨0, 0, none⟩ = some (.iface t p)
  er : ∃ t p, w.cell? ⟨1, 0, none⟩ = some (.iface t p)
  pw : PwH w
theorem Env.next {B : Nat} {w w' : World} (h : Env B w) (hb : Below B w w') : Env B w' := by
  obtain ⟨l1, l2, l3, l4⟩ := h.lt
  obtain ⟨m, hm⟩ := h.ml
  obtain ⟨t, p, hs⟩ := h.es
  obtain ⟨t2, p2, hr⟩ := h.er
  obtain ⟨T, fr, hk⟩ := h.pw
  exact ⟨h.lt, ⟨m, (cell_of_blk (hb.block _ l1) 0).trans hm⟩, ⟨t, p, (cell_of_blk (hb.block _ l2) 0).trans hs⟩, ⟨t2, p2, (cell_of_blk (hb.block _ l3) 0).trans hr⟩, ⟨T, fr, (hb.block _ l4).trans hk⟩⟩
def NumR (x : Lib.NumEnd Nat) (e : Ending) : Prop := (∃ (u : Nat) (uI : Int), (u : Int) = uI ∧ x = .ok u ∧ e = .returned (.tuple #[.int .u64 uI, .nilIface])) ∨ ((∀ u, x ≠ .ok u) ∧ ∃ (v : Int) (tp : TypeId) (p : Value), e = .returned (.tuple #[.int .u64 v, .iface tp p]))
theorem c_par10_64 (B : Nat) (x : List UInt8) (w : World) (hE : Env B w) (hx : x.length ≤ 65536) :
    Calls Tryz.prog 120 #[.string ⟨x.toArray⟩, .int .i64 10, .int .i64 64] w fun e w' => NumR (Lib.parseUintB 64 x) e ∧ Below w.heap.size w w' := by
  obtain ⟨t, p, hs⟩ := hE.es
  obtain ⟨t2, p2, hr⟩ := hE.er
  have hsz : (⟨x.toArray⟩ : ByteArray).size ≤ 281474976710656 := by show x.toArray.size ≤ _; simp; omega
  rcases hv : Lib.parseUintB 64 x with u | _ | _
  · refine (Any.strconv_ParseUint_10_at64_ok Tryz.laysPu14 ⟨x.toArray⟩ (by omega) u (by simpa using hv) w).mono fun e w' h => ⟨.inl ⟨u, _, rfl, rfl, h.1⟩, ?_⟩
    rcases h.2 with h2 | h2
    · rw [h2]; exact Below.refl _ _
    · rw [h2]; exact Lib.bytesWorld_below _ _ _
  · exact (Any.strconv_ParseUint_10_at64_syntax Tryz.laysPu14 ⟨x.toArray⟩ hsz (by simpa using hv) _ w hs (.inr ⟨_, _, rfl⟩)).mono fun e w' ⟨N, h1, _, _, h4⟩ => ⟨.inr ⟨(fun u h => by cases h), _, _, _, h1⟩, h4⟩
  · exact (Any.strconv_ParseUint_10_at64_range Tryz.laysPu14 ⟨x.toArray⟩ hsz (by simpa using hv) _ w hr (.inr ⟨_, _, rfl⟩)).mono fun e w' ⟨N, h1, _, _, h4⟩ => ⟨.inr ⟨(fun u h => by cases h), _, _, _, h1⟩, h4⟩
theorem parse64_le {u : Nat} {x : List UInt8} (h : Lib.parseUintB 64 x = .ok u) : u < 18446744073709551616 := by
  unfold Lib.parseUintB at h
  split at h
  · cases h
  · have := parse10_le _ _ _ _ (Nat.zero_le _) h
    have e : 2 ^ 64 - 1 = 18446744073709551615 := by decide
    omega
theorem c_Fmt (B u : Nat) (hu : u < 18446744073709551616) (w : World) (hE : Env B w) :
    Calls Tryz.prog 121 #[.int .u64 u, .int .i64 10] w fun e w' => e = .returned (.string ⟨(Lib.decDigits u).toArray⟩) ∧ Below w.heap.size w w' :=
  (c_FormatUint u hu w (tab_of hE.pw _ (by kernel_rfl))).mono fun e w' ⟨he, k, os, hw⟩ => ⟨he, by
    rw [hw]
    have hb := below_drewN (Below.refl w.heap.size w) k
    exact below_grow hb os hb.size⟩
/-- Where a rest of a text begins. -/
def plc (l y : List UInt8) : Nat := l.length - y.length
theorem plc_le (l y : List UInt8) : plc l y ≤ l.length := by unfold plc; omega
theorem drop_plc {l y : List UInt8} (h : y <:+ l) : l.drop (plc l y) = y := by
  obtain ⟨t, rfl⟩ := h
  unfold plc
  rw [List.length_append, show t.length + y.length - y.length = t.length by omega, List.drop_left]
theorem plc_drop {l : List UInt8} {k : Nat} (h : k ≤ l.length) : plc l (l.drop k) = k := by unfold plc; rw [List.length_drop]; omega
set_option maxHeartbeats 2000000 in
/-- A struct's name. -/
theorem c_tag (B b : Nat) (l : List UInt8) (k : Nat) (w : World) (hE : Env B w) (hB : B ≤ b) (hbw : b < w.heap.size) (hk : k ≤ l.length) (hl : l.length ≤ 65536) (h0 : w.cell? ⟨b, 0, none⟩ = some (.string ⟨l.toArray⟩)) (h1 : w.cell? ⟨b, 1, none⟩ = some (.int .i64 k)) (hf : w.frozen? ⟨b, 1, none⟩ = false) :
    Calls Tryz.prog 104 #[.pointer (some ⟨b, 0, none⟩)] w fun e w' =>
      (∃ s y, tagP (l.drop k) = some (s, y) ∧ e = .returned (.tuple #[.string ⟨s.toArray⟩, .bool true]) ∧ RdX b w (plc l y) w' ∧ k ≤ plc l y) ∨
      (tagP (l.drop k) = none ∧ ∃ (s : List UInt8) (j : Nat), e = .returned (.tuple #[.string ⟨s.toArray⟩, .bool false]) ∧ k ≤ j ∧ j ≤ l.length ∧ RdX b w j w') := by
  obtain ⟨m, hm⟩ := hE.ml
  have HU := Lib.hid (c_upTo b l 59 k m w hk hl hm h0 h1 hf)
  have HK := Lib.hid hk
  have HL := Lib.hid hl
  clear hm h0 h1 hf
  go_enter Tryz.func104, Tryz.ntmps104
  go_wp2_with fail
  refine HU.out.mono ?_
  rintro e w2 (⟨s, y, hu, rfl, hw⟩ | ⟨hu, rfl, hw⟩)
  · have HX := Lib.hid hw.x
    have hsl := upTo_len hu
    rw [List.length_drop] at hsl
    have hsb : s.length ≤ 9223372036854775807 := by have := HL.out; omega
    have HP : Hid (plc l y = k + s.length + 1) := by have := HK.out; show l.length - y.length = _; omega
    have HT : Hid (tagP (l.drop k) = if nameB s then some (s, y) else none) := by show _ = _; unfold tagP; rw [hu]
    clear hu hw hsl
    go_wp2_with fail
    refine (c_IsName s _ hsb).mono ?_
    rintro e w3 ⟨rfl, hb3⟩
    have HX3 := Lib.hid (HX.out.next hbw hb3)
    cases hn : nameB s
    · go_wp2_with fail
      go_ret2
      exact .inr ⟨by rw [HT.out, hn]; rfl, s, _, rfl, by omega, by rw [← HP.out]; exact plc_le _ _, HX3.out⟩
    · go_wp2_with fail
      go_ret2
      exact .inl ⟨s, y, by rw [HT.out, hn]; rfl, rfl, by rw [HP.out]; exact HX3.out, by rw [HP.out]; omega⟩
  · have HX := Lib.hid hw.x
    have HT : Hid (tagP (l.drop k) = none) := by show _ = _; unfold tagP; rw [hu]
    clear hu hw
    go_wp2_with fail
    go_ret2
    exact .inr ⟨HT.out, _, k, rfl, Nat.le_refl _, HK.out, HX.out⟩
set_option maxHeartbeats 4000000 in
/-- How many members an array has. -/
theorem c_count (B b : Nat) (l : List UInt8) (k : Nat) (w : World) (hE : Env B w) (hB : B ≤ b) (hbw : b < w.heap.size) (hk : k ≤ l.length) (hl : l.length ≤ 65536) (h0 : w.cell? ⟨b, 0, none⟩ = some (.string ⟨l.toArray⟩)) (h1 : w.cell? ⟨b, 1, none⟩ = some (.int .i64 k)) (hf : w.frozen? ⟨b, 1, none⟩ = false) :
    Calls Tryz.prog 103 #[.pointer (some ⟨b, 0, none⟩)] w fun e w' =>
      (∃ (n : Nat) (y : List UInt8), cntP (l.drop k) = some (n, y) ∧ e = .returned (.tuple #[.int .i64 n, .bool true]) ∧ RdX b w (plc l y) w' ∧ k ≤ plc l y) ∨
      (cntP (l.drop k) = none ∧ ∃ (j : Nat), e = .returned (.tuple #[.int .i64 0, .bool false]) ∧ k ≤ j ∧ j ≤ l.length ∧ RdX b w j w') := by
  obtain ⟨m, hm⟩ := hE.ml
  have HU := Lib.hid (c_upTo b l 58 k m w hk hl hm h0 h1 hf)
  have HK := Lib.hid hk
  have HL := Lib.hid hl
  have HEn := Lib.hid (fun (wr : World) (j : Nat) (h : RdX b w j wr) => hE.next (h.below hB hbw))
  clear hm h0 h1 hf hE
  go_enter Tryz.func103, Tryz.ntmps103
  go_wp2_with fail
  refine HU.out.mono ?_
  rintro e w2 (⟨s, y, hu, rfl, hw⟩ | ⟨hu, rfl, hw⟩)
  · have HX := Lib.hid hw.x
    have hsl := upTo_len hu
    rw [List.length_drop] at hsl
    have hsb : s.length ≤ 65536 := by have := HL.out; omega
    have HP : Hid (plc l y = k + s.length + 1) := by have := HK.out; show l.length - y.length = _; omega
    have HT : Hid (cntP (l.drop k) = match Lib.parseUintB 64 s with
      | .ok n => if n ≤ 1099511627776 ∧ Lib.decDigits n = s then some (n, y) else none
      | _ => none) := by
      show _ = _
      unfold cntP
      rw [hu]
      simp only
      rcases Lib.parseUintB 64 s with _ | _ | _ <;> rfl
    clear hu hw hsl
    go_wp2_with fail
    refine (c_par10_64 B s _ (HEn.out _ _ HX.out) hsb).mono ?_
    rintro e w3 ⟨hN, hb3⟩
    have HX3 := Lib.hid (HX.out.next hbw hb3)
    clear hb3
    rcases hN with ⟨u, uI, huI, hu, rfl⟩ | ⟨hu, v, tp, p, rfl⟩
    · rw [hu] at HT
      have hu64 := parse64_le hu
      have HF := Lib.hid (c_Fmt B u hu64 w3 (HEn.out _ _ HX3.out))
      have HI := Lib.hid huI
      rw [huI] at HF
      clear hu
      by_cases hm : u ≤ 1099511627776
      · have hmI : uI ≤ 1099511627776 := by omega
        have hgt : decide (1099511627776 < uI) = false := by simp; omega
        have hwr : IntKind.i64.wrap uI = uI := by rw [IntKind.wrap_i64]; omega
        have HM := Lib.hid hm
        have hu0 : 0 ≤ uI := by omega
        by_cases hd : Lib.decDigits u = s
        · have HD := Lib.hid hd
          have HT2 : Hid (cntP (l.drop k) = some (u, y)) := by rw [show Hid (cntP (l.drop k) = some (u, y)) = (cntP (l.drop k) = some (u, y)) from rfl, HT.out]; simp only; rw [if_pos ⟨hm, hd⟩]
          clear hd hm hu64 huI HT
          rw [HD.out] at HF
          go_wp2_with fail
          refine HF.out.mono ?_
          rintro e w4 ⟨rfl, hb4⟩
          have HX4 := Lib.hid (HX3.out.next hbw hb4)
          clear hb4
          go_wp2_with fail
          go_ret2
          exact .inl ⟨u, y, HT2.out, (by rw [HI.out]; rfl), by rw [HP.out]; exact HX4.out, by rw [HP.out]; omega⟩
        · have HT2 : Hid (cntP (l.drop k) = none) := by rw [show Hid (cntP (l.drop k) = none) = (cntP (l.drop k) = none) from rfl, HT.out]; simp only; rw [if_neg (fun h => hd h.2)]
          have hne : (Lib.decDigits u == s) = false := by rw [beq_eq_false_iff_ne]; exact hd
          clear hd hm hu64 huI HT
          go_wp2_with fail
          refine HF.out.mono ?_
          rintro e w4 ⟨rfl, hb4⟩
          have HX4 := Lib.hid (HX3.out.next hbw hb4)
          clear hb4
          go_wp2_with fail
          go_ret2
          exact .inr ⟨HT2.out, _, rfl, by omega, by rw [← HP.out]; exact plc_le _ _, HX4.out⟩
      · have hgt : decide (1099511627776 < uI) = true := by simp; omega
        have HT2 : Hid (cntP (l.drop k) = none) := by rw [show Hid (cntP (l.drop k) = none) = (cntP (l.drop k) = none) from rfl, HT.out]; simp only; rw [if_neg (fun h => hm h.1)]
        clear hm hu64 huI HT
        go_wp2_with fail
        go_ret2
        exact .inr ⟨HT2.out, _, rfl, by omega, by rw [← HP.out]; exact plc_le _ _, HX3.out⟩
    · have HT2 : Hid (cntP (l.drop k) = none) := by
        rw [show Hid (cntP (l.drop k) = none) = (cntP (l.drop k) = none) from rfl, HT.out]
        rcases h : Lib.parseUintB 64 s with u | _ | _
        · exact absurd h (hu u)
        · rfl
        · rfl
      clear hu HT
      go_wp2_with fail
      go_ret2
      exact .inr ⟨HT2.out, _, rfl, by omega, by rw [← HP.out]; exact plc_le _ _, HX3.out⟩
  · have HX := Lib.hid hw.x
    have HT : Hid (cntP (l.drop k) = none) := by show _ = _; unfold cntP; rw [hu]
    have hsb : (l.drop k).length ≤ 65536 := by rw [List.length_drop]; have := HL.out; omega
    clear hu hw
    go_wp2_with fail
    refine (c_par10_64 B _ _ (HEn.out _ _ HX.out) hsb).mono ?_
    rintro e w3 ⟨hN, hb3⟩
    have HX3 := Lib.hid (HX.out.next hbw hb3)
    clear hb3
    rcases hN with ⟨u, uI, huI, hu, rfl⟩ | ⟨hu, v, tp, p, rfl⟩
    all_goals
      clear hu
      go_wp2_with fail
      go_ret2
      exact .inr ⟨HT.out, k, rfl, Nat.le_refl _, HK.out, HX3.out⟩
end Go.Proofs.YtacbjhbiaaieoaaGreatDoor
