/-
  What a reader that reads on leaves as it was; the library's numbers; the contracts of a pair of digits, of an escape and of a piece, in the code.
-/
import Derived.Test.YtbccabpcljkamaaDoorLexRd2
import Derived.Test.YtbccabpcljkamaaDoorLexTok3
import Derived.Test.YtbccabpcljkamaaDoorLexHex
namespace Go.Proofs.YtbccabpcljkamaaDoor
set_option linter.unusedVariables false
set_option linter.unusedSimpArgs false
set_option maxRecDepth 100000
open Go.RowKit

/-- Behind w: every other block that was there is as it was; of block b all but the place, which is k. -/
structure RdX (b : Nat) (w : World) (k : Nat) (wr : World) : Prop where
  oth : ∀ i, i ≠ 1 → wr.cell? ⟨b, i, none⟩ = w.cell? ⟨b, i, none⟩
  pos : wr.cell? ⟨b, 1, none⟩ = some (.int .i64 k)
  frz : ∀ i, wr.frozen? ⟨b, i, none⟩ = w.frozen? ⟨b, i, none⟩
  blk : ∀ j, j ≠ b → j < w.heap.size → wr.heap[j]? = w.heap[j]?
  size : w.heap.size ≤ wr.heap.size
  os : wr.os = w.os
  tape : wr.tape = w.tape
  output : wr.output = w.output
theorem RdW.x {b k : Nat} {w wr : World} (h : RdW b 0 w k wr) : RdX b w k wr :=
  ⟨fun i hi => h.other _ (fun e => hi (by injection e)), h.pos, fun i => h.frz _, fun j hj _ => h.blk j hj, Nat.le_of_eq h.size.symm, h.os, h.tape, h.output⟩
theorem RdX.start {b k : Nat} {w : World} (h : w.cell? ⟨b, 1, none⟩ = some (.int .i64 k)) : RdX b w k w := ⟨fun _ _ => rfl, h, fun _ => rfl, fun _ _ _ => rfl, Nat.le_refl _, rfl, rfl, rfl⟩
theorem RdX.draw {b k : Nat} {w wr w2 : World} (h : RdX b w k wr) (hn : ∃ n, w2 = wr.drewN n) : RdX b w k w2 := by
  obtain ⟨n, rfl⟩ := hn
  exact ⟨h.oth, h.pos, h.frz, h.blk, h.size, h.os, h.tape, h.output⟩
theorem RdX.trans {b j k : Nat} {w wr wx : World} (h : RdX b w j wr) (h2 : RdX b wr k wx) : RdX b w k wx :=
  ⟨fun i hi => (h2.oth i hi).trans (h.oth i hi), h2.pos, fun i => (h2.frz i).trans (h.frz i), fun j hj hs => (h2.blk j hj (Nat.lt_of_lt_of_le hs h.size)).trans (h.blk j hj hs), Nat.le_trans h.size h2.size, h2.os.trans h.os, h2.tape.trans h.tape, h2.output.trans h.output⟩
theorem cell_of_blk {w w' : World} {b : Nat} (h : w'.heap[b]? = w.heap[b]?) (i : Nat) : w'.cell? ⟨b, i, none⟩ = w.cell? ⟨b, i, none⟩ := by unfold World.cell?; rw [h]
theorem frozen_of_blk {w w' : World} {b : Nat} (h : w'.heap[b]? = w.heap[b]?) (i : Nat) : w'.frozen? ⟨b, i, none⟩ = w.frozen? ⟨b, i, none⟩ := by unfold World.frozen?; rw [h]
theorem RdX.next {b k : Nat} {w wr w2 : World} (h : RdX b w k wr) (hb : b < w.heap.size) (hn : Below wr.heap.size wr w2) : RdX b w k w2 := by
  have hbw : b < wr.heap.size := Nat.lt_of_lt_of_le hb h.size
  have e := hn.block b hbw
  exact ⟨fun i hi => (cell_of_blk e i).trans (h.oth i hi), (cell_of_blk e 1).trans h.pos, fun i => (frozen_of_blk e i).trans (h.frz i), fun j hj hs => (hn.block j (Nat.lt_of_lt_of_le hs h.size)).trans (h.blk j hj hs), Nat.le_trans h.size hn.size, hn.os.trans h.os, hn.tape.trans h.tape, hn.output.trans h.output⟩
theorem RdX.set {b k : Nat} {w wr : World} (h : RdX b w k wr) (j : Nat) : RdX b w j (wr.setCell ⟨b, 1, none⟩ (.int .i64 j)) :=
  ⟨fun i hi => (World.cell?_setCell_other _ _ _ _ (fun e => hi (by injection e with _ e2; exact e2.symm))).trans (h.oth i hi), World.cell?_setCell_same _ _ _ h.pos, fun i => (World.frozen?_setCell _ _ _ _).trans (h.frz i),
    fun i hi hs => (Below.heap_setCell _ _ _ _ hi).trans (h.blk i hi hs), by simpa [World.setCell] using h.size, h.os, h.tape, h.output⟩
theorem RdX.below {B b k : Nat} {w wr : World} (h : RdX b w k wr) (hB : B ≤ b) (hb : b < w.heap.size) : Below B w wr := ⟨h.os, h.tape, h.output, h.size, fun j hj => h.blk j (by omega) (by omega)⟩
theorem RdX.all {b k : Nat} {l : List UInt8} {w wr : World} (h : RdX b w k wr) (h0 : w.cell? ⟨b, 0, none⟩ = some (.string ⟨l.toArray⟩)) (hf : w.frozen? ⟨b, 1, none⟩ = false) :
    wr.cell? ⟨b, 0, none⟩ = some (.string ⟨l.toArray⟩) ∧ wr.cell? ⟨b, 1, none⟩ = some (.int .i64 k) ∧ wr.frozen? ⟨b, 1, none⟩ = false := ⟨(h.oth 0 (by decide)).trans h0, h.pos, (h.frz 1).trans hf⟩
/-- The variables that reading looks at, all below B. -/
structure Env (B : Nat) (w : World) : Prop where
  lt : 1 < B ∧ 3 < B ∧ 4 < B ∧ 0 < B
  ml : ∃ m, w.cell? ⟨1, 0, none⟩ = some (.int .i64 m)
  es : ∃ t p, w.cell? ⟨3, 0, none⟩ = some (.iface t p)
  er : ∃ t p, w.cell? ⟨4, 0, none⟩ = some (.iface t p)
  mrk : ∃ T fr, w.heap[0]? = some (.cells markA T fr)
theorem Env.next {B : Nat} {w w' : World} (h : Env B w) (hb : Below B w w') : Env B w' := by
  obtain ⟨l1, l2, l3, l4⟩ := h.lt
  obtain ⟨m, hm⟩ := h.ml
  obtain ⟨t, p, hs⟩ := h.es
  obtain ⟨t2, p2, hr⟩ := h.er
  obtain ⟨T, fr, hk⟩ := h.mrk
  exact ⟨h.lt, ⟨m, (cell_of_blk (hb.block _ l1) 0).trans hm⟩, ⟨t, p, (cell_of_blk (hb.block _ l2) 0).trans hs⟩, ⟨t2, p2, (cell_of_blk (hb.block _ l3) 0).trans hr⟩, ⟨T, fr, (hb.block _ l4).trans hk⟩⟩
theorem Env.drew {B : Nat} {w : World} (h : Env B w) : Env B w.drew := ⟨h.lt, h.ml, h.es, h.er, h.mrk⟩
theorem c_par16_8 (B : Nat) (x : List UInt8) (w : World) (hE : Env B w) (hx : x.length ≤ 65536) :
    Calls Tryd.prog 57 #[.string ⟨x.toArray⟩, .int .i64 16, .int .i64 8] w fun e w' => NumR (parse16B 8 x) e ∧ Below w.heap.size w w' := by
  obtain ⟨t, p, hs⟩ := hE.es
  obtain ⟨t2, p2, hr⟩ := hE.er
  exact (hex_b8 Tryd.laysPu14 ⟨x.toArray⟩ (by show x.toArray.size ≤ _; simp; omega) _ _ w hs (.inr ⟨_, _, rfl⟩) hr (.inr ⟨_, _, rfl⟩)).mono fun e w' h => ⟨by simpa using h.1, h.2⟩
theorem c_par16_32 (B : Nat) (x : List UInt8) (w : World) (hE : Env B w) (hx : x.length ≤ 65536) :
    Calls Tryd.prog 57 #[.string ⟨x.toArray⟩, .int .i64 16, .int .i64 32] w fun e w' => NumR (parse16B 32 x) e ∧ Below w.heap.size w w' := by
  obtain ⟨t, p, hs⟩ := hE.es
  obtain ⟨t2, p2, hr⟩ := hE.er
  exact (hex_b32 Tryd.laysPu14 ⟨x.toArray⟩ (by show x.toArray.size ≤ _; simp; omega) _ _ w hs (.inr ⟨_, _, rfl⟩) hr (.inr ⟨_, _, rfl⟩)).mono fun e w' h => ⟨by simpa using h.1, h.2⟩
theorem c_par10_32 (B : Nat) (x : List UInt8) (w : World) (hE : Env B w) (hx : x.length ≤ 65536) :
    Calls Tryd.prog 57 #[.string ⟨x.toArray⟩, .int .i64 10, .int .i64 32] w fun e w' => NumR (Lib.parseUintB 32 x) e ∧ Below w.heap.size w w' := by
  obtain ⟨t, p, hs⟩ := hE.es
  obtain ⟨t2, p2, hr⟩ := hE.er
  have hsz : (⟨x.toArray⟩ : ByteArray).size ≤ 281474976710656 := by show x.toArray.size ≤ _; simp; omega
  rcases hv : Lib.parseUintB 32 x with u | _ | _
  · refine (Any.strconv_ParseUint_10_at32_ok Tryd.laysPu14 ⟨x.toArray⟩ (by omega) u (by simpa using hv) w).mono fun e w' h => ⟨.inl ⟨u, rfl, h.1⟩, ?_⟩
    rcases h.2 with h2 | h2
    · rw [h2]; exact Below.refl _ _
    · rw [h2]; exact Lib.bytesWorld_below _ _ _
  · exact (Any.strconv_ParseUint_10_at32_syntax Tryd.laysPu14 ⟨x.toArray⟩ hsz (by simpa using hv) _ w hs (.inr ⟨_, _, rfl⟩)).mono fun e w' ⟨N, h1, _, _, h4⟩ => ⟨.inr ⟨rfl, _, _, _, h1⟩, h4⟩
  · exact (Any.strconv_ParseUint_10_at32_range Tryd.laysPu14 ⟨x.toArray⟩ hsz (by simpa using hv) _ w hr (.inr ⟨_, _, rfl⟩)).mono fun e w' ⟨N, h1, _, _, h4⟩ => ⟨.inr ⟨rfl, _, _, _, h1⟩, h4⟩
theorem hexV_lt {c : UInt8} {d : Nat} (h : hexV c = some d) : d ≤ 15 := by
  unfold hexV at h
  (repeat' split at h) <;> first | (cases h; done) | (simp at h; omega)
theorem pair_num (a b : UInt8) (t : List UInt8) : pairP (a :: b :: t) = (numOk (parse16B 8 [a, b])).map (fun n => (UInt8.ofNat n, t)) ∧ ∀ n, numOk (parse16B 8 [a, b]) = some n → n ≤ 255 := by
  unfold pairP parse16B
  rw [if_neg (by simp)]
  cases ha : hexV a with
  | none => simp [parse16, ha, numOk]
  | some x =>
    have hx := hexV_lt ha
    cases hb : hexV b with
    | none => simp [parse16, ha, hb, numOk, show ¬ 255 < x by omega]
    | some y =>
      have hy := hexV_lt hb
      simp [parse16, ha, hb, numOk, show ¬ 255 < x by omega, show ¬ 255 < x * 16 + y by omega]
      omega
/-- What a piece answers: a byte, read; or none. -/
def PcR (b : Nat) (l : List UInt8) (w : World) (o : Option (UInt8 × List UInt8)) (e : Ending) (w' : World) : Prop :=
  (∃ c t, o = some (c, t) ∧ e = .returned (.tuple #[.int .u8 c.toNat, .bool true]) ∧ RdX b w (plc l t) w') ∨ (o = none ∧ ∃ (x : Int) (k : Nat), e = .returned (.tuple #[.int .u8 x, .bool false]) ∧ RdX b w k w')
set_option maxHeartbeats 4000000 in
theorem c_pair (B b : Nat) (l : List UInt8) (k : Nat) (w : World) (hE : Env B w) (hB : B ≤ b) (hbw : b < w.heap.size) (hk : k ≤ l.length) (hl : l.length ≤ 65536) (h0 : w.cell? ⟨b, 0, none⟩ = some (.string ⟨l.toArray⟩)) (h1 : w.cell? ⟨b, 1, none⟩ = some (.int .i64 k)) (hf : w.frozen? ⟨b, 1, none⟩ = false) :
    Calls Tryd.prog 85 #[.pointer (some ⟨b, 0, none⟩)] w fun e w' => PcR b l w (pairP (l.drop k)) e w' := by
  have HX := Lib.hid (RdX.start (b := b) h1)
  have HC := Lib.hid (fun (wr : World) (j : Nat) (h : RdX b w j wr) => h.all h0 hf)
  have HEn := Lib.hid (fun (wr : World) (j : Nat) (h : RdX b w j wr) => hE.next (h.below hB hbw))
  have HBw := Lib.hid hbw
  obtain ⟨x, hx⟩ : ∃ x, l.drop k = x := ⟨_, rfl⟩
  have hxl : x.length = l.length - k := by rw [← hx, List.length_drop]
  have hR := c_rest b l k w hk h0 h1
  rw [hx] at hR ⊢
  have HR := Lib.hid hR
  clear hR
  by_cases h2 : 2 ≤ x.length
  · match x, hx, hxl, HR, h2 with
    | a :: c :: t, hx, hxl, HR, _ =>
      obtain ⟨hp1, hp2⟩ := pair_num a c t
      have HPl : Hid (plc l t = k + 2) := by show _ = _; unfold plc; simp at hxl; omega
      have HP1 := Lib.hid hp1
      have HP2 := Lib.hid hp2
      obtain ⟨y, hy⟩ : ∃ y, a :: c :: t = y := ⟨_, rfl⟩
      have hyl : (2 : Int) ≤ (y.length : Int) := by rw [← hy]; simp; omega
      have hex : (⟨y.toArray⟩ : ByteArray).extract 0 2 = ⟨[a, c].toArray⟩ := by rw [ext_sub, ← hy]; rfl
      rw [hy] at HR HP1
      rw [hy]
      have hll : (k : Int) ≤ 65536 := by omega
      clear hp1 hp2 hx hxl hy h0 h1 hf hE
      go_enter Tryd.func85, Tryd.ntmps85
      go_wp2_with fail
      refine HR.out.mono ?_
      rintro e w2 ⟨rfl, hn⟩
      have HW2 := Lib.hid (HX.out.draw hn)
      have HE2 := Lib.hid (HEn.out w2 k HW2.out)
      clear hn
      go_wp2_with fail
      refine (c_par16_8 B [a, c] w2 HE2.out (by simp)).mono ?_
      rintro e w3 ⟨hN, hb3⟩
      have HW3 := Lib.hid (HW2.out.next HBw.out hb3)
      obtain ⟨ht3, hp3, hf3⟩ := HC.out w3 k HW3.out
      clear hb3
      rcases hN with ⟨u, hu, rfl⟩ | ⟨hn, v, tp, p, rfl⟩
      · have HU : Hid (pairP y = some (UInt8.ofNat u, t)) := by
          show _ = _
          rw [HP1.out, hu]
          rfl
        have hub : u ≤ 255 := HP2.out u (by rw [hu]; rfl)
        have HUn : Hid ((UInt8.ofNat u).toNat = u) := by show _ = _; rw [UInt8.toNat_ofNat']; omega
        have hu1 : (u : Int) ≤ 255 := by omega
        clear hu
        go_wp2_with fail
        go_region
        all_goals
          go_wp2_with fail
          go_ret2
          refine .inl ⟨_, _, HU.out, by rw [HUn.out]; rfl, ?_⟩
          rw [HPl.out]
          exact (HW3.out.set (k + 2)).draw ⟨1, rfl⟩
      · have HU : Hid (pairP y = none) := by
          show _ = _
          rw [HP1.out, hn]
          rfl
        clear hn
        go_wp2_with fail
        go_region
        all_goals
          go_wp2_with fail
          go_ret2
          exact .inr ⟨HU.out, _, _, rfl, (HW3.out.set (k + 2)).draw ⟨1, rfl⟩⟩
  · have HP : Hid (pairP x = none) := by
      show _ = _
      match x, h2 with
      | [], _ => rfl
      | [_], _ => rfl
      | _ :: _ :: _, h2 => simp at h2
    have hxd : decide ((x.length : Int) < 2) = true := by simp; omega
    clear hx hxl h0 h1 hf hE h2
    go_enter Tryd.func85, Tryd.ntmps85
    go_wp2_with fail
    refine HR.out.mono ?_
    rintro e w2 ⟨rfl, hn⟩
    have HW2 := Lib.hid (HX.out.draw hn)
    clear hn
    go_wp2_with fail
    go_ret2
    exact .inr ⟨HP.out, _, _, rfl, HW2.out⟩
end Go.Proofs.YtbccabpcljkamaaDoor
