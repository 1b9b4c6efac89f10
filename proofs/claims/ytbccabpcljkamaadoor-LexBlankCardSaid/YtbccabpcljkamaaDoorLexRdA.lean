/-
  The contracts of all tokens, in the code.
-/
import Derived.Test.YtbccabpcljkamaaDoorLexRd9
import Derived.Deep.AppendLies
import Derived.Deep.RegionLaw
namespace Go.Proofs.YtbccabpcljkamaaDoor
set_option linter.unusedVariables false
set_option linter.unusedSimpArgs false
set_option maxRecDepth 100000
open Go.RowKit

/-- A lexer of text l in block b, behind w. -/
structure LxY (b : Nat) (l : List UInt8) (w : World) (k f : Nat) (tv : Value) (wr : World) : Prop where
  text : wr.cell? ⟨b, 0, none⟩ = some (.string ⟨l.toArray⟩)
  pos : wr.cell? ⟨b, 1, none⟩ = some (.int .i64 k)
  frm : wr.cell? ⟨b, 2, none⟩ = some (.int .i64 f)
  tok : wr.cell? ⟨b, 3, none⟩ = some tv
  frz : ∀ i, i < 4 → wr.frozen? ⟨b, i, none⟩ = false
  blk : ∀ j, j ≠ b → j < w.heap.size → wr.heap[j]? = w.heap[j]?
  size : w.heap.size ≤ wr.heap.size
  os : wr.os = w.os
  tape : wr.tape = w.tape
  output : wr.output = w.output
theorem LxY.x {b k f j g : Nat} {l : List UInt8} {tv : Value} {w wr w2 : World} (h : LxY b l w k f tv wr) (h2 : LxX b wr j g w2) : LxY b l w j g tv w2 :=
  ⟨(h2.oth 0 (by decide) (by decide)).trans h.text, h2.pos, h2.frm, (h2.oth 3 (by decide) (by decide)).trans h.tok, fun i hi => (h2.frz i).trans (h.frz i hi), fun j hj hs => (h2.blk j hj (Nat.lt_of_lt_of_le hs h.size)).trans (h.blk j hj hs), Nat.le_trans h.size h2.size, h2.os.trans h.os, h2.tape.trans h.tape, h2.output.trans h.output⟩
theorem LxY.l {b k f : Nat} {l : List UInt8} {tv : Value} {w wr : World} (h : LxY b l w k f tv wr) : LxX b wr k f wr := LxX.start h.pos h.frm
theorem LxY.draw {b k f : Nat} {l : List UInt8} {tv : Value} {w wr w2 : World} (h : LxY b l w k f tv wr) (hn : ∃ n, w2 = wr.drewN n) : LxY b l w k f tv w2 := h.x (h.l.draw hn)
theorem LxY.next {b k f : Nat} {l : List UInt8} {tv : Value} {w wr w2 : World} (h : LxY b l w k f tv wr) (hb : b < w.heap.size) (hn : Below wr.heap.size wr w2) : LxY b l w k f tv w2 := h.x (h.l.next (Nat.lt_of_lt_of_le hb h.size) hn)
theorem LxY.grown {b k f : Nat} {l : List UInt8} {tv : Value} {w wr w2 : World} {o : Option Nat} (h : LxY b l w k f tv wr) (hb : b < w.heap.size) (hg : wr.grownBy w2 o) (ho : ∀ g, o = some g → w.heap.size ≤ g) : LxY b l w k f tv w2 := by
  have hbw : b < wr.heap.size := Nat.lt_of_lt_of_le hb h.size
  have keep : ∀ j, j < w.heap.size → w2.heap[j]? = wr.heap[j]? := fun j hj => hg.block j (Nat.lt_of_lt_of_le hj h.size) (fun e => by have := ho j e.symm; omega)
  have e := keep b hb
  exact ⟨(cell_of_blk e 0).trans h.text, (cell_of_blk e 1).trans h.pos, (cell_of_blk e 2).trans h.frm, (cell_of_blk e 3).trans h.tok, fun i hi => (frozen_of_blk e i).trans (h.frz i hi), fun j hj hs => (keep j hs).trans (h.blk j hj hs), Nat.le_trans h.size hg.size, hg.os.trans h.os, hg.tape.trans h.tape, hg.output.trans h.output⟩
theorem LxY.set3 {b k f : Nat} {l : List UInt8} {tv : Value} {w wr : World} (h : LxY b l w k f tv wr) (v : Value) : LxY b l w k f v (wr.setCell ⟨b, 3, none⟩ v) :=
  ⟨(World.cell?_setCell_other _ _ _ _ (fun e => by injection e with _ e2; cases e2)).trans h.text, (World.cell?_setCell_other _ _ _ _ (fun e => by injection e with _ e2; cases e2)).trans h.pos, (World.cell?_setCell_other _ _ _ _ (fun e => by injection e with _ e2; cases e2)).trans h.frm, World.cell?_setCell_same _ _ _ h.tok,
    fun i hi => (World.frozen?_setCell _ _ _ _).trans (h.frz i hi), fun i hi hs => (Below.heap_setCell _ _ _ _ hi).trans (h.blk i hi hs), by simpa [World.setCell] using h.size, h.os, h.tape, h.output⟩
theorem LxY.below {B b k f : Nat} {l : List UInt8} {tv : Value} {w wr : World} (h : LxY b l w k f tv wr) (hB : B ≤ b) (hb : b < w.heap.size) : Below B w wr := ⟨h.os, h.tape, h.output, h.size, fun j hj => h.blk j (by omega) (by omega)⟩
/-- Tokens of a text of so many bytes, cell by cell. -/
def tCells (N : Nat) (L : List Pt) : List Value := L.flatMap fun t => [.int .i64 t.kind, .int .i64 ((N - t.rest : Nat) : Int), .int .i64 t.int, .string ⟨t.text.toArray⟩]
theorem tCells_len (N : Nat) (L : List Pt) : (tCells N L).length = L.length * 4 := by
  unfold tCells
  induction L with
  | nil => rfl
  | cons t L ih => rw [List.flatMap_cons, List.length_append, ih, List.length_cons]; simp; omega
theorem tCells_snoc (N : Nat) (L : List Pt) (t : Pt) : tCells N (L ++ [t]) = tCells N L ++ [.int .i64 t.kind, .int .i64 ((N - t.rest : Nat) : Int), .int .i64 t.int, .string ⟨t.text.toArray⟩] := by
  unfold tCells
  simp
theorem infoTok : (Tryd.prog.info? 33).map (fun i => (i.zero, i.size, i.bytes)) = some (some (.agg #[.int .i64 0, .int .i64 0, .int .i64 0, .string ByteArray.empty]), 4, 40) := by kernel_rfl
theorem tok_new (w : World) (c0 c1 c2 c3 : Value) (T : TypeId) : ∀ (j : Nat) (u : Value), [c0, c1, c2, c3][j]? = some u → (w.alloc (.cells #[c0, c1, c2, c3] T)).cell? ((⟨w.heap.size, 0, none⟩ : Addr).add j) = some u := by
  intro j u hu
  have hj : j < 4 := by
    have := (List.getElem?_eq_some_iff.1 hu).1
    simpa using this
  have e : (⟨w.heap.size, 0, none⟩ : Addr).add j = ⟨w.heap.size, j, none⟩ := by simp [Addr.add]; omega
  rw [e, Lib.cell_of_heap (heap_alloc_new w _)]
  rw [List.getElem?_toArray]
  exact hu
theorem tok_one (k a n : Int) (s : ByteArray) : ∀ u ∈ [Value.int .i64 k, .int .i64 a, .int .i64 n, .string s], u.oneCell' = true := by
  intro u hu
  simp at hu
  rcases hu with rfl | rfl | rfl | rfl <;> rfl
/-- What all answers. -/
def AlR (b : Nat) (l : List UInt8) (w : World) (o : Rs) (e : Ending) (w' : World) : Prop :=
  (∃ L v k f, o = .ok L ∧ e = .returned (.int .i64 0) ∧ w'.ownsRow w.heap.size 33 4 v L.length (tCells l.length L) ∧ LxY b l w k f v w' ∧ L.length ≤ 16384) ∨ (∃ c r k v, o = .bad c r ∧ e = .returned (.int .i64 c) ∧ LxY b l w k (plc l r) v w')
set_option maxHeartbeats 4000000 in
attribute [local irreducible] Go.wpQuiet in
theorem c_all (B b : Nat) (l : List UInt8) (w : World) (hE : Env B w) (hB : B ≤ b) (hbw : b < w.heap.size) (hl : l.length ≤ 65536) (hY : LxY b l w 0 0 (.slice none 0 0) w) :
    Calls Tryd.prog 12 #[.pointer (some ⟨b, 0, none⟩)] w fun e w' => AlR b l w (tksR [] l) e w' := by
  have HY := Lib.hid hY
  have HBw := Lib.hid hbw
  have HEn := Lib.hid (fun (wr : World) (j f : Nat) (v : Value) (h : LxY b l w j f v wr) => hE.next (h.below hB hbw))
  obtain ⟨o, ho⟩ : ∃ o, tksR [] l = o := ⟨_, rfl⟩
  rw [ho]
  clear hY hE
  go_enter Tryd.func12, Tryd.ntmps12
  go_wp2_with fail
  go_loopg [] l.length (fun g wr => ∃ (j f : Nat) (L : List Pt) (v : Value), j + g = l.length ∧ L.length ≤ 16384 ∧ Hid (LxY b l w j f v wr) ∧ Hid (wr.ownsRow w.heap.size 33 4 v L.length (tCells l.length L)) ∧ Hid (tksR L (l.drop j) = o))
  case atStart => exact ⟨0, 0, [], .slice none 0 0, by omega, by simp, HY.out, ⟨rfl, .inl ⟨rfl, rfl⟩⟩, ho⟩
  case round =>
    obtain ⟨j, f, L, v, hjg, hL, HW, HO, HT⟩ := hrel
    have hjl : j ≤ l.length := by omega
    have HSk := Lib.hid (c_skip B b l j f wr (HEn.out _ _ _ _ HW.out) hB (Nat.lt_of_lt_of_le hbw HW.out.size) hjl hl HW.out.text HW.out.pos HW.out.frm HW.out.frz)
    have HQs : Hid ((blR (l.drop j)).1 <:+ l ∧ (blR (l.drop j)).1.length ≤ l.length - j) := by
      have h := blR_suf (l.drop j)
      have := h.length_le
      rw [List.length_drop] at this
      exact ⟨h.trans (List.drop_suffix _ _), this⟩
    rw [tksR_step] at HT
    obtain ⟨R, hR⟩ : ∃ R, blR (l.drop j) = R := ⟨_, rfl⟩
    rw [hR] at HSk HT HQs
    obtain ⟨x, ok⟩ := R
    clear hR
    go_wp2_with fail
    refine HSk.out.mono ?_
    rintro e w2 ⟨rfl, hx2⟩
    have HW2 : Hid (LxY b l w (plc l x) (plc l x) v w2) := HW.out.x hx2
    have HO2 : Hid (w2.ownsRow w.heap.size 33 4 v L.length (tCells l.length L)) := own_x HO.out (fun g hg hs => hx2.blk g (by have := HBw.out; omega) hs)
    clear hx2
    cases ok
    · have Ho : Hid (Rs.bad 71 x = o) := HT.out
      have hse : skE (x, false) = 71 := rfl
      rw [hse]
      go_wp2_with fail
      go_ret
      exact .inr ⟨71, x, _, _, Ho.out.symm, rfl, HW2.out⟩
    · have HT2 : Hid ((if x = [] then Rs.ok L else if L.length = 16384 then .bad 3 x else match tokR x with
        | .bad e y => .bad e y
        | .ok k i s y => tksR (L ++ [⟨k, x.length, i, s⟩]) y) = o) := HT.out
      have hse : skE (x, true) = 0 := rfl
      rw [hse]
      have HOv := Lib.hid (c_isOver b 0 l (plc l x) w2 HW2.out.text HW2.out.pos)
      have hxl := HQs.out.2
      have hxs := HQs.out.1.length_le
      go_wp2_with fail
      by_cases hx0 : x = []
      · have hov : (plc l x == l.length) = true := by rw [hx0]; unfold plc; simp
        rw [hov] at HOv
        have Ho : Hid (Rs.ok L = o) := by have := HT2.out; rw [if_pos hx0] at this; exact this
        refine HOv.out.mono ?_
        rintro e w3 ⟨rfl, hn⟩
        have HW3 := Lib.hid (HW2.out.draw hn)
        have HO3 : Hid (w3.ownsRow w.heap.size 33 4 v L.length (tCells l.length L)) := by obtain ⟨n, rfl⟩ := hn; exact own_x HO2.out (fun _ _ _ => rfl)
        clear hn
        go_wp2_with fail
        go_ret
        exact .inl ⟨L, v, _, _, Ho.out.symm, rfl, HO3.out, HW3.out, hL⟩
      · have hxp := List.length_pos_iff.2 hx0
        have hov : (plc l x == l.length) = false := by rw [beq_eq_false_iff_ne]; unfold plc; omega
        rw [hov] at HOv
        rw [if_neg hx0] at HT2
        refine HOv.out.mono ?_
        rintro e w3 ⟨rfl, hn⟩
        have HW3 := Lib.hid (HW2.out.draw hn)
        have HO3 : Hid (w3.ownsRow w.heap.size 33 4 v L.length (tCells l.length L)) := by obtain ⟨n, rfl⟩ := hn; exact own_x HO2.out (fun _ _ _ => rfl)
        obtain ⟨ao, cap, hv⟩ : ∃ ao cap, v = .slice ao L.length cap := by
          rcases HO3.out.2 with ⟨hv, hz⟩ | ⟨g, cap, cur, hv, _⟩
          · exact ⟨none, 0, by rw [hv, hz]⟩
          · exact ⟨_, cap, hv⟩
        subst hv
        have ht3 := HW3.out.tok
        clear hn hx0
        by_cases hm : L.length = 16384
        · rw [if_pos hm] at HT2
          have hmb : ((L.length : Int) == 16384) = true := by simp; omega
          clear hm
          go_wp2_with fail
          go_ret
          exact .inr ⟨3, x, _, _, HT2.out.symm, rfl, HW3.out⟩
        · rw [if_neg hm] at HT2
          have hmb : ((L.length : Int) == 16384) = false := by simp; omega
          have hLm : L.length < 16384 := by omega
          have hpl : plc l x < l.length := by unfold plc; omega
          have HTk := Lib.hid (c_ltoken B b l (plc l x) w3 (HEn.out _ _ _ _ HW3.out) hB (Nat.lt_of_lt_of_le hbw HW3.out.size) hpl hl HW3.out.text HW3.out.pos HW3.out.frm HW3.out.frz)
          have hdx : l.drop (plc l x) = x := drop_plc HQs.out.1
          rw [hdx] at HTk
          have HBd : Hid (∀ c y, tokR x = .bad c y → 0 < c) := fun c y h => tok_bad h
          have HSf : Hid (∀ k i s y, tokR x = .ok k i s y → y <:+ l ∧ y.length < x.length) := fun k i s y h => by
            obtain ⟨s1, s2⟩ := tok_suf (List.length_pos_iff.1 hxp) h
            exact ⟨s1.trans HQs.out.1, s2⟩
          clear hm hdx hpl
          go_wp2_with fail
          refine HTk.out.mono ?_
          rintro e w4 (⟨kd, n, tx, r, f', hq, rfl, hx4⟩ | ⟨c, r, k', hq, rfl, hx4⟩)
          · rw [hq] at HT2
            have HT3 : Hid (tksR (L ++ [Pt.mk kd x.length n tx]) r = o) := HT2.out
            have HSr := Lib.hid (HSf.out _ _ _ _ hq)
            have HW4 : Hid (LxY b l w (plc l r) f' (.slice ao L.length cap) w4) := HW3.out.x hx4
            have HO4 : Hid (w4.ownsRow w.heap.size 33 4 (.slice ao L.length cap) L.length (tCells l.length L)) := own_x HO3.out (fun g hg hs => hx4.blk g (by have := HBw.out; omega) hs)
            have ht4 := HW4.out.tok
            have hf4 := HW4.out.frz 3 (by decide)
            obtain ⟨i0, hi, hz0, hz1, hz2⟩ := info_parts infoTok
            obtain ⟨av, hav⟩ : ∃ av : Int, ((plc l x : Nat) : Int) = av := ⟨_, rfl⟩
            have HW5 : Hid (∀ o o', LxY b l w (plc l r) f' (.slice ao L.length cap) (((w4.alloc o).alloc o').drew)) := fun o o' => ((HW4.out.next HBw.out ((Below.refl _ _).alloc (Nat.le_refl _) o)).next HBw.out ((Below.refl _ _).alloc (Nat.le_refl _) o')).draw ⟨1, rfl⟩
            have HOw : Hid (∀ o o', ((w4.alloc o).alloc o').drew.ownsRow w.heap.size 33 4 (.slice ao L.length cap) L.length (tCells l.length L)) := fun o o' => (HO4.out.alloc o).alloc o'
            have HNw : Hid (∀ o, ∀ (j : Nat) (u : Value), [Value.int .i64 kd, .int .i64 av, .int .i64 n, .string ⟨tx.toArray⟩][j]? = some u → ((w4.alloc o).alloc (.cells #[.int .i64 kd, .int .i64 av, .int .i64 n, .string ⟨tx.toArray⟩] 33)).drew.cell? ((⟨w4.heap.size + 1, 0, none⟩ : Addr).add j) = some u) := fun o j u hu => by
              have h := World.news_of_block (heap_alloc_new (w4.alloc o) (.cells #[.int .i64 kd, .int .i64 av, .int .i64 n, .string ⟨tx.toArray⟩] 33)) j u (by simpa using hu)
              rw [show (w4.alloc o).heap.size = w4.heap.size + 1 by simp] at h
              exact h
            have HOl : Hid (∀ g, (Value.slice ao L.length cap).ownBlock = some g → w.heap.size ≤ g) := own_block_ge HO4.out
            have hS4 : w.heap.size ≤ w4.heap.size := HW4.out.size
            have hb4 : b < w4.heap.size := by omega
            have hvn : (Value.slice ao L.length cap).ownBlock ≠ some b := fun e => by have := HOl.out _ e; omega
            have HAv := Lib.hid hav
            rw [hav]
            clear hx4 hq HT2 ht3 hav hS4
            have hS4 : w.heap.size ≤ w4.heap.size + 2 := by have := HW4.out.size; omega
            go_wp2_with fail
            go_region_law (refine step_append_lies _ (by rfl) _ _ _ (by rfl) w.heap.size 33 i0 _ 4 40 Tryd.underlying22 hi hz0 hz1 hz2 rfl (by decide) (.slice ao L.length cap) L.length (tCells l.length L) (by simp [Act.eval, Act.put]) (by exact HOw.out _ _) ⟨w4.heap.size + 1, 0, none⟩ 1 1 [.int .i64 kd, .int .i64 av, .int .i64 n, .string ⟨tx.toArray⟩] (by simp [Act.eval, Act.put]) rfl (by exact HNw.out _) (tok_one _ _ _ _) (by decide) (by unfold maxLen; omega) (by omega) (by simp; omega) (w4.heap.size + 2) (by simp) ?_
                           intro g6 cap6 w6 hown6 hgrow6 hat6 hlt6
                           have hv6 : w6.cell? ⟨b, 3, none⟩ = some (.slice ao L.length cap) := (hgrow6.cell_far ⟨b, 3, none⟩ (by simp; omega) (Ne.symm hvn)).trans ((HW5.out _ _).tok)
                           have hf6 : w6.frozen? ⟨b, 3, none⟩ = false := (hgrow6.frozen_far ⟨b, 3, none⟩ (by simp; omega) (Ne.symm hvn)).trans ((HW5.out _ _).frz 3 (by decide)))
            all_goals
              have HW6 : Hid (LxY b l w (plc l r) f' (.slice (some ⟨g6, 0, none⟩) (L.length + 1) cap6) (w6.setCell ⟨b, 3, none⟩ (.slice (some ⟨g6, 0, none⟩) (L.length + 1) cap6))) := ((HW5.out _ _).grown HBw.out hgrow6 HOl.out).set3 _
              have HO6 : Hid ((w6.setCell ⟨b, 3, none⟩ (.slice (some ⟨g6, 0, none⟩) (L.length + 1) cap6)).ownsRow w.heap.size 33 4 (.slice (some ⟨g6, 0, none⟩) (L.length + 1) cap6) (L ++ [Pt.mk kd x.length n tx] : List Pt).length (tCells l.length (L ++ [Pt.mk kd x.length n tx]))) := by
                refine own_x ?_ (fun g hg hs => Below.heap_setCell _ _ _ _ (show g ≠ b by have := HBw.out; omega))
                rw [tCells_snoc, List.length_append]
                have e : ((l.length - x.length : Nat) : Int) = av := HAv.out
                dsimp only
                rw [e]
                exact hown6
              have HTx : Hid (tksR (L ++ [Pt.mk kd x.length n tx]) (l.drop (plc l r)) = o) := by show _ = _; rw [drop_plc HSr.out.1]; exact HT3.out
              have hr1 := HSr.out.1.length_le
              have hr2 := HSr.out.2
              clear hown6 hgrow6 hat6 hlt6 hv6 hf6
              go_wp2_with fail
              go_roundg (l.length - plc l r)
              case measure => unfold plc; omega
              case rel => exact ⟨plc l r, f', L ++ [Pt.mk kd x.length n tx], _, by unfold plc; omega, by rw [List.length_append]; simp; omega, HW6.out, HO6.out, HTx.out⟩
          · rw [hq] at HT2
            have Ho : Hid (Rs.bad c r = o) := HT2.out
            have hcp := HBd.out c r hq
            have hc0 : (c == 0) = false := by rw [beq_eq_false_iff_ne]; omega
            have HW4 : Hid (LxY b l w k' (plc l r) (.slice ao L.length cap) w4) := HW3.out.x hx4
            clear hx4 hq HT2 hcp
            go_wp2_with fail
            go_ret
            exact .inr ⟨c, r, _, _, Ho.out.symm, rfl, HW4.out.next HBw.out ((Below.refl _ _).alloc (Nat.le_refl _) _)⟩
/-- What Tokens answers of a text. -/
def ToR (l : List UInt8) (w : World) (e : Ending) (w' : World) : Prop :=
  (∃ L v, l.length ≤ 65536 ∧ tksR [] l = .ok L ∧ e = .returned (.tuple #[v, .agg #[.int .i64 0, .int .i64 0]]) ∧ w'.ownsRow w.heap.size 33 4 v L.length (tCells l.length L) ∧ L.length ≤ 16384) ∨
  (∃ (p : Nat) (c : Int), e = .returned (.tuple #[.slice none 0 0, .agg #[.int .i64 p, .int .i64 c]]) ∧ p ≤ l.length ∧ 0 < c ∧ (65536 < l.length ∨ ∃ r, tksR [] l = .bad c r ∧ p = plc l r))
theorem own_weak {w : World} {base base' : Nat} {e : TypeId} {size : Nat} {v : Value} {n : Nat} {xs : List Value} (h : w.ownsRow base e size v n xs) (hb : base' ≤ base) : w.ownsRow base' e size v n xs := by
  refine ⟨h.1, ?_⟩
  rcases h.2 with h2 | ⟨g, cap, cur, rfl, hg, r⟩
  · exact .inl h2
  · exact .inr ⟨g, cap, cur, rfl, Nat.le_trans hb hg, r⟩
abbrev fOb (a c : Int) : Obj := .cells #[.int .i64 a, .int .i64 c] 26 (0, 0)
abbrev lOb (l : List UInt8) : Obj := .cells #[.string ⟨l.toArray⟩, .int .i64 0, .int .i64 0, .slice none 0 0] 43 (0, 0)
theorem fob_cells {w : World} {N : Nat} {a c : Int} (h : w.heap[N]? = some (fOb a c)) : w.cell? ⟨N, 0, none⟩ = some (.int .i64 a) ∧ w.cell? ⟨N, 1, none⟩ = some (.int .i64 c) ∧ ∀ i, w.frozen? ⟨N, i, none⟩ = false :=
  ⟨by rw [Lib.cell_of_heap h]; rfl, by rw [Lib.cell_of_heap h]; rfl, fun i => Lib.frozen_of_heap h i⟩
set_option maxHeartbeats 4000000 in
theorem c_Tokens (l : List UInt8) (w : World) (hE : Env w.heap.size w) (hl : l.length ≤ 9223372036854775807) :
    Calls Tryd.prog 7 #[.string ⟨l.toArray⟩] w fun e w' => ToR l w e w' ∧ Below w.heap.size w w' := by
  by_cases h16 : l.length ≤ 65536
  · have hd : decide ((65536 : Int) < (l.length : Int)) = false := by simp; omega
    obtain ⟨o, ho⟩ : ∃ o, tksR [] l = o := ⟨_, rfl⟩
    have HoO := Lib.hid ho
    have hs0 : (w.alloc (fOb 0 0)).heap.size = w.heap.size + 1 := by simp
    have hs1 : ((w.alloc (fOb 0 0)).alloc (lOb l)).heap.size = w.heap.size + 2 := by simp
    have hW : ((w.alloc (fOb 0 0)).alloc (lOb l)).heap[w.heap.size + 1]? = some (lOb l) := by
      have h := heap_alloc_new (w.alloc (fOb 0 0)) (lOb l)
      rw [hs0] at h
      exact h
    have hF1 : ((w.alloc (fOb 0 0)).alloc (lOb l)).heap[w.heap.size]? = some (fOb 0 0) := by
      rw [Lib.alloc_old _ _ _ (by rw [hs0]; omega)]
      exact heap_alloc_new w _
    have hbel : Below w.heap.size w ((w.alloc (fOb 0 0)).alloc (lOb l)) := ((Below.refl _ _).alloc (Nat.le_refl _) _).alloc (by rw [hs0]; omega) _
    have HAl : Hid (Calls Tryd.prog 12 #[.pointer (some ⟨w.heap.size + 1, 0, none⟩)] ((w.alloc (fOb 0 0)).alloc (lOb l)) fun e w' => AlR (w.heap.size + 1) l ((w.alloc (fOb 0 0)).alloc (lOb l)) o e w') := by
      show Calls _ _ _ _ _
      rw [← ho]
      exact c_all w.heap.size _ l _ (hE.next hbel) (by omega) (by rw [hs1]; omega) h16 ⟨by rw [Lib.cell_of_heap hW]; rfl, by rw [Lib.cell_of_heap hW]; rfl, by rw [Lib.cell_of_heap hW]; rfl, by rw [Lib.cell_of_heap hW]; rfl, fun i _ => Lib.frozen_of_heap hW i, fun _ _ _ => rfl, Nat.le_refl _, rfl, rfl, rfl⟩
    have HBel := Lib.hid hbel
    have HF1 := Lib.hid hF1
    have HS1 := Lib.hid hs1
    have HLt : Hid (w.heap.size + 1 < ((w.alloc (fOb 0 0)).alloc (lOb l)).heap.size) := by show _ < _; rw [hs1]; omega
    clear hE hW hF1 hbel hs0 hs1 ho
    go_enter Tryd.func7, Tryd.ntmps7
    go_wp2_with fail
    generalize (w.alloc (fOb 0 0)).alloc (lOb l) = W at HAl HBel HF1 HS1 HLt
    refine HAl.out.mono ?_
    rintro e w2 (⟨L, v, k, f, hq, rfl, hown, hY, hLl⟩ | ⟨c, r, k, v, hq, rfl, hY⟩)
    · have HY := Lib.hid hY
      have HF2 : Hid (w2.heap[w.heap.size]? = some (fOb 0 0)) := (hY.blk _ (by omega) (by have := HLt.out; omega)).trans HF1.out
      have HO2 : Hid (w2.ownsRow (w.heap.size + 2) 33 4 v L.length (tCells l.length L)) := by rw [HS1.out] at hown; exact hown
      have HB2 : Hid (Below w.heap.size w w2) := HBel.out.trans (hY.below (Nat.le_succ _) HLt.out)
      have ht := hY.tok
      have HQ := Lib.hid (HoO.out.trans hq)
      have HLL := Lib.hid hLl
      have HOb : Hid (∀ g, v.ownBlock = some g → w.heap.size + 2 ≤ g) := fun g hg => by have := own_block_ge hown g hg; have := HS1.out; omega
      obtain ⟨n0, n1, n2⟩ := fob_cells HF2.out
      have nf0 := n2 0
      have nf1 := n2 1
      have hne1 : ¬ w.heap.size + 1 = w.heap.size := by omega
      have hne2 : ¬ w.heap.size = w.heap.size + 1 := by omega
      clear hY hown hq n2 hLl
      go_wp2_with fail
      refine bodyPost_ret (v := .tuple #[v, .agg #[.int .i64 0, .int .i64 0]]) (by simp [results, Tryd.results7, go_sem, n0, n1]) rfl ?_
      exact ⟨.inl ⟨L, v, h16, HQ.out, rfl, own_weak (own_x HO2.out (fun g hg _ => (Below.heap_setCell _ _ _ _ (show g ≠ w.heap.size by omega)).trans (Below.heap_setCell _ _ _ _ (show g ≠ w.heap.size by omega)))) (Nat.le_add_right _ _), HLL.out⟩, (HB2.out.setCell (p := ⟨w.heap.size, 0, none⟩) (Nat.le_refl _) _).setCell (p := ⟨w.heap.size, 1, none⟩) (Nat.le_refl _) _⟩
    · have HY := Lib.hid hY
      have HF2 : Hid (w2.heap[w.heap.size]? = some (fOb 0 0)) := (hY.blk _ (by omega) (by have := HLt.out; omega)).trans HF1.out
      have HB2 : Hid (Below w.heap.size w w2) := HBel.out.trans (hY.below (Nat.le_succ _) HLt.out)
      have ht := hY.tok
      have hfr := hY.frm
      have HQ := Lib.hid (HoO.out.trans hq)
      have hcp := tks_bad HQ.out
      have hc0 : (c == 0) = false := by rw [beq_eq_false_iff_ne]; omega
      obtain ⟨n0, n1, n2⟩ := fob_cells HF2.out
      have nf0 := n2 0
      have nf1 := n2 1
      have hne1 : ¬ w.heap.size + 1 = w.heap.size := by omega
      have hne2 : ¬ w.heap.size = w.heap.size + 1 := by omega
      have HCp := Lib.hid hcp
      clear hY hq n2 hcp
      go_wp2_with fail
      go_region
      all_goals
        go_wp2_with fail
        refine bodyPost_ret (v := .tuple #[.slice none 0 0, .agg #[.int .i64 ((plc l r : Nat) : Int), .int .i64 c]]) (by simp [results, Tryd.results7, go_sem, n0, n1]) rfl ?_
        exact ⟨.inr ⟨plc l r, c, rfl, plc_le l r, HCp.out, .inr ⟨r, HQ.out, rfl⟩⟩, ((HB2.out.setCell (p := ⟨w.heap.size, 0, none⟩) (Nat.le_refl _) _).setCell (p := ⟨w.heap.size, 1, none⟩) (Nat.le_refl _) _).drew⟩
  · have hd : decide ((65536 : Int) < (l.length : Int)) = true := by simp; omega
    go_enter Tryd.func7, Tryd.ntmps7
    go_wp2_with fail
    refine bodyPost_ret (v := .tuple #[.slice none 0 0, .agg #[.int .i64 0, .int .i64 3]]) (by simp [results, Tryd.results7, go_sem]) rfl ?_
    exact ⟨.inr ⟨0, 3, rfl, Nat.zero_le _, by decide, .inl (by omega)⟩, (Below.refl _ _).alloc (Nat.le_refl _) _⟩
end Go.Proofs.YtbccabpcljkamaaDoor
