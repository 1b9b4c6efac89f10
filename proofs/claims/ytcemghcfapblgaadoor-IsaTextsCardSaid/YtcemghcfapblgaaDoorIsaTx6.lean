/-
  The contract of Parse, in the document's answers.
-/
import Derived.Test.YtcemghcfapblgaaDoorIsaTx5
import Derived.Test.YtcemghcfapblgaaDoorIsaParse
import Derived.Deep.QuietTactic
import Derived.BigQuiet
import Derived.Deep.AppendLies
namespace Go.Proofs.YtcemghcfapblgaaDoor
set_option linter.unusedVariables false
set_option linter.unusedSimpArgs false
open Go.ChangeShapes Go.WideShapes Go.ChangeAt Go.RowKit

/-- A text that is no right instruction's. -/
def Rej (l : List UInt8) : Prop := ∀ o d a b i, chkB o d a b i = true → prL o d a b i ≠ l
/-- What the document's answer is. -/
def ParseIs (l : List UInt8) (e : Ending) : Prop :=
  (∃ o d a b i, chkB o d a b i = true ∧ prL o d a b i = l ∧ e = .returned (.tuple #[.agg #[.int .i64 o, .int .i64 d, .int .i64 a, .int .i64 b, .int .i64 i], .int .i64 0])) ∨
  (Rej l ∧ e = .returned (.tuple #[.agg #[.int .i64 0, .int .i64 0, .int .i64 0, .int .i64 0, .int .i64 0], .int .i64 2]))
/-- The parts of a text, in a row; the words; the instruction that is read; the result. -/
def Inv (w0 : World) (g gw gx : Nat) (ts : List (List UInt8)) (o d a b i : Int) (wr : World) : Prop :=
  (∀ k t, ts[k]? = some t → wr.cell? ⟨g, k, none⟩ = some (.string ⟨t.toArray⟩)) ∧ (∀ k : Nat, k < 42 → wr.cell? ⟨gw, k, none⟩ = some (.string ⟨(nm ((k : Int) + 1)).toArray⟩)) ∧
  Box wr gx o d a b i ∧ Box wr w0.heap.size 0 0 0 0 0 ∧ Below w0.heap.size w0 wr ∧ g < gx ∧ gw < gx ∧ w0.heap.size < gx ∧ gx < wr.heap.size
theorem Inv.drewN {w0 : World} {g gw gx : Nat} {ts : List (List UInt8)} {o d a b i : Int} {wr : World} (h : Inv w0 g gw gx ts o d a b i wr) (n : Nat) : Inv w0 g gw gx ts o d a b i (wr.drewN n) := by
  have e : ∀ n (w : World), (w.drewN n).heap = w.heap := by
    intro n
    induction n with
    | zero => intro w; rfl
    | succ n ih => intro w; exact ih w
  obtain ⟨h1, h2, h3, h4, h5, h6⟩ := h
  have hc : ∀ p, (wr.drewN n).cell? p = wr.cell? p := fun p => by unfold World.cell?; rw [e]
  have hf : ∀ p, (wr.drewN n).frozen? p = wr.frozen? p := fun p => by unfold World.frozen?; rw [e]
  refine ⟨fun k t hk => by rw [hc]; exact h1 k t hk, fun k hk => by rw [hc]; exact h2 k hk, ?_, ?_, below_drewN h5 n, ?_⟩
  · unfold Box at h3 ⊢; simpa only [hc, hf] using h3
  · unfold Box at h4 ⊢; simpa only [hc, hf] using h4
  · rw [e]; exact h6
theorem Inv.next {w0 : World} {g gw gx : Nat} {ts : List (List UInt8)} {o d a b i : Int} {wr w2 : World} (h : Inv w0 g gw gx ts o d a b i wr) (hb : Below wr.heap.size wr w2) : Inv w0 g gw gx ts o d a b i w2 := by
  obtain ⟨h1, h2, h3, h4, h5, h6, h7, h8, h9⟩ := h
  exact ⟨fun k t hk => (hb.cell (cell_lt (h1 k t hk))).trans (h1 k t hk), fun k hk => (hb.cell (cell_lt (h2 k hk))).trans (h2 k hk), h3.next hb rfl, h4.next hb rfl, below_on h5 hb h5.size, h6, h7, h8, Nat.lt_of_lt_of_le h9 hb.size⟩
/-- A field is written. -/
theorem Inv.set {w0 : World} {g gw gx : Nat} {ts : List (List UInt8)} {o d a b i : Int} {wr : World} (h : Inv w0 g gw gx ts o d a b i wr) (n : Int) :
    Inv w0 g gw gx ts n d a b i (wr.setCell ⟨gx, 0, none⟩ (.int .i64 n)) ∧ Inv w0 g gw gx ts o n a b i (wr.setCell ⟨gx, 1, none⟩ (.int .i64 n)) ∧ Inv w0 g gw gx ts o d n b i (wr.setCell ⟨gx, 2, none⟩ (.int .i64 n)) ∧
    Inv w0 g gw gx ts o d a n i (wr.setCell ⟨gx, 3, none⟩ (.int .i64 n)) ∧ Inv w0 g gw gx ts o d a b n (wr.setCell ⟨gx, 4, none⟩ (.int .i64 n)) := by
  obtain ⟨h1, h2, ⟨x0, x1, x2, x3, x4, xf⟩, ⟨y0, y1, y2, y3, y4, yf⟩, h5, h6, h7, h8, h9⟩ := h
  have far : ∀ (b : Nat) (j k : Nat) (v : Value), b < gx → (wr.setCell ⟨gx, j, none⟩ v).cell? ⟨b, k, none⟩ = wr.cell? ⟨b, k, none⟩ := fun b j k v hb =>
    World.cell?_setCell_other _ _ _ _ (fun e => by simp at e <;> omega)
  have farf : ∀ (b : Nat) (j k : Nat) (v : Value), (wr.setCell ⟨gx, j, none⟩ v).frozen? ⟨b, k, none⟩ = wr.frozen? ⟨b, k, none⟩ := fun b j k v => World.frozen?_setCell _ _ _ _
  have other : ∀ (j k : Nat) (v : Value), j ≠ k → (wr.setCell ⟨gx, j, none⟩ v).cell? ⟨gx, k, none⟩ = wr.cell? ⟨gx, k, none⟩ := fun j k v hb =>
    World.cell?_setCell_other _ _ _ _ (fun e => by simp at e <;> omega)
  have same : ∀ (j : Nat) (u v : Value), wr.cell? ⟨gx, j, none⟩ = some u → (wr.setCell ⟨gx, j, none⟩ v).cell? ⟨gx, j, none⟩ = some v := fun j u v hu => World.cell?_setCell_same _ _ _ hu
  have rest : ∀ (j : Nat) (v : Value), ((∀ k t, ts[k]? = some t → (wr.setCell ⟨gx, j, none⟩ v).cell? ⟨g, k, none⟩ = some (.string ⟨t.toArray⟩)) ∧ (∀ k : Nat, k < 42 → (wr.setCell ⟨gx, j, none⟩ v).cell? ⟨gw, k, none⟩ = some (.string ⟨(nm ((k : Int) + 1)).toArray⟩))) ∧
      (Box (wr.setCell ⟨gx, j, none⟩ v) w0.heap.size 0 0 0 0 0 ∧ Below w0.heap.size w0 (wr.setCell ⟨gx, j, none⟩ v) ∧ g < gx ∧ gw < gx ∧ w0.heap.size < gx ∧ gx < (wr.setCell ⟨gx, j, none⟩ v).heap.size) := by
    intro j v
    refine ⟨⟨fun k t hk => by rw [far _ _ _ _ h6]; exact h1 k t hk, fun k hk => by rw [far _ _ _ _ h7]; exact h2 k hk⟩, ?_, h5.setCell (by simp; omega) _, h6, h7, h8, by simpa [World.setCell] using h9⟩
    unfold Box
    simp only [far _ _ _ _ h8, farf]
    exact ⟨y0, y1, y2, y3, y4, yf⟩
  refine ⟨?_, ?_, ?_, ?_, ?_⟩
  · have r := rest 0 (.int .i64 n)
    exact ⟨r.1.1, r.1.2, ⟨same 0 _ _ x0, by rw [other _ _ _ (by decide)]; exact x1, by rw [other _ _ _ (by decide)]; exact x2, by rw [other _ _ _ (by decide)]; exact x3, by rw [other _ _ _ (by decide)]; exact x4, fun o => by rw [farf]; exact xf o⟩, r.2⟩
  · have r := rest 1 (.int .i64 n)
    exact ⟨r.1.1, r.1.2, ⟨by rw [other _ _ _ (by decide)]; exact x0, same 1 _ _ x1, by rw [other _ _ _ (by decide)]; exact x2, by rw [other _ _ _ (by decide)]; exact x3, by rw [other _ _ _ (by decide)]; exact x4, fun o => by rw [farf]; exact xf o⟩, r.2⟩
  · have r := rest 2 (.int .i64 n)
    exact ⟨r.1.1, r.1.2, ⟨by rw [other _ _ _ (by decide)]; exact x0, by rw [other _ _ _ (by decide)]; exact x1, same 2 _ _ x2, by rw [other _ _ _ (by decide)]; exact x3, by rw [other _ _ _ (by decide)]; exact x4, fun o => by rw [farf]; exact xf o⟩, r.2⟩
  · have r := rest 3 (.int .i64 n)
    exact ⟨r.1.1, r.1.2, ⟨by rw [other _ _ _ (by decide)]; exact x0, by rw [other _ _ _ (by decide)]; exact x1, by rw [other _ _ _ (by decide)]; exact x2, same 3 _ _ x3, by rw [other _ _ _ (by decide)]; exact x4, fun o => by rw [farf]; exact xf o⟩, r.2⟩
  · have r := rest 4 (.int .i64 n)
    exact ⟨r.1.1, r.1.2, ⟨by rw [other _ _ _ (by decide)]; exact x0, by rw [other _ _ _ (by decide)]; exact x1, by rw [other _ _ _ (by decide)]; exact x2, by rw [other _ _ _ (by decide)]; exact x3, same 4 _ _ x4, fun o => by rw [farf]; exact xf o⟩, r.2⟩
theorem rej_len {l h0 : List UInt8} {op : Int} (hh : (cutL l)[0]? = some h0) (hop : opTo h0 42 = op) (hne : ¬ (cutL l).length = (hasI (formI op)).length + 1) : Rej l := by
  intro o d a b i hc hp
  subst hp
  obtain ⟨e1, e2, e3, _⟩ := print_found o d a b i hc
  rw [e1] at hh hne
  simp at hh
  subst hh
  rw [e2] at hop
  subst hop
  apply hne
  simp [e3]
theorem rej_num {l h0 : List UInt8} {op : Int} {k : Nat} (hh : (cutL l)[0]? = some h0) (hop : opTo h0 42 = op) (hk : k < (hasI (formI op)).length) (hno : numO (trimT ((hasI (formI op))[k]?.getD 0) ((cutL l)[k + 1]?.getD [])) = false) : Rej l := by
  intro o d a b i hc hp
  subst hp
  obtain ⟨e1, e2, e3, e4, _⟩ := print_found o d a b i hc
  rw [e1] at hh hno
  simp at hh
  subst hh
  rw [e2] at hop
  subst hop
  rw [e4 k hk] at hno
  cases hno
theorem rej_end {l h0 : List UInt8} {op : Int} (hh : (cutL l)[0]? = some h0) (hop : opTo h0 42 = op)
    (hno : ∀ d a b i, d = fv (hasI (formI op)) (cutL l) 100 (hasI (formI op)).length → a = fv (hasI (formI op)) (cutL l) 97 (hasI (formI op)).length → b = fv (hasI (formI op)) (cutL l) 98 (hasI (formI op)).length → i = fv (hasI (formI op)) (cutL l) 105 (hasI (formI op)).length →
      chkB op d a b i = true → prL op d a b i ≠ l) : Rej l := by
  intro o d a b i hc hp
  subst hp
  obtain ⟨e1, e2, e3, e4, e5, e6, e7, e8⟩ := print_found o d a b i hc
  rw [e1] at hh hno
  simp at hh
  subst hh
  rw [e2] at hop
  subst hop
  exact hno d a b i e5.symm e6.symm e7.symm e8.symm hc rfl
theorem fv_step (hl : List UInt8) (ts : List (List UInt8)) (k : Nat) (c : UInt8) (hc : hl[k]?.getD 0 = c) (t : List UInt8) (ht : ts[k + 1]?.getD [] = t) (c' : UInt8) : fv hl ts c' (k + 1) = if c = c' then numN (trimT c' t) else fv hl ts c' k := by
  show (if hl[k]?.getD 0 = c' then numN (trimT c' (ts[k + 1]?.getD [])) else fv hl ts c' k) = _
  rw [hc, ht]
theorem trim_i (t : List UInt8) : trimT 105 t = t := by unfold trimT; rw [if_pos rfl]
theorem trim_r (c : UInt8) (h : c ≠ 105) (t : List UInt8) : trimT c t = t.tail := by unfold trimT; rw [if_neg h]
theorem c_rNumber0 (w : World) : Calls Tryd.prog 31 #[.string ⟨#[]⟩] w fun e w' => e = .returned (.tuple #[.int .i64 (numN []), .bool (numO [])]) ∧ w = w' := c_rNumber [] w (by simp)
theorem cut_pos (l : List UInt8) : 0 < (cutL l).length := by unfold cutL; simp
theorem str_row {w : World} {base : Nat} {v : Value} {ts : List (List UInt8)} (hp : 0 < ts.length) (h : w.ownsRow base 9 1 v ts.length (strs ts)) : ∃ g cap, v = .slice (some ⟨g, 0, none⟩) ts.length cap ∧ g < w.heap.size ∧ ∀ k t, ts[k]? = some t → w.cell? ⟨g, k, none⟩ = some (.string ⟨t.toArray⟩) := by
  obtain ⟨g, cap, hv, _, hlt⟩ := h.form hp
  subst hv
  refine ⟨g, cap, rfl, hlt, fun k t hk => ?_⟩
  have hkl := (List.getElem?_eq_some_iff.1 hk).1
  rw [h.cellAt k (by omega)]
  unfold strs
  rw [List.getElem?_map, hk]
  rfl
set_option maxRecDepth 100000 in
set_option maxHeartbeats 8000000 in
theorem c_rParse_short (l : List UInt8) (w : World) (hl : l.length ≤ 65536) :
    Calls Tryd.prog 9 #[.string ⟨l.toArray⟩] w fun e w' => ParseIs l e ∧ Below w.heap.size w w' := by
  have HL := Lib.hid hl
  have t0 : decide ((65536 : Int) < (l.length : Int)) = false := by simp; omega
  clear hl
  go_enter Tryd.func9, Tryd.ntmps9
  go_wp2_with fail
  refine (c_rCut l _ HL.out).mono ?_
  rintro e w1 ⟨v, rfl, hown, hb1⟩
  obtain ⟨g, cap, rfl, hg1, hrow⟩ := str_row (cut_pos l) hown
  have hB1 := Lib.hid (below_on (below_new w _) hb1 (by simp))
  have hR1 := Lib.hid ((Box.new w 0 0 0 0 0 _).next hb1 rfl)
  have hRow1 := Lib.hid hrow
  have HP := Lib.hid (cut_pos l)
  clear hown hb1 hrow
  go_wp2_with fail
  refine (c_words _).mono ?_
  rintro e w2 ⟨rfl, hw2⟩
  have hb2 : Below w1.heap.size w1 w2 := by rw [hw2]; exact below_new w1 _
  have hwd : ∀ k : Nat, k < 42 → w2.cell? ⟨w1.heap.size, k, none⟩ = some (.string ⟨(nm ((k : Int) + 1)).toArray⟩) := fun k hk => words_at w1 w2 k hk (by rw [hw2]; exact Below.refl _ _)
  have hz2 : w1.heap.size < w2.heap.size := by rw [hw2]; simp
  have hI : ∀ wS, wS = w2.alloc (.cells #[.int .i64 0, .int .i64 0, .int .i64 0, .int .i64 0, .int .i64 0] 23) → Inv w g w1.heap.size w2.heap.size (cutL l) 0 0 0 0 0 wS := by
    rintro wS rfl
    have hb3 := below_new w2 (.cells #[.int .i64 0, .int .i64 0, .int .i64 0, .int .i64 0, .int .i64 0] 23)
    refine ⟨fun k t hk => ?_, fun k hk => (hb3.cell (cell_lt (hwd k hk))).trans (hwd k hk), Box.new _ _ _ _ _ _ _, (hR1.out.next hb2 rfl).next hb3 rfl, below_on (below_on hB1.out hb2 hB1.out.size) hb3 (below_on hB1.out hb2 hB1.out.size).size, by omega, by omega, ?_, by simp⟩
    · have h1 := hRow1.out k t hk
      have h2 := (hb2.cell (cell_lt h1)).trans h1
      exact (hb3.cell (cell_lt h2)).trans h2
    · have := cell_lt hR1.out.1
      have := hb2.size
      simp at *
      omega
  have HI := Lib.hid hI
  clear hI hwd hb2 hw2 hB1 hR1 hRow1
  go_wp2_with fail
  generalize hwS : w2.alloc (.cells #[.int .i64 0, .int .i64 0, .int .i64 0, .int .i64 0, .int .i64 0] 23) = wS
  have HI0 := Lib.hid (HI.out wS hwS.symm)
  clear HI hwS hz2
  generalize w2.heap.size = gx at *
  generalize w1.heap.size = gw at *
  have hq0 : 0 < (cutL l).length := HP.out
  obtain ⟨h0, hh0⟩ : ∃ h0, (cutL l)[0]? = some h0 := ⟨_, List.getElem?_eq_getElem hq0⟩
  have HH := Lib.hid hh0
  clear hh0 hg1
  go_loopw [7] (fun i wr => ∃ k : Nat, k ≤ 42 ∧ i = .int .i64 k ∧ Hid (Inv w g gw gx (cutL l) (opTo h0 k) 0 0 0 0 wr)) (fun i _ => 42 - (intOf i).toNat)
  case atStart => exact ⟨0, Nat.zero_le _, rfl, HI0⟩
  case round =>
    obtain ⟨k, hk, rfl, HK⟩ := hrel
    by_cases hlt : k < 42
    · have r1 := HK.out.1 0 h0 HH.out
      have r2 := HK.out.2.1 k hlt
      have ⟨x0, x1, x2, x3, x4, xf⟩ := HK.out.2.2.1
      by_cases he : nm ((k : Int) + 1) = h0
      · have he1 : (nm ((k : Int) + 1) == h0) = true := by simpa using he
        have HE : Hid (opTo h0 (k + 1) = (k : Int) + 1) := by
          show (if nm ((k : Int) + 1) = h0 then (k : Int) + 1 else opTo h0 k) = _
          rw [if_pos he]
        clear he
        go_wp2_with fail
        go_quiet (fail)
        go_wp2_with fail
        go_roundw
        case rel => exact ⟨k + 1, by omega, by go_num, by rw [HE.out]; exact ((HK.out.drewN _).set _).1⟩
        case measure => simp [intOf]; omega
      · have he1 : (nm ((k : Int) + 1) == h0) = false := by simpa using he
        have HE : Hid (opTo h0 (k + 1) = opTo h0 k) := by
          show (if nm ((k : Int) + 1) = h0 then (k : Int) + 1 else opTo h0 k) = _
          rw [if_neg he]
        clear he
        go_wp2_with fail
        go_quiet (fail)
        go_wp2_with fail
        go_roundw
        case rel => exact ⟨k + 1, by omega, by go_num, by rw [HE.out]; exact HK.out.drewN _⟩
        case measure => simp [intOf]; omega
    · obtain rfl : k = 42 := by omega
      have hob := opTo_bd h0 42
      obtain ⟨ho0, ho1⟩ := hob
      have HO : Hid (opTo h0 42 = opTo h0 42) := Lib.hid rfl
      have HHL := Lib.hid (show cutL l = cutL l from rfl)
      generalize hop : opTo h0 42 = op at *
      have HOP := Lib.hid hop
      have ⟨f0, f1⟩ := formI_bd op
      have ⟨x0, x1, x2, x3, x4, xf⟩ := HK.out.2.2.1
      have ⟨y0, y1, y2, y3, y4, yf⟩ := HK.out.2.2.2.1
      have HSz := Lib.hid HK.out.2.2.2.2
      clear hop hk hlt HO HHL
      go_wp2_with fail
      refine (c_form2 op _ (by omega) (by omega)).mono ?_
      rintro e w5 ⟨rfl, rfl⟩
      go_wp2_with fail
      refine (c_has (formI op) _ f0 f1).mono ?_
      rintro e w6 ⟨rfl, rfl⟩
      have HLn := has_len (formI op) f0 f1
      by_cases hlen : (cutL l).length = (hasI (formI op)).length + 1
      · have HLen := Lib.hid hlen
        rw [hlen]
        clear hlen
        go_wp2_with fail
        have HLe := Lib.hid (has_letter (formI op) f0 f1)
        obtain ⟨hl, hhl⟩ : ∃ hl, hasI (formI op) = hl := ⟨_, rfl⟩
        rw [hhl] at HLn HLe HLen
        simp only [hhl]
        have HHL := Lib.hid hhl
        have HT := Lib.hid (cutL_lens l)
        clear hhl x0 x1 x2 x3 x4 xf y0 y1 y2 y3 y4 yf t0
        go_loopw [9] (fun i wr => ∃ k : Nat, k ≤ hl.length ∧ i = .int .i64 k ∧ Hid (Inv w g gw gx (cutL l) op (fv hl (cutL l) 100 k) (fv hl (cutL l) 97 k) (fv hl (cutL l) 98 k) (fv hl (cutL l) 105 k) wr)) (fun i _ => hl.length - (intOf i).toNat)
        case atStart => exact ⟨0, Nat.zero_le _, rfl, HK⟩
        case round =>
          obtain ⟨k, hk, rfl, HR⟩ := hrel
          by_cases hlt : k < hl.length
          · obtain ⟨t, ht⟩ : ∃ t, (cutL l)[k + 1]? = some t := ⟨_, List.getElem?_eq_getElem (by have := HLen.out; omega)⟩
            have r1 := HR.out.1 (k + 1) t ht
            have htl : t.length ≤ 65536 := by have := HT.out t (List.mem_of_getElem? ht); have := HL.out; omega
            have ⟨x0, x1, x2, x3, x4, xf⟩ := HR.out.2.2.1
            have ⟨y0, y1, y2, y3, y4, yf⟩ := HR.out.2.2.2.1
            have HTT : Hid ((cutL l)[k + 1]?.getD [] = t) := by show _ = _; rw [ht]; rfl
            have hby := byte_at hl k
            clear ht
            rcases HLe.out k hlt with hc | hc | hc | hc
            · rw [hc] at hby
              have HC := Lib.hid hc
              clear hc
              have HTR := Lib.hid (trim_r 100 (by decide) t)
              by_cases hte : t = []
              · subst hte
                have HTR : Hid (trimT 100 [] = []) := Lib.hid (trim_r 100 (by decide) [])
                cases hok : numO []
                · have HOK := Lib.hid hok
                  go_wp2_with fail
                  refine (c_rNumber0 _).mono ?_
                  rw [hok]
                  rintro e w7 ⟨rfl, rfl⟩
                  clear hok
                  go_wp2_with fail
                  refine bodyPost_ret (v := .tuple #[.agg #[.int .i64 0, .int .i64 0, .int .i64 0, .int .i64 0, .int .i64 0], .int .i64 2]) (by simp [results, Tryd.results9, go_sem, y0, y1, y2, y3, y4, yf]) rfl ?_
                  exact ⟨.inr ⟨rej_num (k := k) HH.out HOP.out (by rw [HHL.out]; exact hlt) (by rw [HHL.out, HC.out, HTT.out, HTR.out]; exact HOK.out), rfl⟩, by have HB := HR.out.2.2.2.2.1; go_grown⟩
                · have HOK := Lib.hid hok
                  go_wp2_with fail
                  refine (c_rNumber0 _).mono ?_
                  rw [hok]
                  rintro e w7 ⟨rfl, rfl⟩
                  clear hok
                  go_wp2_with fail
                  go_roundw
                  case rel =>
                    refine ⟨k + 1, by omega, by go_num, ?_⟩
                    show Inv _ _ _ _ _ _ _ _ _ _ _
                    rw [fv_step hl (cutL l) k 100 HC.out [] HTT.out 100, if_pos rfl, fv_step hl (cutL l) k 100 HC.out [] HTT.out 97, if_neg (by decide), fv_step hl (cutL l) k 100 HC.out [] HTT.out 98, if_neg (by decide), fv_step hl (cutL l) k 100 HC.out [] HTT.out 105, if_neg (by decide), HTR.out]
                    exact (HR.out.set _).2.1
                  case measure => simp [intOf]; omega
              · have hpos : 1 ≤ t.length := List.length_pos_iff.2 hte
                have hx := drop_one t
                have hem : t.isEmpty = false := by simpa using hte
                have HTE := Lib.hid hte
                clear hte
                cases hok : numO t.tail
                · have HOK := Lib.hid hok
                  go_wp2_with fail
                  refine (c_rNumber t.tail _ (by rw [List.length_tail]; omega)).mono ?_
                  rw [hok]
                  rintro e w7 ⟨rfl, rfl⟩
                  clear hok
                  go_wp2_with fail
                  refine bodyPost_ret (v := .tuple #[.agg #[.int .i64 0, .int .i64 0, .int .i64 0, .int .i64 0, .int .i64 0], .int .i64 2]) (by simp [results, Tryd.results9, go_sem, y0, y1, y2, y3, y4, yf]) rfl ?_
                  exact ⟨.inr ⟨rej_num (k := k) HH.out HOP.out (by rw [HHL.out]; exact hlt) (by rw [HHL.out, HC.out, HTT.out, HTR.out]; exact HOK.out), rfl⟩, by have HB := HR.out.2.2.2.2.1; go_grown⟩
                · have HOK := Lib.hid hok
                  go_wp2_with fail
                  refine (c_rNumber t.tail _ (by rw [List.length_tail]; omega)).mono ?_
                  rw [hok]
                  rintro e w7 ⟨rfl, rfl⟩
                  clear hok
                  go_wp2_with fail
                  go_roundw
                  case rel =>
                    refine ⟨k + 1, by omega, by go_num, ?_⟩
                    show Inv _ _ _ _ _ _ _ _ _ _ _
                    rw [fv_step hl (cutL l) k 100 HC.out t HTT.out 100, if_pos rfl, fv_step hl (cutL l) k 100 HC.out t HTT.out 97, if_neg (by decide), fv_step hl (cutL l) k 100 HC.out t HTT.out 98, if_neg (by decide), fv_step hl (cutL l) k 100 HC.out t HTT.out 105, if_neg (by decide), HTR.out]
                    exact (HR.out.set _).2.1
                  case measure => simp [intOf]; omega
            · rw [hc] at hby
              have HC := Lib.hid hc
              clear hc
              have HTR := Lib.hid (trim_r 97 (by decide) t)
              by_cases hte : t = []
              · subst hte
                have HTR : Hid (trimT 97 [] = []) := Lib.hid (trim_r 97 (by decide) [])
                cases hok : numO []
                · have HOK := Lib.hid hok
                  go_wp2_with fail
                  refine (c_rNumber0 _).mono ?_
                  rw [hok]
                  rintro e w7 ⟨rfl, rfl⟩
                  clear hok
                  go_wp2_with fail
                  refine bodyPost_ret (v := .tuple #[.agg #[.int .i64 0, .int .i64 0, .int .i64 0, .int .i64 0, .int .i64 0], .int .i64 2]) (by simp [results, Tryd.results9, go_sem, y0, y1, y2, y3, y4, yf]) rfl ?_
                  exact ⟨.inr ⟨rej_num (k := k) HH.out HOP.out (by rw [HHL.out]; exact hlt) (by rw [HHL.out, HC.out, HTT.out, HTR.out]; exact HOK.out), rfl⟩, by have HB := HR.out.2.2.2.2.1; go_grown⟩
                · have HOK := Lib.hid hok
                  go_wp2_with fail
                  refine (c_rNumber0 _).mono ?_
                  rw [hok]
                  rintro e w7 ⟨rfl, rfl⟩
                  clear hok
                  go_wp2_with fail
                  go_roundw
                  case rel =>
                    refine ⟨k + 1, by omega, by go_num, ?_⟩
                    show Inv _ _ _ _ _ _ _ _ _ _ _
                    rw [fv_step hl (cutL l) k 97 HC.out [] HTT.out 100, if_neg (by decide), fv_step hl (cutL l) k 97 HC.out [] HTT.out 97, if_pos rfl, fv_step hl (cutL l) k 97 HC.out [] HTT.out 98, if_neg (by decide), fv_step hl (cutL l) k 97 HC.out [] HTT.out 105, if_neg (by decide), HTR.out]
                    exact (HR.out.set _).2.2.1
                  case measure => simp [intOf]; omega
              · have hpos : 1 ≤ t.length := List.length_pos_iff.2 hte
                have hx := drop_one t
                have hem : t.isEmpty = false := by simpa using hte
                have HTE := Lib.hid hte
                clear hte
                cases hok : numO t.tail
                · have HOK := Lib.hid hok
                  go_wp2_with fail
                  refine (c_rNumber t.tail _ (by rw [List.length_tail]; omega)).mono ?_
                  rw [hok]
                  rintro e w7 ⟨rfl, rfl⟩
                  clear hok
                  go_wp2_with fail
                  refine bodyPost_ret (v := .tuple #[.agg #[.int .i64 0, .int .i64 0, .int .i64 0, .int .i64 0, .int .i64 0], .int .i64 2]) (by simp [results, Tryd.results9, go_sem, y0, y1, y2, y3, y4, yf]) rfl ?_
                  exact ⟨.inr ⟨rej_num (k := k) HH.out HOP.out (by rw [HHL.out]; exact hlt) (by rw [HHL.out, HC.out, HTT.out, HTR.out]; exact HOK.out), rfl⟩, by have HB := HR.out.2.2.2.2.1; go_grown⟩
                · have HOK := Lib.hid hok
                  go_wp2_with fail
                  refine (c_rNumber t.tail _ (by rw [List.length_tail]; omega)).mono ?_
                  rw [hok]
                  rintro e w7 ⟨rfl, rfl⟩
                  clear hok
                  go_wp2_with fail
                  go_roundw
                  case rel =>
                    refine ⟨k + 1, by omega, by go_num, ?_⟩
                    show Inv _ _ _ _ _ _ _ _ _ _ _
                    rw [fv_step hl (cutL l) k 97 HC.out t HTT.out 100, if_neg (by decide), fv_step hl (cutL l) k 97 HC.out t HTT.out 97, if_pos rfl, fv_step hl (cutL l) k 97 HC.out t HTT.out 98, if_neg (by decide), fv_step hl (cutL l) k 97 HC.out t HTT.out 105, if_neg (by decide), HTR.out]
                    exact (HR.out.set _).2.2.1
                  case measure => simp [intOf]; omega
            · rw [hc] at hby
              have HC := Lib.hid hc
              clear hc
              have HTR := Lib.hid (trim_r 98 (by decide) t)
              by_cases hte : t = []
              · subst hte
                have HTR : Hid (trimT 98 [] = []) := Lib.hid (trim_r 98 (by decide) [])
                cases hok : numO []
                · have HOK := Lib.hid hok
                  go_wp2_with fail
                  refine (c_rNumber0 _).mono ?_
                  rw [hok]
                  rintro e w7 ⟨rfl, rfl⟩
                  clear hok
                  go_wp2_with fail
                  refine bodyPost_ret (v := .tuple #[.agg #[.int .i64 0, .int .i64 0, .int .i64 0, .int .i64 0, .int .i64 0], .int .i64 2]) (by simp [results, Tryd.results9, go_sem, y0, y1, y2, y3, y4, yf]) rfl ?_
                  exact ⟨.inr ⟨rej_num (k := k) HH.out HOP.out (by rw [HHL.out]; exact hlt) (by rw [HHL.out, HC.out, HTT.out, HTR.out]; exact HOK.out), rfl⟩, by have HB := HR.out.2.2.2.2.1; go_grown⟩
                · have HOK := Lib.hid hok
                  go_wp2_with fail
                  refine (c_rNumber0 _).mono ?_
                  rw [hok]
                  rintro e w7 ⟨rfl, rfl⟩
                  clear hok
                  go_wp2_with fail
                  go_roundw
                  case rel =>
                    refine ⟨k + 1, by omega, by go_num, ?_⟩
                    show Inv _ _ _ _ _ _ _ _ _ _ _
                    rw [fv_step hl (cutL l) k 98 HC.out [] HTT.out 100, if_neg (by decide), fv_step hl (cutL l) k 98 HC.out [] HTT.out 97, if_neg (by decide), fv_step hl (cutL l) k 98 HC.out [] HTT.out 98, if_pos rfl, fv_step hl (cutL l) k 98 HC.out [] HTT.out 105, if_neg (by decide), HTR.out]
                    exact (HR.out.set _).2.2.2.1
                  case measure => simp [intOf]; omega
              · have hpos : 1 ≤ t.length := List.length_pos_iff.2 hte
                have hx := drop_one t
                have hem : t.isEmpty = false := by simpa using hte
                have HTE := Lib.hid hte
                clear hte
                cases hok : numO t.tail
                · have HOK := Lib.hid hok
                  go_wp2_with fail
                  refine (c_rNumber t.tail _ (by rw [List.length_tail]; omega)).mono ?_
                  rw [hok]
                  rintro e w7 ⟨rfl, rfl⟩
                  clear hok
                  go_wp2_with fail
                  refine bodyPost_ret (v := .tuple #[.agg #[.int .i64 0, .int .i64 0, .int .i64 0, .int .i64 0, .int .i64 0], .int .i64 2]) (by simp [results, Tryd.results9, go_sem, y0, y1, y2, y3, y4, yf]) rfl ?_
                  exact ⟨.inr ⟨rej_num (k := k) HH.out HOP.out (by rw [HHL.out]; exact hlt) (by rw [HHL.out, HC.out, HTT.out, HTR.out]; exact HOK.out), rfl⟩, by have HB := HR.out.2.2.2.2.1; go_grown⟩
                · have HOK := Lib.hid hok
                  go_wp2_with fail
                  refine (c_rNumber t.tail _ (by rw [List.length_tail]; omega)).mono ?_
                  rw [hok]
                  rintro e w7 ⟨rfl, rfl⟩
                  clear hok
                  go_wp2_with fail
                  go_roundw
                  case rel =>
                    refine ⟨k + 1, by omega, by go_num, ?_⟩
                    show Inv _ _ _ _ _ _ _ _ _ _ _
                    rw [fv_step hl (cutL l) k 98 HC.out t HTT.out 100, if_neg (by decide), fv_step hl (cutL l) k 98 HC.out t HTT.out 97, if_neg (by decide), fv_step hl (cutL l) k 98 HC.out t HTT.out 98, if_pos rfl, fv_step hl (cutL l) k 98 HC.out t HTT.out 105, if_neg (by decide), HTR.out]
                    exact (HR.out.set _).2.2.2.1
                  case measure => simp [intOf]; omega
            · rw [hc] at hby
              have HC := Lib.hid hc
              clear hc
              have HTR := Lib.hid (trim_i t)
              cases hok : numO t
              · have HOK := Lib.hid hok
                go_wp2_with fail
                refine (c_rNumber t _ htl).mono ?_
                rw [hok]
                rintro e w7 ⟨rfl, rfl⟩
                clear hok
                go_wp2_with fail
                refine bodyPost_ret (v := .tuple #[.agg #[.int .i64 0, .int .i64 0, .int .i64 0, .int .i64 0, .int .i64 0], .int .i64 2]) (by simp [results, Tryd.results9, go_sem, y0, y1, y2, y3, y4, yf]) rfl ?_
                exact ⟨.inr ⟨rej_num (k := k) HH.out HOP.out (by rw [HHL.out]; exact hlt) (by rw [HHL.out, HC.out, HTT.out, HTR.out]; exact HOK.out), rfl⟩, by have HB := HR.out.2.2.2.2.1; go_grown⟩
              · have HOK := Lib.hid hok
                go_wp2_with fail
                refine (c_rNumber t _ htl).mono ?_
                rw [hok]
                rintro e w7 ⟨rfl, rfl⟩
                clear hok
                go_wp2_with fail
                go_roundw
                case rel =>
                  refine ⟨k + 1, by omega, by go_num, ?_⟩
                  show Inv _ _ _ _ _ _ _ _ _ _ _
                  rw [fv_step hl (cutL l) k 105 HC.out t HTT.out 100, if_neg (by decide), fv_step hl (cutL l) k 105 HC.out t HTT.out 97, if_neg (by decide), fv_step hl (cutL l) k 105 HC.out t HTT.out 98, if_neg (by decide), fv_step hl (cutL l) k 105 HC.out t HTT.out 105, if_pos rfl, HTR.out]
                  exact (HR.out.set _).2.2.2.2
                case measure => simp [intOf]; omega
          · have hge : decide (k < hl.length) = false := by simp; omega
            have HKE := Lib.hid (show k = hl.length by omega)
            have ⟨bd0, bd1⟩ := fv_bd hl (cutL l) 100 k
            have ⟨ba0, ba1⟩ := fv_bd hl (cutL l) 97 k
            have ⟨bb0, bb1⟩ := fv_bd hl (cutL l) 98 k
            have ⟨bi0, bi1⟩ := fv_bd hl (cutL l) 105 k
            obtain ⟨d, hd⟩ : ∃ d, fv hl (cutL l) 100 k = d := ⟨_, rfl⟩
            obtain ⟨a, ha⟩ : ∃ d, fv hl (cutL l) 97 k = d := ⟨_, rfl⟩
            obtain ⟨b, hb⟩ : ∃ d, fv hl (cutL l) 98 k = d := ⟨_, rfl⟩
            obtain ⟨i, hi⟩ : ∃ d, fv hl (cutL l) 105 k = d := ⟨_, rfl⟩
            rw [hd, ha, hb, hi] at HR
            rw [hd] at bd0 bd1
            rw [ha] at ba0 ba1
            rw [hb] at bb0 bb1
            rw [hi] at bi0 bi1
            have HV := Lib.hid (show d = fv hl (cutL l) 100 hl.length ∧ a = fv hl (cutL l) 97 hl.length ∧ b = fv hl (cutL l) 98 hl.length ∧ i = fv hl (cutL l) 105 hl.length by rw [← HKE.out]; exact ⟨hd.symm, ha.symm, hb.symm, hi.symm⟩)
            have ⟨x0, x1, x2, x3, x4, xf⟩ := HR.out.2.2.1
            clear hk hlt hd ha hb hi
            have HZ : Hid (gx < wr.heap.size ∧ w.heap.size < gx) := ⟨HR.out.2.2.2.2.2.2.2.2, HR.out.2.2.2.2.2.2.2.1⟩
            have HRL : Hid (∀ d' a' b' i', d' = d → a' = a → b' = b → i' = i → chkB op d' a' b' i' = true → prL op d' a' b' i' ≠ l) → Hid (Rej l) := fun h => by
              refine rej_end HH.out HOP.out ?_
              rw [HHL.out]
              intro d' a' b' i' e1 e2 e3 e4 hc
              obtain ⟨v1, v2, v3, v4⟩ := HV.out
              exact h.out d' a' b' i' (e1.trans v1.symm) (e2.trans v2.symm) (e3.trans v3.symm) (e4.trans v4.symm) hc
            have HRL2 := Lib.hid HRL
            clear HRL
            go_wp2_with fail
            refine (c_rPrint op d a b i _ ⟨by omega, by omega⟩ ⟨by omega, by omega⟩ ⟨by omega, by omega⟩ ⟨by omega, by omega⟩ ⟨by omega, by omega⟩).mono ?_
            rintro e w7 ⟨rfl, hb7⟩
            have hI7 := HR.out.next hb7
            have ⟨z0, z1, z2, z3, z4, zf⟩ := hI7.2.2.1
            have ⟨y0, y1, y2, y3, y4, yf⟩ := hI7.2.2.2.1
            have HB7 := Lib.hid hI7.2.2.2.2.1
            have hz7 : w.heap.size < gx ∧ gx < w7.heap.size := ⟨hI7.2.2.2.2.2.2.2.1, hI7.2.2.2.2.2.2.2.2⟩
            clear hb7 hI7 x0 x1 x2 x3 x4 xf
            cases hc : chkB op d a b i
            · have HX := HRL2.out (fun d' a' b' i' e1 e2 e3 e4 hc' => by subst e1 e2 e3 e4; rw [hc] at hc'; cases hc')
              rw [errI_no]
              clear hc
              go_wp2_with fail
              refine bodyPost_ret (v := .tuple #[.agg #[.int .i64 0, .int .i64 0, .int .i64 0, .int .i64 0, .int .i64 0], .int .i64 2]) (by simp [results, Tryd.results9, go_sem, y0, y1, y2, y3, y4, yf]) rfl ?_
              exact ⟨.inr ⟨HX.out, rfl⟩, by have HB := HB7.out; go_grown⟩
            · rw [errI_yes, prR_yes _ _ _ _ _ hc]
              have HC := Lib.hid hc
              by_cases hp : prL op d a b i = l
              · have HP := Lib.hid hp
                have n1 : (prL op d a b i == l) = true := by simpa using hp
                have n2 : (prL op d a b i != l) = false := by simpa using hp
                clear hc hp
                go_wp2_with fail
                refine bodyPost_ret (v := .tuple #[.agg #[.int .i64 op, .int .i64 d, .int .i64 a, .int .i64 b, .int .i64 i], .int .i64 0]) (by simp [results, Tryd.results9, go_sem, y0, y1, y2, y3, y4, yf]) rfl ?_
                exact ⟨.inl ⟨op, d, a, b, i, HC.out, HP.out, rfl⟩, by have HB := HB7.out; go_grown⟩
              · have HX := HRL2.out (fun d' a' b' i' e1 e2 e3 e4 hc' => by subst e1 e2 e3 e4; exact hp)
                have n1 : (prL op d a b i == l) = false := by simpa using hp
                have n2 : (prL op d a b i != l) = true := by simpa using hp
                clear hc hp
                go_wp2_with fail
                refine bodyPost_ret (v := .tuple #[.agg #[.int .i64 0, .int .i64 0, .int .i64 0, .int .i64 0, .int .i64 0], .int .i64 2]) (by simp [results, Tryd.results9, go_sem, y0, y1, y2, y3, y4, yf]) rfl ?_
                exact ⟨.inr ⟨HX.out, rfl⟩, by have HB := HB7.out; go_grown⟩
      · have hne : (((cutL l).length : Int) == ((hasI (formI op)).length : Int) + 1) = false := beq_no (by omega)
        have HLen := Lib.hid hlen
        clear hlen
        go_wp2_with fail
        refine bodyPost_ret (v := .tuple #[.agg #[.int .i64 0, .int .i64 0, .int .i64 0, .int .i64 0, .int .i64 0], .int .i64 2]) (by simp [results, Tryd.results9, go_sem, y0, y1, y2, y3, y4, yf]) rfl ?_
        exact ⟨.inr ⟨rej_len HH.out HOP.out HLen.out, rfl⟩, by have HB := HSz.out.1; go_grown⟩
end Go.Proofs.YtcemghcfapblgaaDoor
