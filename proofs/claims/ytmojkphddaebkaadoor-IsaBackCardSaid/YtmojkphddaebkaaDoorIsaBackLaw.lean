/-
  The statement IsaBackCardSaid: for every instruction, word and text the law on words and texts there and back returns true, and its arguments read as before; the six listed variables are tied to the program's text.
-/
import Derived.Test.YtmojkphddaebkaaDoorIsaFrame
import Derived.Test.YtmojkphddaebkaaDoorIsaBackWalk
import Derived.Test.YtmojkphddaebkaaDoorTie
import Derived.Test.YtmojkphddaebkaaDoorCards
import Derived.Stop.LaidErr
import Derived.SevenTiedAt
import Derived.HandedShaped
import Derived.Shelf.Vars
namespace Go.Proofs.YtmojkphddaebkaaDoor.isaBack
set_option linter.unusedVariables false
set_option linter.unusedSimpArgs false
open Go.ChangeShapes Go.WideShapes Go.ChangeAt Go.WideElems Go.RowKit
open Go.ChangeMaps (open_string shut_string)

/-- A listed error is an error. -/
theorem err_of {n nm : String} {d : DataW Unit} {r : List (String × DataW Unit)} {W : World} {g : Nat} {t : TypeId} {ms : Array (String × TypeId)} (h : laidMet Tryd.prog ((n, .iface nm d) :: r) W) (hg : Tryd.prog.globalNamed n = some g) (ht : (Tryd.prog.globals[g]?).map (·.type) = some t) (hi : Tryd.prog.underlying t = some (.interface ms)) :
    ∃ te pe, W.cell? ⟨g, 0, none⟩ = some (.iface te pe) := by
  obtain ⟨cs, T, fr, f, p, hb, hd⟩ := laid_head h hg ht
  obtain ⟨f1, u, v, hcs, _, _⟩ := iface_of_trod hi hd
  refine ⟨u, v, ?_⟩
  unfold World.cell?
  simp only [hb]
  obtain ⟨l⟩ := cs
  have hl : l = [.iface u v] := hcs
  subst hl
  rfl
theorem of_laid {W : World} (h : laidMetH Tryd.prog Rows.isaBackRow.laid W) (hs : W.ShapedOpen Tryd.prog) : GW W := by
  rw [MakeChecks.laidMetH_plain _ _ _ (by kernel_rfl)] at h
  have h1 : laidMet Tryd.prog [(_, Rows.laid_math_bits_deBruijn32tab), (_, Rows.laid_math_bits_deBruijn64tab), (_, Rows.laid_internal_strconv_uint64pow10), (_, Rows.laid_strconv_ErrRange), (_, Rows.laid_strconv_ErrSyntax), (_, Rows.laid_catapult_isa_names)] W := h
  have h3 := h1.tail.tail
  have h4 := h3.tail
  have h5 := h4.tail
  have h6 := h5.tail
  obtain ⟨cs, T, fr, f, p, hb, hd⟩ := laid_head h3 (by kernel_rfl) (by kernel_rfl)
  obtain ⟨cs', T', fr', f', p', hb', hd'⟩ := laid_head h6 (by kernel_rfl) (by kernel_rfl)
  have e1 := err_of h4 (g := 4) (t := 95) (by kernel_rfl) (by kernel_rfl) Tryd.underlying95
  have e2 := err_of h5 (g := 3) (t := 95) (by kernel_rfl) (by kernel_rfl) Tryd.underlying95
  have m := cell_of_shapedOpen_int (P := Tryd.prog) (g := 2) (t := 3) (zero := #[.int .i64 0]) hs (of_decide_eq_true (by kernel_rfl)) (by kernel_rfl) rfl (by kernel_rfl) (by kernel_rfl) Tryd.underlying3
  exact ⟨nm_of ⟨T', fr', hb'⟩ hd', pw_of Tryd.underlying109 Tryd.underlying100 (by kernel_rfl) (by kernel_rfl) hb hd, m, e2, e1⟩
/-- The listed tables' row, with the world's shape handed to the contract. -/
theorem handed_shaped {H : Type} {enc : TypeId × Value → H} {C : Checked} {os : Os} {f : FuncId} {fn : Func} {s : ChangeSpec} {X : World → Prop} (hX : ∀ w w' : World, w.heap = w'.heap → X w → X w')
    (ow : ownKnob C.prog.godebug = none) (started : os.Started) (noInit : C.prog.inits.idxOf? f = none) (hfn : C.prog.funcs[f]? = some fn)
    (wit : ∃ (w : World) (tape : Tape) (i : Input), w.os = os ∧ (w.forCall tape i).Shaped C.prog ∧ i.vars = [] ∧ Input.okWide C.prog (w.forCall tape i) .any w.heap.size f i ∧
      ((s.pre enc C.prog fn [] false (w.forCall tape i).memory i.args ∧ X (w.forCall tape i).memory) ∧ sizedMet enc C.prog fn (OpenSpec.ofChange s) false (w.forCall tape i).memory i.args) ∧ ({} : Assume).holds C.prog (lone (Frame.enter C.prog f i.args .normal) [] (w.forCall tape i)))
    (contract : ∀ (W : World) (base : Nat) (args : Array Value) (ds gs : List (DataW H)) (before : List MemPlace), (∀ (j : Nat) t v, fn.params[j]? = some t → args[j]? = some v → Value.okWide C.prog W .any base t v) →
      DataW.Whole enc C.prog fn.params.toList s.vars false W args.toList ds gs before → X W → W.ShapedOpen C.prog → Calls C.prog f args W fun e W' => ∃ v, e = .returned v ∧ s.post enc C.prog fn false true false false W args v W') :
    ReturnsInHanded {} C os f .any (fun w args => (s.pre enc C.prog fn [] false w args ∧ X w) ∧ sizedMet enc C.prog fn (OpenSpec.ofChange s) false w args) (s.post enc C.prog fn false true false false) := by
  refine returnsInHanded_of_calls ow started noInit wit ?_
  intro w tape i _ hsh _ hok hpre _
  obtain ⟨_, _, _, fn', hfn', _, _, _, _, hval⟩ := hok
  obtain rfl : fn' = fn := Option.some.inj (hfn'.symm.trans hfn)
  obtain ⟨⟨⟨ds, gs, before, hw, _⟩, hx⟩, _⟩ := hpre
  have hw' := DataW.Whole.of_heap (w' := w.forCall tape i) (by rfl) hw
  refine (contract _ w.heap.size i.args ds gs before hval hw' (hX _ _ (by rfl) hx) hsh).mono fun e W' ⟨v, he, hp⟩ => ?_
  rw [he]
  exact ChangeSpec.post_blind hp
theorem ci_check (o d a b i : Int) (k : Bool) (h : chkB o d a b i = k) (p0 : -9223372036854775808 ≤ o ∧ o ≤ 9223372036854775807) (p1 : -9223372036854775808 ≤ d ∧ d ≤ 9223372036854775807) (p2 : -9223372036854775808 ≤ a ∧ a ≤ 9223372036854775807) (p3 : -9223372036854775808 ≤ b ∧ b ≤ 9223372036854775807) (p4 : -9223372036854775808 ≤ i ∧ i ≤ 9223372036854775807) : CI 13 #[.agg #[.int .i64 o, .int .i64 d, .int .i64 a, .int .i64 b, .int .i64 i]] (.int .i64 (errI k)) := fun w _ => by
  have := c_Check o d a b i w p0 p1 p2 p3 p4
  rw [h] at this
  exact this
theorem ci_enc (o d a b i : Int) (h : chkB o d a b i = true) : CI 9 #[.agg #[.int .i64 o, .int .i64 d, .int .i64 a, .int .i64 b, .int .i64 i]] (.tuple #[.int .u32 (encV o d a b i), .int .i64 0]) := fun w _ => by
  obtain ⟨h1, h2, h3, h4, h5⟩ := chk_bd o d a b i h
  have := c_Encode o d a b i w ⟨by omega, by omega⟩ ⟨by omega, by omega⟩ ⟨by omega, by omega⟩ ⟨by omega, by omega⟩ ⟨by omega, by omega⟩
  rw [encR_yes _ _ _ _ _ h, h, errI_yes] at this
  exact this
theorem ci_print (o d a b i : Int) (h : chkB o d a b i = true) : CI 16 #[.agg #[.int .i64 o, .int .i64 d, .int .i64 a, .int .i64 b, .int .i64 i]] (.tuple #[.string ⟨(prL o d a b i).toArray⟩, .int .i64 0]) := fun w hg => by
  obtain ⟨h1, h2, h3, h4, h5⟩ := chk_bd o d a b i h
  have := c_Print o d a b i w ⟨by omega, by omega⟩ ⟨by omega, by omega⟩ ⟨by omega, by omega⟩ ⟨by omega, by omega⟩ ⟨by omega, by omega⟩ hg.1 hg.2.1
  rw [prR_yes _ _ _ _ _ h, h, errI_yes] at this
  exact this
theorem ci_dec_yes (x : Int) (h0 : 0 ≤ x) (h1 : x ≤ 4294967295) (h : decB x = true) : CI 11 #[.int .u32 x] (.tuple #[.agg #[.int .i64 (sOp x), .int .i64 (sD x), .int .i64 (sA x), .int .i64 (sB x), .int .i64 (sI x)], .int .i64 0]) := fun w _ => by
  have := c_Decode x w h0 h1
  unfold rOp rD rA rB rI at this
  rw [h, errI_yes] at this
  exact this
theorem ci_dec_no (x : Int) (h0 : 0 ≤ x) (h1 : x ≤ 4294967295) (h : decB x = false) : CI 11 #[.int .u32 x] (.tuple #[.agg #[.int .i64 0, .int .i64 0, .int .i64 0, .int .i64 0, .int .i64 0], .int .i64 20]) := fun w _ => by
  have := c_Decode x w h0 h1
  unfold rOp rD rA rB rI at this
  rw [h, errI_no] at this
  exact this
theorem ci_parse_yes (l : List UInt8) (hm : l.length ≤ maxLen) (h : pB l = true) : CI 18 #[.string ⟨l.toArray⟩] (.tuple #[.agg #[.int .i64 (tOp l), .int .i64 (tD l), .int .i64 (tA l), .int .i64 (tB l), .int .i64 (tI l)], .int .i64 0]) := fun w hg => by
  have := c_Parse l w hm hg
  unfold vOp vD vA vB vI at this
  have hl : l.length ≤ 65536 := by
    rcases Nat.lt_or_ge 65536 l.length with h' | h'
    · rw [pB_long l h'] at h
      cases h
    · exact h'
  rw [h, pE_yes l hl h] at this
  exact this
theorem ci_parse_no (l : List UInt8) (hm : l.length ≤ maxLen) (h : pB l = false) : CI 18 #[.string ⟨l.toArray⟩] (.tuple #[.agg #[.int .i64 0, .int .i64 0, .int .i64 0, .int .i64 0, .int .i64 0], .int .i64 (pE l)]) := fun w hg => by
  have := c_Parse l w hm hg
  unfold vOp vD vA vB vI at this
  rw [h] at this
  exact this
theorem pE_ne (l : List UInt8) (h : pB l = false) : (pE l == 0) = false := by
  unfold pE
  rw [h]
  split <;> rfl
theorem dec_enc (o d a b i : Int) (h : chkB o d a b i = true) : decB (encV o d a b i) = true := by
  obtain ⟨a1, a2, a3, a4, a5⟩ := enc_back o d a b i h
  unfold decB
  rw [a1, a2, a3, a4, a5, h]
  simp
theorem len_pr (o d a b i : Int) (h : chkB o d a b i = true) : (prL o d a b i).length ≤ 65536 := by
  obtain ⟨h1, h2, h3, h4, h5⟩ := chk_bd o d a b i h
  have n0 := nm_len o
  have n1 := itoa_len d (by omega) (by omega)
  have n2 := itoa_len a (by omega) (by omega)
  have n3 := itoa_len b (by omega) (by omega)
  have n4 := itoa_len i (by omega) (by omega)
  rw [pr_eq]
  cases lD (formI o) <;> cases lA (formI o) <;> cases lB (formI o) <;> by_cases hb : lBits (formI o) > 0 <;> simp [hb] <;> omega
theorem pB_pr (o d a b i : Int) (h : chkB o d a b i = true) : pB (prL o d a b i) = true := by
  obtain ⟨a1, a2, a3, a4, a5⟩ := txt_back o d a b i h
  unfold pB
  rw [a1, a2, a3, a4, a5, h, prR_yes _ _ _ _ _ h]
  simp [len_pr o d a b i h]
theorem law_walk (o d a b i x : Int) (s : ByteArray) (w : World) (hg : GW w) (p0 : -9223372036854775808 ≤ o ∧ o ≤ 9223372036854775807) (p1 : -9223372036854775808 ≤ d ∧ d ≤ 9223372036854775807) (p2 : -9223372036854775808 ≤ a ∧ a ≤ 9223372036854775807) (p3 : -9223372036854775808 ≤ b ∧ b ≤ 9223372036854775807) (p4 : -9223372036854775808 ≤ i ∧ i ≤ 9223372036854775807) (hx0 : 0 ≤ x) (hx1 : x ≤ 4294967295) (hs : s.size ≤ maxLen) :
    Calls Tryd.prog 7 #[.agg #[.int .i64 o, .int .i64 d, .int .i64 a, .int .i64 b, .int .i64 i], .int .u32 x, .string s] w fun e w' => e = .returned (.bool true) ∧ Below w.heap.size w w' := by
  obtain ⟨l, rfl⟩ : ∃ l : List UInt8, s = ⟨l.toArray⟩ := ⟨s.data.toList, by simp⟩
  have hm : l.length ≤ maxLen := by
    have e : (⟨l.toArray⟩ : ByteArray).size = l.length := by show l.toArray.size = _; simp
    rw [← e]
    exact hs
  have hml : 65536 ≤ maxLen := by unfold maxLen; omega
  have K : ∀ k, chkB o d a b i = k → CI 13 #[.agg #[.int .i64 o, .int .i64 d, .int .i64 a, .int .i64 b, .int .i64 i]] (.int .i64 (errI k)) := fun k h => ci_check o d a b i k h p0 p1 p2 p3 p4
  cases k1 : chkB o d a b i <;> cases k2 : decB x <;> cases k3 : pB l
  all_goals
    have K1 := K _ k1
    try rw [errI_no] at K1
    try rw [errI_yes] at K1
  all_goals
    have D2n := ci_dec_no x hx0 hx1
    have D2y := ci_dec_yes x hx0 hx1
    have Q3n := ci_parse_no l hm
    have Q3y := ci_parse_yes l hm
  · exact back_000 o d a b i x 0 [] l 0 0 0 0 0 0 0 0 0 0 (pE l) w hg hx0 hx1 (by decide) (by decide) K1 (D2n k2) (Q3n k3) (pE_ne l k3)
  · have hpp : chkB (tOp l) (tD l) (tA l) (tB l) (tI l) = true ∧ prR (tOp l) (tD l) (tA l) (tB l) (tI l) = l := by
      have := k3
      unfold pB at this
      simp at this
      exact ⟨this.2.1, this.2.2⟩
    have P3 := ci_print _ _ _ _ _ hpp.1
    rw [← prR_yes _ _ _ _ _ hpp.1, hpp.2] at P3
    exact back_001 o d a b i x 0 [] l 0 0 0 0 0 (tOp l) (tD l) (tA l) (tB l) (tI l) 0 w hg hx0 hx1 (by decide) (by decide) K1 (D2n k2) (Q3y k3) P3
  · have hdp : chkB (sOp x) (sD x) (sA x) (sB x) (sI x) = true ∧ encV (sOp x) (sD x) (sA x) (sB x) (sI x) = x := by
      have := k2
      unfold decB at this
      simpa using this
    have E2 := ci_enc _ _ _ _ _ hdp.1
    rw [hdp.2] at E2
    exact back_010 o d a b i x 0 [] l (sOp x) (sD x) (sA x) (sB x) (sI x) 0 0 0 0 0 (pE l) w hg hx0 hx1 (by decide) (by decide) K1 (D2y k2) E2 (Q3n k3) (pE_ne l k3)
  · have hdp : chkB (sOp x) (sD x) (sA x) (sB x) (sI x) = true ∧ encV (sOp x) (sD x) (sA x) (sB x) (sI x) = x := by
      have := k2
      unfold decB at this
      simpa using this
    have E2 := ci_enc _ _ _ _ _ hdp.1
    rw [hdp.2] at E2
    have hpp : chkB (tOp l) (tD l) (tA l) (tB l) (tI l) = true ∧ prR (tOp l) (tD l) (tA l) (tB l) (tI l) = l := by
      have := k3
      unfold pB at this
      simp at this
      exact ⟨this.2.1, this.2.2⟩
    have P3 := ci_print _ _ _ _ _ hpp.1
    rw [← prR_yes _ _ _ _ _ hpp.1, hpp.2] at P3
    exact back_011 o d a b i x 0 [] l (sOp x) (sD x) (sA x) (sB x) (sI x) (tOp l) (tD l) (tA l) (tB l) (tI l) 0 w hg hx0 hx1 (by decide) (by decide) K1 (D2y k2) E2 (Q3y k3) P3
  · obtain ⟨a1, a2, a3, a4, a5⟩ := enc_back o d a b i k1
    obtain ⟨b1, b2, b3, b4, b5⟩ := txt_back o d a b i k1
    have eb := encR_bd o d a b i
    rw [encR_yes _ _ _ _ _ k1] at eb
    have D1 := ci_dec_yes _ eb.1 eb.2 (dec_enc o d a b i k1)
    rw [a1, a2, a3, a4, a5] at D1
    have Q1 := ci_parse_yes _ (Nat.le_trans (len_pr o d a b i k1) hml) (pB_pr o d a b i k1)
    rw [b1, b2, b3, b4, b5] at Q1
    exact back_100 o d a b i x (encV o d a b i) (prL o d a b i) l 0 0 0 0 0 0 0 0 0 0 (pE l) w hg hx0 hx1 eb.1 eb.2 K1 (ci_enc o d a b i k1) D1 (ci_print o d a b i k1) Q1 (D2n k2) (Q3n k3) (pE_ne l k3)
  · have hpp : chkB (tOp l) (tD l) (tA l) (tB l) (tI l) = true ∧ prR (tOp l) (tD l) (tA l) (tB l) (tI l) = l := by
      have := k3
      unfold pB at this
      simp at this
      exact ⟨this.2.1, this.2.2⟩
    have P3 := ci_print _ _ _ _ _ hpp.1
    rw [← prR_yes _ _ _ _ _ hpp.1, hpp.2] at P3
    obtain ⟨a1, a2, a3, a4, a5⟩ := enc_back o d a b i k1
    obtain ⟨b1, b2, b3, b4, b5⟩ := txt_back o d a b i k1
    have eb := encR_bd o d a b i
    rw [encR_yes _ _ _ _ _ k1] at eb
    have D1 := ci_dec_yes _ eb.1 eb.2 (dec_enc o d a b i k1)
    rw [a1, a2, a3, a4, a5] at D1
    have Q1 := ci_parse_yes _ (Nat.le_trans (len_pr o d a b i k1) hml) (pB_pr o d a b i k1)
    rw [b1, b2, b3, b4, b5] at Q1
    exact back_101 o d a b i x (encV o d a b i) (prL o d a b i) l 0 0 0 0 0 (tOp l) (tD l) (tA l) (tB l) (tI l) 0 w hg hx0 hx1 eb.1 eb.2 K1 (ci_enc o d a b i k1) D1 (ci_print o d a b i k1) Q1 (D2n k2) (Q3y k3) P3
  · have hdp : chkB (sOp x) (sD x) (sA x) (sB x) (sI x) = true ∧ encV (sOp x) (sD x) (sA x) (sB x) (sI x) = x := by
      have := k2
      unfold decB at this
      simpa using this
    have E2 := ci_enc _ _ _ _ _ hdp.1
    rw [hdp.2] at E2
    obtain ⟨a1, a2, a3, a4, a5⟩ := enc_back o d a b i k1
    obtain ⟨b1, b2, b3, b4, b5⟩ := txt_back o d a b i k1
    have eb := encR_bd o d a b i
    rw [encR_yes _ _ _ _ _ k1] at eb
    have D1 := ci_dec_yes _ eb.1 eb.2 (dec_enc o d a b i k1)
    rw [a1, a2, a3, a4, a5] at D1
    have Q1 := ci_parse_yes _ (Nat.le_trans (len_pr o d a b i k1) hml) (pB_pr o d a b i k1)
    rw [b1, b2, b3, b4, b5] at Q1
    exact back_110 o d a b i x (encV o d a b i) (prL o d a b i) l (sOp x) (sD x) (sA x) (sB x) (sI x) 0 0 0 0 0 (pE l) w hg hx0 hx1 eb.1 eb.2 K1 (ci_enc o d a b i k1) D1 (ci_print o d a b i k1) Q1 (D2y k2) E2 (Q3n k3) (pE_ne l k3)
  · have hdp : chkB (sOp x) (sD x) (sA x) (sB x) (sI x) = true ∧ encV (sOp x) (sD x) (sA x) (sB x) (sI x) = x := by
      have := k2
      unfold decB at this
      simpa using this
    have E2 := ci_enc _ _ _ _ _ hdp.1
    rw [hdp.2] at E2
    have hpp : chkB (tOp l) (tD l) (tA l) (tB l) (tI l) = true ∧ prR (tOp l) (tD l) (tA l) (tB l) (tI l) = l := by
      have := k3
      unfold pB at this
      simp at this
      exact ⟨this.2.1, this.2.2⟩
    have P3 := ci_print _ _ _ _ _ hpp.1
    rw [← prR_yes _ _ _ _ _ hpp.1, hpp.2] at P3
    obtain ⟨a1, a2, a3, a4, a5⟩ := enc_back o d a b i k1
    obtain ⟨b1, b2, b3, b4, b5⟩ := txt_back o d a b i k1
    have eb := encR_bd o d a b i
    rw [encR_yes _ _ _ _ _ k1] at eb
    have D1 := ci_dec_yes _ eb.1 eb.2 (dec_enc o d a b i k1)
    rw [a1, a2, a3, a4, a5] at D1
    have Q1 := ci_parse_yes _ (Nat.le_trans (len_pr o d a b i k1) hml) (pB_pr o d a b i k1)
    rw [b1, b2, b3, b4, b5] at Q1
    exact back_111 o d a b i x (encV o d a b i) (prL o d a b i) l (sOp x) (sD x) (sA x) (sB x) (sI x) (tOp l) (tD l) (tA l) (tB l) (tI l) 0 w hg hx0 hx1 eb.1 eb.2 K1 (ci_enc o d a b i k1) D1 (ci_print o d a b i k1) Q1 (D2y k2) E2 (Q3y k3) P3
/-! ### The row's step -/
theorem door_met (os : Os) (args : Array Value) : laidMetH Tryd.prog Rows.isaBackRow.laid ((World.doorLaid Tryd.prog 67 os).forCall (fun _ _ => 0) ⟨#[], args, []⟩).memory :=
  laidMetH_of_parts3 (fuel := 8) (laidMet_of_run' 8 (by kernel_rfl) (by kernel_rfl)) (by kernel_rfl) (by kernel_rfl)
set_option maxRecDepth 100000 in
theorem lifted (os : Os) (started : os.Started) (H : Type) (enc : TypeId × Value → H) :
    ReturnsInHanded {} Tryd.checked os 7 .any (fun w args => (Rows.isaBackSpec.pre enc Tryd.prog Tryd.f7 [] false w args ∧ laidMetH Tryd.prog Rows.isaBackRow.laid w) ∧ sizedMet enc Tryd.prog Tryd.f7 (OpenSpec.ofChange Rows.isaBackSpec) false w args)
      (Rows.isaBackSpec.post enc Tryd.prog Tryd.f7 false true false false) := by
  refine handed_shaped (C := Tryd.checked) (X := fun w => laidMetH Tryd.prog Rows.isaBackRow.laid w) (fun _ _ hh h => h.of_heap hh) own started (by kernel_rfl) Tryd.func7
    (ChangeSpec.witness_shaped (enc := enc) (C := Tryd.checked) (os := os) (X := fun w _ => laidMetH Tryd.prog Rows.isaBackRow.laid w) false (World.doorLaid Tryd.prog 67 os) #[.agg #[.int .i64 0, .int .i64 0, .int .i64 0, .int .i64 0, .int .i64 0], .int .u32 0, .string ByteArray.empty] 8 rfl (World.shaped_of_RefB (by kernel_rfl) (by kernel_rfl)) (by kernel_rfl) (by kernel_rfl) (by kernel_rfl) (door_met os _)) ?_
  intro W base args ds gs before hval0 hW hL hsh
  have hval : ∀ (j : Nat) t v, Tryd.f7.params[j]? = some t → args[j]? = some v → Value.okWide Tryd.prog W .any base t v := hval0
  have hW' := hW
  obtain ⟨p, q, hA0, hV, rfl, hfz, hnd⟩ := hW
  have hA : DataW.TrodAll enc Tryd.prog W 0 (fun _ => true) true Tryd.f7.params.toList args.toList ds p := hA0
  rw [Tryd.params7] at hA hval
  obtain ⟨v0, vs0, d0, ds0, p0, q0, hargs, rfl, rfl, h0, r0⟩ := trodAll_cons hA
  obtain ⟨v1, vs1, d1, ds1, p1, q1, rfl, rfl, rfl, h1, r1⟩ := trodAll_cons r0
  obtain ⟨v2, vs2, d2, ds2, p2, q2, rfl, rfl, rfl, h2, r2⟩ := trodAll_cons r1
  obtain ⟨rfl, rfl, rfl⟩ := trodAll_nil r2
  obtain rfl : args = #[v0, v1, v2] := by cases args; simp_all
  obtain ⟨rfl, rfl⟩ := trodVars_none hV
  have k0 := h0
  obtain ⟨a0_0, a0_1, a0_2, a0_3, a0_4, rfl, rfl, w0_0, w0_1, w0_2, w0_3, w0_4⟩ := open_instr (hval 0 23 v0 rfl rfl) h0
  obtain ⟨b1, rfl, rfl, rfl, w1⟩ := open_int Tryd.underlying24 (hval 1 24 v1 rfl rfl) h1
  obtain ⟨b2, rfl, rfl, rfl, w2⟩ := open_string Tryd.underlying9 (hval 2 9 v2 rfl rfl) h2
  clear hA0 hval0
  have hg := of_laid hL hsh
  refine (law_walk a0_0 a0_1 a0_2 a0_3 a0_4 b1 b2 W hg (i64_bd _ w0_0) (i64_bd _ w0_1) (i64_bd _ w0_2) (i64_bd _ w0_3) (i64_bd _ w0_4) (u32_bd _ w1).1 (u32_bd _ w1).2 w2).mono fun e W' ⟨he, bel⟩ => ?_
  subst he
  exact ⟨_, rfl, _, _, _, [], _, [], hW', trodAll_mk1 (shut_bool Tryd.underlying4 _), (trodAll_cons_mk (Below.trod laidOut (by kernel_rfl) (of_decide_eq_true (by kernel_rfl)) k0 bel (fun x hx => by cases hx)) (trodAll_cons_mk (shut_int Tryd.underlying24 w1) (trodAll_cons_mk (shut_string Tryd.underlying9 w2) trodAll_mk0))), rfl, bel.frame _, fun h => by cases h⟩
theorem row_holds : Rows.IsaBackSaid :=
  OpenClaim.holds_of_wide 7 Tryd.f7 rfl rfl rfl rfl rfl rfl rfl ⟨rfl, rfl, rfl, rfl, rfl⟩ rfl rfl rfl rfl rfl (by kernel_rfl) Tryd.func7 (by kernel_rfl)
    (of_decide_eq_true (by kernel_rfl)) (by unfold Func.isWrapper; first | (rw [if_pos (by decide +kernel)]; kernel_rfl) | (rw [if_neg (by decide +kernel)]; exact ⟨rfl, rfl⟩))
    (fun os started H enc _ => lifted os started H enc)
/-- The statement. -/
theorem proved : Rows.IsaBackCardSaid :=
  Claim7.holds_tied_plain_at .later [] [.data, .data, .data, .sentinel, .sentinel, .data] true Rows.isaBackCard.stood.harness true
    row_holds (fun _ h => by cases h) (by kernel_rfl) (fun _ h => by cases h) isaBack_row_tie rfl ⟨rfl, rfl⟩ (by kernel_rfl) rfl
    (fun f fn hf hfn => by
      obtain rfl : f = 7 := (Option.some.inj ((show Tryd.prog.funcNamed Rows.isaBackRow.func = some 7 by kernel_rfl).symm.trans hf)).symm
      obtain rfl : fn = Tryd.f7 := (Option.some.inj (Tryd.func7.symm.trans hfn)).symm
      exact ⟨by kernel_rfl, fun j t ht => by
        rw [Tryd.params7] at ht
        have hm : t ∈ [23, 24, 9] := by simpa using Array.mem_of_getElem? ht
        have hall : ([23, 24, 9].all fun u => !Tryd.prog.wantsStandIn u) = true := by kernel_rfl
        exact (show Tryd.prog.wantsStandIn t = false by simpa using List.all_eq_true.1 hall t hm)⟩)
    (by kernel_rfl)
#print axioms proved
end Go.Proofs.YtmojkphddaebkaaDoor.isaBack
