/-
  A file's names, in the code: a function.
-/
import Derived.Test.YtjadckhngalmlaaGreatDoorZNmFm
import Derived.Shelf.SlicesQ.IndexFunc
import Derived.Test.YtjadckhngalmlaaGreatDoorZNmCk
namespace Go.Proofs.YtjadckhngalmlaaGreatDoor
set_option linter.unusedVariables false
set_option linter.unusedSimpArgs false
set_option maxRecDepth 100000
open Go.RowKit

/-- Blocks of cells stay, but for rows of texts and for the file. -/
def Kc (w w' : World) : Prop := ∀ (b : Nat) (x : Array Value) (T : TypeId) (fr : Nat × Nat), w.heap[b]? = some (.cells x T fr) → T ≠ 9 → T ≠ 77 → w'.heap[b]? = w.heap[b]?
theorem Kc.trans {a b c : World} (h : Kc a b) (k : Kc b c) : Kc a c := fun i x T fr hi h1 h2 => by
  have e := h i x T fr hi h1 h2
  exact (k i x T fr (e.trans hi) h1 h2).trans e
theorem Kc.below {w w' : World} (h : Below w.heap.size w w') : Kc w w' := fun b x T fr hb _ _ => h.block b (Array.getElem?_eq_some_iff.1 hb).1
theorem Kc.map {w w' : World} {M : Nat} {es : Array MapEntry} {cl : Nat} (hg : w.grownBy w' (some M)) (hm : w.heap[M]? = some (.map es cl)) : Kc w w' := fun b x T fr hb _ _ =>
  hg.block b (Array.getElem?_eq_some_iff.1 hb).1 (fun e => by injection e with e; exact ne_map hb hm e)
theorem Kc.row {w w' : World} {base n size : Nat} {v : Value} {xs : List Value} (ho : w.ownsRow base 9 size v n xs) (hg : w.grownBy w' v.ownBlock) : Kc w w' := fun b x T fr hb h1 _ =>
  hg.block b (Array.getElem?_eq_some_iff.1 hb).1 (fun e => by
    obtain ⟨cur, hh⟩ := own_ty ho e.symm
    exact ne_ty hb hh h1 rfl)
theorem Kc.set {w : World} {g : Nat} {x : Array Value} {fr : Nat × Nat} (hg : w.heap[g]? = some (.cells x 77 fr)) (i : Nat) (v : Value) : Kc w (w.setCell ⟨g, i, none⟩ v) := fun b y T fr' hb _ h2 =>
  (grown_set w g i v).block b (Array.getElem?_eq_some_iff.1 hb).1 (fun e => by injection e with e; exact ne_ty hb hg h2 e)
/-- .. and but for rows of functions. -/
def Kd (w w' : World) : Prop := ∀ (b : Nat) (x : Array Value) (T : TypeId) (fr : Nat × Nat), w.heap[b]? = some (.cells x T fr) → T ≠ 9 → T ≠ 77 → T ≠ 45 → w'.heap[b]? = w.heap[b]?
theorem Kc.kd {w w' : World} (h : Kc w w') : Kd w w' := fun b x T fr hb h1 h2 _ => h b x T fr hb h1 h2
theorem Kd.trans {a b c : World} (h : Kd a b) (k : Kd b c) : Kd a c := fun i x T fr hi h1 h2 h3 => by
  have e := h i x T fr hi h1 h2 h3
  exact (k i x T fr (e.trans hi) h1 h2 h3).trans e
theorem Kd.below {w w' : World} (h : Below w.heap.size w w') : Kd w w' := (Kc.below h).kd
theorem Kd.fun {w w' : World} {g : Nat} {y : Array Value} {fr : Nat × Nat} (hg : w.grownBy w' (some g)) (ho : w.heap[g]? = some (.cells y 45 fr)) : Kd w w' := fun b x T fr' hb _ _ h3 =>
  hg.block b (Array.getElem?_eq_some_iff.1 hb).1 (fun e => by injection e with e; exact ne_ty hb ho h3 e)
theorem Kd.row {w w' : World} {base n size : Nat} {v : Value} {xs : List Value} (ho : w.ownsRow base 45 size v n xs) (hg : w.grownBy w' v.ownBlock) : Kd w w' := fun b x T fr hb _ _ h3 =>
  hg.block b (Array.getElem?_eq_some_iff.1 hb).1 (fun e => by
    obtain ⟨cur, hh⟩ := own_ty ho e.symm
    exact ne_ty hb hh h3 rfl)
theorem infoStr : (Tryz.prog.info? 9).map (fun i => (i.zero, i.size, i.bytes)) = some (some (.string ByteArray.empty), 1, 16) := by kernel_rfl
theorem cells4 {w : World} {g : Nat} {c0 c1 c2 c3 : Value} {T : TypeId} (h : w.heap[g]? = some (.cells #[c0, c1, c2, c3] T)) : w.cell? ⟨g, 0, none⟩ = some c0 ∧ w.cell? ⟨g, 1, none⟩ = some c1 ∧ w.cell? ⟨g, 2, none⟩ = some c2 ∧ w.cell? ⟨g, 3, none⟩ = some c3 ∧ ∀ i, w.frozen? ⟨g, i, none⟩ = false := by
  refine ⟨?_, ?_, ?_, ?_, fun i => Lib.frozen_of_heap h i⟩ <;> (rw [Lib.cell_of_heap h]; rfl)
set_option maxHeartbeats 2000000 in
theorem c_fName {w0 : World} {Fb : Nat} {f : FlP} {p : Option Addr} {L : List ScM} {ov fv : Value} {css : List (List Value)} {K : Nat} (nm : List UInt8) (hn : nm.length ≤ 9223372036854775807) (w : World) (h : FlM w0 Fb f p L ov fv css K w) :
    Calls Tryz.prog 30 #[.pointer (some ⟨Fb, 0, none⟩), nmS nm] w fun e w' => e = .returned (bdV (f.find nm)) ∧ Below w.heap.size w w' := by
  have HF := Lib.hid (fun w' (hb : Below w.heap.size w w') => c_find nm hn 0 L p w' h.ne (h.next hb).sc)
  rw [h.le] at HF
  obtain ⟨z0, _⟩ := cells4 h.blk
  have hl := (Array.getElem?_eq_some_iff.1 h.blk).1
  obtain ⟨b, hb⟩ : ∃ b, findP f.sc nm 0 = b := ⟨_, rfl⟩
  have hb' : f.find nm = b := hb
  rw [hb] at HF
  rw [hb']
  clear h hb hb'
  go_enter Tryz.func30, Tryz.ntmps30
  go_wp2_with fail
  refine (HF.out _ (below_o _ _)).mono ?_
  rintro e w1 ⟨rfl, hb⟩
  have HB1 := Lib.hid (below_t (below_o w _) hb (below_o w _).size)
  have HZ1 := Lib.hid (blk_on (heap_alloc_at (w := w) _ _ rfl) hb)
  obtain ⟨y0, y1, y2, yf⟩ := cells3 HZ1.out
  have yf0 := yf 0
  have yf1 := yf 1
  have yf2 := yf 2
  have hl1 := (Array.getElem?_eq_some_iff.1 HZ1.out).1
  clear hb yf
  go_wp2_with fail
  have hz9 := put3 HZ1.out (.int .i64 b.kind) (.int .i64 (b.idx : Int)) (.string ⟨b.type.toArray⟩)
  have hb9 := put3b HB1.out (Nat.le_refl _) (.int .i64 b.kind) (.int .i64 (b.idx : Int)) (.string ⟨b.type.toArray⟩)
  generalize ((w1.setCell ⟨w.heap.size, 0, none⟩ (.int .i64 b.kind)).setCell ⟨w.heap.size, 1, none⟩ (.int .i64 (b.idx : Int))).setCell ⟨w.heap.size, 2, none⟩ (.string ⟨b.type.toArray⟩) = w9 at hz9 hb9 ⊢
  obtain ⟨p0, p1, p2, _⟩ := cells3 hz9
  refine bodyPost_ret (v := bdV b) (by simp [results, Tryz.results30, go_sem, p0, p1, p2]) rfl ?_
  exact ⟨rfl, hb9⟩
theorem own_slice {w : World} {base : Nat} {e : TypeId} {size : Nat} {v : Value} {n : Nat} {xs : List Value} (h : w.ownsRow base e size v n xs) : ∃ a c, v = .slice a n c := by
  rcases h.2 with ⟨h1, h2⟩ | ⟨g, cap, cur, h1, _⟩
  · exact ⟨none, 0, by rw [h1, h2]⟩
  · exact ⟨_, _, h1⟩
set_option maxHeartbeats 4000000 in
theorem c_fPut {w0 : World} {Fb : Nat} {f : FlP} {p : Option Addr} {L : List ScM} {ov fv : Value} {css : List (List Value)} {K : Nat} (nm : List UInt8) (hn : nm.length ≤ 9223372036854775807) (b : BdP) (w : World) (h : FlM w0 Fb f p L ov fv css K w) (hK : K < 4503599627370496) (ho : f.order.length ≤ 1000000) :
    Calls Tryz.prog 43 #[.pointer (some ⟨Fb, 0, none⟩), nmS nm, bdV b] w fun e w' => e = .returned (.tuple #[]) ∧ (∃ L' ov', FlM w0 Fb (f.put nm b) p L' ov' fv css (K + 1) w') ∧ Kc w w' := by
  obtain ⟨c, L, rfl⟩ : ∃ c r, L = c :: r := by
    cases L with
    | nil => exact absurd rfl h.ne
    | cons c r => exact ⟨c, r, rfl⟩
  obtain ⟨hp, ⟨q, hX, _⟩, hM⟩ := h.sc
  subst hp
  have hle := h.le
  unfold FlP.sc at hle
  simp only [List.map_cons, List.cons.injEq] at hle
  have HD := Lib.hid (fun w' (hb : Below w.heap.size w w') => c_declare c.X c.M c.n c.s.depth q c.s.m nm hn b (-1) w' (blk_on hX hb) (hM.next hb) (by have := h.nb c (by simp); omega))
  have HF := Lib.hid (fun w' (hb : Below w.heap.size w w') => h.next hb)
  obtain ⟨z0, z1, z2, z3, zf⟩ := cells4 h.blk
  have hl := (Array.getElem?_eq_some_iff.1 h.blk).1
  have HM := Lib.hid (And.intro h (And.intro hle (And.intro hK ho)))
  obtain ⟨i0, hi, hz0, hz1, hz2⟩ := info_parts infoStr
  clear h hX hM hle zf hK
  go_enter Tryz.func43, Tryz.ntmps43
  go_wp2_with fail
  refine wp_region_still_tail 6 (by kernel_rfl) (by kernel_rfl) ?_
  simp only [List.take_succ_cons, List.take_zero, List.drop_succ_cons, List.drop_zero]
  change wpStill _ _ (w.alloc (.cells #[.int .i64 b.kind, .int .i64 (b.idx : Int), .string ⟨b.type.toArray⟩] 49)).drew _ _ _
  have hy0 : (w.alloc (.cells #[.int .i64 b.kind, .int .i64 (b.idx : Int), .string ⟨b.type.toArray⟩] 49)).drew.heap[w.heap.size]? = some (.cells #[.int .i64 b.kind, .int .i64 (b.idx : Int), .string ⟨b.type.toArray⟩] 49) := heap_alloc_at _ _ rfl
  have HB2 : Hid (Below w.heap.size w (w.alloc (.cells #[.int .i64 b.kind, .int .i64 (b.idx : Int), .string ⟨b.type.toArray⟩] 49)).drew) := (below_o _ _).drew
  generalize hW : (w.alloc (.cells #[.int .i64 b.kind, .int .i64 (b.idx : Int), .string ⟨b.type.toArray⟩] 49)).drew = W2 at hy0 HB2 ⊢
  have HW := Lib.hid hW
  clear z0 z1 z2 z3 hl hW
  obtain ⟨z0, z1, z2, z3, _⟩ := cells4 (HF.out W2 HB2.out).blk
  obtain ⟨y0, y1, y2, _⟩ := cells3 hy0
  repeat still_step
  refine wpStill_nil ?_
  change wpList _ _ _ _ _ (w.alloc (.cells #[.int .i64 b.kind, .int .i64 (b.idx : Int), .string ⟨b.type.toArray⟩] 49)).drew
  rw [HW.out]
  go_wp2_with fail
  refine (HD.out _ HB2.out).mono ?_
  rintro e w1 ⟨rfl, hm, hg⟩
  have HM1 := Lib.hid ((HM.out.1.next HB2.out).decl hm hg)
  have HK1 : Hid (Kc w w1) := by
    obtain ⟨es, cl, hmc⟩ := ((HM.out.1.next HB2.out).sc.types c (by simp)).2.map
    exact (Kc.below HB2.out).trans (Kc.map hg hmc)
  clear z0 z1 z2 z3 y0 y1 y2 hm hg hy0
  obtain ⟨oa, oc, hov⟩ := own_slice HM1.out.oo
  have hov' : ov = .slice oa f.order.length oc := hov
  subst hov'
  obtain ⟨z0, z1, z2, z3, zf⟩ := cells4 HM1.out.blk
  have zf2 := zf 2
  have hl := (Array.getElem?_eq_some_iff.1 HM1.out.blk).1
  obtain ⟨on, hon⟩ : ∃ on, f.order.length = on := ⟨_, rfl⟩
  have HON := Lib.hid (And.intro hon ho)
  have HA := Lib.hid (HM1.out.next (below_o w1 (.cells #[nmS nm] 9)))
  have HOr : Hid ((w1.alloc (.cells #[nmS nm] 9)).ownsRow w0.heap.size 9 1 (.slice oa on oc) on (usC f.order)) := by
    have := HA.out.oo
    rw [hon] at this
    exact this
  rw [hon] at z2
  clear zf hov hon ho
  go_wp2_with (at_builtin; refine wpList_append_lies _ rfl _ _ 37 rfl w0.heap.size 9 i0 (.string ByteArray.empty) 1 16 Tryz.underlying37 hi hz0 hz1 hz2 rfl (by decide) (.slice oa on oc) on (usC f.order) rfl (by exact HOr.out) ⟨w1.heap.size, 0, none⟩ 1 1 [nmS nm] rfl rfl ?cc1 ?cc2 (by decide) ?cc3 ?cc4 ?cc5 (w1.heap.size + 1) ?cc6 ?_)
  case cc1 =>
    intro j u hj
    have := World.news_of_block (heap_alloc_new w1 (.cells #[nmS nm] 9)) j u (by simpa using hj)
    exact this
  case cc2 =>
    intro u hu
    rw [List.mem_singleton] at hu
    subst hu
    rfl
  case cc3 => have := HON.out; unfold maxLen; omega
  case cc4 => have := HON.out; omega
  case cc5 => exact HA.out.bel.size
  case cc6 => simp
  intro g6 cap6 w6 hown6 hgrow6 hat6 hlt6
  have HO := Lib.hid (HA.out.order nm (v := .slice (some ⟨g6, 0, none⟩) (on + 1) cap6) (by
    show w6.ownsRow w0.heap.size 9 1 _ (f.order.length + 1) (usC f.order ++ [nmS nm])
    rw [HON.out.1]
    exact hown6) (by
    show (w1.alloc (.cells #[nmS nm] 9)).grownBy w6 (Value.slice oa f.order.length oc).ownBlock
    rw [ob_len oa f.order.length on oc oc]
    exact hgrow6))
  have hob : ∀ k, (Value.slice oa on oc).ownBlock = some k → k ≠ Fb := fun k hk e => by
    obtain ⟨cur, hh⟩ := own_ty HOr.out hk
    exact ne_ty hh HA.out.blk (by decide) e
  have hfl : Fb < (w1.alloc (.cells #[nmS nm] 9)).heap.size := by simp; omega
  have hv6 : w6.cell? ⟨Fb, 2, none⟩ = some (.slice oa on oc) := (hgrow6.cell_far ⟨Fb, 2, none⟩ hfl (fun e => hob Fb e.symm rfl)).trans (by
    have := (cells4 HA.out.blk).2.2.1
    rw [HON.out.1] at this
    exact this)
  have hf6 : w6.frozen? ⟨Fb, 2, none⟩ = false := (hgrow6.frozen_far ⟨Fb, 2, none⟩ hfl (fun e => hob Fb e.symm rfl)).trans ((cells4 HA.out.blk).2.2.2.2 2)
  have hl6 : Fb < w6.heap.size := Nat.lt_of_lt_of_le hfl hgrow6.size
  have HK6 : Hid (Kc w (w6.setCell ⟨Fb, 2, none⟩ (.slice (some ⟨g6, 0, none⟩) (on + 1) cap6))) := by
    have h6 : w6.heap[Fb]? = (w1.alloc (.cells #[nmS nm] 9)).heap[Fb]? := hgrow6.block Fb hfl (fun e => hob Fb e.symm rfl)
    exact ((HK1.out.trans (Kc.below (below_o _ _))).trans (Kc.row HOr.out hgrow6)).trans (Kc.set (h6.trans HA.out.blk) 2 _)
  clear hown6 hgrow6 hat6 hob hfl z0 z1 z2 z3 zf2
  go_wp2_with fail
  go_end0
  have e : f.put nm b = { m := updP c.s.m nm ⟨b, -1⟩, ng := f.ng, order := f.order ++ [nm], funcs := f.funcs } := by
    unfold FlP.put
    rw [show f.m = c.s.m by rw [HM.out.2.1.1]]
  rw [e]
  exact ⟨rfl, ⟨_, _, HO.out⟩, HK6.out⟩
end Go.Proofs.YtjadckhngalmlaaGreatDoor
namespace Go.Proofs.YtjadckhngalmlaaGreatDoor
set_option linter.unusedVariables false
set_option linter.unusedSimpArgs false
set_option maxRecDepth 100000
open Go.RowKit

/-- The file's own block turns. -/
theorem FlM.set {w0 : World} {Fb : Nat} {f f' : FlP} {p : Option Addr} {L : List ScM} {ov fv : Value} {css : List (List Value)} {K : Nat} {w w' : World} (h : FlM w0 Fb f p L ov fv css K w) (hg : w.grownBy w' (some Fb)) (hb : w'.heap[Fb]? = some (.cells #[.pointer p, .int .i64 (f'.ng : Int), ov, fv] 77)) (e1 : f'.m = f.m) (e2 : f'.order = f.order) (e3 : f'.funcs = f.funcs) :
    FlM w0 Fb f' p L ov fv css K w' := by
  obtain ⟨h1, h2, h3, h4, _⟩ := h.rows hg h.lF h.blk (.inr (.inr rfl))
  refine ⟨hb, h1, ?_, h.nd, h.nb, ?_, ?_, ?_, ?_, h.lF, h.lM, h2⟩
  · rw [h.le]; unfold FlP.sc; rw [e1]
  · rw [e2]; exact h3 (by decide)
  · rw [e3]; exact h4 (by decide)
  · rw [e3]; exact h.cl
  · rw [e3]; exact h.fc
set_option maxHeartbeats 4000000 in
theorem c_fGlobal {w0 : World} {Fb : Nat} {f : FlP} {p : Option Addr} {L : List ScM} {ov fv : Value} {css : List (List Value)} {K : Nat} (v : VarP) (hv : VrOk v) (w : World) (h : FlM w0 Fb f p L ov fv css K w) (hK : K < 4503599627370496) (ho : f.order.length ≤ 1000000) (hn : f.ng ≤ 1000000) :
    Calls Tryz.prog 28 #[.pointer (some ⟨Fb, 0, none⟩), .agg (vrC v).toArray] w fun e w' => e = .returned (.int .i64 (glE f v : Nat)) ∧ (glE f v = 0 → ∃ L' ov', FlM w0 Fb (glF f v) p L' ov' fv css (K + 1) w') ∧ (glE f v ≠ 0 → Below w.heap.size w w') ∧ Kd w w' := by
  have HNm := Lib.hid (fun w' (hb : Below w.heap.size w w') => c_fName v.name hv.1 w' (h.next hb))
  have HPu := Lib.hid (fun w' (hb : Below w.heap.size w w') b => c_fPut v.name hv.1 b w' (h.next hb) hK ho)
  have HF := Lib.hid (fun w' (hb : Below w.heap.size w w') => h.next hb)
  have HV : Hid ((f.find v.name).kind = 0 ∧ glE f v = 0 ∨ (f.find v.name).kind ≠ 0 ∧ glE f v = 6) := by
    unfold glE
    by_cases h0 : (f.find v.name).kind = 0
    · exact .inl ⟨h0, if_pos h0⟩
    · exact .inr ⟨h0, if_neg h0⟩
  have HG : Hid (glF f v = { f.put v.name ⟨1, f.ng, v.type⟩ with ng := f.ng + 1 }) := Lib.hid rfl
  obtain ⟨fk, hfk⟩ : ∃ x, f.find v.name = x := ⟨_, rfl⟩
  rw [hfk] at HNm HV
  obtain ⟨ge, hge⟩ : ∃ x, glE f v = x := ⟨_, rfl⟩
  rw [hge] at HV ⊢
  obtain ⟨gf, hgf⟩ : ∃ x, glF f v = x := ⟨_, rfl⟩
  rw [hgf] at HG ⊢
  have HN := Lib.hid hn
  obtain ⟨vn, vt, vv⟩ := v
  show Calls Tryz.prog _ #[_, .agg #[nmS vn, nmS vt, .bool vv]] w _
  simp only at HNm HPu HG
  obtain ⟨bk, bi, bt⟩ := fk
  simp only at HV
  clear h hK ho hv hn hfk hge hgf
  rcases HV.out with ⟨h0, h1⟩ | ⟨h0, h1⟩
  · subst h0 h1
    go_enter Tryz.func28, Tryz.ntmps28
    go_wp2_with fail
    refine (HNm.out _ (below_o _ _)).mono ?_
    rintro e w1 ⟨rfl, hb⟩
    have HB1 := Lib.hid (below_t (below_o w _) hb (below_o w _).size)
    have HZ1 := Lib.hid (blk_on (heap_alloc_at (w := w) _ _ rfl) hb)
    obtain ⟨y0, y1, y2, _⟩ := cells3 HZ1.out
    obtain ⟨z0, z1, z2, z3, _⟩ := cells4 (HF.out w1 HB1.out).blk
    have hl := (Array.getElem?_eq_some_iff.1 (HF.out w1 HB1.out).blk).1
    have hf0 : ∀ W, (Instr.field 49 (bdV ⟨0, bi, bt⟩) 0).run Tryz.prog W = .ok (.int .i64 0) W := fun W => by kernel_rfl
    clear hb
    go_wp2_with fail
    refine wp_region_still_tail 10 (by kernel_rfl) (by kernel_rfl) ?_
    simp only [List.take_succ_cons, List.take_zero, List.drop_succ_cons, List.drop_zero]
    change wpStill _ _ w1.drew _ _ _
    have HB2 : Hid (Below w.heap.size w w1.drew) := HB1.out.drew
    have HZ2 : Hid (w1.drew.heap[w.heap.size]? = some (.cells #[nmS vn, nmS vt, .bool vv] 58)) := HZ1.out
    generalize hW : w1.drew = W2 at HB2 HZ2 ⊢
    have HW := Lib.hid hW
    clear z0 z1 z2 z3 y0 y1 y2 hl hW
    obtain ⟨y0, y1, y2, _⟩ := cells3 HZ2.out
    obtain ⟨z0, z1, z2, z3, _⟩ := cells4 (HF.out W2 HB2.out).blk
    repeat still_step
    refine wpStill_nil ?_
    change wpList _ _ _ _ _ w1.drew
    rw [HW.out]
    go_wp2_with fail
    refine (HPu.out _ HB2.out ⟨1, f.ng, vt⟩).mono ?_
    rintro e w3 ⟨rfl, ⟨L', ov', h3⟩, hkc⟩
    have HKc := Lib.hid (((Kc.below HB2.out).trans hkc).trans (Kc.set h3.blk 1 (.int .i64 ((f.ng + 1 : Nat) : Int)))).kd
    clear hkc
    have H3 := Lib.hid h3
    have hng : (f.put vn ⟨1, f.ng, vt⟩).ng = f.ng := rfl
    clear z0 z1 z2 z3 y0 y1 y2
    have hblk := h3.blk
    rw [hng] at hblk
    have HBk := Lib.hid hblk
    obtain ⟨z0, z1, z2, z3, zf⟩ := cells4 hblk
    have zf1 := zf 1
    have hl := (Array.getElem?_eq_some_iff.1 hblk).1
    have hwm : IntKind.i64.wrap ((f.ng : Int) + 1) = ((f.ng + 1 : Nat) : Int) := by rw [IntKind.wrap_i64]; have := HN.out; omega
    have hng2 : gf.ng = f.ng + 1 := by rw [HG.out]
    have HR : Hid (FlM w0 Fb gf p L' ov' fv css (K + 1) (w3.setCell ⟨Fb, 1, none⟩ (.int .i64 ((f.ng + 1 : Nat) : Int)))) :=
      H3.out.set (grown_set _ _ _ _) (by rw [hng2]; exact heap_setCell_same _ Fb 1 _ _ _ HBk.out) (by rw [HG.out]) (by rw [HG.out]) (by rw [HG.out])
    clear zf hblk h3 hng hng2
    obtain ⟨ng, hng⟩ : ∃ x, f.ng = x := ⟨_, rfl⟩
    rw [hng] at z1 hwm HR HKc
    go_wp2_with fail
    go_ret
    exact ⟨rfl, fun _ => ⟨L', ov', by first | exact HR.out | (rw [show ((ng : Int) + 1) = ((ng + 1 : Nat) : Int) by omega]; exact HR.out)⟩, fun h => absurd rfl h, by first | exact HKc.out | (rw [show ((ng : Int) + 1) = ((ng + 1 : Nat) : Int) by omega]; exact HKc.out)⟩
  · have hne : (bk != 0) = true := by simpa using h0
    subst h1
    go_enter Tryz.func28, Tryz.ntmps28
    go_wp2_with fail
    refine (HNm.out _ (below_o _ _)).mono ?_
    rintro e w1 ⟨rfl, hb⟩
    have HB1 := Lib.hid (below_t (below_o w _) hb (below_o w _).size)
    have hf0 : ∀ W, (Instr.field 49 (bdV ⟨bk, bi, bt⟩) 0).run Tryz.prog W = .ok (.int .i64 bk) W := fun W => by kernel_rfl
    clear hb
    go_wp2_with fail
    go_ret
    exact ⟨rfl, (fun h => by cases h), fun _ => HB1.out, Kd.below HB1.out⟩
end Go.Proofs.YtjadckhngalmlaaGreatDoor
namespace Go.Proofs.YtjadckhngalmlaaGreatDoor
set_option linter.unusedVariables false
set_option linter.unusedSimpArgs false
set_option maxRecDepth 100000
open Go.RowKit

theorem c_hasBody (at' : Int) (s t : ByteArray) (pa : Option Addr) (pl pc : Nat) (ba : Option Addr) (bl bc : Nat) (w : World) :
    Calls Tryz.prog 34 #[fnV at' s t pa pl pc ba bl bc] w fun e w' => e = .returned (.bool (!(bl == 0))) ∧ Below w.heap.size w w' := by
  obtain ⟨r, hr⟩ : ∃ r, (!(bl == 0)) = r := ⟨_, rfl⟩
  have hq : decide ((bl : Int) > 0) = r := by rw [← hr, Bool.eq_iff_iff]; simp; omega
  have hq2 : decide ((0 : Int) < (bl : Int)) = r := hq
  have hq3 : decide (0 < bl) = r := by rw [← hr, Bool.eq_iff_iff]; simp; omega
  rw [hr]
  clear hr
  go_enter Tryz.func34, Tryz.ntmps34
  go_wp2_with fail
  go_ret
  exact ⟨rfl, below_o _ _⟩
theorem flat_at : ∀ {css : List (List Value)} {n : Nat}, (∀ cs ∈ css, cs.length = n) → ∀ {k : Nat} {cs : List Value}, css[k]? = some cs → ∀ {i : Nat}, i < n → css.flatten[k * n + i]? = cs[i]?
  | [], _, _, k, cs, h, _, _ => by simp at h
  | c :: css, n, hl, 0, cs, h, i, hi => by
    simp only [List.getElem?_cons_zero, Option.some.injEq] at h
    subst h
    rw [Nat.zero_mul, Nat.zero_add, List.flatten_cons, List.getElem?_append_left (by rw [hl c (by simp)]; exact hi)]
  | c :: css, n, hl, k + 1, cs, h, i, hi => by
    rw [List.getElem?_cons_succ] at h
    rw [List.flatten_cons, List.getElem?_append_right (by rw [hl c (by simp), Nat.succ_mul]; omega), hl c (by simp), show (k + 1) * n + i - n = k * n + i by rw [Nat.succ_mul]; omega]
    exact flat_at (fun x hx => hl x (by simp [hx])) h hi
theorem FnC.len {w : World} {f : FnP} {cs : List Value} (h : FnC w f cs) : cs.length = 5 := by
  obtain ⟨pa, pc, ba, bc, rfl, _⟩ := h
  rfl
theorem FlM.all5 {w0 : World} {Fb : Nat} {f : FlP} {p : Option Addr} {L : List ScM} {ov fv : Value} {css : List (List Value)} {K : Nat} {w : World} (h : FlM w0 Fb f p L ov fv css K w) : ∀ cs ∈ css, cs.length = 5 := fun cs hcs => by
  obtain ⟨k, hk⟩ := List.getElem?_of_mem hcs
  have hkl : k < f.funcs.length := by rw [← h.cl]; exact (List.getElem?_eq_some_iff.1 hk).1
  exact (h.fc k _ cs (List.getElem?_eq_getElem hkl) hk).len
/-- The cells of one of the file's functions. -/
theorem FlM.fcell {w0 : World} {Fb : Nat} {f : FlP} {p : Option Addr} {L : List ScM} {ov fv : Value} {css : List (List Value)} {K : Nat} {w : World} (h : FlM w0 Fb f p L ov fv css K w) {k : Nat} {x : FnP} (hx : f.funcs[k]? = some x) :
    ∃ g cap cs, fv = .slice (some ⟨g, 0, none⟩) f.funcs.length cap ∧ g < w.heap.size ∧ FnC w0 x cs ∧ css[k]? = some cs ∧ (∃ cur, w.heap[g]? = some (.cells cur 45 (0, 0)) ∧ cur.size = cap * 5 ∧ f.funcs.length ≤ cap) ∧ ∀ (i : Nat) (v : Value), cs[i]? = some v → w.cell? ⟨g, k * 5 + i, none⟩ = some v := by
  have hk := (List.getElem?_eq_some_iff.1 hx).1
  obtain ⟨cs, hcs⟩ : ∃ cs, css[k]? = some cs := ⟨_, List.getElem?_eq_getElem (by rw [h.cl]; exact hk)⟩
  have hC := h.fc k x cs hx hcs
  rcases h.fo.2 with ⟨_, h0⟩ | ⟨g, cap, cur, h1, h2, h3, h4, h5, h6, h7⟩
  · omega
  · refine ⟨g, cap, cs, h1, (Array.getElem?_eq_some_iff.1 h3).1, hC, hcs, ⟨cur, h3, h6, h4⟩, fun i v hi => ?_⟩
    have hi5 : i < 5 := by have := (List.getElem?_eq_some_iff.1 hi).1; rw [hC.len] at this; exact this
    have h8 := h.fo.cells (g := g) (by rw [h1]; rfl) (k * 5 + i) v (by rw [flat_at h.all5 hcs hi5]; exact hi)
    have ea : (⟨g, 0, none⟩ : Addr).add (k * 5 + i) = ⟨g, 0 + (k * 5 + i), none⟩ := by unfold Addr.add; split <;> simp_all
    rw [ea, Nat.zero_add] at h8
    exact h8
/-- One of a row's things, of five cells, is written. -/
theorem row5_set {w : World} {g : Nat} {cur : Array Value} {T : TypeId} {n cap k : Nat} {css : List (List Value)} (hh : w.heap[g]? = some (.cells cur T)) (hs : cur.size = cap * 5) (hn : n ≤ cap) (hcl : css.length = n) (h5 : ∀ c ∈ css, c.length = 5) (htake : cur.toList.take (n * 5) = css.flatten) (hk : k < n) (v0 v1 v2 v3 v4 : Value) :
    ∃ cur', (((((w.setCell ⟨g, k * 5, none⟩ v0).setCell ⟨g, k * 5 + 1, none⟩ v1).setCell ⟨g, k * 5 + 2, none⟩ v2).setCell ⟨g, k * 5 + 3, none⟩ v3).setCell ⟨g, k * 5 + 4, none⟩ v4).heap[g]? = some (.cells cur' T) ∧ cur'.size = cap * 5 ∧ cur'.toList.take (n * 5) = (css.set k [v0, v1, v2, v3, v4]).flatten := by
  refine ⟨_, heap_setCell_same _ g _ _ _ v4 (heap_setCell_same _ g _ _ _ v3 (heap_setCell_same _ g _ _ _ v2 (heap_setCell_same _ g _ _ _ v1 (heap_setCell_same _ g _ _ _ v0 hh)))), by simpa using hs, ?_⟩
  have hl5 : ∀ c ∈ css.set k [v0, v1, v2, v3, v4], c.length = 5 := fun c hc => by
    rcases List.mem_or_eq_of_mem_set hc with hc | rfl
    · exact h5 c hc
    · rfl
  apply List.ext_getElem?
  intro j
  by_cases hj : j < n * 5
  · rw [List.getElem?_take_of_lt hj, Array.getElem?_toList]
    have e : j = j / 5 * 5 + j % 5 := by omega
    have hq : j / 5 < n := by omega
    have hi : j % 5 < 5 := by omega
    by_cases hqk : j / 5 = k
    · have h1 : (css.set k [v0, v1, v2, v3, v4])[k]? = some [v0, v1, v2, v3, v4] := by rw [List.getElem?_set_self (by omega)]
      have h2 := flat_at hl5 h1 hi
      rw [e, hqk, h2]
      simp only [Array.getElem?_setIfInBounds, Array.size_setIfInBounds]
      have hjs : k * 5 + 4 < cur.size := by rw [hs]; omega
      rcases (by omega : j % 5 = 0 ∨ j % 5 = 1 ∨ j % 5 = 2 ∨ j % 5 = 3 ∨ j % 5 = 4) with h | h | h | h | h <;> rw [h] <;> simp <;> omega
    · obtain ⟨c, hc⟩ : ∃ c, css[j / 5]? = some c := ⟨_, List.getElem?_eq_getElem (by omega)⟩
      have h1 : (css.set k [v0, v1, v2, v3, v4])[j / 5]? = some c := by rw [List.getElem?_set_ne (by omega)]; exact hc
      have h2 := flat_at hl5 h1 hi
      have h3 := flat_at h5 hc hi
      rw [← htake, List.getElem?_take_of_lt (by omega), Array.getElem?_toList] at h3
      rw [e, h2, ← h3]
      simp only [Array.getElem?_setIfInBounds, Array.size_setIfInBounds]
      rw [if_neg (by omega), if_neg (by omega), if_neg (by omega), if_neg (by omega), if_neg (by omega)]
  · rw [List.getElem?_eq_none (by rw [List.length_take]; omega)]
    have hfl : ∀ (l : List (List Value)), (∀ c ∈ l, c.length = 5) → l.flatten.length = l.length * 5 := fun l => by
      induction l with
      | nil => intro _; rfl
      | cons a r ih =>
        intro h
        rw [List.flatten_cons, List.length_append, h a (by simp), ih (fun c hc => h c (by simp [hc])), List.length_cons]
        omega
    rw [List.getElem?_eq_none]
    rw [hfl _ hl5, List.length_set]
    omega
/-- A function of the file is put in another one's place. -/
theorem FlM.fset {w0 : World} {Fb : Nat} {f : FlP} {p : Option Addr} {L : List ScM} {ov fv : Value} {css : List (List Value)} {K : Nat} {w : World} (h : FlM w0 Fb f p L ov fv css K w) {k : Nat} (hk : k < f.funcs.length) {x : FnP} {v0 v1 v2 v3 v4 : Value} (hx : FnC w0 x [v0, v1, v2, v3, v4]) {g cap : Nat} (hfv : fv = .slice (some ⟨g, 0, none⟩) f.funcs.length cap) :
    FlM w0 Fb { f with funcs := f.funcs.set k x } p L ov fv (css.set k [v0, v1, v2, v3, v4]) K (((((w.setCell ⟨g, k * 5, none⟩ v0).setCell ⟨g, k * 5 + 1, none⟩ v1).setCell ⟨g, k * 5 + 2, none⟩ v2).setCell ⟨g, k * 5 + 3, none⟩ v3).setCell ⟨g, k * 5 + 4, none⟩ v4) := by
  rcases h.fo.2 with ⟨_, h0⟩ | ⟨g', cap', cur, h1, h2, h3, h4, h5, h6, h7⟩
  · omega
  · have e := hfv.symm.trans h1
    injection e with e1 _ e2
    injection e1 with e1
    injection e1 with e1
    subst e1 e2
    obtain ⟨cur', k1, k2, k3⟩ := row5_set h3 h6 h4 h.cl h.all5 h7 hk v0 v1 v2 v3 v4
    have hg : w.grownBy (((((w.setCell ⟨g, k * 5, none⟩ v0).setCell ⟨g, k * 5 + 1, none⟩ v1).setCell ⟨g, k * 5 + 2, none⟩ v2).setCell ⟨g, k * 5 + 3, none⟩ v3).setCell ⟨g, k * 5 + 4, none⟩ v4) (some g) :=
      ((((grown_set w g _ v0).trans (grown_set _ g _ v1)).trans (grown_set _ g _ v2)).trans (grown_set _ g _ v3)).trans (grown_set _ g _ v4)
    obtain ⟨r1, r2, r3, _, r5⟩ := h.rows hg h2 h3 (.inr (.inl rfl))
    refine ⟨r5 (by decide), r1, h.le, h.nd, h.nb, r3 (by decide), ⟨?_, .inr ⟨g, cap, cur', ?_, h2, k1, ?_, h5, k2, ?_⟩⟩, ?_, ?_, h.lF, h.lM, r2⟩
    · have hs1 := congrArg List.length k3
      rw [← hs1, List.length_take, Array.length_toList, k2]
      show min (f.funcs.length * 5) (cap * 5) = (f.funcs.set k x).length * 5
      rw [List.length_set]
      omega
    · show fv = .slice _ (f.funcs.set k x).length cap
      rw [List.length_set]
      exact hfv
    · show (f.funcs.set k x).length ≤ cap
      rw [List.length_set]
      exact h4
    · show cur'.toList.take ((f.funcs.set k x).length * 5) = _
      rw [List.length_set]
      exact k3
    · show _ = (f.funcs.set k x).length
      rw [List.length_set, List.length_set]
      exact h.cl
    · intro q y cs hq hc
      by_cases hqk : q = k
      · subst hqk
        have hy : (f.funcs.set q x)[q]? = some x := by rw [List.getElem?_set_self hk]
        rw [List.getElem?_set_self (by rw [h.cl]; exact hk)] at hc
        cases hc
        have := hy.symm.trans hq
        cases this
        exact hx
      · have hq' : f.funcs[q]? = some y := by rw [← hq]; exact (List.getElem?_set_ne (by omega)).symm
        rw [List.getElem?_set_ne (by omega)] at hc
        exact h.fc q y cs hq' hc
theorem FlM.kset {w0 : World} {Fb : Nat} {f : FlP} {p : Option Addr} {L : List ScM} {ov fv : Value} {css : List (List Value)} {K : Nat} {w : World} (h : FlM w0 Fb f p L ov fv css K w) {k g cap : Nat} (hfv : fv = .slice (some ⟨g, 0, none⟩) f.funcs.length cap) (v0 v1 v2 v3 v4 : Value) (hk : k < f.funcs.length) :
    Kd w (((((w.setCell ⟨g, k * 5, none⟩ v0).setCell ⟨g, k * 5 + 1, none⟩ v1).setCell ⟨g, k * 5 + 2, none⟩ v2).setCell ⟨g, k * 5 + 3, none⟩ v3).setCell ⟨g, k * 5 + 4, none⟩ v4) := by
  obtain ⟨cur, hh⟩ := own_ty h.fo (g := g) (by rw [hfv]; rfl)
  exact Kd.fun (((((grown_set w g _ v0).trans (grown_set _ g _ v1)).trans (grown_set _ g _ v2)).trans (grown_set _ g _ v3)).trans (grown_set _ g _ v4)) hh
set_option maxHeartbeats 4000000 in
theorem c_fAgain {w0 : World} {Fb : Nat} {f : FlP} {p : Option Addr} {L : List ScM} {ov fv : Value} {css : List (List Value)} {K : Nat} (x : FnP) (pa : Option Addr) (pc : Nat) (ba : Option Addr) (bc : Nat) (hx : FnC w0 x [.int .i64 x.at', nmS x.name, nmS x.type, .slice pa x.params.length pc, .slice ba x.body.length bc]) (k : Nat) (hk : k < f.funcs.length) (hfl : f.funcs.length ≤ 1000000) (w : World) (h : FlM w0 Fb f p L ov fv css K w) :
    Calls Tryz.prog 44 #[.pointer (some ⟨Fb, 0, none⟩), fnV x.at' ⟨x.name.toArray⟩ ⟨x.type.toArray⟩ pa x.params.length pc ba x.body.length bc, .int .i64 (k : Int)] w fun e w' => e = .returned (.int .i64 (agE x (f.funcs.getD k fn0) : Nat)) ∧ (agE x (f.funcs.getD k fn0) = 0 → ∃ css', FlM w0 Fb (agF f x k) p L ov fv css' K w') ∧ (agE x (f.funcs.getD k fn0) ≠ 0 → Below w.heap.size w w') ∧ Kd w w' := by
  obtain ⟨y, hy⟩ : ∃ y, f.funcs[k]? = some y := ⟨_, List.getElem?_eq_getElem hk⟩
  have hD : f.funcs.getD k fn0 = y := by rw [List.getD_eq_getElem?_getD, hy]; rfl
  rw [hD]
  obtain ⟨g, cap, cs, hfv, hgl, hC, hcs, hrow, hcell⟩ := h.fcell hy
  obtain ⟨pa', pc', ba', bc', rfl, _⟩ := hC
  have c0 := hcell 0 _ rfl
  have c1 := hcell 1 _ rfl
  have c2 := hcell 2 _ rfl
  have c3 := hcell 3 _ rfl
  have c4 := hcell 4 _ rfl
  rw [Nat.add_zero] at c0
  obtain ⟨cur, hcu, hcs5, hcap⟩ := hrow
  have HF := Lib.hid (fun w' (hb : Below w.heap.size w w') => h.next hb)
  have HCl : Hid (∀ w', Below w.heap.size w w' → (∀ (i : Nat) (v : Value), [Value.int .i64 y.at', nmS y.name, nmS y.type, .slice pa' y.params.length pc', .slice ba' y.body.length bc'][i]? = some v → w'.cell? ⟨g, k * 5 + i, none⟩ = some v) ∧ g < w'.heap.size ∧ ∀ i, w'.frozen? ⟨g, i, none⟩ = false) := fun w' hb =>
    ⟨fun i v hi => (blk_cell (hb.block g hgl) _).trans (hcell i v hi), Nat.lt_of_lt_of_le hgl hb.size, fun i => Lib.frozen_of_heap (blk_on hcu hb) i⟩
  have HB1 := Lib.hid (fun (w' : World) (hb : Below w.heap.size w w') => c_hasBody x.at' ⟨x.name.toArray⟩ ⟨x.type.toArray⟩ pa x.params.length pc ba x.body.length bc w')
  have HB2 := Lib.hid (fun (w' : World) (hb : Below w.heap.size w w') => c_hasBody y.at' ⟨y.name.toArray⟩ ⟨y.type.toArray⟩ pa' y.params.length pc' ba' y.body.length bc' w')
  have HAg : Hid (agE x y = if (!(x.body.length == 0) && !(y.body.length == 0)) = true then 6 else if x.type = y.type then 0 else 131) := Lib.hid rfl
  have HAf : Hid (agF f x k = if (x.body.length == 0) = true then f else { f with funcs := f.funcs.set k x }) := Lib.hid rfl
  obtain ⟨xb, hxb⟩ : ∃ b, (x.body.length == 0) = b := ⟨_, rfl⟩
  obtain ⟨yb, hyb⟩ : ∃ b, (y.body.length == 0) = b := ⟨_, rfl⟩
  obtain ⟨tb, htb⟩ : ∃ b, (x.type == y.type) = b := ⟨_, rfl⟩
  rw [hxb] at HB1 HAg HAf
  rw [hyb] at HB2 HAg
  have HTb : Hid (x.type = y.type ↔ tb = true) := by rw [← htb]; exact beq_iff_eq.symm
  obtain ⟨ae, hae⟩ : ∃ a, agE x y = a := ⟨_, rfl⟩
  obtain ⟨af, haf⟩ : ∃ a, agF f x k = a := ⟨_, rfl⟩
  rw [hae] at HAg ⊢
  rw [haf] at HAf ⊢
  have HX := Lib.hid (And.intro hx (And.intro hk (And.intro h hfv)))
  have hk0 : (0 : Int) ≤ (k : Int) := by omega
  obtain ⟨fl, hfl'⟩ : ∃ fl, f.funcs.length = fl := ⟨_, rfl⟩
  have HFl := Lib.hid hfl'
  have hkl : (k : Int) < (fl : Int) := by omega
  obtain ⟨z0, z1, z2, z3, _⟩ := cells4 h.blk
  have hl := (Array.getElem?_eq_some_iff.1 h.blk).1
  rw [hfv, hfl'] at z3
  obtain ⟨xat, xnm, xty, xps, xbo⟩ := x
  obtain ⟨yat, ynm, yty, yps, ybo⟩ := y
  simp only at c0 c1 c2 c3 c4 HB1 HB2 HCl htb HX ⊢
  obtain ⟨xpl, hxpl⟩ : ∃ a, xps.length = a := ⟨_, rfl⟩
  obtain ⟨xbl, hxbl⟩ : ∃ a, xbo.length = a := ⟨_, rfl⟩
  obtain ⟨ypl, hypl⟩ : ∃ a, yps.length = a := ⟨_, rfl⟩
  obtain ⟨ybl, hybl⟩ : ∃ a, ybo.length = a := ⟨_, rfl⟩
  rw [hxpl, hxbl] at HB1 ⊢
  rw [hxpl, hxbl] at HX
  rw [hypl] at c3
  rw [hybl] at c4
  rw [hypl, hybl] at HB2 HCl
  clear hx hk hfl h hy hD hfv hcell hcs hcu hcs5 hcap hxb hyb hae haf hfl' hxpl hxbl hypl hybl
  cases xb <;> cases yb <;> cases tb
  all_goals
    go_enter Tryz.func44, Tryz.ntmps44
    go_wp2_with fail
    have hb0 := below_t (below_o w (.cells #[.int .i64 xat, .string ⟨xnm.toArray⟩, .string ⟨xty.toArray⟩, .slice pa xpl pc, .slice ba xbl bc] 45)) (below_o _ (.cells #[.int .i64 yat, .string ⟨ynm.toArray⟩, .string ⟨yty.toArray⟩, .slice pa' ypl pc', .slice ba' ybl bc'] 45)) (by simp)
    refine (HB1.out _ hb0).mono ?_
    rintro e w1 ⟨rfl, hb⟩
    have HW1 := Lib.hid (below_t hb0 hb hb0.size)
    have HX1 := Lib.hid (blk_on (blk_on (heap_alloc_at (w := w) _ _ rfl) (below_o _ _)) hb)
    have HY1 := Lib.hid (blk_on (heap_alloc_at (w := w.alloc (.cells #[.int .i64 xat, .string ⟨xnm.toArray⟩, .string ⟨xty.toArray⟩, .slice pa xpl pc, .slice ba xbl bc] 45)) _ (w.heap.size + 1) (by simp)) hb)
    clear hb hb0 c0 c1 c2 c3 c4 z0 z1 z2 z3 hl hgl
    obtain ⟨p0, p1, p2, p3, p4, _⟩ := five_cells HX1.out
    obtain ⟨q0, q1, q2, q3, q4, _⟩ := five_cells HY1.out
    go_wp2_with fail
  · obtain rfl : ae = 6 := HAg.out
    refine (HB2.out _ HW1.out).mono ?_
    rintro e w2 ⟨rfl, hb⟩
    have HW2 := Lib.hid (below_t HW1.out hb HW1.out.size)
    have HX2 := Lib.hid (blk_on HX1.out hb)
    have HY2 := Lib.hid (blk_on HY1.out hb)
    clear hb p0 p1 p2 p3 p4 q0 q1 q2 q3 q4
    obtain ⟨p0, p1, p2, p3, p4, _⟩ := five_cells HX2.out
    obtain ⟨q0, q1, q2, q3, q4, _⟩ := five_cells HY2.out
    go_wp2_with fail
    go_ret
    exact ⟨rfl, (fun h => by cases h), fun _ => HW2.out, Kd.below HW2.out⟩
  · obtain rfl : ae = 6 := HAg.out
    refine (HB2.out _ HW1.out).mono ?_
    rintro e w2 ⟨rfl, hb⟩
    have HW2 := Lib.hid (below_t HW1.out hb HW1.out.size)
    have HX2 := Lib.hid (blk_on HX1.out hb)
    have HY2 := Lib.hid (blk_on HY1.out hb)
    clear hb p0 p1 p2 p3 p4 q0 q1 q2 q3 q4
    obtain ⟨p0, p1, p2, p3, p4, _⟩ := five_cells HX2.out
    obtain ⟨q0, q1, q2, q3, q4, _⟩ := five_cells HY2.out
    go_wp2_with fail
    go_ret
    exact ⟨rfl, (fun h => by cases h), fun _ => HW2.out, Kd.below HW2.out⟩
  · have hae : ae = 131 := by rw [HAg.out, if_neg (by decide), if_neg (fun h => by have := HTb.out.1 h; cases this)]
    subst hae
    refine (HB2.out _ HW1.out).mono ?_
    rintro e w2 ⟨rfl, hb⟩
    have HW2 := Lib.hid (below_t HW1.out hb HW1.out.size)
    have HX2 := Lib.hid (blk_on HX1.out hb)
    have HY2 := Lib.hid (blk_on HY1.out hb)
    clear hb p0 p1 p2 p3 p4 q0 q1 q2 q3 q4
    obtain ⟨p0, p1, p2, p3, p4, _⟩ := five_cells HX2.out
    obtain ⟨q0, q1, q2, q3, q4, _⟩ := five_cells HY2.out
    go_wp2_with fail
    go_ret
    exact ⟨rfl, (fun h => by cases h), fun _ => HW2.out, Kd.below HW2.out⟩
  · have hae : ae = 0 := by rw [HAg.out, if_neg (by decide), if_pos (HTb.out.2 (by trivial))]
    subst hae
    refine (HB2.out _ HW1.out).mono ?_
    rintro e w2 ⟨rfl, hb⟩
    have HW2 := Lib.hid (below_t HW1.out hb HW1.out.size)
    have HX2 := Lib.hid (blk_on HX1.out hb)
    have HY2 := Lib.hid (blk_on HY1.out hb)
    clear hb p0 p1 p2 p3 p4 q0 q1 q2 q3 q4
    obtain ⟨p0, p1, p2, p3, p4, _⟩ := five_cells HX2.out
    obtain ⟨q0, q1, q2, q3, q4, _⟩ := five_cells HY2.out
    go_wp2_with fail
    refine (HB1.out _ HW2.out).mono ?_
    rintro e w3 ⟨rfl, hb⟩
    have HW3 := Lib.hid (below_t HW2.out hb HW2.out.size)
    have HX3 := Lib.hid (blk_on HX2.out hb)
    clear hb p0 p1 p2 p3 p4 q0 q1 q2 q3 q4
    obtain ⟨p0, p1, p2, p3, p4, _⟩ := five_cells HX3.out
    obtain ⟨z0, z1, z2, z3, _⟩ := cells4 (HF.out w3 HW3.out).blk
    have hl := (Array.getElem?_eq_some_iff.1 (HF.out w3 HW3.out).blk).1
    obtain ⟨hc, hgl, hfz⟩ := HCl.out w3 HW3.out
    have c0 := hc 0 _ rfl
    have c1 := hc 1 _ rfl
    have c2 := hc 2 _ rfl
    have c3 := hc 3 _ rfl
    have c4 := hc 4 _ rfl
    rw [Nat.add_zero] at c0
    have f0 := hfz (k * 5)
    have f1 := hfz (k * 5 + 1)
    have f2 := hfz (k * 5 + 2)
    have f3 := hfz (k * 5 + 3)
    have f4 := hfz (k * 5 + 4)
    clear hc hfz
    go_wp2_with fail
    refine wp_region_still_tail 6 (by kernel_rfl) (by kernel_rfl) ?_
    simp only [List.take_succ_cons, List.take_zero, List.drop_succ_cons, List.drop_zero]
    change wpStill _ _ w3.drew _ _ _
    have HW4 : Hid (Below w.heap.size w w3.drew) := HW3.out.drew
    have HX4 : Hid (w3.drew.heap[w.heap.size]? = w3.heap[w.heap.size]?) := Lib.hid rfl
    have e4 : w3.drew.heap = w3.heap := rfl
    generalize hW : w3.drew = W4 at HW4 HX4 e4 ⊢
    have HW := Lib.hid hW
    have HS4 := Lib.hid ((HF.out W4 HW4.out).fset HX.out.2.1 HX.out.1 HX.out.2.2.2)
    have HK4 := Lib.hid ((Kd.below HW4.out).trans ((HF.out W4 HW4.out).kset (k := k) HX.out.2.2.2 (.int .i64 xat) (nmS xnm) (nmS xty) (.slice pa xpl pc) (.slice ba xbl bc) HX.out.2.1))
    clear p0 p1 p2 p3 p4 z0 z1 z2 z3 hl c0 c1 c2 c3 c4 f0 f1 f2 f3 f4 hgl hW e4
    obtain ⟨p0, p1, p2, p3, p4, _⟩ := five_cells (HX4.out.trans HX3.out)
    obtain ⟨z0, z1, z2, z3, _⟩ := cells4 (HF.out W4 HW4.out).blk
    rw [HX.out.2.2.2, HFl.out] at z3
    have hl := (Array.getElem?_eq_some_iff.1 (HF.out W4 HW4.out).blk).1
    obtain ⟨hc, hgl, hfz⟩ := HCl.out W4 HW4.out
    have c0 := hc 0 _ rfl
    have c1 := hc 1 _ rfl
    have c2 := hc 2 _ rfl
    have c3 := hc 3 _ rfl
    have c4 := hc 4 _ rfl
    rw [Nat.add_zero] at c0
    have f0 := hfz (k * 5)
    have f1 := hfz (k * 5 + 1)
    have f2 := hfz (k * 5 + 2)
    have f3 := hfz (k * 5 + 3)
    have f4 := hfz (k * 5 + 4)
    clear hc hfz
    repeat still_step
    refine wpStill_nil ?_
    change wpList _ _ _ _ _ w3.drew
    rw [HW.out]
    go_wp2_with fail
    go_ret
    have haf : af = { f with funcs := f.funcs.set k ⟨xat, xnm, xty, xps, xbo⟩ } := by rw [HAf.out]; rfl
    rw [haf]
    exact ⟨rfl, ⟨_, HS4.out⟩, HK4.out⟩
  · have hae : ae = 131 := by rw [HAg.out, if_neg (by decide), if_neg (fun h => by have := HTb.out.1 h; cases this)]
    subst hae
    go_ret
    exact ⟨rfl, (fun h => by cases h), fun _ => HW1.out, Kd.below HW1.out⟩
  · have hae : ae = 0 := by rw [HAg.out, if_neg (by decide), if_pos (HTb.out.2 (by trivial))]
    subst hae
    refine (HB1.out _ HW1.out).mono ?_
    rintro e w2 ⟨rfl, hb⟩
    have HW2 := Lib.hid (below_t HW1.out hb HW1.out.size)
    clear hb
    go_wp2_with fail
    go_ret
    refine ⟨rfl, ⟨css, ?_⟩, Kd.below HW2.out⟩
    rw [HAf.out, if_pos trivial]
    exact HF.out w2 HW2.out
  · have hae : ae = 131 := by rw [HAg.out, if_neg (by decide), if_neg (fun h => by have := HTb.out.1 h; cases this)]
    subst hae
    go_ret
    exact ⟨rfl, (fun h => by cases h), fun _ => HW1.out, Kd.below HW1.out⟩
  · have hae : ae = 0 := by rw [HAg.out, if_neg (by decide), if_pos (HTb.out.2 (by trivial))]
    subst hae
    refine (HB1.out _ HW1.out).mono ?_
    rintro e w2 ⟨rfl, hb⟩
    have HW2 := Lib.hid (below_t HW1.out hb HW1.out.size)
    clear hb
    go_wp2_with fail
    go_ret
    refine ⟨rfl, ⟨css, ?_⟩, Kd.below HW2.out⟩
    rw [HAf.out, if_pos trivial]
    exact HF.out w2 HW2.out
end Go.Proofs.YtjadckhngalmlaaGreatDoor
namespace Go.Proofs.YtjadckhngalmlaaGreatDoor
set_option linter.unusedVariables false
set_option linter.unusedSimpArgs false
set_option maxRecDepth 100000
open Go.RowKit

theorem infoFun : (Tryz.prog.info? 45).map (fun i => (i.zero, i.size, i.bytes)) = some (some (.agg #[.int .i64 0, .string ByteArray.empty, .string ByteArray.empty, .slice none 0 0, .slice none 0 0]), 5, 88) := by kernel_rfl
/-- One more function of the file. -/
theorem FlM.fapp {w0 : World} {Fb : Nat} {f : FlP} {p : Option Addr} {L : List ScM} {ov fv : Value} {css : List (List Value)} {K : Nat} {w w3 : World} (h : FlM w0 Fb f p L ov fv css K w) {x : FnP} {cs : List Value} (hx : FnC w0 x cs) {v : Value} (hown : w3.ownsRow w0.heap.size 45 5 v (f.funcs.length + 1) (css.flatten ++ cs)) (hg : w.grownBy w3 fv.ownBlock) :
    FlM w0 Fb { f with funcs := f.funcs ++ [x] } p L ov v (css ++ [cs]) K (w3.setCell ⟨Fb, 3, none⟩ v) := by
  have key : w3.heap[Fb]? = some (.cells #[.pointer p, .int .i64 (f.ng : Int), ov, fv] 77) ∧ ScIn w3 L p ∧ Below w0.heap.size w0 w3 ∧ w3.ownsRow w0.heap.size 9 1 ov f.order.length (usC f.order) := by
    cases hb : fv.ownBlock with
    | none =>
      rw [hb] at hg
      have hb := grown_none hg
      exact ⟨blk_on h.blk hb, h.sc.next hb, below_t h.bel hb h.bel.size, own_on h.oo hb⟩
    | some g =>
      rw [hb] at hg
      obtain ⟨cur, ho⟩ := own_ty h.fo hb
      obtain ⟨h1, h2, h3, _, h5⟩ := h.rows hg (h.fo.lt g hb).1 ho (.inr (.inl rfl))
      exact ⟨h5 (by decide), h1, h2, h3 (by decide)⟩
  obtain ⟨k1, k2, k3, k4⟩ := key
  refine ⟨heap_setCell_same _ Fb 3 _ _ _ k1, k2.turn (grown_set _ _ _ _) k1 (by decide), h.le, h.nd, h.nb, nm_set k4 k1 (by decide) 3 v, ?_, ?_, ?_, h.lF, h.lM, k3.setCell (p := ⟨Fb, 3, none⟩) h.lF v⟩
  · show (w3.setCell ⟨Fb, 3, none⟩ v).ownsRow w0.heap.size 45 5 v (f.funcs ++ [x]).length (css ++ [cs]).flatten
    rw [List.length_append, List.flatten_append]
    simp only [List.flatten_cons, List.flatten_nil, List.append_nil]
    exact nm_set hown k1 (by decide) 3 v
  · show (css ++ [cs]).length = (f.funcs ++ [x]).length
    rw [List.length_append, List.length_append, h.cl]
    rfl
  · intro k y cy hk hc
    by_cases hlt : k < f.funcs.length
    · rw [List.getElem?_append_left hlt] at hk
      rw [List.getElem?_append_left (by rw [h.cl]; exact hlt)] at hc
      exact h.fc k y cy hk hc
    · have h1 := (List.getElem?_eq_some_iff.1 hk).1
      rw [List.length_append, List.length_singleton] at h1
      obtain rfl : k = f.funcs.length := by omega
      rw [List.getElem?_append_right (Nat.le_refl _), Nat.sub_self] at hk
      rw [← h.cl, List.getElem?_append_right (Nat.le_refl _), Nat.sub_self] at hc
      cases hk
      cases hc
      exact hx
theorem fn_one (a : Int) (s t : ByteArray) (u v : Value) (hu : u.oneCell' = true := by rfl) (hv : v.oneCell' = true := by rfl) : ∀ x ∈ [Value.int .i64 a, .string s, .string t, u, v], x.oneCell' = true := by
  intro x hx
  simp only [List.mem_cons, List.not_mem_nil, or_false] at hx
  rcases hx with rfl | rfl | rfl | rfl | rfl
  · rfl
  · rfl
  · rfl
  · exact hu
  · exact hv
set_option maxHeartbeats 4000000 in
theorem c_fFunction {w0 : World} {Fb : Nat} {f : FlP} {p : Option Addr} {L : List ScM} {ov fv : Value} {css : List (List Value)} {K : Nat} (x : FnP) (hxo : x.name.length ≤ 9223372036854775807) (pa : Option Addr) (pc : Nat) (ba : Option Addr) (bc : Nat) (hx : FnC w0 x [.int .i64 x.at', nmS x.name, nmS x.type, .slice pa x.params.length pc, .slice ba x.body.length bc]) (hwf : (f.find x.name).kind = 2 → (f.find x.name).idx < f.funcs.length) (hfl : f.funcs.length ≤ 1000000) (ho : f.order.length ≤ 1000000) (hK : K < 4503599627370496) (w : World) (h : FlM w0 Fb f p L ov fv css K w) :
    Calls Tryz.prog 29 #[.pointer (some ⟨Fb, 0, none⟩), fnV x.at' ⟨x.name.toArray⟩ ⟨x.type.toArray⟩ pa x.params.length pc ba x.body.length bc] w fun e w' => e = .returned (.int .i64 (fnE f x : Nat)) ∧ (fnE f x = 0 → ∃ L' ov' fv' css', FlM w0 Fb (fnF f x) p L' ov' fv' css' (K + 1) w') ∧ (fnE f x ≠ 0 → Below w.heap.size w w') ∧ Kd w w' := by
  have HF := Lib.hid (fun w' (hb : Below w.heap.size w w') => h.next hb)
  have HNm := Lib.hid (fun w' (hb : Below w.heap.size w w') => c_fName x.name hxo w' (h.next hb))
  have HPu := Lib.hid (fun w' (hb : Below w.heap.size w w') b => c_fPut x.name hxo b w' (h.next hb) hK ho)
  have HAg := Lib.hid (fun w' (hb : Below w.heap.size w w') k hk => c_fAgain x pa pc ba bc hx k hk hfl w' (h.next hb))
  have HE : Hid (fnE f x = if (f.find x.name).kind = 2 then agE x (f.funcs.getD (f.find x.name).idx fn0) else if (f.find x.name).kind = 0 then if f.funcs.length = 128 then 3 else 0 else 6) := Lib.hid rfl
  have HFn : Hid (fnF f x = if (f.find x.name).kind = 2 then agF f x (f.find x.name).idx else { f.put x.name ⟨2, f.funcs.length, x.type⟩ with funcs := f.funcs ++ [x] }) := Lib.hid rfl
  obtain ⟨fe, hfe⟩ : ∃ a, fnE f x = a := ⟨_, rfl⟩
  obtain ⟨ff, hff⟩ : ∃ a, fnF f x = a := ⟨_, rfl⟩
  rw [hfe] at HE ⊢
  rw [hff] at HFn ⊢
  obtain ⟨fk, hfk⟩ : ∃ a, f.find x.name = a := ⟨_, rfl⟩
  rw [hfk] at HNm HE HFn hwf
  have HX := Lib.hid (And.intro hx (And.intro hwf (And.intro hfl h)))
  obtain ⟨bk, bi, bt⟩ := fk
  simp only at HE HFn HX
  obtain ⟨xat, xnm, xty, xps, xbo⟩ := x
  simp only at HNm HPu HAg HE HFn HX ⊢
  obtain ⟨xpl, hxpl⟩ : ∃ a, xps.length = a := ⟨_, rfl⟩
  obtain ⟨xbl, hxbl⟩ : ∃ a, xbo.length = a := ⟨_, rfl⟩
  rw [hxpl, hxbl] at HAg HX ⊢
  have hf0 : ∀ W, (Instr.field 49 (bdV ⟨bk, bi, bt⟩) 0).run Tryz.prog W = .ok (.int .i64 bk) W := fun W => by kernel_rfl
  clear h hK ho hx hwf hfl hxo hfe hff hfk hxpl hxbl
  by_cases h2 : bk = 2
  · subst h2
    have hbi := HX.out.2.1 rfl
    have hfe : fe = agE ⟨xat, xnm, xty, xps, xbo⟩ (f.funcs.getD bi fn0) := by rw [HE.out, if_pos rfl]
    have hff : ff = agF f ⟨xat, xnm, xty, xps, xbo⟩ bi := by rw [HFn.out, if_pos rfl]
    have HFe := Lib.hid (And.intro hfe (And.intro hff hbi))
    clear hfe hff hbi
    go_enter Tryz.func29, Tryz.ntmps29
    go_wp2_with fail
    refine (HNm.out _ (below_o _ _)).mono ?_
    rintro e w1 ⟨rfl, hb⟩
    have HW1 := Lib.hid (below_t (below_o w _) hb (below_o w _).size)
    have HX1 := Lib.hid (blk_on (heap_alloc_at (w := w) _ _ rfl) hb)
    clear hb
    obtain ⟨p0, p1, p2, p3, p4, _⟩ := five_cells HX1.out
    have hpl := (Array.getElem?_eq_some_iff.1 HX1.out).1
    obtain ⟨z0, z1, z2, z3, _⟩ := cells4 (HF.out w1 HW1.out).blk
    have hl := (Array.getElem?_eq_some_iff.1 (HF.out w1 HW1.out).blk).1
    go_wp2_with fail
    have HB2 := Lib.hid (below_t HW1.out (below_o w1 (.cells #[.int .i64 2, .int .i64 (bi : Int), .string ⟨bt.toArray⟩] 49)) HW1.out.size)
    refine (HAg.out _ HB2.out bi HFe.out.2.2).mono ?_
    rintro e w2 ⟨rfl, h1, h2, h3⟩
    have HKd := Lib.hid ((Kd.below HB2.out).trans h3)
    rw [← HFe.out.1, ← HFe.out.2.1] at h1
    rw [← HFe.out.1] at h2 ⊢
    have HR := Lib.hid (And.intro h1 (fun h => below_t HB2.out (h2 h) HB2.out.size))
    clear h1 h2 h3 p0 p1 p2 p3 p4 hpl z0 z1 z2 z3 hl
    go_wp2_with fail
    go_ret
    refine ⟨rfl, fun h => ?_, HR.out.2, HKd.out⟩
    obtain ⟨css', h3⟩ := HR.out.1 h
    exact ⟨L, ov, fv, css', { h3 with nb := fun c hc => Nat.le_succ_of_le (h3.nb c hc) }⟩
  · have hk2 : (bk == 2) = false := by simpa using h2
    by_cases h0 : bk = 0
    · subst h0
      by_cases h128 : f.funcs.length = 128
      · obtain rfl : fe = 3 := by rw [HE.out, if_neg h2, if_pos rfl, if_pos h128]
        obtain ⟨fa, fc, hfv⟩ := own_slice HX.out.2.2.2.fo
        subst hfv
        have hn : ((f.funcs.length : Int) == 128) = true := by rw [h128]; rfl
        have hn2 : (f.funcs.length == 128) = true := by rw [h128]; rfl
        clear h2
        go_enter Tryz.func29, Tryz.ntmps29
        go_wp2_with fail
        refine (HNm.out _ (below_o _ _)).mono ?_
        rintro e w1 ⟨rfl, hb⟩
        have HW1 := Lib.hid (below_t (below_o w _) hb (below_o w _).size)
        have HX1 := Lib.hid (blk_on (heap_alloc_at (w := w) _ _ rfl) hb)
        clear hb
        obtain ⟨p0, p1, p2, p3, p4, _⟩ := five_cells HX1.out
        have hpl := (Array.getElem?_eq_some_iff.1 HX1.out).1
        obtain ⟨z0, z1, z2, z3, _⟩ := cells4 (HF.out w1 HW1.out).blk
        have hl := (Array.getElem?_eq_some_iff.1 (HF.out w1 HW1.out).blk).1
        go_wp2_with fail
        go_ret
        exact ⟨rfl, (fun h => by cases h), fun _ => below_t HW1.out (below_o _ _) HW1.out.size, Kd.below (below_t HW1.out (below_o _ _) HW1.out.size)⟩
      · obtain rfl : fe = 0 := by rw [HE.out, if_neg h2, if_pos rfl, if_neg h128]
        have hff : ff = { f.put xnm ⟨2, f.funcs.length, xty⟩ with funcs := f.funcs ++ [⟨xat, xnm, xty, xps, xbo⟩] } := by rw [HFn.out, if_neg h2]
        have HFe := Lib.hid hff
        obtain ⟨fa, fc, hfv⟩ := own_slice HX.out.2.2.2.fo
        subst hfv
        obtain ⟨fl, hfl⟩ : ∃ a, f.funcs.length = a := ⟨_, rfl⟩
        have HFl := Lib.hid hfl
        have hn : ((fl : Int) == 128) = false := by simp; omega
        have hn2 : (fl == 128) = false := by simp; omega
        obtain ⟨i0, hi, hz0, hz1, hz2⟩ := info_parts infoFun
        clear h2 hff h128 hfl
        go_enter Tryz.func29, Tryz.ntmps29
        go_wp2_with fail
        refine (HNm.out _ (below_o _ _)).mono ?_
        rintro e w1 ⟨rfl, hb⟩
        have HW1 := Lib.hid (below_t (below_o w _) hb (below_o w _).size)
        have HX1 := Lib.hid (blk_on (heap_alloc_at (w := w) _ _ rfl) hb)
        clear hb
        obtain ⟨p0, p1, p2, p3, p4, _⟩ := five_cells HX1.out
        have hpl := (Array.getElem?_eq_some_iff.1 HX1.out).1
        obtain ⟨z0, z1, z2, z3, _⟩ := cells4 (HF.out w1 HW1.out).blk
        have hl := (Array.getElem?_eq_some_iff.1 (HF.out w1 HW1.out).blk).1
        rw [HFl.out] at z3
        go_wp2_with fail
        refine wp_region_still_tail 11 (by kernel_rfl) (by kernel_rfl) ?_
        simp only [List.take_succ_cons, List.take_zero, List.drop_succ_cons, List.drop_zero]
        change wpStill _ _ (w1.alloc (.cells #[.int .i64 0, .int .i64 (bi : Int), .string ⟨bt.toArray⟩] 49)).drew _ _ _
        have HW2 : Hid (Below w.heap.size w (w1.alloc (.cells #[.int .i64 0, .int .i64 (bi : Int), .string ⟨bt.toArray⟩] 49)).drew) := (below_t HW1.out (below_o w1 _) HW1.out.size).drew
        have HX2 : Hid ((w1.alloc (.cells #[.int .i64 0, .int .i64 (bi : Int), .string ⟨bt.toArray⟩] 49)).drew.heap[w.heap.size]? = some (.cells #[.int .i64 xat, .string ⟨xnm.toArray⟩, .string ⟨xty.toArray⟩, .slice pa xpl pc, .slice ba xbl bc] 45)) := blk_on HX1.out (below_o _ _).drew
        generalize hW : (w1.alloc (.cells #[.int .i64 0, .int .i64 (bi : Int), .string ⟨bt.toArray⟩] 49)).drew = W2 at HW2 HX2 ⊢
        have HW := Lib.hid hW
        clear p0 p1 p2 p3 p4 z0 z1 z2 z3 hl hpl hW
        obtain ⟨p0, p1, p2, p3, p4, _⟩ := five_cells HX2.out
        obtain ⟨z0, z1, z2, z3, _⟩ := cells4 (HF.out W2 HW2.out).blk
        rw [HFl.out] at z3
        repeat still_step
        refine wpStill_nil ?_
        change wpList _ _ _ _ _ (w1.alloc (.cells #[.int .i64 0, .int .i64 (bi : Int), .string ⟨bt.toArray⟩] 49)).drew
        rw [HW.out]
        go_wp2_with fail
        refine (HPu.out _ HW2.out ⟨2, fl, xty⟩).mono ?_
        rintro e w3 ⟨rfl, ⟨L', ov', h3⟩, hkc⟩
        have HX3 := Lib.hid ((hkc _ _ _ _ HX2.out (by decide) (by decide)).trans HX2.out)
        have HK3 := Lib.hid ((Kd.below HW2.out).trans hkc.kd)
        have H3 := Lib.hid h3
        have hfu : (f.put xnm ⟨2, fl, xty⟩).funcs = f.funcs := rfl
        clear p0 p1 p2 p3 p4 z0 z1 z2 z3 hkc
        obtain ⟨p0, p1, p2, p3, p4, _⟩ := five_cells HX3.out
        obtain ⟨z0, z1, z2, z3, zf⟩ := cells4 h3.blk
        have zf3 := zf 3
        have hl := (Array.getElem?_eq_some_iff.1 h3.blk).1
        rw [HFl.out] at z3
        clear h3 zf
        have HB5 := Lib.hid (below_o w3 (.cells #[.int .i64 xat, .string ⟨xnm.toArray⟩, .string ⟨xty.toArray⟩, .slice pa xpl pc, .slice ba xbl bc] 45)).drew
        have HA := Lib.hid (H3.out.next HB5.out)
        have HOr : Hid ((w3.alloc (.cells #[.int .i64 xat, .string ⟨xnm.toArray⟩, .string ⟨xty.toArray⟩, .slice pa xpl pc, .slice ba xbl bc] 45)).drew.ownsRow w0.heap.size 45 5 (.slice fa fl fc) fl css.flatten) := by
          have := HA.out.fo
          rw [show (f.put xnm ⟨2, fl, xty⟩).funcs = f.funcs from rfl, HFl.out] at this
          exact this
        have HNw : Hid (∀ (j : Nat) (u : Value), [Value.int .i64 xat, .string ⟨xnm.toArray⟩, .string ⟨xty.toArray⟩, .slice pa xpl pc, .slice ba xbl bc][j]? = some u → (w3.alloc (.cells #[.int .i64 xat, .string ⟨xnm.toArray⟩, .string ⟨xty.toArray⟩, .slice pa xpl pc, .slice ba xbl bc] 45)).drew.cell? ((⟨w3.heap.size, 0, none⟩ : Addr).add j) = some u) := fun j u hu =>
          World.news_of_block (heap_alloc_new w3 (.cells #[.int .i64 xat, .string ⟨xnm.toArray⟩, .string ⟨xty.toArray⟩, .slice pa xpl pc, .slice ba xbl bc] 45)) j u (by simpa using hu)
        have HVf : Hid (∀ w6, ((w3.alloc (.cells #[.int .i64 xat, .string ⟨xnm.toArray⟩, .string ⟨xty.toArray⟩, .slice pa xpl pc, .slice ba xbl bc] 45)).drew).grownBy w6 (Value.slice fa fl fc).ownBlock → w6.cell? ⟨Fb, 3, none⟩ = some (.slice fa fl fc) ∧ w6.frozen? ⟨Fb, 3, none⟩ = false ∧ Fb < w6.heap.size) := fun w6 hg => by
          have hob : (Value.slice fa fl fc).ownBlock ≠ some Fb := fun e => by
            obtain ⟨cur, hh⟩ := own_ty HOr.out e
            exact ne_ty hh HA.out.blk (by decide) rfl
          have hfl : Fb < ((w3.alloc (.cells #[.int .i64 xat, .string ⟨xnm.toArray⟩, .string ⟨xty.toArray⟩, .slice pa xpl pc, .slice ba xbl bc] 45)).drew).heap.size := (Array.getElem?_eq_some_iff.1 HA.out.blk).1
          have hc := cells4 HA.out.blk
          have h3 := hc.2.2.2.1
          rw [HFl.out] at h3
          exact ⟨(hg.cell_far ⟨Fb, 3, none⟩ hfl (Ne.symm hob)).trans h3, (hg.frozen_far ⟨Fb, 3, none⟩ hfl (Ne.symm hob)).trans (hc.2.2.2.2 3), Nat.lt_of_lt_of_le hfl hg.size⟩
        have HS3 : Hid (w0.heap.size ≤ w3.heap.size + 1) := by have := H3.out.bel.size; show _ ≤ _; omega
        have HFl1 : Hid (fl + 1 ≤ 1000001) := by have := HX.out.2.2.1; have := HFl.out; show _ ≤ _; omega
        go_wp2_with fail
        go_region_law (refine step_append_lies _ (by rfl) _ _ _ (by rfl) w0.heap.size 45 i0 _ 5 88 Tryz.underlying24 hi hz0 hz1 hz2 rfl (by decide) (.slice fa fl fc) fl css.flatten (by simp [Act.eval, Act.put]) (by exact HOr.out) ⟨w3.heap.size, 0, none⟩ 1 1 [.int .i64 xat, .string ⟨xnm.toArray⟩, .string ⟨xty.toArray⟩, .slice pa xpl pc, .slice ba xbl bc] (by simp [Act.eval, Act.put]) rfl (by exact HNw.out) (fn_one _ _ _ _ _) (by decide) (by have := HFl1.out; unfold maxLen; omega) (by have := HFl1.out; omega) (by have := HS3.out; simp; omega) (w3.heap.size + 1) (by simp) ?_
                       intro g6 cap6 w6 hown6 hgrow6 hat6 hlt6
                       obtain ⟨hv6, hf6, hl6⟩ := HVf.out w6 hgrow6)
        all_goals
          have HO := Lib.hid (HA.out.fapp (x := ⟨xat, xnm, xty, xps, xbo⟩) HX.out.1 (v := .slice (some ⟨g6, 0, none⟩) (fl + 1) cap6) (by
            show w6.ownsRow w0.heap.size 45 5 _ (f.funcs.length + 1) _
            rw [HFl.out]
            exact hown6) (by
            rw [ob_len fa f.funcs.length fl fc fc]
            exact hgrow6))
          have HK6 : Hid (Kd w (w6.setCell ⟨Fb, 3, none⟩ (.slice (some ⟨g6, 0, none⟩) (fl + 1) cap6))) := by
            have h6 : w6.heap[Fb]? = some (.cells #[_, _, _, _] 77) := (hgrow6.block Fb (Array.getElem?_eq_some_iff.1 HA.out.blk).1 (fun e => by
              obtain ⟨cur, hh⟩ := own_ty HOr.out e.symm
              exact ne_ty hh HA.out.blk (by decide) rfl)).trans HA.out.blk
            exact ((HK3.out.trans (Kd.below HB5.out)).trans (Kd.row HOr.out hgrow6)).trans (Kc.set h6 3 _).kd
          clear hown6 hgrow6 hat6 hlt6 hv6 hf6 hl6
          go_wp2_with fail
          go_ret
          rw [HFe.out, HFl.out]
          exact ⟨rfl, fun _ => ⟨L', ov', _, _, HO.out⟩, fun h => absurd rfl h, HK6.out⟩
    · have hne : (bk != 0) = true := by simpa using h0
      obtain rfl : fe = 6 := by rw [HE.out, if_neg h2, if_neg h0]
      clear h2 h0
      go_enter Tryz.func29, Tryz.ntmps29
      go_wp2_with fail
      refine (HNm.out _ (below_o _ _)).mono ?_
      rintro e w1 ⟨rfl, hb⟩
      have HW1 := Lib.hid (below_t (below_o w _) hb (below_o w _).size)
      have HX1 := Lib.hid (blk_on (heap_alloc_at (w := w) _ _ rfl) hb)
      clear hb
      obtain ⟨p0, p1, p2, p3, p4, _⟩ := five_cells HX1.out
      have hpl := (Array.getElem?_eq_some_iff.1 HX1.out).1
      obtain ⟨z0, z1, z2, z3, _⟩ := cells4 (HF.out w1 HW1.out).blk
      have hl := (Array.getElem?_eq_some_iff.1 (HF.out w1 HW1.out).blk).1
      go_wp2_with fail
      go_ret
      exact ⟨rfl, (fun h => by cases h), fun _ => below_t HW1.out (below_o _ _) HW1.out.size, Kd.below (below_t HW1.out (below_o _ _) HW1.out.size)⟩
end Go.Proofs.YtjadckhngalmlaaGreatDoor
