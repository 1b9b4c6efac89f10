/-
  The resolver, in the code: a function gone over.
-/
import Derived.Test.YtjadckhngalmlaaGreatDoorZNmRl
import Derived.Test.YtjadckhngalmlaaGreatDoorZNmPv
import Derived.Test.YtjadckhngalmlaaGreatDoorZNmOp
import Derived.Test.YtjadckhngalmlaaGreatDoorZTrWc
import Derived.Test.YtjadckhngalmlaaGreatDoorZNmCy
import Derived.Test.YtjadckhngalmlaaGreatDoorZNmBt
import Derived.Test.YtjadckhngalmlaaGreatDoorZNmGt
import Derived.Test.YtjadckhngalmlaaGreatDoorZNmRnd
import Derived.RangeFuncCalls
import Derived.StillTailTactics
namespace Go.Proofs.YtjadckhngalmlaaGreatDoor
set_option linter.unusedVariables false
set_option linter.unusedSimpArgs false
set_option maxRecDepth 100000
open Go.RowKit

theorem ck_gro {t : List NdT} (h : ckA wlB t = 0) : t.length ≤ 4096 ∧ ∃ ps, grow t = some ps := by
  unfold ckA at h
  by_cases h1 : 4096 < t.length
  · rw [if_pos h1] at h; cases h
  · rw [if_neg h1] at h
    by_cases h2 : goodB wlB t = true
    · obtain ⟨ps, fr, hg, _⟩ := good_parts h2 (by omega)
      exact ⟨by omega, ps, hg⟩
    · rw [if_neg h2] at h; cases h
/-- What came of a function, at any beginning. -/
def fnR (r : RsP) (x : FnP) (ps : List (List Nat)) : (Int × Nat) × RsP :=
  if (goP r x.params).1 = 0 then goN x.body (goP r x.params).2 (wkA ps) else ((x.at', (goP r x.params).1), (goP r x.params).2)
theorem rsA_eq (f : FlP) (x : FnP) (ps : List (List Nat)) : rsA f x ps = fnR (rs0 f x.body.length) x ps := rfl
theorem wk_deep (ps : List (List Nat)) : ∀ (f a d : Nat), ∀ x ∈ wk ps f a d, x.2 ≤ d + f
  | 0, a, d, x, hx => by cases hx
  | f + 1, a, d, x, hx => by
    have hx : x ∈ (a, d) :: ((ps[a]?).getD []).flatMap (fun q => wk ps f q (d + 1)) := hx
    rcases List.mem_cons.1 hx with rfl | hx
    · show d ≤ d + (f + 1)
      omega
    · obtain ⟨q, _, hq⟩ := List.mem_flatMap.1 hx
      have := wk_deep ps f q (d + 1) x hq
      omega
/-- None of a resolver's blocks is this one. -/
structure ApR (G : RsG) (L : List ScM) (sv uv : Value) (b : Nat) : Prop where
  r : G.R ≠ b
  d : G.BD ≠ b
  s : ∀ c ∈ L, c.X ≠ b ∧ c.M ≠ b
  sv : sv.ownBlock ≠ some b
  uv : uv.ownBlock ≠ some b
theorem RsM.ap_ge {G : RsG} {r : RsP} {p : Option Addr} {L : List ScM} {sv uv : Value} {K : Nat} {w : World} (h : RsM G r p L sv uv K w) {b : Nat} (hb : w.heap.size ≤ b) : ApR G L sv uv b := by
  refine ⟨fun e => ?_, fun e => ?_, fun c hc => ?_, fun e => ?_, fun e => ?_⟩
  · have := (Array.getElem?_eq_some_iff.1 h.blk).1
    omega
  · have := (Array.getElem?_eq_some_iff.1 h.bd).1
    omega
  · obtain ⟨⟨q, h1⟩, h2⟩ := h.sc.types c hc
    have h3 := (Array.getElem?_eq_some_iff.1 h1).1
    have h4 := h2.lt
    exact ⟨by omega, by omega⟩
  · have := (h.so.lt b e).2
    omega
  · have := (h.uo.lt b e).2
    omega
theorem RsM.ap_ctl {G : RsG} {r : RsP} {p : Option Addr} {L : List ScM} {sv uv : Value} {K : Nat} {w : World} (h : RsM G r p L sv uv K w) {b : Nat} {o : Obj} (ho : w.heap[b]? = some o) (hc : ctlB o = true) : ApR G L sv uv b := by
  have key : ∀ {x : Nat} {o' : Obj}, w.heap[x]? = some o' → ctlB o' = false → x ≠ b := fun h1 h2 e => by
    subst e
    rw [ho] at h1
    cases h1
    rw [hc] at h2
    cases h2
  refine ⟨key h.blk rfl, key h.bd rfl, fun c hc => ?_, fun e => ?_, fun e => ?_⟩
  · obtain ⟨⟨q, h1⟩, h2⟩ := h.sc.types c hc
    obtain ⟨es, cl, h3⟩ := h2.map
    exact ⟨key h1 rfl, key h3 rfl⟩
  · obtain ⟨cur, hh⟩ := own_ty h.so e
    exact key hh rfl rfl
  · obtain ⟨cur, hh⟩ := own_ty h.uo e
    exact key hh rfl rfl
theorem RsM.far {G : RsG} {r : RsP} {p : Option Addr} {L : List ScM} {sv uv : Value} {K : Nat} {w w' : World} (h : RsM G r p L sv uv K w) {b : Nat} (ha : ApR G L sv uv b) (hg : w.grownBy w' (some b)) : RsM G r p L sv uv K w' := by
  have key : ∀ {x : Nat} {o' : Obj}, w.heap[x]? = some o' → x ≠ b → w'.heap[x]? = some o' := fun h1 h2 =>
    (hg.block _ (Array.getElem?_eq_some_iff.1 h1).1 (fun e => by injection e with e; exact h2 e)).trans h1
  refine { h with blk := key h.blk ha.r, sc := ?_, so := ?_, bd := key h.bd ha.d, uo := ?_, zs := fun z hz => Nat.lt_of_lt_of_le (h.zs z hz) hg.size, bs := Nat.le_trans h.bs hg.size }
  · refine h.sc.same fun c hc => ?_
    obtain ⟨⟨q, h1⟩, h2⟩ := h.sc.types c hc
    exact ⟨hg.block c.X (Array.getElem?_eq_some_iff.1 h1).1 (fun e => by injection e with e; exact (ha.s c hc).1 e), hg.block c.M h2.lt (fun e => by injection e with e; exact (ha.s c hc).2 e)⟩
  · exact own_turn h.so hg fun k hk e => ha.sv (by rw [hk, e])
  · exact own_turn h.uo hg fun k hk e => ha.uv (by rw [hk, e])
theorem Kf.far {G : RsG} {a w w' : World} (h : Kf G a w) {b : Nat} (hg : w.grownBy w' (some b)) (hb : a.heap.size ≤ b) (hB : G.base ≤ b) (hs : G.base ≤ a.heap.size) (hZ : ∀ z, G.Z z → z < a.heap.size) : Kf G a w' := by
  refine ⟨h.bel.grown hg (Nat.le_trans hs h.size) (fun k e => by cases e; exact hB), fun i o hi ho => ?_, fun z hz => ?_⟩
  · have hl := (Array.getElem?_eq_some_iff.1 hi).1
    exact (hg.block i (Nat.lt_of_lt_of_le hl h.size) (fun e => by injection e with e; omega)).trans (h.ctl i o hi ho)
  · have hl := hZ z hz
    exact (hg.block z (Nat.lt_of_lt_of_le hl h.size) (fun e => by injection e with e; omega)).trans (h.zon z hz)
/-- A block of the step's own is written twice. -/
theorem Kf.two {G : RsG} {w W : World} (h : Kf G w W) (hZ : ∀ z, G.Z z → z < w.heap.size) (hB : G.base ≤ w.heap.size) {g : Nat} (hg : w.heap.size ≤ g) {x : Array Value} {T : TypeId} {fr : Nat × Nat} (ho : W.heap[g]? = some (.cells x T fr)) (a b : Value) : Kf G w ((W.setCell ⟨g, 0, none⟩ a).setCell ⟨g, 1, none⟩ b) :=
  h.trans (Kf.grown (fun z hz => Nat.lt_of_lt_of_le (hZ z hz) h.size) (Nat.le_trans hB h.size) ((grown_set W g 0 a).trans (grown_set _ g 1 b)) (Nat.le_trans hB hg) (fun hz => by have := hZ g hz; omega) ho rfl)
/-- What the walk over a function's nodes holds: so many rounds are done. -/
structure GnI (G : RsG) (t : List NdT) (r1 : RsP) (ps : List (List Nat)) (W0 : World) (K : Nat) (D : Nat) (pre : List (Nat × Nat)) (W : World) : Prop where
  rs : ∃ rr p L sv uv, RsM G rr p L sv uv (K + pre.length) W ∧ ApR G L sv uv (D + 1) ∧ rr.Wf t ∧ rr.slots.length ≤ 256 ∧ rr.uses.length ≤ r1.uses.length + pre.length ∧ (∀ l, pre ++ l = wkA ps → goN t r1 (wkA ps) = goN t rr l)
  kf : Kf G W0 W
/-- .. and where it is left ahead of its end. -/
structure GnX (G : RsG) (t : List NdT) (r1 : RsP) (ps : List (List Nat)) (W0 : World) (FB : Nat) (D : Nat) (T : TypeId) (W : World) : Prop where
  bx : ∃ (at' : Int) (e : Nat), e ≠ 0 ∧ (goN t r1 (wkA ps)).1 = (at', e) ∧ W.heap[FB]? = some (.cells #[.int .i64 at', .int .i64 (e : Int)] T)
  bel : Below G.base W0 W
  ctl : ∀ (b : Nat) (o : Obj), W0.heap[b]? = some o → ctlB o = true → W.heap[b]? = some o
  zon : ∀ b, G.Z b → b ≠ FB → W.heap[b]? = W0.heap[b]?
theorem GnI.own {G : RsG} {t : List NdT} {r1 : RsP} {ps : List (List Nat)} {W0 : World} {K D : Nat} (hD : W0.heap.size ≤ D) (hs : G.base ≤ W0.heap.size) (hZ : ∀ z, G.Z z → z < W0.heap.size) : LpOwn D (fun pre W => GnI G t r1 ps W0 K D pre W) := by
  rintro xs W W' ⟨⟨rr, p, L, sv, uv, h1, h2, h3⟩, hk⟩ hg
  exact ⟨⟨rr, p, L, sv, uv, h1.far h2 hg, h2, h3⟩, hk.far hg (by omega) (by omega) hs hZ⟩
theorem GnX.own {G : RsG} {t : List NdT} {r1 : RsP} {ps : List (List Nat)} {W0 : World} {FB D : Nat} {T : TypeId} (hD : W0.heap.size ≤ D) (hs : G.base ≤ W0.heap.size) (hF : FB < W0.heap.size) (hZ : ∀ z, G.Z z → z < W0.heap.size) {W W' : World} (h : GnX G t r1 ps W0 FB D T W) (hg : W.grownBy W' (some (D + 1))) : GnX G t r1 ps W0 FB D T W' := by
  obtain ⟨⟨at', e, h1, h2, h3⟩, hb, hc, hz⟩ := h
  have hsz := hb.size
  refine ⟨⟨at', e, h1, h2, (hg.block FB (by omega) (fun e => by injection e with e; omega)).trans h3⟩, hb.grown hg (by omega) (fun k e => by cases e; omega), fun b o hb2 ho => ?_, fun b hz2 hne => ?_⟩
  · have hl := (Array.getElem?_eq_some_iff.1 hb2).1
    exact (hg.block b (by omega) (fun e => by injection e with e; omega)).trans (hc b o hb2 ho)
  · have hl := hZ b hz2
    exact (hg.block b (by omega) (fun e => by injection e with e; omega)).trans (hz b hz2 hne)
theorem GnX.fin {G G3 : RsG} {t : List NdT} {r1 : RsP} {ps : List (List Nat)} {w W0 W : World} {FB D0 D : Nat} {T : TypeId} (h : GnX G3 t r1 ps W0 FB D0 T W) (h0 : Kf G w W0) (hb : G3.base = G.base) (hz : ∀ b, G.Z b → G3.Z b) (hZ : ∀ b, G.Z b → b < w.heap.size) (hF : w.heap.size ≤ FB) (hD : w.heap.size ≤ D) (hB : G.base ≤ w.heap.size) (o : Obj) : Kf G w (W.putObj D o) := by
  have h1 : Kf G w W := by
    refine ⟨h0.bel.trans (by rw [← hb]; exact h.bel), fun b o hb2 ho => h.ctl b o (h0.ctl b o hb2 ho) ho, fun b hb2 => ?_⟩
    have := hZ b hb2
    exact (h.zon b (hz b hb2) (by omega)).trans (h0.zon b hb2)
  exact h1.far (grownBy_putObj' W D o) hD (by omega) hB hZ
theorem goN_step (t : List NdT) (r : RsP) (i d : Nat) (l : List (Nat × Nat)) : goN t r ((i, d) :: l) = if noE (r.leave d) (t.getD i nd0) i d = 0 then goN t (noF (r.leave d) (t.getD i nd0) i d) l else (((t.getD i nd0).at', noE (r.leave d) (t.getD i nd0) i d), r) := rfl
/-- What is left of a walk when one more round is done. -/
theorem GnI.step {G : RsG} {t : List NdT} {r1 : RsP} {ps : List (List Nat)} {W0 W W2 : World} {K D : Nat} {pre : List (Nat × Nat)} {i d : Nat} {rr : RsP} (hk : Kf G W0 W) (hwf : rr.Wf t) (h256 : rr.slots.length ≤ 256) (hus : rr.uses.length ≤ r1.uses.length + pre.length) (hgo : ∀ l, pre ++ l = wkA ps → goN t r1 (wkA ps) = goN t rr l) (hd : 0 < d) (he : noE (rr.leave d) (t.getD i nd0) i d = 0)
    {p : Option Addr} {L : List ScM} {sv uv : Value} (hR : RsM G (noF (rr.leave d) (t.getD i nd0) i d) p L sv uv (K + pre.length + 1) W2) (hk2 : Kf G W W2) {o : Obj} (ho : W2.heap[D + 1]? = some o) (hc : ctlB o = true) : GnI G t r1 ps W0 K D (pre ++ [(i, d)]) W2 := by
  obtain ⟨a1, a2, a3, a4, a5⟩ := (hwf.lv hd).node he (show (rr.leave d).slots.length ≤ 256 from h256)
  refine ⟨⟨_, p, L, sv, uv, ?_, hR.ap_ctl ho hc, a1, a3, ?_, fun l hl => ?_⟩, hk.trans hk2⟩
  · rw [List.length_append, List.length_singleton]
    exact hR
  · rw [List.length_append, List.length_singleton]
    have : (rr.leave d).uses.length = rr.uses.length := rfl
    omega
  · rw [hgo ((i, d) :: l) (by rw [← hl]; simp), goN_step, if_pos he]
end Go.Proofs.YtjadckhngalmlaaGreatDoor
namespace Go.Proofs.YtjadckhngalmlaaGreatDoor
set_option linter.unusedVariables false
set_option linter.unusedSimpArgs false
set_option maxRecDepth 100000
open Go.RowKit
attribute [local go_sem] Oper.semAt_some

/-- Parameters, gone over one by one. -/
theorem goP_step {r : RsP} {l : List VarP} {q : Nat} {v : VarP} (hv : l[q]? = some v) : goP r (l.drop q) = if hasP r.sc v.name = true then (6, r) else goP (r.slot ⟨v.name, v.type, v.vol, true⟩ (-1)) (l.drop (q + 1)) := by
  obtain ⟨h1, e1⟩ := List.getElem?_eq_some_iff.1 hv
  rw [List.drop_eq_getElem_cons h1, e1]
  rfl
set_option maxHeartbeats 8000000 in
theorem c_rFunction (B : Nat) (G : RsG) {r : RsP} {p : Option Addr} {L : List ScM} {sv uv : Value} {K : Nat} (x : FnP) (pa : Option Addr) (pc : Nat) (ba : Option Addr) (bc : Nat) (w0 w : World)
    (hE : Env B w) (hB : B ≤ w0.heap.size) (h : RsM G r p L sv uv K w) (hK : K ≤ 1000000) (h0 : w0.heap.size ≤ G.base) (hb0 : Below w0.heap.size w0 w)
    (hV : VrIn x.params pa w0) (hT : TrIn x.body ba w0) (hx : FnOk x) (hp8 : x.params.length ≤ 8) (hN : G.N = x.body.length) (hck : ckA wlB x.body = 0) (ps : List (List Nat)) (hg : grow x.body = some ps) (hwf : r.Wf x.body) (hs0 : r.slots.length = 0) (hu0 : r.uses.length = 0) :
    Calls Tryz.prog 25 #[.pointer (some ⟨G.R, 0, none⟩), .agg #[.int .i64 x.at', nmS x.name, nmS x.type, .slice pa x.params.length pc, .slice ba x.body.length bc]] w
      fun e w' => e = .returned (faV (fnR r x ps).1.1 ((fnR r x ps).1.2 : Nat)) ∧ ((fnR r x ps).1.2 = 0 → ∃ p' L' sv' uv' K', RsM G (fnR r x ps).2 p' L' sv' uv' K' w') ∧ Kf G w w' := by
  have hN4 := (ck_gro hck).1
  obtain ⟨PL, hPL⟩ : ∃ n, x.params.length = n := ⟨_, rfl⟩
  obtain ⟨BL, hBL⟩ : ∃ n, x.body.length = n := ⟨_, rfl⟩
  have HW := Lib.hid (And.intro hE (And.intro hB (And.intro h (And.intro hK (And.intro h0 hb0)))))
  have HX := Lib.hid (And.intro hV (And.intro hT (And.intro hx (And.intro hN (And.intro hck (And.intro hg (And.intro hwf (And.intro hs0 hu0))))))))
  have HL : Hid (x.params.length = PL ∧ x.body.length = BL ∧ PL ≤ 8 ∧ BL ≤ 4096) := ⟨hPL, hBL, by omega, by omega⟩
  obtain ⟨ra, hra⟩ : ∃ a, fnR r x ps = a := ⟨_, rfl⟩
  have HV := Lib.hid hra
  rw [hPL, hBL, hra]
  obtain ⟨xat, hxat⟩ : ∃ a, x.at' = a := ⟨_, rfl⟩
  obtain ⟨xnm, hxnm⟩ : ∃ a, x.name = a := ⟨_, rfl⟩
  obtain ⟨xty, hxty⟩ : ∃ a, x.type = a := ⟨_, rfl⟩
  have HXat := Lib.hid hxat
  rw [hxat, hxnm, hxty]
  clear hE hB h hK h0 hb0 hV hT hx hp8 hN hck hg hwf hs0 hu0 hN4 hPL hBL hra hxat hxnm hxty
  refine callsIn_wide (n := 5) |>.1 ?_
  refine callsIn_of_wp_marks Tryz.func25 rfl trivial ?_ rfl
  refine wpIn_wide.2 ?_
  simp only [Tryz.ntmps25, List.size_toArray, List.length_cons, List.length_nil, Nat.reduceAdd, Nat.reduceSub, Array.replicate_succ, Array.replicate_zero, List.push_toArray, List.append_toArray, List.nil_append, List.cons_append]
  go_wp2_with fail
  have hb1 : Below w.heap.size w (((w.alloc (.cells #[.pointer (some ⟨G.R, 0, none⟩)] 67)).alloc (.cells #[.int .i64 xat, nmS xnm, nmS xty, .slice pa PL pc, .slice ba BL bc] 45)).alloc (.cells #[.int .i64 0, .int .i64 0] 32)) := below_t (below_t (below_o _ _) (below_o _ _) (by simp)) (below_o _ _) (by simp; omega)
  have hx0 := blk_on (blk_on (heap_alloc_at (w := w) (.cells #[.pointer (some ⟨G.R, 0, none⟩)] 67) _ rfl) (below_o _ (.cells #[.int .i64 xat, nmS xnm, nmS xty, .slice pa PL pc, .slice ba BL bc] 45))) (below_o _ (.cells #[.int .i64 0, .int .i64 0] 32))
  have hx1 := blk_on (heap_alloc_at (w := w.alloc (.cells #[.pointer (some ⟨G.R, 0, none⟩)] 67)) (.cells #[.int .i64 xat, nmS xnm, nmS xty, .slice pa PL pc, .slice ba BL bc] 45) (w.heap.size + 1) (by simp)) (below_o _ (.cells #[.int .i64 0, .int .i64 0] 32))
  have hx2 := heap_alloc_at (w := (w.alloc (.cells #[.pointer (some ⟨G.R, 0, none⟩)] 67)).alloc (.cells #[.int .i64 xat, nmS xnm, nmS xty, .slice pa PL pc, .slice ba BL bc] 45)) (.cells #[.int .i64 0, .int .i64 0] 32) (w.heap.size + 1 + 1) (by simp)
  obtain ⟨w1, hw1⟩ : ∃ w1, ((w.alloc (.cells #[.pointer (some ⟨G.R, 0, none⟩)] 67)).alloc (.cells #[.int .i64 xat, nmS xnm, nmS xty, .slice pa PL pc, .slice ba BL bc] 45)).alloc (.cells #[.int .i64 0, .int .i64 0] 32) = w1 := ⟨_, rfl⟩
  have hs1 : w1.heap.size = w.heap.size + 1 + 1 + 1 := by rw [← hw1]; simp
  rw [hw1] at hb1 hx0 hx1 hx2 ⊢
  obtain ⟨SB, hSB⟩ : ∃ n, w.heap.size = n := ⟨_, rfl⟩
  obtain ⟨XB, hXB⟩ : ∃ n, SB + 1 = n := ⟨_, rfl⟩
  obtain ⟨FB, hFB⟩ : ∃ n, XB + 1 = n := ⟨_, rfl⟩
  have HR1 := Lib.hid (HW.out.2.2.1.span hb1 (lo := w.heap.size) (hi := w1.heap.size) (Nat.le_refl _) (Nat.le_refl _))
  have HB1 : Hid (Below w.heap.size w w1) := hb1
  rw [hSB, hXB, hFB] at hs1
  have HS : Hid (w.heap.size = SB ∧ SB + 1 = XB ∧ XB + 1 = FB ∧ w1.heap.size = FB + 1) := ⟨hSB, hXB, hFB, hs1⟩
  rw [hSB] at hx0 hx1 hx2 HR1 ⊢
  rw [hXB] at hx1 hx2 ⊢
  rw [hFB] at hx2 ⊢
  have HBx : Hid (w1.heap[SB]? = some (.cells #[.pointer (some ⟨G.R, 0, none⟩)] 67) ∧ w1.heap[XB]? = some (.cells #[.int .i64 xat, nmS xnm, nmS xty, .slice pa PL pc, .slice ba BL bc] 45) ∧ w1.heap[FB]? = some (.cells #[.int .i64 0, .int .i64 0] 32)) := ⟨hx0, hx1, hx2⟩
  obtain ⟨G1, hG1⟩ : ∃ g, G.span SB w1.heap.size = g := ⟨_, rfl⟩
  rw [hG1] at HR1
  have HG1 := Lib.hid hG1
  have hG1R : G1.R = G.R := by rw [← hG1]; rfl
  have hG1N : G1.N = G.N := by rw [← hG1]; rfl
  have hG1b : G1.base = G.base := by rw [← hG1]; rfl
  have hG1z : ∀ b, SB ≤ b → b < FB + 1 → G1.Z b := fun b h1 h2 => by rw [← hG1]; exact .inr ⟨h1, by rw [hs1]; exact h2⟩
  have HGe : Hid (G1.R = G.R ∧ G1.N = G.N ∧ G1.base = G.base ∧ ∀ b, SB ≤ b → b < FB + 1 → G1.Z b) := ⟨hG1R, hG1N, hG1b, hG1z⟩
  have HKG : Hid (∀ a b, Kf G1 a b → Kf G a b) := fun a b h => by rw [← hG1] at h; exact h.slims
  have HK1 : Hid (Kf G w w1) := HW.out.2.2.1.kf hb1
  clear hb1 hx0 hx1 hx2 hw1 hs1 hSB hXB hFB hG1 hG1R hG1N hG1b hG1z
  have HR2 : Hid (∃ rq p L sv uv Kq, RsM G1 rq p L sv uv Kq w1 ∧ Kf G1 w1 w1 ∧ goP r x.params = goP rq (x.params.drop 0) ∧ rq.slots.length = 0 ∧ rq.uses.length = 0 ∧ rq.Wf x.body ∧ Kq ≤ 1000000 + 0) := ⟨r, p, L, sv, uv, K, HR1.out, Kf.refl _ _, rfl, HX.out.2.2.2.2.2.2.2.1, HX.out.2.2.2.2.2.2.2.2, HX.out.2.2.2.2.2.2.1, HW.out.2.2.2.1⟩
  go_loopg [15] PL (fun g v15 wr => ∃ q : Nat, q + g = PL ∧ v15 = .int .i64 (q : Int) ∧ Hid (∃ rq p L sv uv Kq, RsM G1 rq p L sv uv Kq wr ∧ Kf G1 w1 wr ∧ goP r x.params = goP rq (x.params.drop q) ∧ rq.slots.length = q ∧ rq.uses.length = 0 ∧ rq.Wf x.body ∧ Kq ≤ 1000000 + q))
  case atStart => exact ⟨0, by omega, rfl, HR2.out⟩
  case round =>
    obtain ⟨q, hq, rfl, HRl⟩ := hrel
    obtain ⟨rq, p', L', sv', uv', Kq, hR, hK, hgo, hsl, hus, hwf, hKq⟩ := HRl.out
    have HR := Lib.hid (And.intro hR hK)
    have HQ := Lib.hid (And.intro hgo (And.intro hsl (And.intro hus (And.intro hwf hKq))))
    have hbx0 := (hK.zon SB (HGe.out.2.2.2 SB (Nat.le_refl _) (by have := HS.out; omega))).trans HBx.out.1
    have hbx1 := (hK.zon XB (HGe.out.2.2.2 XB (by have := HS.out; omega) (by have := HS.out; omega))).trans HBx.out.2.1
    have hbx2 := (hK.zon FB (HGe.out.2.2.2 FB (by have := HS.out; omega) (by have := HS.out; omega))).trans HBx.out.2.2
    have HBr := Lib.hid (And.intro hbx0 (And.intro hbx1 hbx2))
    clear hR hK hgo hsl hus hwf hKq HRl hbx0 hbx1 hbx2
    by_cases hlt : q < PL
    · have hd : decide ((q : Int) < (PL : Int)) = true := by simp; omega
      obtain ⟨v, hv⟩ : ∃ v, x.params[q]? = some v := ⟨_, List.getElem?_eq_getElem (by have := HL.out.1; omega)⟩
      obtain ⟨gb, go, hga, hgb, hgr⟩ := HX.out.1 (by have := HL.out.1; omega)
      obtain ⟨cs, rfl, hcs⟩ := hgr q v hv
      have hbw : Below w0.heap.size w0 wr := (HW.out.2.2.2.2.2.trans (HB1.out.mono HW.out.2.2.2.2.2.size)).trans (HR.out.2.bel.mono (by rw [HGe.out.2.2.1]; exact HW.out.2.2.2.2.1))
      have e := hbw.block gb hgb
      have c0 := (blk_cell e _).trans (hcs 0 _ rfl)
      have c1 := (blk_cell e _).trans (hcs 1 _ rfl)
      have c2 := (blk_cell e _).trans (hcs 2 _ rfl)
      rw [Nat.add_zero] at c0
      have hgl : gb < wr.heap.size := Nat.lt_of_lt_of_le hgb hbw.size
      have hvo := (HX.out.2.2.1.2.2.1) v (List.mem_of_getElem? hv)
      have HST := Lib.hid (goP_step (r := rq) hv)
      have hq0 : (0 : Int) ≤ (q : Int) := by omega
      have hql : (q : Int) < (PL : Int) := by omega
      have hwm : IntKind.i64.wrap ((q : Int) + 1) = ((q + 1 : Nat) : Int) := by rw [IntKind.wrap_i64]; have := HL.out; omega
      have HM : Hid (PL - (q + 1) < gk ∧ q + 1 + (PL - (q + 1)) = PL) := ⟨by omega, by omega⟩
      obtain ⟨c, L', rfl⟩ : ∃ c l, L' = c :: l := by
        cases L' with
        | nil => exact absurd rfl HR.out.1.ne
        | cons c l => exact ⟨c, l, rfl⟩
      obtain ⟨hp, ⟨qa, hX, hs⟩, hM⟩ := HR.out.1.sc
      subst hp
      have HH := Lib.hid (fun w' (hb : Below wr.heap.size wr w') => c_has c.X c.M c.n c.s.depth qa c.s.m v.name hvo.1 w' (blk_on hX hb) (hM.next hb))
      have HEq : Hid (hasP rq.sc v.name = (c.s.m v.name).isSome) := by rw [← HR.out.1.le]; exact Lib.hid rfl
      obtain ⟨hv1, hhv⟩ : ∃ b, (c.s.m v.name).isSome = b := ⟨_, rfl⟩
      rw [hhv] at HH HEq
      have HSl := Lib.hid (fun w' (hb : Below wr.heap.size wr w') => c_rSlot G1 ⟨v.name, v.type, v.vol, true⟩ hvo (-1) w' (HR.out.1.next hb) (by have := HQ.out.2.2.2.2; have := HL.out; omega) (by have := HQ.out.2.1; have := HL.out; omega))
      subst hga
      obtain ⟨vn, vt, vv⟩ := v
      simp only at HH HSl HST HEq c0 c1 c2
      rw [HGe.out.1] at HSl
      obtain ⟨b0, bf0, _⟩ : ∃ x y, True := ⟨0, 0, trivial⟩
      have z0 : wr.cell? ⟨SB, 0, none⟩ = some (.pointer (some ⟨G.R, 0, none⟩)) := by rw [Lib.cell_of_heap HBr.out.1]; rfl
      have hzl := (Array.getElem?_eq_some_iff.1 HBr.out.1).1
      have hR0 := HR.out.1.blk
      rw [HGe.out.1] at hR0
      obtain ⟨r0, r1, r2, r3, _⟩ := cells4 hR0
      have hrl := (Array.getElem?_eq_some_iff.1 hR0).1
      have HCl := Lib.hid (And.intro hX hM)
      clear hR0 hX hM hs hv hgr hcs hlt hq hhv hvo e hbw b0 bf0
      go_wp2_with fail
      obtain ⟨w2, hw2⟩ : ∃ w2, wr.alloc (.cells #[nmS vn, nmS vt, .bool vv] 58) = w2 := ⟨_, rfl⟩
      have hb2 : Below wr.heap.size wr w2 := by rw [← hw2]; exact below_o _ _
      have hv2 : w2.heap[wr.heap.size]? = some (.cells #[nmS vn, nmS vt, .bool vv] 58) := by rw [← hw2]; exact heap_alloc_at _ _ rfl
      rw [hw2]
      obtain ⟨VB, hVB⟩ : ∃ n, wr.heap.size = n := ⟨_, rfl⟩
      have HVB := Lib.hid hVB
      rw [hVB] at hv2 ⊢
      have HB2 := Lib.hid hb2.drew
      have HV2 := Lib.hid (blk_on hv2 (Below.refl _ w2).drew)
      clear hw2 hb2 hv2 hVB z0 r0 r1 r2 r3 c0 c1 c2 hzl hrl hgl
      obtain ⟨r0, r1, r2, r3, _⟩ := cells4 (blk_on (by have := HR.out.1.blk; rw [HGe.out.1] at this; exact this) HB2.out : w2.drew.heap[G.R]? = _)
      have hrl := (Array.getElem?_eq_some_iff.1 (HR.out.1.next HB2.out).blk).1
      rw [HGe.out.1] at hrl
      have z0 : w2.drew.cell? ⟨SB, 0, none⟩ = some (.pointer (some ⟨G.R, 0, none⟩)) := by rw [Lib.cell_of_heap (blk_on HBr.out.1 HB2.out)]; rfl
      obtain ⟨x0, x1, x2, _⟩ := cells3 HV2.out
      have hxl := (Array.getElem?_eq_some_iff.1 HV2.out).1
      refine wp_region_still_tail 6 (by kernel_rfl) (by kernel_rfl) ?_
      simp only [List.take_succ_cons, List.take_zero, List.drop_succ_cons, List.drop_zero]
      change wpStill _ _ w2.drew _ _ _
      generalize hW : w2.drew = W2 at z0 r0 r1 r2 r3 hrl x0 x1 x2 hxl HB2 HV2 ⊢
      have HW2 := Lib.hid hW
      clear hW
      repeat still_step
      refine wpStill_nil ?_
      change wpList _ _ _ _ _ w2.drew
      rw [HW2.out]
      go_wp2_with fail
      refine (HH.out W2 HB2.out).mono ?_
      rintro e w3 ⟨rfl, hb3⟩
      have HB3 := Lib.hid (below_t HB2.out hb3 HB2.out.size)
      have HV3 := Lib.hid (blk_on HV2.out hb3)
      clear hb3 z0 r0 r1 r2 r3 hrl x0 x1 x2 hxl HW2
      have z0 : w3.cell? ⟨SB, 0, none⟩ = some (.pointer (some ⟨G.R, 0, none⟩)) := by rw [Lib.cell_of_heap (blk_on HBr.out.1 HB3.out)]; rfl
      have y0 : w3.cell? ⟨XB, 0, none⟩ = some (.int .i64 xat) := by rw [Lib.cell_of_heap (blk_on HBr.out.2.1 HB3.out)]; rfl
      have hf3 := blk_on HBr.out.2.2 HB3.out
      obtain ⟨f0, f1, ff⟩ := two_cells hf3
      have ff0 := ff 0
      have ff1 := ff 1
      have hfl := (Array.getElem?_eq_some_iff.1 hf3).1
      obtain ⟨x0, x1, x2, _⟩ := cells3 HV3.out
      have HF3 := Lib.hid hf3
      clear ff hf3
      cases hv1
      · have HS4 := Lib.hid (HSl.out w3 HB3.out)
        clear HSl
        go_wp2_with fail
        refine HS4.out.mono ?_
        rintro e w4 ⟨rfl, ⟨c', sv4, hR4⟩, hK4⟩
        have HK4 : Hid (Kf G1 w1 w4) := (HR.out.2.trans (HR.out.1.kf HB3.out)).trans hK4
        have HN4 : Hid (∃ rq p L sv uv Kq, RsM G1 rq p L sv uv Kq w4 ∧ Kf G1 w1 w4 ∧ goP r x.params = goP rq (x.params.drop (q + 1)) ∧ rq.slots.length = q + 1 ∧ rq.uses.length = 0 ∧ rq.Wf x.body ∧ Kq ≤ 1000000 + (q + 1)) :=
          ⟨_, _, _, _, _, _, hR4, HK4.out, by rw [HQ.out.1, HST.out, if_neg (by rw [HEq.out]; simp)], by show (rq.slots ++ [_]).length = _; simp; exact HQ.out.2.1, HQ.out.2.2.1, HQ.out.2.2.2.1.slot _ _, by have := HQ.out.2.2.2.2; omega⟩
        clear hR4 hK4 z0 y0 f0 f1 ff0 ff1 hfl x0 x1 x2
        go_wp2_with fail
        go_roundg (PL - (q + 1))
        case measure => exact HM.out.1
        case rel => exact ⟨q + 1, HM.out.2, rfl, HN4.out⟩
      · go_wp2_with fail
        have hz9 := two_put HF3.out (.int .i64 xat) (.int .i64 6)
        have hK9 := (HK1.out.trans (HKG.out _ _ (HR.out.2.trans (HR.out.1.kf HB3.out)))).two HW.out.2.2.1.zs HW.out.2.2.1.bs (show w.heap.size ≤ FB by have := HS.out; omega) HF3.out (.int .i64 xat) (.int .i64 6)
        generalize (w3.setCell ⟨FB, 0, none⟩ (.int .i64 xat)).setCell ⟨FB, 1, none⟩ (.int .i64 6) = w9 at hz9 hK9 ⊢
        obtain ⟨p0, p1, _⟩ := two_cells hz9
        have hgp : (goP r x.params).1 = 6 := by rw [HQ.out.1, HST.out, if_pos (by rw [HEq.out])]
        have hra : ra.1 = (xat, 6) := by
          rw [← HV.out]
          unfold fnR
          rw [if_neg (by rw [hgp]; decide), hgp, HXat.out]
        refine ⟨faV xat 6, by simp [results, Tryz.results25, go_sem, p0, p1], ?_⟩
        rw [hra]
        exact ⟨rfl, (fun h => by cases h), hK9⟩
    · obtain rfl : q = PL := by omega
      have hd : decide ((q : Int) < (q : Int)) = false := by simp
      have z0 : wr.cell? ⟨XB, 4, none⟩ = some (.slice ba BL bc) := by rw [Lib.cell_of_heap HBr.out.2.1]; rfl
      have hbw : Below w0.heap.size w0 wr := (HW.out.2.2.2.2.2.trans (HB1.out.mono HW.out.2.2.2.2.2.size)).trans (HR.out.2.bel.mono (by rw [HGe.out.2.2.1]; exact HW.out.2.2.2.2.1))
      have hKw : Kf G w wr := HK1.out.trans (HKG.out _ _ HR.out.2)
      have hWa := c_tWalk B x.body ba bc wr (HW.out.1.next (hKw.bel.mono (Nat.le_trans HW.out.2.1 HW.out.2.2.2.2.1))) (Nat.le_trans HW.out.2.1 hbw.size) HX.out.2.2.1.2.2.2.2.1 (HX.out.2.1.next hbw)
      rw [HL.out.2.1] at hWa
      have HWa := Lib.hid hWa
      have HBw := Lib.hid hbw
      have HKw := Lib.hid hKw
      clear hWa hbw hKw
      go_wp2_with fail
      refine HWa.out.mono ?_
      rintro e w6 ⟨hrd, hb6⟩
      obtain ⟨P, rfl, hPt, hP⟩ : ∃ P, e = .returned (.tuple #[.func (.func 47) #[.slice (some ⟨P, 0, none⟩) BL BL] #[], .int .i64 0]) ∧ PtIn (fun b => wr.heap.size ≤ b) ps P w6 ∧ wr.heap.size ≤ P := by
        rcases hrd with ⟨_, _, P, ps', h1, h2, h3, h4⟩ | ⟨h, _⟩
        · rw [HX.out.2.2.2.2.2.1] at h1
          obtain rfl := Option.some.inj h1
          exact ⟨P, by rw [h2, HL.out.2.1], h3, h4⟩
        · exact absurd HX.out.2.2.2.2.1 h
      have HP := Lib.hid (And.intro hPt hP)
      have HB6 := Lib.hid hb6
      clear hrd hPt hP hb6 HWa
      go_wp2_with fail
      have hR6 := HR.out.1.span HB6.out (lo := wr.heap.size) (hi := w6.heap.size) (Nat.le_refl _) (Nat.le_refl _)
      obtain ⟨G3, hG3⟩ : ∃ g, G1.span wr.heap.size w6.heap.size = g := ⟨_, rfl⟩
      rw [hG3] at hR6
      have HG3 : Hid (G3.R = G.R ∧ G3.N = G.N ∧ G3.base = G.base ∧ (∀ b, SB ≤ b → b < FB + 1 → G3.Z b) ∧ (∀ b, wr.heap.size ≤ b → b < w6.heap.size → G3.Z b) ∧ (∀ b, G.Z b → G3.Z b) ∧ (∀ a b, Kf G3 a b → Kf G a b) ∧ ∀ r p L sv uv K w, RsM G3 r p L sv uv K w → RsM G r p L sv uv K w) := by
        obtain ⟨e1, e2, e3, e4⟩ := HGe.out
        refine ⟨by rw [← hG3]; exact e1, by rw [← hG3]; exact e2, by rw [← hG3]; exact e3, fun b h1 h2 => by rw [← hG3]; exact .inl (e4 b h1 h2), fun b h1 h2 => by rw [← hG3]; exact .inr ⟨h1, h2⟩, fun b hz => by rw [← hG3, ← HG1.out]; exact .inl (.inl hz), fun a b h => ?_, fun r p L sv uv K w h => ?_⟩
        · rw [← hG3] at h
          exact HKG.out a b h.slims
        · rw [← hG3, ← HG1.out] at h
          exact h.slims.slims
      have HR6 := Lib.hid hR6
      have HK6 : Hid (Kf G w w6) := HKw.out.trans (HKG.out _ _ (HR.out.1.kf HB6.out))
      have HBx6 : Hid (w6.heap[SB]? = some (.cells #[.pointer (some ⟨G.R, 0, none⟩)] 67) ∧ w6.heap[XB]? = some (.cells #[.int .i64 xat, nmS xnm, nmS xty, .slice pa q pc, .slice ba BL bc] 45) ∧ w6.heap[FB]? = some (.cells #[.int .i64 0, .int .i64 0] 32)) := ⟨blk_on HBr.out.1 HB6.out, blk_on HBr.out.2.1 HB6.out, blk_on HBr.out.2.2 HB6.out⟩
      have HBw6 : Hid (Below w0.heap.size w0 w6) := HBw.out.trans (HB6.out.mono HBw.out.size)
      have HGn : Hid (ra = goN x.body rq (wkA ps)) := by
        have h1 : goP r x.params = (0, rq) := by
          rw [HQ.out.1, List.drop_eq_nil_of_le (by rw [HL.out.1]; exact Nat.le_refl _)]
          rfl
        show _ = _
        rw [← HV.out]
        unfold fnR
        rw [h1, if_pos rfl]
      obtain ⟨hkps, hN0, hwl, hwm, _⟩ := KpsOk.of_grow HX.out.2.2.2.2.2.1 (by have := HL.out; omega)
      obtain ⟨_, _, hwd, _⟩ := wkA_once HX.out.2.2.2.2.2.1 (by have := HL.out; omega)
      have HWk := Lib.hid (And.intro hwl (And.intro hwm hwd))
      rw [HL.out.2.1] at hkps hN0
      have hPZ : PtZ G3.Z ps P w6 := ⟨HG3.out.2.2.2.2.1 P HP.out.2 HP.out.1.lt, HP.out.1.mono (Nat.le_refl _) rfl fun b hS hlt => ⟨HG3.out.2.2.2.2.1 b hS hlt, rfl⟩⟩
      have hgo := all_nz Fence.wide rfl trivial trivial rfl G3.Z 4 BL P ps hkps hN0 w6 HR6.out.zs hPZ
      have HFB : Hid (FB < w6.heap.size ∧ G.base ≤ w6.heap.size) := ⟨(Array.getElem?_eq_some_iff.1 HBx6.out.2.2).1, by rw [← HG3.out.2.2.1]; exact HR6.out.bs⟩
      clear hkps hN0 hwl hwm hwd hPZ hR6 hG3
      refine (wpIn_wide (n := 5)).1 ?_
      refine range_nz rfl rfl (gf := 47) (bd := .slice (some ⟨P, 0, none⟩) BL BL) rfl trivial (enters_of Tryz.func47 (by kernel_rfl) rfl) HR6.out.zs hgo (fun x => rfl)
        (fun pre W => GnI G3 x.body rq ps w6 Kq w6.heap.size pre W) (fun c pre W => c = .ret ∧ GnX G3 x.body rq ps w6 FB w6.heap.size 32 W)
        (GnI.own (Nat.le_refl _) HR6.out.bs HR6.out.zs) (fun c xs W W' h hg => ⟨h.1, h.2.own (Nat.le_refl _) HR6.out.bs HFB.out.1 HR6.out.zs hg⟩)
        ⟨⟨rq, _, _, _, _, by simpa using HR6.out, HR6.out.ap_ge (Nat.le_succ _), HQ.out.2.2.2.1, by have := HQ.out.2.1; have := HL.out; omega, by simp, fun l hl => by rw [← hl]; rfl⟩, Kf.refl _ _⟩ _ (by
          intro l x W K hK
          gi_wp2
          exact hK) ?body ?done ?stop
      case body =>
        rintro l pre ⟨ai, d⟩ W hI hnx ⟨rL, hBk⟩
        obtain ⟨tl, htl⟩ := hnx
        have hcat : pre ++ ((ai, d) :: tl) = wkA ps := by rw [← htl]; simp
        have hmem : (ai, d) ∈ wkA ps := by rw [← hcat]; simp
        have hlen : pre.length + 1 + tl.length = BL := by have h1 := HWk.out.1; rw [← hcat] at h1; simp at h1; have := HL.out.2.1; omega
        have haB : ai < BL := by have h1 := HWk.out.2.1 _ hmem; rw [HL.out.2.1] at h1; exact h1
        have hd0 : 0 < d := HWk.out.2.2 _ hmem
        have hd5 : d ≤ 5000 := by
          have h1 := wk_deep ps (ps.length - 1 + 1) (ps.length - 1) 1 (ai, d) hmem
          have h2 := (KpsOk.of_grow HX.out.2.2.2.2.2.1 (by have := HL.out; omega)).1
          have h3 := h2.1
          have h4 := h2.2.1
          have h1 : d ≤ 1 + (ps.length - 1 + 1) := h1
          omega
        obtain ⟨⟨rr, pr, Lr, svr, uvr, hRr, hap, hwf, h256, hus, hgo2⟩, hkf⟩ := hI
        obtain ⟨y, hy⟩ : ∃ y, x.body[ai]? = some y := ⟨_, List.getElem?_eq_getElem (by have := HL.out.2.1; omega)⟩
        have hyd : x.body.getD ai nd0 = y := by rw [List.getD_eq_getElem?_getD, hy]; rfl
        have hyo := HX.out.2.2.1.2.2.2.2.1 y (List.mem_of_getElem? hy)
        obtain ⟨e0, he0⟩ : ∃ e0, noE (rr.leave d) y ai d = e0 := ⟨_, rfl⟩
        have hbN : rr.bds.length = BL := by rw [hRr.bl, HG3.out.2.1, HX.out.2.2.2.1, HL.out.2.1]
        have HLv := Lib.hid (c_rLeave G3 d W hRr (hwf.lv_ne hd0) (by omega))
        have HNo : Hid (∀ W1 p1 L1 , RsM G3 (rr.leave d) p1 L1 svr uvr (Kq + pre.length) W1 → Calls Tryz.prog 39 #[.pointer (some ⟨G.R, 0, none⟩), noX y, .int .i64 (ai : Int), .int .i64 (d : Int)] W1 fun e w' => StT G3 (Kq + pre.length) e0 (noF (rr.leave d) y ai d) W1 e w') := fun W1 p1 L1 h1 => by
          have hc := c_rNode G3 (r := rr.leave d) y hyo ai d (show ai < rr.bds.length by omega) (by rw [HG3.out.2.1, HX.out.2.2.2.1]; have := HL.out; omega) W1 h1 (by have := HQ.out.2.2.2.2; have := HL.out; omega) h256 (show rr.uses.length ≤ 1000000 by have := HQ.out.2.2.1; have := HL.out; omega) (by omega)
          rw [he0, HG3.out.1] at hc
          exact hc
        rw [HG3.out.1] at HLv
        have hb0 := (hkf.zon SB (HG3.out.2.2.2.1 SB (Nat.le_refl _) (by have := HS.out; omega))).trans HBx6.out.1
        have hb1 := (hkf.zon XB (HG3.out.2.2.2.1 XB (by have := HS.out; omega) (by have := HS.out; omega))).trans HBx6.out.2.1
        have hb2 := (hkf.zon FB (HG3.out.2.2.2.1 FB (by have := HS.out; omega) (Nat.lt_succ_self _))).trans HBx6.out.2.2
        have z0 : W.cell? ⟨SB, 0, none⟩ = some (.pointer (some ⟨G.R, 0, none⟩)) := by rw [Lib.cell_of_heap hb0]; rfl
        have HI := Lib.hid (And.intro hRr (And.intro hwf (And.intro h256 (And.intro hus (And.intro hgo2 (And.intro hkf (And.intro hb0 (And.intro hb1 hb2))))))))
        have HY := Lib.hid (And.intro hy (And.intro hyd (And.intro hyo (And.intro he0 (And.intro hbN (And.intro hcat (And.intro hd0 (And.intro hd5 (And.intro haB hlen)))))))))
        have HBk := Lib.hid hBk
        clear htl hcat hmem hlen haB hd0 hd5 hRr hap hwf h256 hus hgo2 hkf hy hyd hyo he0 hbN hb0 hb1 hb2 hBk
        gi_wp2_with (refine ⟨trivial, ?_⟩; gi_at_call 38; refine (CallsIn.inRound l (callsIn_wide.2 HLv.out)).mono ?_; clear HLv; rintro e W1 ⟨rfl, ⟨p1, L1, hR1⟩, hK1⟩)
        have HNd := Lib.hid (HNo.out W1.drew p1 L1 (hR1.next (Below.refl _ W1).drew))
        have HK1 : Hid (Kf G3 W W1.drew) := hK1.trans (hR1.kf (Below.refl _ W1).drew)
        have hb0 := (hK1.zon SB (HG3.out.2.2.2.1 SB (Nat.le_refl _) (by have := HS.out; omega))).trans HI.out.2.2.2.2.2.2.1
        have hb1 := (hK1.zon XB (HG3.out.2.2.2.1 XB (by have := HS.out; omega) (by have := HS.out; omega))).trans HI.out.2.2.2.2.2.2.2.1
        have hbw : Below w0.heap.size w0 W1 := HBw6.out.trans ((HI.out.2.2.2.2.2.1.trans hK1).bel.mono (by rw [HG3.out.2.2.1]; exact HW.out.2.2.2.2.1))
        obtain ⟨gb, go, hga, hgb, hgr⟩ := HX.out.2.1 (by have h1 := HL.out; have h2 := HY.out; omega)
        have e := hbw.block gb hgb
        have hgx := hgr ai y HY.out.1
        have c0 := (blk_cell e _).trans (hgx 0 _ rfl)
        have c1 := (blk_cell e _).trans (hgx 1 _ rfl)
        have c2 := (blk_cell e _).trans (hgx 2 _ rfl)
        have c3 := (blk_cell e _).trans (hgx 3 _ rfl)
        have c4 := (blk_cell e _).trans (hgx 4 _ rfl)
        have c5 := (blk_cell e _).trans (hgx 5 _ rfl)
        rw [Nat.add_zero] at c0
        have hgl : gb < W1.heap.size := Nat.lt_of_lt_of_le hgb hbw.size
        have zs0 : W1.cell? ⟨SB, 0, none⟩ = some (.pointer (some ⟨G.R, 0, none⟩)) := by rw [Lib.cell_of_heap hb0]; rfl
        have zs4 : W1.cell? ⟨XB, 4, none⟩ = some (.slice ba BL bc) := by rw [Lib.cell_of_heap hb1]; rfl
        have hai0 : (0 : Int) ≤ (ai : Int) := by omega
        have haiN : (ai : Int) < (BL : Int) := by have := HY.out; omega
        subst hga
        have HGB : Hid (gb < w0.heap.size) := hgb
        have HY0 := Lib.hid HY.out.2.2.2.1
        obtain ⟨yk, yn, ya, yi, yt, yy⟩ := y
        simp only at c0 c1 c2 c3 c4 c5 HNd
        have hmx : Tryz.prog.follows .mixedOrders = true := by kernel_rfl
        have zs0 : W1.drew.cell? ⟨SB, 0, none⟩ = some (.pointer (some ⟨G.R, 0, none⟩)) := zs0
        have zs4 : W1.drew.cell? ⟨XB, 4, none⟩ = some (.slice (some ⟨gb, go, none⟩) BL bc) := zs4
        have c0 : W1.drew.cell? ⟨gb, go + ai * 6, none⟩ = some (.int .i64 yk) := c0
        have c1 : W1.drew.cell? ⟨gb, go + ai * 6 + 1, none⟩ = some (.int .i64 yn) := c1
        have c2 : W1.drew.cell? ⟨gb, go + ai * 6 + 2, none⟩ = some (.int .i64 ya) := c2
        have c3 : W1.drew.cell? ⟨gb, go + ai * 6 + 3, none⟩ = some (.int .i64 yi) := c3
        have c4 : W1.drew.cell? ⟨gb, go + ai * 6 + 4, none⟩ = some (.string ⟨yt.toArray⟩) := c4
        have c5 : W1.drew.cell? ⟨gb, go + ai * 6 + 5, none⟩ = some (.string ⟨yy.toArray⟩) := c5
        have hgl : gb < W1.drew.heap.size := hgl
        clear hgx hgr e hb0 hb1 hbw hgb hR1 hK1
        unfold StT at HNd
        by_cases h0 : e0 = 0
        · subst h0
          have HN2 : Hid (Calls Tryz.prog 39 #[.pointer (some ⟨G.R, 0, none⟩), .agg #[.int .i64 yk, .int .i64 yn, .int .i64 ya, .int .i64 yi, .string ⟨yt.toArray⟩, .string ⟨yy.toArray⟩], .int .i64 (ai : Int), .int .i64 (d : Int)] W1.drew fun e w' => e = .returned (.int .i64 0) ∧ (∃ p' L' sv' uv', RsM G3 (noF (rr.leave d) ⟨yk, yn, ya, yi, yt, yy⟩ ai d) p' L' sv' uv' (Kq + pre.length + 1) w') ∧ Kf G3 W1.drew w') := HNd.out.mono fun e w' ⟨h1, h2, h3⟩ => ⟨h1, h2 (by trivial), h3⟩
          clear HNd
          gi_wp2
          refine round_still_tail 8 (by kernel_rfl) (by kernel_rfl) (by kernel_rfl) (by rintro ⟨a, w, h⟩; exact h) ?_
          simp only [List.take_succ_cons, List.take_zero, List.drop_succ_cons, List.drop_zero]
          change wpStill _ _ W1.drew _ _ _
          generalize hWd : W1.drew = Wd at zs0 zs4 c0 c1 c2 c3 c4 c5 hgl HN2 HK1 ⊢
          have HWd := Lib.hid hWd
          clear hWd
          repeat still_step
          refine wpStill_nil ?_
          change wpList _ _ _ _ _ W1.drew
          rw [HWd.out]
          go_wp2_with fail
          refine HN2.out.mono ?_
          rintro e W2 ⟨rfl, ⟨p2, L2, sv2, uv2, hR2⟩, hK2⟩
          have hK12 := HK1.out.trans hK2
          have hkeep : KeepT w6.heap.size W W2 := ⟨hK12.size, (hK12.ctl _ _ HBk.out.2 rfl).trans HBk.out.2.symm, (hK12.ctl _ _ HBk.out.1 rfl).trans HBk.out.1.symm⟩
          have hI2 := GnI.step (t := x.body) (r1 := rq) (ps := ps) (K := Kq) (D := w6.heap.size) HI.out.2.2.2.2.2.1 HI.out.2.1 HI.out.2.2.1 HI.out.2.2.2.1 HI.out.2.2.2.2.1 HY.out.2.2.2.2.2.2.1 (by rw [HY.out.2.1]; exact HY.out.2.2.2.1) (by rw [HY.out.2.1]; exact hR2) hK12 (hK12.ctl _ _ HBk.out.1 rfl) rfl
          have HE2 : Hid (KeepT w6.heap.size W W2 ∧ Kz G3.Z W W2 ∧ GnI G3 x.body rq ps w6 Kq w6.heap.size (pre ++ [(ai, d)]) W2) := ⟨hkeep, ⟨hK12.size, hK12.zon⟩, hI2⟩
          clear hR2 hK2 hK12 hkeep hI2 zs0 zs4 c0 c1 c2 c3 c4 c5 hgl
          go_wp2_with fail
          gi_wp2
          exact HE2.out
        · obtain ⟨ei, hei⟩ : ∃ i : Int, (e0 : Int) = i := ⟨_, rfl⟩
          have HEi : Hid ((e0 : Int) = ei ∧ e0 ≠ 0) := ⟨hei, h0⟩
          have hne : (ei != 0) = true := by simp; omega
          have HN2 : Hid (Calls Tryz.prog 39 #[.pointer (some ⟨G.R, 0, none⟩), .agg #[.int .i64 yk, .int .i64 yn, .int .i64 ya, .int .i64 yi, .string ⟨yt.toArray⟩, .string ⟨yy.toArray⟩], .int .i64 (ai : Int), .int .i64 (d : Int)] W1.drew fun e w' => e = .returned (.int .i64 ei) ∧ Kf G3 W1.drew w') := HNd.out.mono fun e w' ⟨h1, h2, h3⟩ => ⟨by rw [h1, hei], h3⟩
          clear hei h0 HNd
          gi_wp2
          refine round_still_tail 8 (by kernel_rfl) (by kernel_rfl) (by kernel_rfl) (by rintro ⟨a, w, h⟩; exact h) ?_
          simp only [List.take_succ_cons, List.take_zero, List.drop_succ_cons, List.drop_zero]
          change wpStill _ _ W1.drew _ _ _
          generalize hWd : W1.drew = Wd at zs0 zs4 c0 c1 c2 c3 c4 c5 hgl HN2 HK1 ⊢
          have HWd := Lib.hid hWd
          clear hWd
          repeat still_step
          refine wpStill_nil ?_
          change wpList _ _ _ _ _ W1.drew
          rw [HWd.out]
          go_wp2_with fail
          refine HN2.out.mono ?_
          rintro e W2 ⟨rfl, hK2⟩
          have hK12 := HK1.out.trans hK2
          have hb1 := (hK12.zon XB (HG3.out.2.2.2.1 XB (by have := HS.out; omega) (by have := HS.out; omega))).trans HI.out.2.2.2.2.2.2.2.1
          have hb2 := (hK12.zon FB (HG3.out.2.2.2.1 FB (by have := HS.out; omega) (Nat.lt_succ_self _))).trans HI.out.2.2.2.2.2.2.2.2
          have hbw : Below w0.heap.size w0 W2 := HBw6.out.trans ((HI.out.2.2.2.2.2.1.trans hK12).bel.mono (by rw [HG3.out.2.2.1]; exact HW.out.2.2.2.2.1))
          obtain ⟨gb', go', hga', _, hgr⟩ := HX.out.2.1 (by have h1 := HL.out; have h2 := HY.out; omega)
          simp only [Option.some.injEq, Addr.mk.injEq, and_true] at hga'
          obtain ⟨rfl, rfl⟩ := hga'
          have c2 := (blk_cell (hbw.block gb HGB.out) _).trans (hgr ai _ HY.out.1 2 _ rfl)
          simp only at c2
          have hgl2 : gb < W2.heap.size := Nat.lt_of_lt_of_le HGB.out hbw.size
          have zs4 : W2.cell? ⟨XB, 4, none⟩ = some (.slice (some ⟨gb, go, none⟩) BL bc) := by rw [Lib.cell_of_heap hb1]; rfl
          obtain ⟨f0, f1, ff⟩ := two_cells hb2
          have ff0 := ff 0
          have ff1 := ff 1
          have hfl := (Array.getElem?_eq_some_iff.1 hb2).1
          have hDne : w6.heap.size ≠ FB ∧ w6.heap.size + 1 ≠ FB := by have := HFB.out; omega
          have hz9 := two_put hb2 (.int .i64 ya) (.int .i64 ei)
          have hBf : FB < w6.heap.size ∧ G.base ≤ FB := by have h1 := HFB.out.1; have h2 := HW.out.2.2.1.bs; have h3 := HS.out; omega
          have HE2 : Hid (KeepT w6.heap.size W ((W2.setCell ⟨FB, 0, none⟩ (.int .i64 ya)).setCell ⟨FB, 1, none⟩ (.int .i64 ei)) ∧ GnX G3 x.body rq ps w6 FB w6.heap.size 32 ((W2.setCell ⟨FB, 0, none⟩ (.int .i64 ya)).setCell ⟨FB, 1, none⟩ (.int .i64 ei))) := by
            have hk := HI.out.2.2.2.2.2.1.trans hK12
            have hset : ∀ b, b ≠ FB → ((W2.setCell ⟨FB, 0, none⟩ (.int .i64 ya)).setCell ⟨FB, 1, none⟩ (.int .i64 ei)).heap[b]? = W2.heap[b]? := fun b hb => (Below.heap_setCell _ _ _ _ hb).trans (Below.heap_setCell _ _ _ _ hb)
            refine ⟨⟨?_, ?_, ?_⟩, ⟨ya, e0, HEi.out.2, ?_, ?_⟩, ?_, fun b o hb ho => ?_, fun b hz hne => ?_⟩
            · have := ((grown_set W2 FB 0 (.int .i64 ya)).trans (grown_set _ FB 1 (.int .i64 ei))).size
              exact Nat.le_trans hK12.size this
            · exact (hset _ hDne.1).trans ((hK12.ctl _ _ HBk.out.2 rfl).trans HBk.out.2.symm)
            · exact (hset _ hDne.2).trans ((hK12.ctl _ _ HBk.out.1 rfl).trans HBk.out.1.symm)
            · rw [HI.out.2.2.2.2.1 _ HY.out.2.2.2.2.2.1, goN_step, HY.out.2.1, HY.out.2.2.2.1, if_neg HEi.out.2]
            · rw [HEi.out.1]
              exact hz9
            · exact hk.bel.trans (two_below (Below.refl _ _) (by rw [HG3.out.2.2.1]; exact hBf.2) _ _)
            · by_cases hbF : b = FB
              · subst hbF
                rw [HBx6.out.2.2] at hb
                cases hb
                cases ho
              · exact (hset b hbF).trans (hk.ctl b o hb ho)
            · exact (hset b hne).trans (hk.zon b hz)
          clear hK2 hK12 hb1 hb2 hbw hgr hDne hz9 hBf ff c0 c1 c3 c4 c5
          go_wp2_with fail
          gi_wp2
          exact ⟨HE2.out.1, rfl, HE2.out.2⟩
      case done =>
        rintro D ys W hD rfl ⟨⟨rr, pr, Lr, svr, uvr, hRr, hap, hwf, h256, hus, hgo2⟩, hkf⟩ hK
        have hb2 := (hkf.zon FB (HG3.out.2.2.2.1 FB (by have := HS.out; omega) (Nat.lt_succ_self _))).trans HBx6.out.2.2
        have hrr : ra = ((0, 0), rr) := by rw [HGn.out, hgo2 [] (by simp)]; rfl
        have hDF : w.heap.size ≤ D ∧ FB < D ∧ w.heap.size ≤ FB := by have h1 := HFB.out.1; have h2 := HK6.out.size; have h3 := HS.out; omega
        have hZF := HG3.out.2.2.2.1 FB (by have := HS.out; omega) (Nat.lt_succ_self _)
        have hx1 := heap_setCell_same W FB 0 _ _ (.int .i64 0) hb2
        have hR9 := (hRr.zput hZF hb2 (by decide) 0 (.int .i64 0)).zput hZF hx1 (by decide) 1 (.int .i64 0)
        have hK9 := (HK6.out.trans (HG3.out.2.2.2.2.2.2.1 _ _ hkf)).two HW.out.2.2.1.zs HW.out.2.2.1.bs hDF.2.2 hb2 (.int .i64 0) (.int .i64 0)
        have hz9 := two_put hb2 (.int .i64 0) (.int .i64 0)
        have hd9 : ((W.setCell ⟨FB, 0, none⟩ (.int .i64 0)).setCell ⟨FB, 1, none⟩ (.int .i64 0)).heap[D]? = some (.deferred (some [])) := (Below.heap_setCell _ _ _ _ (by show D ≠ FB; omega)).trans ((Below.heap_setCell _ _ _ _ (by show D ≠ FB; omega)).trans hK)
        obtain ⟨z0, z1, zf⟩ := two_cells hb2
        have zf0 := zf 0
        have zf1 := zf 1
        have hzl := (Array.getElem?_eq_some_iff.1 hb2).1
        have H9 := Lib.hid (And.intro hR9 (And.intro hK9 (And.intro hz9 (And.intro hd9 (And.intro hrr hDF)))))
        clear hRr hap hwf h256 hus hgo2 hkf hb2 hrr hDF hZF hx1 hR9 hK9 hz9 hd9 hK hD zf
        go_wp2_with fail
        obtain ⟨hR9, hK9, hz9, hd9, hrr, hDF⟩ := H9.out
        generalize (W.setCell ⟨FB, 0, none⟩ (.int .i64 0)).setCell ⟨FB, 1, none⟩ (.int .i64 0) = w9 at hR9 hK9 hz9 hd9 ⊢
        refine ⟨by simp, .inl ⟨_, _, rfl, run_takeDeferred hd9, ?_⟩⟩
        have hzz := (World.putObj_heap_other (w := w9) (o := .deferred none) (show FB ≠ D by omega)).trans hz9
        obtain ⟨p0, p1, _⟩ := two_cells hzz
        refine ⟨faV 0 0, by simp [results, Tryz.results25, go_sem, p0, p1], ?_⟩
        rw [hrr]
        exact ⟨rfl, (fun _ => ⟨_, _, _, _, _, HG3.out.2.2.2.2.2.2.2 _ _ _ _ _ _ _ (hR9.far (hR9.ap_ctl hd9 rfl) (grownBy_putObj' w9 D _))⟩), hK9.far (grownBy_putObj' w9 D _) hDF.1 (by have := HW.out.2.2.1.bs; omega) HW.out.2.2.1.bs HW.out.2.2.1.zs⟩
      case stop =>
        rintro D c pre W hD _ ⟨rfl, hX⟩ hK
        have hDF : w.heap.size ≤ D ∧ FB < D ∧ w.heap.size ≤ FB := by have h1 := HFB.out.1; have h2 := HK6.out.size; have h3 := HS.out; omega
        obtain ⟨at', e, hne, hge, hbx⟩ := hX.bx
        have hKf := hX.fin HK6.out HG3.out.2.2.1 HG3.out.2.2.2.2.2.1 HW.out.2.2.1.zs hDF.2.2 hDF.1 HW.out.2.2.1.bs (.deferred none) (D := D)
        have hzz := (World.putObj_heap_other (w := W) (o := .deferred none) (show FB ≠ D by omega)).trans hbx
        have H9 := Lib.hid (And.intro hKf (And.intro hzz (And.intro hne (And.intro hge hK))))
        clear hDF hX hne hge hbx hKf hzz hK hD
        gi_wp2
        refine ⟨by simp, .inl ⟨_, _, rfl, run_takeDeferred H9.out.2.2.2.2, ?_⟩⟩
        obtain ⟨p0, p1, _⟩ := two_cells H9.out.2.1
        refine ⟨faV at' (e : Int), by simp [results, Tryz.results25, go_sem, p0, p1], ?_⟩
        have hra : ra.1 = (at', e) := by rw [HGn.out]; exact H9.out.2.2.2.1
        rw [hra]
        exact ⟨rfl, (fun h => absurd h H9.out.2.2.1), H9.out.1⟩
end Go.Proofs.YtjadckhngalmlaaGreatDoor
