/-
  A file's names in memory; what its steps turn.
-/
import Derived.Test.YtjadckhngalmlaaGreatDoorZNmBt
import Derived.Test.YtjadckhngalmlaaGreatDoorZNmPn
import Derived.Test.YtjadckhngalmlaaGreatDoorZNmGt
import Derived.Test.YtjadckhngalmlaaGreatDoorZNmOp
namespace Go.Proofs.YtjadckhngalmlaaGreatDoor
set_option linter.unusedVariables false
set_option linter.unusedSimpArgs false
set_option maxRecDepth 100000
open Go.RowKit

def slC (s : SlP) : List Value := [nmS s.name, nmS s.type, .bool s.vol, .bool s.param]
def slCs (l : List SlP) : List Value := l.flatMap slC
def bdC (b : BdP) : List Value := [.int .i64 b.kind, .int .i64 (b.idx : Int), .string ⟨b.type.toArray⟩]
def bdCs (l : List BdP) : List Value := l.flatMap bdC
def usC (l : List (List UInt8)) : List Value := l.map nmS
/-- Is a block one of a loop, or the like? -/
def ctlB : Obj → Bool
  | .cells _ _ _ => false
  | .map _ _ => false
  | _ => true
/-- What stays while a function is gone over. -/
structure RsG where
  R : Nat
  BD : Nat
  N : Nat
  base : Nat
  Z : Nat → Prop
/-- What a step leaves. -/
structure Kf (G : RsG) (w w' : World) : Prop where
  bel : Below G.base w w'
  ctl : ∀ (b : Nat) (o : Obj), w.heap[b]? = some o → ctlB o = true → w'.heap[b]? = some o
  zon : ∀ (b : Nat), G.Z b → w'.heap[b]? = w.heap[b]?
theorem Kf.refl (G : RsG) (w : World) : Kf G w w := ⟨Below.refl _ _, fun _ _ h _ => h, fun _ _ => rfl⟩
theorem Kf.trans {G : RsG} {a b c : World} (h : Kf G a b) (k : Kf G b c) : Kf G a c :=
  ⟨h.bel.trans k.bel, fun i o hi ho => k.ctl i o (h.ctl i o hi ho) ho, fun i hi => (k.zon i hi).trans (h.zon i hi)⟩
theorem Kf.new {G : RsG} {w w' : World} (hZ : ∀ b, G.Z b → b < w.heap.size) (hB : G.base ≤ w.heap.size) (h : Below w.heap.size w w') : Kf G w w' :=
  ⟨h.mono hB, fun b o hb _ => blk_on hb h, fun b hb => h.block b (hZ b hb)⟩
theorem Kf.grown {G : RsG} {w w' : World} {g : Nat} (hZ : ∀ b, G.Z b → b < w.heap.size) (hB : G.base ≤ w.heap.size) (hg : w.grownBy w' (some g)) (hb : G.base ≤ g) (hz : ¬ G.Z g) {o : Obj} (ho : w.heap[g]? = some o) (hc : ctlB o = false) : Kf G w w' := by
  refine ⟨(Below.refl _ _).grown hg hB (fun k e => by cases e; exact hb), fun b o' h1 h2 => ?_, fun b h1 => ?_⟩
  · refine (hg.block b (Array.getElem?_eq_some_iff.1 h1).1 (fun e => ?_)).trans h1
    cases e
    rw [ho] at h1
    cases h1
    rw [hc] at h2
    cases h2
  · exact hg.block b (hZ b h1) (fun e => by cases e; exact hz h1)
theorem Kf.size {G : RsG} {w w' : World} (h : Kf G w w') : w.heap.size ≤ w'.heap.size := h.bel.size
/-- A cell written: just its block turns. -/
theorem grown_set (w : World) (g i : Nat) (v : Value) : w.grownBy (w.setCell ⟨g, i, none⟩ v) (some g) :=
  ⟨(Below.refl 0 w |>.setCell (p := ⟨g, i, none⟩) (Nat.zero_le _) v).os, (Below.refl 0 w |>.setCell (p := ⟨g, i, none⟩) (Nat.zero_le _) v).tape, (Below.refl 0 w |>.setCell (p := ⟨g, i, none⟩) (Nat.zero_le _) v).output, (Below.refl 0 w |>.setCell (p := ⟨g, i, none⟩) (Nat.zero_le _) v).size,
    fun k _ hne => Below.heap_setCell _ _ _ _ (fun e => hne (by rw [e]))⟩
theorem ne_ty {w : World} {a b : Nat} {x y : Array Value} {T U : TypeId} {p q : Nat × Nat} (h1 : w.heap[a]? = some (.cells x T p)) (h2 : w.heap[b]? = some (.cells y U q)) (hT : T ≠ U) : a ≠ b := fun e => by
  subst e
  rw [h1] at h2
  exact hT (by injection h2 with h2; injection h2)
theorem ne_map {w : World} {a b : Nat} {x : Array Value} {T : TypeId} {p : Nat × Nat} {es : Array MapEntry} {cl : Nat} (h1 : w.heap[a]? = some (.cells x T p)) (h2 : w.heap[b]? = some (.map es cl)) : a ≠ b := fun e => by
  subst e
  rw [h1] at h2
  injection h2 with h2
  cases h2
theorem MpIn.map {α : Type} {enc : α → Value} {b n : Nat} {f : List UInt8 → Option α} {w : World} (h : MpIn enc b n f w) : ∃ es cl, w.heap[b]? = some (.map es cl) := by
  obtain ⟨D, ⟨es, cl, h1, _⟩, _⟩ := h
  exact ⟨es, cl, h1⟩
theorem ScIn.types {w : World} : ∀ {L : List ScM} {p : Option Addr}, ScIn w L p → ∀ c ∈ L, (∃ q, w.heap[c.X]? = some (scO q c.M c.s.depth)) ∧ MpIn dcV c.M c.n c.s.m w
  | [], _, _, c, hc => by cases hc
  | d :: r, p, ⟨h1, ⟨q, h2, h3⟩, h4⟩, c, hc => by
    rcases List.mem_cons.1 hc with rfl | hc
    · exact ⟨⟨q, h2⟩, h4⟩
    · exact ScIn.types h3 c hc
/-- A block of cells of another type turns: the scopes stay. -/
theorem ScIn.turn {w w' : World} {L : List ScM} {p : Option Addr} (h : ScIn w L p) {g : Nat} (hg : w.grownBy w' (some g)) {x : Array Value} {T : TypeId} {f : Nat × Nat} (ho : w.heap[g]? = some (.cells x T f)) (hT : T ≠ 98) : ScIn w' L p :=
  h.same fun c hc => by
    obtain ⟨⟨q, h1⟩, h2⟩ := h.types c hc
    obtain ⟨es, cl, h3⟩ := h2.map
    exact ⟨hg.block c.X (Array.getElem?_eq_some_iff.1 h1).1 (fun e => by injection e with e; exact ne_ty h1 ho (Ne.symm hT) e), hg.block c.M h2.lt (fun e => by injection e with e; exact ne_map ho h3 e.symm)⟩
/-- A resolver in memory. -/
structure RsM (G : RsG) (r : RsP) (p : Option Addr) (L : List ScM) (sv uv : Value) (K : Nat) (w : World) : Prop where
  blk : w.heap[G.R]? = some (.cells #[.pointer p, sv, .slice (some ⟨G.BD, 0, none⟩) G.N G.N, uv] 72)
  sc : ScIn w L p
  le : L.map ScM.s = r.sc
  ne : L ≠ []
  nd : (L.map ScM.M).Nodup
  nb : ∀ c ∈ L, c.n ≤ K
  so : w.ownsRow G.base 51 4 sv r.slots.length (slCs r.slots)
  bd : w.heap[G.BD]? = some (.cells (bdCs r.bds).toArray 49)
  bl : r.bds.length = G.N
  uo : w.ownsRow G.base 9 1 uv r.uses.length (usC r.uses)
  lR : G.base ≤ G.R
  lB : G.base ≤ G.BD
  lM : ∀ c ∈ L, G.base ≤ c.M
  zR : ¬ G.Z G.R
  zB : ¬ G.Z G.BD
  zM : ∀ c ∈ L, ¬ G.Z c.M
  zS : ∀ g, sv.ownBlock = some g → ¬ G.Z g
  zU : ∀ g, uv.ownBlock = some g → ¬ G.Z g
  zs : ∀ b, G.Z b → b < w.heap.size
  bs : G.base ≤ w.heap.size
/-- The type of a row's block. -/
theorem own_ty {w : World} {base : Nat} {e : TypeId} {size : Nat} {v : Value} {n : Nat} {xs : List Value} (h : w.ownsRow base e size v n xs) {g : Nat} (hg : v.ownBlock = some g) : ∃ cur, w.heap[g]? = some (.cells cur e (0, 0)) := by
  rcases h.2 with ⟨rfl, _⟩ | ⟨g', cap, cur, rfl, _, hh, _⟩
  · simp [Value.ownBlock] at hg
  · simp [Value.ownBlock] at hg
    subst hg
    exact ⟨cur, hh⟩
theorem own_turn {w w' : World} {base : Nat} {e : TypeId} {size : Nat} {v : Value} {n : Nat} {xs : List Value} (h : w.ownsRow base e size v n xs) {g : Nat} (hg : w.grownBy w' (some g)) (hne : ∀ k, v.ownBlock = some k → k ≠ g) : w'.ownsRow base e size v n xs :=
  h.kept hg (by
    cases hv : v.ownBlock with
    | none => exact .inl rfl
    | some k => exact .inr (fun e => hne k hv (by cases e; rfl)))
theorem RsM.next {G : RsG} {r : RsP} {p : Option Addr} {L : List ScM} {sv uv : Value} {K : Nat} {w w' : World} (h : RsM G r p L sv uv K w) (hb : Below w.heap.size w w') : RsM G r p L sv uv K w' :=
  { h with blk := blk_on h.blk hb, sc := h.sc.next hb, so := own_on h.so hb, bd := blk_on h.bd hb, uo := own_on h.uo hb, zs := fun b hZ => Nat.lt_of_lt_of_le (h.zs b hZ) hb.size, bs := Nat.le_trans h.bs hb.size }
theorem RsM.kf {G : RsG} {r : RsP} {p : Option Addr} {L : List ScM} {sv uv : Value} {K : Nat} {w w' : World} (h : RsM G r p L sv uv K w) (hb : Below w.heap.size w w') : Kf G w w' := Kf.new h.zs h.bs hb
/-- A name declared in the innermost scope. -/
theorem RsM.decl {G : RsG} {r : RsP} {p : Option Addr} {c : ScM} {L : List ScM} {sv uv : Value} {K : Nat} {w w' : World} (h : RsM G r p (c :: L) sv uv K w) {f : MpP} (hm : MpIn dcV c.M (c.n + 1) f w') (hg : w.grownBy w' (some c.M)) :
    RsM G { r with sc := ⟨f, c.s.depth⟩ :: L.map ScM.s } p (⟨c.X, c.M, c.n + 1, ⟨f, c.s.depth⟩⟩ :: L) sv uv (K + 1) w' ∧ Kf G w w' := by
  obtain ⟨es, cl, hmc⟩ := (h.sc.types c (by simp)).2.map
  obtain ⟨h1, ⟨q, h2, h3⟩, h4⟩ := h.sc
  have hnd := h.nd
  simp only [List.map_cons, List.nodup_cons, List.mem_map, not_exists, not_and] at hnd
  refine ⟨⟨?_, ⟨h1, ⟨q, ?_, ?_⟩, hm⟩, rfl, by simp, h.nd, ?_, ?_, ?_, h.bl, ?_, h.lR, h.lB, ?_, h.zR, h.zB, ?_, h.zS, h.zU, fun b hZ => Nat.lt_of_lt_of_le (h.zs b hZ) hg.size, Nat.le_trans h.bs hg.size⟩, Kf.grown h.zs h.bs hg (h.lM c (by simp)) (h.zM c (by simp)) hmc rfl⟩
  · exact (hg.block _ (Array.getElem?_eq_some_iff.1 h.blk).1 (fun e => by injection e with e; exact ne_map h.blk hmc e)).trans h.blk
  · exact (hg.block _ (Array.getElem?_eq_some_iff.1 h2).1 (fun e => by injection e with e; exact ne_map h2 hmc e)).trans h2
  · refine h3.same fun d hd => ?_
    obtain ⟨⟨q', g1⟩, g2⟩ := h3.types d hd
    exact ⟨hg.block d.X (Array.getElem?_eq_some_iff.1 g1).1 (fun e => by injection e with e; exact ne_map g1 hmc e), hg.block d.M g2.lt (fun e => by injection e with e; exact hnd.1 d hd e)⟩
  · intro d hd
    rcases List.mem_cons.1 hd with rfl | hd
    · have := h.nb c (by simp)
      show c.n + 1 ≤ K + 1
      omega
    · exact Nat.le_succ_of_le (h.nb d (by simp [hd]))
  · refine own_turn h.so hg fun k hk e => ?_
    obtain ⟨cur, hh⟩ := own_ty h.so hk
    exact ne_map hh hmc e
  · exact (hg.block _ (Array.getElem?_eq_some_iff.1 h.bd).1 (fun e => by injection e with e; exact ne_map h.bd hmc e)).trans h.bd
  · refine own_turn h.uo hg fun k hk e => ?_
    obtain ⟨cur, hh⟩ := own_ty h.uo hk
    exact ne_map hh hmc e
  · intro d hd
    rcases List.mem_cons.1 hd with rfl | hd
    · exact h.lM c (by simp)
    · exact h.lM d (by simp [hd])
  · intro d hd
    rcases List.mem_cons.1 hd with rfl | hd
    · exact h.zM c (by simp)
    · exact h.zM d (by simp [hd])
end Go.Proofs.YtjadckhngalmlaaGreatDoor
namespace Go.Proofs.YtjadckhngalmlaaGreatDoor
set_option linter.unusedVariables false
set_option linter.unusedSimpArgs false
set_option maxRecDepth 100000
open Go.RowKit

/-- A file in memory: its block, its scopes, its rows. w0: the world in which the unit lies. -/
structure FlM (w0 : World) (Fb : Nat) (f : FlP) (p : Option Addr) (L : List ScM) (ov fv : Value) (css : List (List Value)) (K : Nat) (w : World) : Prop where
  blk : w.heap[Fb]? = some (.cells #[.pointer p, .int .i64 (f.ng : Int), ov, fv] 77)
  sc : ScIn w L p
  le : L.map ScM.s = f.sc
  nd : (L.map ScM.M).Nodup
  nb : ∀ c ∈ L, c.n ≤ K
  oo : w.ownsRow w0.heap.size 9 1 ov f.order.length (usC f.order)
  fo : w.ownsRow w0.heap.size 45 5 fv f.funcs.length css.flatten
  cl : css.length = f.funcs.length
  fc : ∀ (k : Nat) (x : FnP) (cs : List Value), f.funcs[k]? = some x → css[k]? = some cs → FnC w0 x cs
  lF : w0.heap.size ≤ Fb
  lM : ∀ c ∈ L, w0.heap.size ≤ c.M
  bel : Below w0.heap.size w0 w
theorem FlM.ne {w0 : World} {Fb : Nat} {f : FlP} {p : Option Addr} {L : List ScM} {ov fv : Value} {css : List (List Value)} {K : Nat} {w : World} (h : FlM w0 Fb f p L ov fv css K w) : L ≠ [] := fun e => by
  have := h.le
  rw [e] at this
  cases this
theorem FlM.next {w0 : World} {Fb : Nat} {f : FlP} {p : Option Addr} {L : List ScM} {ov fv : Value} {css : List (List Value)} {K : Nat} {w w' : World} (h : FlM w0 Fb f p L ov fv css K w) (hb : Below w.heap.size w w') : FlM w0 Fb f p L ov fv css K w' :=
  { h with blk := blk_on h.blk hb, sc := h.sc.next hb, oo := own_on h.oo hb, fo := own_on h.fo hb, bel := below_t h.bel hb h.bel.size }
/-- A name declared in the file's scope. -/
theorem FlM.decl {w0 : World} {Fb : Nat} {f : FlP} {p : Option Addr} {c : ScM} {L : List ScM} {ov fv : Value} {css : List (List Value)} {K : Nat} {w w' : World} (h : FlM w0 Fb f p (c :: L) ov fv css K w) {m : MpP} (hm : MpIn dcV c.M (c.n + 1) m w') (hg : w.grownBy w' (some c.M)) :
    FlM w0 Fb { f with m := m } p (⟨c.X, c.M, c.n + 1, ⟨m, c.s.depth⟩⟩ :: L) ov fv css (K + 1) w' := by
  obtain ⟨es, cl, hmc⟩ := (h.sc.types c (by simp)).2.map
  obtain ⟨h1, ⟨q, h2, h3⟩, h4⟩ := h.sc
  have hnd := h.nd
  simp only [List.map_cons, List.nodup_cons, List.mem_map, not_exists, not_and] at hnd
  have hle := h.le
  unfold FlP.sc at hle
  simp only [List.map_cons, List.cons.injEq] at hle
  refine ⟨?_, ⟨h1, ⟨q, ?_, ?_⟩, hm⟩, ?_, h.nd, ?_, ?_, ?_, h.cl, h.fc, h.lF, ?_, h.bel.grown hg h.bel.size (fun k e => by injection e with e; rw [← e]; exact h.lM c (by simp))⟩
  · exact (hg.block _ (Array.getElem?_eq_some_iff.1 h.blk).1 (fun e => by injection e with e; exact ne_map h.blk hmc e)).trans h.blk
  · exact (hg.block _ (Array.getElem?_eq_some_iff.1 h2).1 (fun e => by injection e with e; exact ne_map h2 hmc e)).trans h2
  · refine h3.same fun d hd => ?_
    obtain ⟨⟨q', g1⟩, g2⟩ := h3.types d hd
    exact ⟨hg.block d.X (Array.getElem?_eq_some_iff.1 g1).1 (fun e => by injection e with e; exact ne_map g1 hmc e), hg.block d.M g2.lt (fun e => by injection e with e; exact hnd.1 d hd e)⟩
  · show (⟨m, c.s.depth⟩ :: L.map ScM.s : List ScP) = [⟨m, 0⟩, bltS]
    rw [hle.2, hle.1]
  · intro d hd
    rcases List.mem_cons.1 hd with rfl | hd
    · have := h.nb c (by simp)
      show c.n + 1 ≤ K + 1
      omega
    · exact Nat.le_succ_of_le (h.nb d (by simp [hd]))
  · refine own_turn h.oo hg fun k hk e => ?_
    obtain ⟨cur, hh⟩ := own_ty h.oo hk
    exact ne_map hh hmc e
  · refine own_turn h.fo hg fun k hk e => ?_
    obtain ⟨cur, hh⟩ := own_ty h.fo hk
    exact ne_map hh hmc e
  · intro d hd
    rcases List.mem_cons.1 hd with rfl | hd
    · exact h.lM c (by simp)
    · exact h.lM d (by simp [hd])
/-- A row of strings or functions of the file's own turns, or the file's block. -/
theorem FlM.rows {w0 : World} {Fb : Nat} {f : FlP} {p : Option Addr} {L : List ScM} {ov fv : Value} {css : List (List Value)} {K : Nat} {w w' : World} (h : FlM w0 Fb f p L ov fv css K w) {g : Nat} (hg : w.grownBy w' (some g)) (hgb : w0.heap.size ≤ g) {x : Array Value} {T : TypeId} {fr : Nat × Nat} (ho : w.heap[g]? = some (.cells x T fr)) (hT : T = 9 ∨ T = 45 ∨ T = 77) :
    ScIn w' L p ∧ Below w0.heap.size w0 w' ∧ (T ≠ 9 → w'.ownsRow w0.heap.size 9 1 ov f.order.length (usC f.order)) ∧ (T ≠ 45 → w'.ownsRow w0.heap.size 45 5 fv f.funcs.length css.flatten) ∧ (T ≠ 77 → w'.heap[Fb]? = some (.cells #[.pointer p, .int .i64 (f.ng : Int), ov, fv] 77)) := by
  refine ⟨h.sc.turn hg ho (by rcases hT with rfl | rfl | rfl <;> decide), h.bel.grown hg h.bel.size (fun k e => by injection e with e; rw [← e]; exact hgb), fun hne => ?_, fun hne => ?_, fun hne => ?_⟩
  · refine own_turn h.oo hg fun k hk e => ?_
    obtain ⟨cur, hh⟩ := own_ty h.oo hk
    exact ne_ty hh ho (Ne.symm hne) e
  · refine own_turn h.fo hg fun k hk e => ?_
    obtain ⟨cur, hh⟩ := own_ty h.fo hk
    exact ne_ty hh ho (Ne.symm hne) e
  · exact (hg.block _ (Array.getElem?_eq_some_iff.1 h.blk).1 (fun e => by injection e with e; exact ne_ty h.blk ho (Ne.symm hne) e)).trans h.blk
theorem grown_none {w w' : World} (h : w.grownBy w' none) : Below w.heap.size w w' := ⟨h.os, h.tape, h.output, h.size, fun k hk => h.block k hk (by simp)⟩
theorem usC_snoc (l : List (List UInt8)) (s : List UInt8) : usC (l ++ [s]) = usC l ++ [nmS s] := by unfold usC; rw [List.map_append]; rfl
theorem nm_set {w : World} {base : Nat} {e : TypeId} {size : Nat} {v : Value} {n : Nat} {xs : List Value} (h : w.ownsRow base e size v n xs) {g : Nat} {x : Array Value} {T : TypeId} {fr : Nat × Nat} (ho : w.heap[g]? = some (.cells x T fr)) (hT : T ≠ e) (i : Nat) (u : Value) : (w.setCell ⟨g, i, none⟩ u).ownsRow base e size v n xs :=
  ownsRow_setCell_other h (fun hk => by
    obtain ⟨cur, hh⟩ := own_ty h hk
    exact ne_ty ho hh hT rfl) u
/-- One more name in the file's order. -/
theorem FlM.order {w0 : World} {Fb : Nat} {f : FlP} {p : Option Addr} {L : List ScM} {ov fv : Value} {css : List (List Value)} {K : Nat} {w w3 : World} (h : FlM w0 Fb f p L ov fv css K w) (nm : List UInt8) {v : Value} (hown : w3.ownsRow w0.heap.size 9 1 v (f.order.length + 1) (usC f.order ++ [nmS nm])) (hg : w.grownBy w3 ov.ownBlock) :
    FlM w0 Fb { f with order := f.order ++ [nm] } p L v fv css K (w3.setCell ⟨Fb, 2, none⟩ v) := by
  have key : w3.heap[Fb]? = some (.cells #[.pointer p, .int .i64 (f.ng : Int), ov, fv] 77) ∧ ScIn w3 L p ∧ Below w0.heap.size w0 w3 ∧ w3.ownsRow w0.heap.size 45 5 fv f.funcs.length css.flatten := by
    cases hb : ov.ownBlock with
    | none =>
      rw [hb] at hg
      have hb := grown_none hg
      exact ⟨blk_on h.blk hb, h.sc.next hb, below_t h.bel hb h.bel.size, own_on h.fo hb⟩
    | some g =>
      rw [hb] at hg
      obtain ⟨cur, ho⟩ := own_ty h.oo hb
      obtain ⟨h1, h2, _, h4, h5⟩ := h.rows hg (h.oo.lt g hb).1 ho (.inl rfl)
      exact ⟨h5 (by decide), h1, h2, h4 (by decide)⟩
  obtain ⟨k1, k2, k3, k4⟩ := key
  refine ⟨heap_setCell_same _ Fb 2 _ _ _ k1, k2.turn (grown_set _ _ _ _) k1 (by decide), h.le, h.nd, h.nb, ?_, nm_set k4 k1 (by decide) 2 v, h.cl, h.fc, h.lF, h.lM, k3.setCell (p := ⟨Fb, 2, none⟩) h.lF v⟩
  show (w3.setCell ⟨Fb, 2, none⟩ v).ownsRow w0.heap.size 9 1 v (f.order ++ [nm]).length (usC (f.order ++ [nm]))
  rw [usC_snoc, List.length_append]
  exact nm_set hown k1 (by decide) 2 v
end Go.Proofs.YtjadckhngalmlaaGreatDoor
