/-
  Plain: what going over a function's nodes keeps, and what it leaves.
-/
import Derived.Test.YtjadckhngalmlaaGreatDoorZTrPo
import Derived.Test.YtjadckhngalmlaaGreatDoorZTyRv
import Derived.Test.YtjadckhngalmlaaGreatDoorZNmBt
namespace Go.Proofs.YtjadckhngalmlaaGreatDoor
set_option linter.unusedVariables false
set_option linter.unusedSimpArgs false

structure VarP where
  name : List UInt8
  type : List UInt8
  vol : Bool
structure GlP where
  at' : Int
  var : VarP
  init : List (List NdT)
structure FnP where
  at' : Int
  name : List UInt8
  type : List UInt8
  params : List VarP
  body : List NdT
structure UnP where
  structs : List StP
  globals : List GlP
  funcs : List FnP
/-- The kind of a whole tree. -/
def whK (t : List NdT) : Int := (t.getLast?.map NdT.kind).getD 0
/-- What is wrong with a tree that is to be of certain kinds; 0: nothing. -/
def asA (p : Int → Bool) (t : List NdT) : Nat := if ckA wlB t = 0 then if p (whK t) = true then 0 else 90 else ckA wlB t
/-- The first that is wrong: its code. -/
def firstA {α : Type} (f : α → Nat) : List α → Nat
  | [] => 0
  | x :: r => if f x = 0 then firstA f r else f x
/-- The first that is wrong: its place and its code. -/
def firstI {α : Type} (f : α → Nat) : Nat → List α → Nat × Nat
  | _, [] => (0, 0)
  | i, x :: r => if f x = 0 then firstI f (i + 1) r else (i, f x)
theorem firstI_zero {α : Type} (f : α → Nat) : ∀ (l : List α) (i : Nat), (firstI f i l).2 = 0 → ∀ x ∈ l, f x = 0
  | [], _, _, x, hx => by cases hx
  | y :: r, i, h, x, hx => by
    by_cases h0 : f y = 0
    · have e : firstI f i (y :: r) = firstI f (i + 1) r := by show (if f y = 0 then _ else _) = _; rw [if_pos h0]
      rw [e] at h
      rcases List.mem_cons.1 hx with rfl | hx
      · exact h0
      · exact firstI_zero f r (i + 1) h x hx
    · have e : firstI f i (y :: r) = (i, f y) := by show (if f y = 0 then _ else _) = _; rw [if_neg h0]
      rw [e] at h
      exact absurd h h0
/-- A global. -/
def glB (S : List StP) (g : GlP) : Bool := nameB g.var.name && plB g.at' && (chA S g.var.type == 0) && vrB g.var.type
def glA (S : List StP) (g : GlP) : Nat := if glB S g = true then if 4096 < g.init.length then 3 else firstA (asA exB) g.init else 90
/-- A parameter, and what the function's type says of it; pt: is the function a prototype? -/
def prB (pt : Bool) (v : VarP) (t : List UInt8) : Bool := if (pt && v.name == []) = true then v.type == t && !v.vol else v.type == t && nameB v.name && !(v.vol && pt)
def all2 {α β : Type} (f : α → β → Bool) : List α → List β → Bool
  | [], [] => true
  | x :: l, y :: m => f x y && all2 f l m
  | _, _ => false
def ptB (f : FnP) : Bool := f.body.length == 0
def paB (f : FnP) : Bool := (sgA f.type).2.2 == 0 && all2 (prB (ptB f)) f.params (sgA f.type).2.1
def fnOk (S : List StP) (f : FnP) : Bool := nameB f.name && plB f.at' && (chA S f.type == 0) && paB f
def fnA (S : List StP) (f : FnP) : Nat := if fnOk S f = true then if ptB f = true then 0 else asA (fun k => k == 21) f.body else 90
/-- What is wrong with a unit: where, and its code. -/
def cuA (u : UnP) : Nat × Nat :=
  if 64 < u.structs.length ∨ 256 < u.globals.length ∨ 256 < u.funcs.length then (0, 3)
  else if (loA u.structs).2.1 = 0 then
    if (firstI (glA u.structs) 0 u.globals).2 = 0 then firstI (fnA u.structs) 0 u.funcs else firstI (glA u.structs) 0 u.globals
  else ((loA u.structs).1, (loA u.structs).2.1)
theorem cu_lens {u : UnP} (h : (cuA u).2 = 0) : u.structs.length ≤ 64 ∧ u.globals.length ≤ 256 ∧ u.funcs.length ≤ 256 := by
  unfold cuA at h
  by_cases h1 : 64 < u.structs.length ∨ 256 < u.globals.length ∨ 256 < u.funcs.length
  · rw [if_pos h1] at h
    exact absurd h (by decide)
  · omega
theorem cu_fn {u : UnP} (h : (cuA u).2 = 0) : ∀ f ∈ u.funcs, fnA u.structs f = 0 := by
  have hl := cu_lens h
  unfold cuA at h
  rw [if_neg (by omega)] at h
  by_cases h2 : (loA u.structs).2.1 = 0
  · rw [if_pos h2] at h
    by_cases h3 : (firstI (glA u.structs) 0 u.globals).2 = 0
    · rw [if_pos h3] at h
      exact firstI_zero _ _ _ h
    · rw [if_neg h3] at h
      exact absurd h h3
  · rw [if_neg h2] at h
    exact absurd h h2
theorem all2_len {α β : Type} (f : α → β → Bool) : ∀ (l : List α) (m : List β), all2 f l m = true → l.length = m.length
  | [], [], _ => rfl
  | x :: l, y :: m, h => by
    unfold all2 at h
    rw [Bool.and_eq_true] at h
    simp [all2_len f l m h.2]
  | [], y :: m, h => by cases h
  | x :: l, [], h => by cases h
end Go.Proofs.YtjadckhngalmlaaGreatDoor
namespace Go.Proofs.YtjadckhngalmlaaGreatDoor
set_option linter.unusedVariables false
set_option linter.unusedSimpArgs false

/-- A file. -/
structure FlP where
  m : MpP
  ng : Nat
  order : List (List UInt8)
  funcs : List FnP
def fl0 : FlP := ⟨mp0, 0, [], []⟩
def FlP.sc (f : FlP) : List ScP := [⟨f.m, 0⟩, bltS]
def FlP.find (f : FlP) (nm : List UInt8) : BdP := findP f.sc nm 0
def FlP.put (f : FlP) (nm : List UInt8) (b : BdP) : FlP := { f with m := updP f.m nm ⟨b, -1⟩, order := f.order ++ [nm] }
/-- A global more: what is wrong, and the file. -/
def glE (f : FlP) (v : VarP) : Nat := if (f.find v.name).kind = 0 then 0 else 6
def glF (f : FlP) (v : VarP) : FlP := { f.put v.name ⟨1, f.ng, v.type⟩ with ng := f.ng + 1 }
def agE (x there : FnP) : Nat := if (!ptB x && !ptB there) = true then 6 else if x.type = there.type then 0 else 131
def agF (f : FlP) (x : FnP) (i : Nat) : FlP := if ptB x = true then f else { f with funcs := f.funcs.set i x }
def fn0 : FnP := ⟨0, [], [], [], []⟩
def fnE (f : FlP) (x : FnP) : Nat :=
  if (f.find x.name).kind = 2 then agE x (f.funcs.getD (f.find x.name).idx fn0) else if (f.find x.name).kind = 0 then if f.funcs.length = 128 then 3 else 0 else 6
def fnF (f : FlP) (x : FnP) : FlP :=
  if (f.find x.name).kind = 2 then agF f x (f.find x.name).idx else { f.put x.name ⟨2, f.funcs.length, x.type⟩ with funcs := f.funcs ++ [x] }
def goG : FlP → List GlP → (Int × Nat) × FlP
  | f, [] => ((0, 0), f)
  | f, g :: r => if glE f g.var = 0 then goG (glF f g.var) r else ((g.at', glE f g.var), f)
def goF : FlP → List FnP → (Int × Nat) × FlP
  | f, [] => ((0, 0), f)
  | f, x :: r => if fnE f x = 0 then goF (fnF f x) r else ((x.at', fnE f x), f)
/-- The file of a unit: the fault, or the file. -/
def rdA (u : UnP) : (Int × Nat) × FlP :=
  if (cuA u).2 = 0 then
    if (goG fl0 u.globals).1.2 = 0 then goF (goG fl0 u.globals).2 u.funcs else goG fl0 u.globals
  else (((cuA u).1, (cuA u).2), fl0)
/-- A slot. -/
structure SlP where
  name : List UInt8
  type : List UInt8
  vol : Bool
  param : Bool
/-- While a function is gone over. -/
structure RsP where
  sc : List ScP
  slots : List SlP
  bds : List BdP
  uses : List (List UInt8)
def RsP.slot (r : RsP) (s : SlP) (i : Int) : RsP := { r with sc := declP r.sc s.name ⟨3, r.slots.length, s.type⟩ i, slots := r.slots ++ [s] }
def lvP (d : Nat) : List ScP → List ScP
  | [] => []
  | s :: r => if d ≤ s.depth then lvP d r else s :: r
def RsP.leave (r : RsP) (d : Nat) : RsP := { r with sc := lvP d r.sc }
def loE (r : RsP) (n : NdT) : Nat := if hasP r.sc n.text = true then 6 else if r.slots.length = 256 then 3 else 0
def loF (r : RsP) (n : NdT) (i : Nat) : RsP := { r.slot ⟨n.text, n.type, n.int == 1, false⟩ i with bds := r.bds.set i ⟨3, r.slots.length, n.type⟩ }
def usE (r : RsP) (nm : List UInt8) (i : Nat) : Nat := if (findP r.sc nm i).kind = 0 then 130 else 0
def ofF (b : BdP) : Bool := b.kind == 1 || b.kind == 2
def usF (r : RsP) (nm : List UInt8) (i : Nat) : RsP :=
  { r with bds := r.bds.set i (findP r.sc nm i), uses := if (ofF (findP r.sc nm i) && !r.uses.contains nm) = true then r.uses ++ [nm] else r.uses }
def noE (r : RsP) (n : NdT) (i d : Nat) : Nat := if n.kind = 22 then loE r n else if n.kind = 3 then usE r n.text i else 0
def noF (r : RsP) (n : NdT) (i d : Nat) : RsP :=
  if n.kind = 21 ∨ n.kind = 26 then if 1 < d then { r with sc := ⟨mp0, d⟩ :: r.sc } else r
  else if n.kind = 22 then loF r n i else if n.kind = 3 then usF r n.text i else r
def nd0 : NdT := ⟨0, 0, 0, 0, [], []⟩
def goN (t : List NdT) : RsP → List (Nat × Nat) → (Int × Nat) × RsP
  | r, [] => ((0, 0), r)
  | r, x :: l => if noE (r.leave x.2) (t.getD x.1 nd0) x.1 x.2 = 0 then goN t (noF (r.leave x.2) (t.getD x.1 nd0) x.1 x.2) l else (((t.getD x.1 nd0).at', noE (r.leave x.2) (t.getD x.1 nd0) x.1 x.2), r)
def goP : RsP → List VarP → Nat × RsP
  | r, [] => (0, r)
  | r, v :: l => if hasP r.sc v.name = true then (6, r) else goP (r.slot ⟨v.name, v.type, v.vol, true⟩ (-1)) l
end Go.Proofs.YtjadckhngalmlaaGreatDoor
namespace Go.Proofs.YtjadckhngalmlaaGreatDoor
set_option linter.unusedVariables false
set_option linter.unusedSimpArgs false

theorem blt_kind : ∀ (l : List (List UInt8 × List UInt8)) (i : Nat) (f : MpP), (∀ nm d, f nm = some d → d.bd.kind = 4 ∧ d.at' = -1) → ∀ nm d, bltG i l f nm = some d → d.bd.kind = 4 ∧ d.at' = -1
  | [], _, _, h, nm, d, hd => h nm d hd
  | x :: r, i, f, h, nm, d, hd => blt_kind r (i + 1) _ (fun n e he => by
      unfold updP upd at he
      split at he
      · cases he
        exact ⟨rfl, rfl⟩
      · exact h n e he) nm d hd
theorem bltM_kind (nm : List UInt8) : (finD (bltM nm)).kind = 0 ∨ (finD (bltM nm)).kind = 4 := by
  cases h : bltM nm with
  | none => exact .inl rfl
  | some d => exact .inr (blt_kind bltL 0 mp0 (fun n e he => by cases he) nm d h).1
/-- A file is well made. -/
structure FlP.Wf (f : FlP) : Prop where
  at' : ∀ nm d, f.m nm = some d → d.at' = -1
  gl : ∀ nm d, f.m nm = some d → d.bd.kind = 1 ∧ d.bd.idx < f.ng ∨ d.bd.kind = 2
  fn : ∀ nm d, f.m nm = some d → d.bd.kind = 2 → ∃ x, f.funcs[d.bd.idx]? = some x ∧ x.name = nm ∧ x.type = d.bd.type
  nf : ∀ (k : Nat) (x : FnP), f.funcs[k]? = some x → ∃ d, f.m x.name = some d ∧ d.bd.kind = 2 ∧ d.bd.idx = k
  gi : ∀ nm nm' d d', f.m nm = some d → f.m nm' = some d' → d.bd.kind = 1 → d'.bd.kind = 1 → d.bd.idx = d'.bd.idx → nm = nm'
  od : ∀ nm, nm ∈ f.order ↔ (f.m nm).isSome = true
  nd : f.order.Nodup
theorem fl0_wf : fl0.Wf := ⟨fun _ _ h => (by cases h), fun _ _ h => (by cases h), fun _ _ h => (by cases h), fun k x h => (by cases h), fun _ _ _ _ h => (by cases h), fun nm => ⟨fun h => (by cases h), fun h => (by cases h)⟩, List.nodup_nil⟩
theorem FlP.find_eq {f : FlP} (h : ∀ nm d, f.m nm = some d → d.at' = -1) (nm : List UInt8) : f.find nm = match f.m nm with | some d => d.bd | none => finD (bltM nm) := by
  show (if (hitP (f.m nm) 0 || false) = true then finD (f.m nm) else (if (hitP (bltM nm) 0 || true) = true then finD (bltM nm) else findP [] nm 0)) = _
  cases hm : f.m nm with
  | none =>
    rw [if_neg (by decide), Bool.or_true, if_pos rfl]
  | some d =>
    rw [if_pos (by show (decide (d.at' < 0) || false) = true; rw [h nm d hm]; decide)]
    rfl
theorem FlP.Wf.find_two {f : FlP} (h : f.Wf) {nm : List UInt8} (hk : (f.find nm).kind = 2) : ∃ d, f.m nm = some d ∧ d.bd = f.find nm := by
  rw [FlP.find_eq h.at'] at hk ⊢
  cases hm : f.m nm with
  | none =>
    rw [hm] at hk
    rcases bltM_kind nm with h4 | h4
    · exact absurd (h4.symm.trans hk) (by decide)
    · exact absurd (h4.symm.trans hk) (by decide)
  | some d => exact ⟨d, rfl, rfl⟩
theorem FlP.Wf.find_zero {f : FlP} (h : f.Wf) {nm : List UInt8} (hk : (f.find nm).kind = 0) : f.m nm = none := by
  rw [FlP.find_eq h.at'] at hk
  cases hm : f.m nm with
  | none => rfl
  | some d =>
    rw [hm] at hk
    rcases h.gl nm d hm with h1 | h1
    · exact absurd (h1.1.symm.trans hk) (by decide)
    · exact absurd (h1.symm.trans hk) (by decide)
theorem FlP.Wf.idx {f : FlP} (h : f.Wf) {nm : List UInt8} (hk : (f.find nm).kind = 2) : (f.find nm).idx < f.funcs.length := by
  obtain ⟨d, hd, e⟩ := h.find_two hk
  obtain ⟨x, hx, _⟩ := h.fn nm d hd (by rw [e]; exact hk)
  rw [← e]
  exact (List.getElem?_eq_some_iff.1 hx).1
theorem upd_of {f : MpP} {s nm : List UInt8} {x d : DcP} (h : updP f s x nm = some d) : nm = s ∧ d = x ∨ nm ≠ s ∧ f nm = some d := by
  unfold updP upd at h
  split at h
  · cases h
    exact .inl ⟨‹_›, rfl⟩
  · exact .inr ⟨‹_›, h⟩
theorem upd_self (f : MpP) (s : List UInt8) (x : DcP) : updP f s x s = some x := if_pos rfl
theorem upd_ne {f : MpP} {s nm : List UInt8} (x : DcP) (h : nm ≠ s) : updP f s x nm = f nm := if_neg h
theorem od_put {f : FlP} (h : f.Wf) {s : List UInt8} (h0 : f.m s = none) (x : DcP) : (∀ nm, nm ∈ f.order ++ [s] ↔ (updP f.m s x nm).isSome = true) ∧ (f.order ++ [s]).Nodup := by
  refine ⟨fun nm => ?_, ?_⟩
  · by_cases e : nm = s
    · subst e
      rw [upd_self]
      simp
    · rw [upd_ne x e, ← h.od nm]
      simp [e]
  · rw [List.nodup_append]
    refine ⟨h.nd, by simp, fun a ha b hb e => ?_⟩
    rw [List.mem_singleton] at hb
    subst hb
    subst e
    have := (h.od a).1 ha
    rw [h0] at this
    cases this
theorem glF_wf {f : FlP} (h : f.Wf) {v : VarP} (he : glE f v = 0) : (glF f v).Wf := by
  have h0 : f.m v.name = none := h.find_zero (by
    unfold glE at he
    by_cases hk : (f.find v.name).kind = 0
    · exact hk
    · rw [if_neg hk] at he
      cases he)
  obtain ⟨o1, o2⟩ := od_put h h0 ⟨⟨1, f.ng, v.type⟩, -1⟩
  refine ⟨fun nm d hd => ?_, fun nm d hd => ?_, fun nm d hd hk => ?_, fun k x hx => ?_, fun nm nm' d d' hd hd' hk hk' hi => ?_, o1, o2⟩
  · rcases upd_of hd with ⟨_, rfl⟩ | ⟨_, hd⟩
    · rfl
    · exact h.at' nm d hd
  · rcases upd_of hd with ⟨_, rfl⟩ | ⟨_, hd⟩
    · exact .inl ⟨rfl, Nat.lt_succ_self _⟩
    · rcases h.gl nm d hd with h1 | h1
      · exact .inl ⟨h1.1, Nat.lt_succ_of_lt h1.2⟩
      · exact .inr h1
  · rcases upd_of hd with ⟨_, rfl⟩ | ⟨_, hd⟩
    · cases hk
    · exact h.fn nm d hd hk
  · obtain ⟨d, hd, h1⟩ := h.nf k x hx
    have hne : x.name ≠ v.name := fun e => by rw [e, h0] at hd; cases hd
    exact ⟨d, (upd_ne _ hne).trans hd, h1⟩
  · rcases upd_of hd with ⟨e, rfl⟩ | ⟨_, hd⟩ <;> rcases upd_of hd' with ⟨e', rfl⟩ | ⟨_, hd'⟩
    · rw [e, e']
    · rcases h.gl nm' d' hd' with h1 | h1
      · have : f.ng = d'.bd.idx := hi
        omega
      · exact absurd (h1.symm.trans hk') (by decide)
    · rcases h.gl nm d hd with h1 | h1
      · have : d.bd.idx = f.ng := hi
        omega
      · exact absurd (h1.symm.trans hk) (by decide)
    · exact h.gi nm nm' d d' hd hd' hk hk' hi
theorem agF_wf {f : FlP} (h : f.Wf) {x : FnP} (hk : (f.find x.name).kind = 2) (he : agE x (f.funcs.getD (f.find x.name).idx fn0) = 0) : (agF f x (f.find x.name).idx).Wf := by
  unfold agF
  by_cases hp : ptB x = true
  · rw [if_pos hp]
    exact h
  · rw [if_neg hp]
    obtain ⟨d, hd, e⟩ := h.find_two hk
    obtain ⟨y, hy, y1, y2⟩ := h.fn _ d hd (by rw [e]; exact hk)
    have hil := (List.getElem?_eq_some_iff.1 hy).1
    rw [e] at hy y2 hil
    rw [List.getD_eq_getElem?_getD, hy] at he
    have hty : x.type = y.type := by
      unfold agE at he
      split at he
      · cases he
      · by_cases ht : x.type = y.type
        · exact ht
        · rw [Option.getD_some, if_neg ht] at he
          cases he
    refine ⟨h.at', h.gl, fun nm d' hd' hk' => ?_, fun k z hz => ?_, h.gi, h.od, h.nd⟩
    · obtain ⟨z, hz, z1, z2⟩ := h.fn nm d' hd' hk'
      by_cases e2 : d'.bd.idx = (f.find x.name).idx
      · have hz' : f.funcs[(f.find x.name).idx]? = some z := by rw [← e2]; exact hz
        have : z = y := Option.some.inj (hz'.symm.trans hy)
        subst this
        refine ⟨x, ?_, ?_, ?_⟩
        · show (f.funcs.set _ x)[d'.bd.idx]? = some x
          rw [e2, List.getElem?_set_self hil]
        · rw [← z1, y1]
        · rw [hty, z2]
      · exact ⟨z, by show (f.funcs.set _ x)[d'.bd.idx]? = some z; rw [List.getElem?_set_ne (fun e3 => e2 e3.symm)]; exact hz, z1, z2⟩
    · by_cases e2 : k = (f.find x.name).idx
      · subst e2
        rw [List.getElem?_set_self hil] at hz
        cases hz
        exact ⟨d, hd, by rw [e]; exact hk, by rw [e]⟩
      · rw [List.getElem?_set_ne (fun e3 => e2 e3.symm)] at hz
        exact h.nf k z hz
theorem fnF_wf {f : FlP} (h : f.Wf) {x : FnP} (he : fnE f x = 0) : (fnF f x).Wf := by
  unfold fnE at he
  unfold fnF
  by_cases h2 : (f.find x.name).kind = 2
  · rw [if_pos h2] at he ⊢
    exact agF_wf h h2 he
  · rw [if_neg h2] at he ⊢
    have hk0 : (f.find x.name).kind = 0 := by
      by_cases hk : (f.find x.name).kind = 0
      · exact hk
      · rw [if_neg hk] at he
        cases he
    have h0 := h.find_zero hk0
    obtain ⟨o1, o2⟩ := od_put h h0 ⟨⟨2, f.funcs.length, x.type⟩, -1⟩
    refine ⟨fun nm d hd => ?_, fun nm d hd => ?_, fun nm d hd hk => ?_, fun k z hz => ?_, fun nm nm' d d' hd hd' hk hk' hi => ?_, o1, o2⟩
    · rcases upd_of hd with ⟨_, rfl⟩ | ⟨_, hd⟩
      · rfl
      · exact h.at' nm d hd
    · rcases upd_of hd with ⟨_, rfl⟩ | ⟨_, hd⟩
      · exact .inr rfl
      · exact h.gl nm d hd
    · rcases upd_of hd with ⟨e, rfl⟩ | ⟨_, hd⟩
      · exact ⟨x, by show (f.funcs ++ [x])[f.funcs.length]? = _; rw [List.getElem?_append_right (Nat.le_refl _), Nat.sub_self]; rfl, e.symm, rfl⟩
      · obtain ⟨z, hz, z1⟩ := h.fn nm d hd hk
        exact ⟨z, by show (f.funcs ++ [x])[d.bd.idx]? = _; rw [List.getElem?_append_left (List.getElem?_eq_some_iff.1 hz).1]; exact hz, z1⟩
    · by_cases hlt : k < f.funcs.length
      · have hz' : (f.funcs ++ [x])[k]? = some z := hz
        rw [List.getElem?_append_left hlt] at hz'
        obtain ⟨d, hd, h1⟩ := h.nf k z hz'
        have hne : z.name ≠ x.name := fun e => by rw [e, h0] at hd; cases hd
        exact ⟨d, (upd_ne _ hne).trans hd, h1⟩
      · have hz' : (f.funcs ++ [x])[k]? = some z := hz
        have h1 := (List.getElem?_eq_some_iff.1 hz').1
        rw [List.length_append, List.length_singleton] at h1
        obtain rfl : k = f.funcs.length := by omega
        rw [List.getElem?_append_right (Nat.le_refl _), Nat.sub_self] at hz'
        cases hz'
        exact ⟨_, upd_self _ _ _, rfl, rfl⟩
    · rcases upd_of hd with ⟨e, rfl⟩ | ⟨_, hd⟩
      · cases hk
      · rcases upd_of hd' with ⟨e', rfl⟩ | ⟨_, hd'⟩
        · cases hk'
        · exact h.gi nm nm' d d' hd hd' hk hk' hi
/-- How great a file has become. -/
theorem glF_len (f : FlP) (v : VarP) : (glF f v).order.length = f.order.length + 1 ∧ (glF f v).ng = f.ng + 1 ∧ (glF f v).funcs = f.funcs := ⟨by show (f.order ++ [v.name]).length = _; simp, rfl, rfl⟩
theorem fnF_len {f : FlP} {x : FnP} (he : fnE f x = 0) (hl : f.funcs.length ≤ 128) : (fnF f x).order.length ≤ f.order.length + 1 ∧ (fnF f x).ng = f.ng ∧ (fnF f x).funcs.length ≤ 128 := by
  unfold fnE at he
  unfold fnF
  by_cases h2 : (f.find x.name).kind = 2
  · rw [if_pos h2]
    unfold agF
    split
    · exact ⟨by omega, rfl, hl⟩
    · exact ⟨by show f.order.length ≤ _; omega, rfl, by show (f.funcs.set _ x).length ≤ 128; rw [List.length_set]; exact hl⟩
  · rw [if_neg h2] at he ⊢
    have hk0 : (f.find x.name).kind = 0 := by
      by_cases hk : (f.find x.name).kind = 0
      · exact hk
      · rw [if_neg hk] at he
        cases he
    rw [if_pos hk0] at he
    have hn : f.funcs.length ≠ 128 := fun e => by rw [if_pos e] at he; cases he
    exact ⟨by show (f.order ++ [x.name]).length ≤ _; simp, rfl, by show (f.funcs ++ [x]).length ≤ 128; rw [List.length_append, List.length_singleton]; omega⟩
theorem goG_wf : ∀ (l : List GlP) (f : FlP), f.Wf → (goG f l).1.2 = 0 → (goG f l).2.Wf ∧ (goG f l).2.funcs = f.funcs
  | [], f, h, _ => ⟨h, rfl⟩
  | g :: r, f, h, he => by
    by_cases h0 : glE f g.var = 0
    · have e : goG f (g :: r) = goG (glF f g.var) r := by show (if _ then _ else _) = _; rw [if_pos h0]
      rw [e] at he ⊢
      have := goG_wf r _ (glF_wf h h0) he
      exact ⟨this.1, this.2.trans (glF_len f g.var).2.2⟩
    · have e : goG f (g :: r) = ((g.at', glE f g.var), f) := by show (if _ then _ else _) = _; rw [if_neg h0]
      rw [e] at he
      exact absurd he h0
theorem goF_wf : ∀ (l : List FnP) (f : FlP), f.Wf → (goF f l).1.2 = 0 → (goF f l).2.Wf
  | [], f, h, _ => h
  | x :: r, f, h, he => by
    by_cases h0 : fnE f x = 0
    · have e : goF f (x :: r) = goF (fnF f x) r := by show (if _ then _ else _) = _; rw [if_pos h0]
      rw [e] at he ⊢
      exact goF_wf r _ (fnF_wf h h0) he
    · have e : goF f (x :: r) = ((x.at', fnE f x), f) := by show (if _ then _ else _) = _; rw [if_neg h0]
      rw [e] at he
      exact absurd he h0
theorem rdA_wf {u : UnP} (h : (rdA u).1.2 = 0) : (rdA u).2.Wf ∧ (cuA u).2 = 0 := by
  unfold rdA at h ⊢
  by_cases h1 : (cuA u).2 = 0
  · rw [if_pos h1] at h ⊢
    by_cases h2 : (goG fl0 u.globals).1.2 = 0
    · rw [if_pos h2] at h ⊢
      exact ⟨goF_wf _ _ (goG_wf _ _ fl0_wf h2).1 h, h1⟩
    · rw [if_neg h2] at h
      exact absurd h h2
  · rw [if_neg h1] at h
    exact absurd h h1
end Go.Proofs.YtjadckhngalmlaaGreatDoor
namespace Go.Proofs.YtjadckhngalmlaaGreatDoor
set_option linter.unusedVariables false
set_option linter.unusedSimpArgs false

theorem lv_mem : ∀ {sc : List ScP} {d : Nat} {s : ScP}, s ∈ sc → s.depth < d → s ∈ lvP d sc
  | [], _, _, h, _ => by cases h
  | x :: r, d, s, h, hd => by
    unfold lvP
    by_cases hx : d ≤ x.depth
    · rw [if_pos hx]
      rcases List.mem_cons.1 h with rfl | h
      · omega
      · exact lv_mem h hd
    · rw [if_neg hx]
      exact h
theorem lv_sub : ∀ {sc : List ScP} {d : Nat} {s : ScP}, s ∈ lvP d sc → s ∈ sc
  | [], _, _, h => by cases h
  | x :: r, d, s, h => by
    unfold lvP at h
    by_cases hx : d ≤ x.depth
    · rw [if_pos hx] at h
      exact List.mem_cons_of_mem _ (lv_sub h)
    · rw [if_neg hx] at h
      exact h
/-- A scope around the whole function is there. -/
def RsP.Deep (r : RsP) : Prop := ∃ s ∈ r.sc, s.depth = 0
/-- A slot's binding tells its slot. -/
def slOk (L : List SlP) (nm : List UInt8) (b : BdP) : Prop := b.kind = 3 → ∃ s, L[b.idx]? = some s ∧ s.name = nm ∧ s.type = b.type
theorem slOk.app {L : List SlP} {nm : List UInt8} {b : BdP} (h : slOk L nm b) (s : SlP) : slOk (L ++ [s]) nm b := fun hk => by
  obtain ⟨x, h1, h2⟩ := h hk
  exact ⟨x, by rw [List.getElem?_append_left (List.getElem?_eq_some_iff.1 h1).1]; exact h1, h2⟩
/-- While a function of these nodes is gone over. -/
structure RsP.Wf (t : List NdT) (r : RsP) : Prop where
  dp : r.Deep
  sc : ∀ s ∈ r.sc, ∀ nm d, s.m nm = some d → slOk r.slots nm d.bd
  bd : ∀ (k : Nat) (b : BdP), r.bds[k]? = some b → slOk r.slots (t.getD k nd0).text b
theorem RsP.Wf.lv {t : List NdT} {r : RsP} (h : r.Wf t) {d : Nat} (hd : 0 < d) : (r.leave d).Wf t := by
  obtain ⟨s, h1, h2⟩ := h.dp
  exact ⟨⟨s, lv_mem h1 (by omega), h2⟩, fun s hs => h.sc s (lv_sub hs), h.bd⟩
theorem RsP.Wf.lv_ne {t : List NdT} {r : RsP} (h : r.Wf t) {d : Nat} (hd : 0 < d) : lvP d r.sc ≠ [] := fun e => by
  obtain ⟨s, h1, h2⟩ := h.dp
  have := lv_mem h1 (show s.depth < d by omega)
  rw [e] at this
  cases this
theorem find_ok {L : List SlP} : ∀ {sc : List ScP} {nm : List UInt8} {i : Int}, (∀ s ∈ sc, ∀ nm d, s.m nm = some d → slOk L nm d.bd) → slOk L nm (findP sc nm i)
  | [], _, _, _ => fun hk => by cases hk
  | s :: r, nm, i, h => by
    unfold findP
    split
    · cases hm : s.m nm with
      | none => exact fun hk => by cases hk
      | some d => exact h s (by simp) nm d hm
    · exact find_ok (fun s' hs => h s' (by simp [hs]))
theorem RsP.Wf.slot {t : List NdT} {r : RsP} (h : r.Wf t) (s : SlP) (i : Int) : (r.slot s i).Wf t := by
  have key : ∀ {sc : List ScP}, (∀ s ∈ sc, ∀ nm d, s.m nm = some d → slOk r.slots nm d.bd) → ∀ x ∈ declP sc s.name ⟨3, r.slots.length, s.type⟩ i, ∀ nm d, x.m nm = some d → slOk (r.slots ++ [s]) nm d.bd := by
    intro sc hsc x hx nm d hd
    cases sc with
    | nil => cases hx
    | cons y l =>
      rcases List.mem_cons.1 hx with rfl | hx
      · rcases upd_of hd with ⟨rfl, rfl⟩ | ⟨_, hd⟩
        · exact fun _ => ⟨s, by simp, rfl, rfl⟩
        · exact (hsc y (by simp) nm d hd).app s
      · exact (hsc x (by simp [hx]) nm d hd).app s
  refine ⟨?_, key h.sc, fun k b hb => (h.bd k b hb).app s⟩
  obtain ⟨x, h1, h2⟩ := h.dp
  show ∃ s' ∈ declP r.sc s.name ⟨3, r.slots.length, s.type⟩ i, s'.depth = 0
  cases hsc : r.sc with
  | nil => rw [hsc] at h1; cases h1
  | cons y l =>
    rw [hsc] at h1
    rcases List.mem_cons.1 h1 with rfl | h1
    · exact ⟨_, List.mem_cons_self .., h2⟩
    · exact ⟨x, List.mem_cons_of_mem _ h1, h2⟩
theorem RsP.Wf.set {t : List NdT} {r : RsP} (h : r.Wf t) {i : Nat} {b : BdP} (hb : slOk r.slots (t.getD i nd0).text b) : RsP.Wf t { r with bds := r.bds.set i b } := by
  refine ⟨h.dp, h.sc, fun k x hx => ?_⟩
  have hx : (r.bds.set i b)[k]? = some x := hx
  by_cases hk : k = i
  · subst hk
    have := (List.getElem?_eq_some_iff.1 hx).1
    rw [List.length_set] at this
    rw [List.getElem?_set_self this] at hx
    cases hx
    exact hb
  · rw [List.getElem?_set_ne (by omega)] at hx
    exact h.bd k x hx
/-- A node keeps all this. -/
theorem RsP.Wf.node {t : List NdT} {r : RsP} (h : r.Wf t) {i d : Nat} (he : noE r (t.getD i nd0) i d = 0) (h256 : r.slots.length ≤ 256) :
    (noF r (t.getD i nd0) i d).Wf t ∧ (noF r (t.getD i nd0) i d).slots.length = r.slots.length + (if (t.getD i nd0).kind = 22 then 1 else 0) ∧ (noF r (t.getD i nd0) i d).slots.length ≤ 256 ∧ (noF r (t.getD i nd0) i d).uses.length ≤ r.uses.length + 1 ∧ (noF r (t.getD i nd0) i d).bds.length = r.bds.length := by
  unfold noE at he
  unfold noF
  by_cases h1 : (t.getD i nd0).kind = 21 ∨ (t.getD i nd0).kind = 26
  · have h22 : ¬ (t.getD i nd0).kind = 22 := by omega
    rw [if_pos h1, if_neg h22]
    split
    · refine ⟨⟨?_, fun s hs nm e hm => ?_, h.bd⟩, rfl, h256, Nat.le_succ _, rfl⟩
      · obtain ⟨s, h2, h3⟩ := h.dp
        exact ⟨s, List.mem_cons_of_mem _ h2, h3⟩
      · rcases List.mem_cons.1 hs with rfl | hs
        · cases hm
        · exact h.sc s hs nm e hm
    · exact ⟨h, rfl, h256, Nat.le_succ _, rfl⟩
  · rw [if_neg h1]
    by_cases h2 : (t.getD i nd0).kind = 22
    · rw [if_pos h2] at he ⊢
      rw [if_pos h2]
      unfold loE at he
      by_cases h3 : hasP r.sc (t.getD i nd0).text = true
      · rw [if_pos h3] at he; cases he
      · rw [if_neg h3] at he
        by_cases h4 : r.slots.length = 256
        · rw [if_pos h4] at he; cases he
        · have hs := h.slot ⟨(t.getD i nd0).text, (t.getD i nd0).type, (t.getD i nd0).int == 1, false⟩ i
          have hw := hs.set (i := i) (b := ⟨3, r.slots.length, (t.getD i nd0).type⟩) (fun _ => ⟨_, by show (r.slots ++ [_])[r.slots.length]? = _; simp; rfl, rfl, rfl⟩)
          refine ⟨hw, ?_, ?_, Nat.le_succ _, ?_⟩
          · show (r.slots ++ [_]).length = _
            simp
          · show (r.slots ++ [_]).length ≤ 256
            simp
            omega
          · show (r.bds.set _ _).length = _
            simp
    · rw [if_neg h2] at he ⊢
      rw [if_neg h2]
      by_cases h3 : (t.getD i nd0).kind = 3
      · rw [if_pos h3] at he ⊢
        have hw := h.set (i := i) (b := findP r.sc (t.getD i nd0).text i) (find_ok h.sc)
        refine ⟨⟨hw.dp, hw.sc, hw.bd⟩, rfl, h256, ?_, ?_⟩
        · show (if _ then r.uses ++ [_] else r.uses).length ≤ _
          split <;> simp
        · show (r.bds.set _ _).length = _
          simp
      · rw [if_neg h3]
        exact ⟨h, rfl, h256, Nat.le_succ _, rfl⟩
/-- Does a node of a kind get a binding? -/
def nmB (k : Int) : Prop := k = 22 ∨ k = 3
theorem node_bd {t : List NdT} {r : RsP} {i d : Nat} (he : noE r (t.getD i nd0) i d = 0) :
    (nmB (t.getD i nd0).kind → ∃ b, b.kind ≠ 0 ∧ (noF r (t.getD i nd0) i d).bds = r.bds.set i b) ∧ (¬ nmB (t.getD i nd0).kind → (noF r (t.getD i nd0) i d).bds = r.bds) := by
  unfold noE at he
  unfold noF nmB
  by_cases h1 : (t.getD i nd0).kind = 21 ∨ (t.getD i nd0).kind = 26
  · rw [if_pos h1]
    refine ⟨fun h => by omega, fun _ => ?_⟩
    split <;> rfl
  · rw [if_neg h1]
    by_cases h2 : (t.getD i nd0).kind = 22
    · rw [if_pos h2]
      exact ⟨fun _ => ⟨⟨3, r.slots.length, (t.getD i nd0).type⟩, by show (3 : Int) ≠ 0; decide, rfl⟩, fun h => absurd (.inl h2) h⟩
    · rw [if_neg h2] at he ⊢
      by_cases h3 : (t.getD i nd0).kind = 3
      · rw [if_pos h3] at he ⊢
        refine ⟨fun _ => ⟨findP r.sc (t.getD i nd0).text i, fun h0 => ?_, rfl⟩, fun h => absurd (.inr h3) h⟩
        unfold usE at he
        rw [if_pos h0] at he
        cases he
      · rw [if_neg h3]
        exact ⟨fun h => by rcases h with h | h <;> contradiction, fun _ => rfl⟩
def dcN (t : List NdT) (l : List (Nat × Nat)) : Nat := (l.filter fun x => (t.getD x.1 nd0).kind == 22).length
/-- All nodes gone over: what is kept, how many slots there are, which nodes have bindings. -/
theorem goN_all {t : List NdT} : ∀ (l : List (Nat × Nat)) (r : RsP), r.Wf t → r.slots.length ≤ 256 → (∀ x ∈ l, 0 < x.2) → (goN t r l).1.2 = 0 →
    (goN t r l).2.Wf t ∧ (goN t r l).2.slots.length = r.slots.length + dcN t l ∧ (goN t r l).2.slots.length ≤ 256 ∧ (goN t r l).2.bds.length = r.bds.length ∧ (goN t r l).2.uses.length ≤ r.uses.length + l.length ∧
    (∀ k, k ∉ l.map Prod.fst → (goN t r l).2.bds[k]? = r.bds[k]?) ∧
    ((l.map Prod.fst).Nodup → ∀ k ∈ l.map Prod.fst, (nmB (t.getD k nd0).kind → k < r.bds.length → ∃ b, (goN t r l).2.bds[k]? = some b ∧ b.kind ≠ 0) ∧ (¬ nmB (t.getD k nd0).kind → (goN t r l).2.bds[k]? = r.bds[k]?))
  | [], r, h, h2, _, _ => ⟨h, rfl, h2, rfl, Nat.le_refl _, fun _ _ => rfl, fun _ k hk => by cases hk⟩
  | x :: l, r, h, h2, hd, he => by
    unfold goN at he ⊢
    by_cases h0 : noE (r.leave x.2) (t.getD x.1 nd0) x.1 x.2 = 0
    · rw [if_pos h0] at he ⊢
      have hx := hd x (by simp)
      obtain ⟨a1, a2, a3, a4, a5⟩ := (h.lv hx).node h0 h2
      obtain ⟨b1, b2, b3, b4, b5, b6, b7⟩ := goN_all l _ a1 a3 (fun y hy => hd y (by simp [hy])) he
      obtain ⟨c1, c2⟩ := node_bd h0
      refine ⟨b1, ?_, b3, b4.trans a5, ?_, ?_, ?_⟩
      · rw [b2, a2]
        have e : dcN t (x :: l) = (if (t.getD x.1 nd0).kind = 22 then 1 else 0) + dcN t l := by
          unfold dcN
          rw [List.filter_cons]
          by_cases hk : (t.getD x.1 nd0).kind = 22
          · rw [if_pos (by simpa using hk), if_pos hk, List.length_cons]; omega
          · rw [if_neg (by simpa using hk), if_neg hk]; omega
        rw [e]
        show r.slots.length + _ + _ = _
        omega
      · have : (r.leave x.2).uses.length = r.uses.length := rfl
        rw [List.length_cons]
        omega
      · intro k hk
        simp only [List.map_cons, List.mem_cons, not_or] at hk
        rw [b6 k hk.2]
        by_cases hn : nmB (t.getD x.1 nd0).kind
        · obtain ⟨b, _, hb⟩ := c1 hn
          rw [hb, List.getElem?_set_ne (by omega)]
          rfl
        · rw [c2 hn]
          rfl
      · intro hnd k hk
        simp only [List.map_cons, List.nodup_cons] at hnd
        rcases List.mem_cons.1 hk with rfl | hk
        · refine ⟨fun hn hlt => ?_, fun hn => ?_⟩
          · obtain ⟨b, hb0, hb⟩ := c1 hn
            refine ⟨b, ?_, hb0⟩
            rw [b6 _ hnd.1, hb]
            exact List.getElem?_set_self hlt
          · rw [b6 _ hnd.1, c2 hn]
            rfl
        · obtain ⟨d1, d2⟩ := b7 hnd.2 k hk
          have hne : k ≠ x.1 := fun e => hnd.1 (by rw [← e]; exact hk)
          refine ⟨fun hn hlt => d1 hn (by rw [a5]; exact hlt), fun hn => ?_⟩
          rw [d2 hn]
          by_cases hn2 : nmB (t.getD x.1 nd0).kind
          · obtain ⟨b, _, hb⟩ := c1 hn2
            rw [hb, List.getElem?_set_ne (by omega)]
            rfl
          · rw [c2 hn2]
            rfl
    · rw [if_neg h0] at he
      exact absurd he h0
/-- All parameters gone over. -/
theorem goP_all {t : List NdT} : ∀ (l : List VarP) (r : RsP), r.Wf t → (goP r l).1 = 0 →
    (goP r l).2.Wf t ∧ (goP r l).2.slots.length = r.slots.length + l.length ∧ (goP r l).2.bds = r.bds ∧ (goP r l).2.uses = r.uses
  | [], r, h, _ => ⟨h, rfl, rfl, rfl⟩
  | v :: l, r, h, he => by
    unfold goP at he ⊢
    by_cases h0 : hasP r.sc v.name = true
    · rw [if_pos h0] at he
      cases he
    · rw [if_neg h0] at he ⊢
      obtain ⟨a1, a2, a3, a4⟩ := goP_all l _ (h.slot ⟨v.name, v.type, v.vol, true⟩ (-1)) he
      refine ⟨a1, ?_, a3, a4⟩
      rw [a2]
      show (r.slots ++ [_]).length + l.length = _
      simp
      omega
/-- A function's resolver, as it begins. -/
def rs0 (f : FlP) (n : Nat) : RsP := ⟨⟨mp0, 0⟩ :: f.sc, [], List.replicate n ⟨0, 0, []⟩, []⟩
theorem rs0_wf {f : FlP} (hf : f.Wf) (t : List NdT) : (rs0 f t.length).Wf t := by
  refine ⟨⟨_, List.mem_cons_self .., rfl⟩, fun s hs nm d hd => ?_, fun k b hb hk => ?_⟩
  · intro hk
    have hs : s ∈ (⟨mp0, 0⟩ :: [⟨f.m, 0⟩, bltS] : List ScP) := hs
    simp only [List.mem_cons, List.not_mem_nil, or_false] at hs
    rcases hs with rfl | rfl | rfl
    · cases hd
    · rcases hf.gl nm d hd with ⟨h1, _⟩ | h1
      · rw [h1] at hk; cases hk
      · rw [h1] at hk; cases hk
    · have h1 := (blt_kind bltL 0 mp0 (fun n e he => by cases he) nm d hd).1
      rw [h1] at hk; cases hk
  · have hb : (List.replicate t.length (⟨0, 0, []⟩ : BdP))[k]? = some b := hb
    rw [List.getElem?_replicate] at hb
    split at hb
    · cases hb; cases hk
    · cases hb
end Go.Proofs.YtjadckhngalmlaaGreatDoor
