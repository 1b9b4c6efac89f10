/-
  The resolver, in the code: leave.
-/
import Derived.Test.YtjadckhngalmlaaGreatDoorZNmFm
import Derived.Test.YtjadckhngalmlaaGreatDoorZNmFu
import Derived.Test.YtjadckhngalmlaaGreatDoorZNmFi
namespace Go.Proofs.YtjadckhngalmlaaGreatDoor
set_option linter.unusedVariables false
set_option linter.unusedSimpArgs false
set_option maxRecDepth 100000
open Go.RowKit

/-- One more block that nothing of the resolver's touches. -/
def RsG.add (G : RsG) (g : Nat) : RsG := { G with Z := fun b => G.Z b ∨ b = g }
theorem RsM.wide {G : RsG} {r : RsP} {p : Option Addr} {L : List ScM} {sv uv : Value} {K : Nat} {w w' : World} (h : RsM G r p L sv uv K w) (hb : Below w.heap.size w w') {g : Nat} (h1 : w.heap.size ≤ g) (h2 : g < w'.heap.size) : RsM (G.add g) r p L sv uv K w' := by
  have hn := h.next hb
  refine ⟨hn.blk, hn.sc, hn.le, hn.ne, hn.nd, hn.nb, hn.so, hn.bd, hn.bl, hn.uo, hn.lR, hn.lB, hn.lM, ?_, ?_, ?_, ?_, ?_, ?_, hn.bs⟩
  · rintro (hz | hz)
    · exact h.zR hz
    · have := (Array.getElem?_eq_some_iff.1 h.blk).1
      have hz : G.R = g := hz
      omega
  · rintro (hz | hz)
    · exact h.zB hz
    · have := (Array.getElem?_eq_some_iff.1 h.bd).1
      have hz : G.BD = g := hz
      omega
  · rintro c hc (hz | hz)
    · exact h.zM c hc hz
    · have := (h.sc.types c hc).2.lt
      have hz : c.M = g := hz
      omega
  · rintro k hk (hz | hz)
    · exact h.zS k hk hz
    · have := (h.so.lt k hk).2
      have hz : k = g := hz
      omega
  · rintro k hk (hz | hz)
    · exact h.zU k hk hz
    · have := (h.uo.lt k hk).2
      have hz : k = g := hz
      omega
  · rintro b (hz | hz)
    · exact hn.zs b hz
    · have hz : b = g := hz
      omega
/-- All blocks of a span are none of the resolver's. -/
def RsG.span (G : RsG) (lo hi : Nat) : RsG := { G with Z := fun b => G.Z b ∨ (lo ≤ b ∧ b < hi) }
theorem RsM.span {G : RsG} {r : RsP} {p : Option Addr} {L : List ScM} {sv uv : Value} {K : Nat} {w w' : World} (h : RsM G r p L sv uv K w) (hb : Below w.heap.size w w') {lo hi : Nat} (h1 : w.heap.size ≤ lo) (h2 : hi ≤ w'.heap.size) : RsM (G.span lo hi) r p L sv uv K w' := by
  have hn := h.next hb
  have key : ∀ k, k < w.heap.size → ¬ G.Z k → ¬ (G.span lo hi).Z k := fun k hk hz hh => by
    rcases hh with hh | hh
    · exact hz hh
    · omega
  refine ⟨hn.blk, hn.sc, hn.le, hn.ne, hn.nd, hn.nb, hn.so, hn.bd, hn.bl, hn.uo, hn.lR, hn.lB, hn.lM, key _ (Array.getElem?_eq_some_iff.1 h.blk).1 h.zR, key _ (Array.getElem?_eq_some_iff.1 h.bd).1 h.zB, fun c hc => key _ (h.sc.types c hc).2.lt (h.zM c hc), fun k hk => key _ (h.so.lt k hk).2 (h.zS k hk), fun k hk => key _ (h.uo.lt k hk).2 (h.zU k hk), ?_, hn.bs⟩
  rintro b (hz | hz)
  · exact hn.zs b hz
  · omega
theorem RsM.slims {G : RsG} {r : RsP} {p : Option Addr} {L : List ScM} {sv uv : Value} {K : Nat} {w : World} {lo hi : Nat} (h : RsM (G.span lo hi) r p L sv uv K w) : RsM G r p L sv uv K w :=
  ⟨h.blk, h.sc, h.le, h.ne, h.nd, h.nb, h.so, h.bd, h.bl, h.uo, h.lR, h.lB, h.lM, fun z => h.zR (.inl z), fun z => h.zB (.inl z), fun c hc z => h.zM c hc (.inl z), fun k hk z => h.zS k hk (.inl z), fun k hk z => h.zU k hk (.inl z), fun b z => h.zs b (.inl z), h.bs⟩
theorem Kf.slims {G : RsG} {w w' : World} {lo hi : Nat} (h : Kf (G.span lo hi) w w') : Kf G w w' := ⟨h.bel, h.ctl, fun b z => h.zon b (.inl z)⟩
theorem Kf.ons {G : RsG} {w w' : World} {lo hi g : Nat} (h : Kf (G.span lo hi) w w') (h1 : lo ≤ g) (h2 : g < hi) : w'.heap[g]? = w.heap[g]? := h.zon g (.inr ⟨h1, h2⟩)
/-- A block that is none of the resolver's is written. -/
theorem RsM.zput {G : RsG} {r : RsP} {p : Option Addr} {L : List ScM} {sv uv : Value} {K : Nat} {w : World} (h : RsM G r p L sv uv K w) {g : Nat} (hz : G.Z g) {x : Array Value} {T : TypeId} {fr : Nat × Nat} (ho : w.heap[g]? = some (.cells x T fr)) (hT : T ≠ 98) (i : Nat) (v : Value) : RsM G r p L sv uv K (w.setCell ⟨g, i, none⟩ v) := by
  have hg := grown_set w g i v
  have hk : ∀ b, b ≠ g → (w.setCell ⟨g, i, none⟩ v).heap[b]? = w.heap[b]? := fun b hb => Below.heap_setCell _ _ _ _ hb
  refine { h with blk := ?_, sc := h.sc.turn hg ho hT, so := ?_, bd := ?_, uo := ?_, zs := fun b hb => Nat.lt_of_lt_of_le (h.zs b hb) hg.size, bs := Nat.le_trans h.bs hg.size }
  · exact (hk _ (fun e => h.zR (by rw [e]; exact hz))).trans h.blk
  · exact own_turn h.so hg fun k hk e => h.zS k hk (by rw [e]; exact hz)
  · exact (hk _ (fun e => h.zB (by rw [e]; exact hz))).trans h.bd
  · exact own_turn h.uo hg fun k hk e => h.zU k hk (by rw [e]; exact hz)
theorem Kf.set {G : RsG} {w : World} {g : Nat} (hZ : ∀ b, G.Z b → b < w.heap.size) (hB : G.base ≤ w.heap.size) (hb : G.base ≤ g) (hz : ¬ G.Z g) {x : Array Value} {T : TypeId} {fr : Nat × Nat} (ho : w.heap[g]? = some (.cells x T fr)) (i : Nat) (v : Value) : Kf G w (w.setCell ⟨g, i, none⟩ v) :=
  Kf.grown hZ hB (grown_set w g i v) hb hz ho rfl
/-- Another innermost scope. -/
theorem RsM.scp {G : RsG} {r : RsP} {p p' : Option Addr} {L L' : List ScM} {sv uv : Value} {K : Nat} {w : World} (h : RsM G r p L sv uv K w) (hs : ScIn w L' p') (hne : L' ≠ []) (hnd : (L'.map ScM.M).Nodup) (hnb : ∀ c ∈ L', c.n ≤ K) (hlM : ∀ c ∈ L', G.base ≤ c.M) (hzM : ∀ c ∈ L', ¬ G.Z c.M) :
    RsM G { r with sc := L'.map ScM.s } p' L' sv uv K (w.setCell ⟨G.R, 0, none⟩ (.pointer p')) ∧ Kf G w (w.setCell ⟨G.R, 0, none⟩ (.pointer p')) := by
  have hg := grown_set w G.R 0 (.pointer p')
  have hb := h.blk
  refine ⟨⟨heap_setCell_same w G.R 0 _ _ _ hb, hs.turn hg hb (by decide), rfl, hne, hnd, hnb, ?_, ?_, h.bl, ?_, h.lR, h.lB, hlM, h.zR, h.zB, hzM, h.zS, h.zU, fun b hz => Nat.lt_of_lt_of_le (h.zs b hz) hg.size, Nat.le_trans h.bs hg.size⟩, Kf.set h.zs h.bs h.lR h.zR hb 0 _⟩
  · exact nm_set h.so hb (by decide) _ _
  · exact (Below.heap_setCell _ _ _ _ (ne_ty h.bd hb (by decide))).trans h.bd
  · exact nm_set h.uo hb (by decide) _ _
/-- What a row of the resolver's leaves when it grows. -/
theorem RsM.rowed {G : RsG} {r : RsP} {p : Option Addr} {L : List ScM} {sv uv : Value} {K : Nat} {w w3 : World} (h : RsM G r p L sv uv K w) {T : TypeId} {sz n : Nat} {v : Value} {xs : List Value} (ho : w.ownsRow G.base T sz v n xs) (hT : T ≠ 98 ∧ T ≠ 72 ∧ T ≠ 49) (hz : ∀ g, v.ownBlock = some g → ¬ G.Z g) (hg : w.grownBy w3 v.ownBlock) :
    Kf G w w3 ∧ ScIn w3 L p ∧ w3.heap[G.R]? = w.heap[G.R]? ∧ w3.heap[G.BD]? = w.heap[G.BD]? ∧ (T ≠ 51 → w3.ownsRow G.base 51 4 sv r.slots.length (slCs r.slots)) ∧ (T ≠ 9 → w3.ownsRow G.base 9 1 uv r.uses.length (usC r.uses)) := by
  cases hb : v.ownBlock with
  | none =>
    rw [hb] at hg
    have hb := grown_none hg
    exact ⟨h.kf hb, h.sc.next hb, hb.block _ (Array.getElem?_eq_some_iff.1 h.blk).1, hb.block _ (Array.getElem?_eq_some_iff.1 h.bd).1, fun _ => own_on h.so hb, fun _ => own_on h.uo hb⟩
  | some g =>
    rw [hb] at hg
    obtain ⟨cur, hh⟩ := own_ty ho hb
    refine ⟨Kf.grown h.zs h.bs hg (ho.lt g hb).1 (hz g hb) hh rfl, h.sc.turn hg hh hT.1, ?_, ?_, fun hne => ?_, fun hne => ?_⟩
    · exact hg.block _ (Array.getElem?_eq_some_iff.1 h.blk).1 (fun e => by injection e with e; exact ne_ty h.blk hh (Ne.symm hT.2.1) e)
    · exact hg.block _ (Array.getElem?_eq_some_iff.1 h.bd).1 (fun e => by injection e with e; exact ne_ty h.bd hh (Ne.symm hT.2.2) e)
    · refine own_turn h.so hg fun k hk e => ?_
      obtain ⟨cur', hh'⟩ := own_ty h.so hk
      exact ne_ty hh' hh (Ne.symm hne) e
    · refine own_turn h.uo hg fun k hk e => ?_
      obtain ⟨cur', hh'⟩ := own_ty h.uo hk
      exact ne_ty hh' hh (Ne.symm hne) e
theorem slCs_snoc (l : List SlP) (s : SlP) : slCs (l ++ [s]) = slCs l ++ slC s := by unfold slCs; simp
/-- One more slot. -/
theorem RsM.app {G : RsG} {r : RsP} {p : Option Addr} {L : List ScM} {sv uv : Value} {K : Nat} {w w3 : World} (h : RsM G r p L sv uv K w) (s : SlP) {v : Value} (hown : w3.ownsRow G.base 51 4 v (r.slots.length + 1) (slCs r.slots ++ slC s)) (hg : w.grownBy w3 sv.ownBlock) (hl : ∀ g, v.ownBlock = some g → sv.ownBlock = some g ∨ w.heap.size ≤ g) :
    RsM G { r with slots := r.slots ++ [s] } p L v uv K (w3.setCell ⟨G.R, 1, none⟩ v) ∧ Kf G w (w3.setCell ⟨G.R, 1, none⟩ v) := by
  obtain ⟨k1, k2, k3, k4, _, k6⟩ := h.rowed h.so ⟨by decide, by decide, by decide⟩ h.zS hg
  have hb := k3.trans h.blk
  have hZ : ∀ b, G.Z b → b < w3.heap.size := fun b hz => Nat.lt_of_lt_of_le (h.zs b hz) hg.size
  have hB := Nat.le_trans h.bs hg.size
  have hg2 := grown_set w3 G.R 1 v
  refine ⟨⟨heap_setCell_same w3 G.R 1 _ _ _ hb, k2.turn hg2 hb (by decide), h.le, h.ne, h.nd, h.nb, ?_, ?_, h.bl, ?_, h.lR, h.lB, h.lM, h.zR, h.zB, h.zM, ?_, h.zU, fun b hz => Nat.lt_of_lt_of_le (hZ b hz) hg2.size, Nat.le_trans hB hg2.size⟩, k1.trans (Kf.set hZ hB h.lR h.zR hb 1 _)⟩
  · show (w3.setCell ⟨G.R, 1, none⟩ v).ownsRow G.base 51 4 v (r.slots ++ [s]).length (slCs (r.slots ++ [s]))
    rw [slCs_snoc, List.length_append]
    exact nm_set hown hb (by decide) 1 v
  · exact (Below.heap_setCell _ _ _ _ (ne_ty (k4.trans h.bd) hb (by decide))).trans (k4.trans h.bd)
  · exact nm_set (k6 (by decide)) hb (by decide) _ _
  · intro g hgv hz
    rcases hl g hgv with h1 | h1
    · exact h.zS g h1 hz
    · have := h.zs g hz
      omega
/-- One more name that is used. -/
theorem RsM.usd {G : RsG} {r : RsP} {p : Option Addr} {L : List ScM} {sv uv : Value} {K : Nat} {w w3 : World} (h : RsM G r p L sv uv K w) (nm : List UInt8) {v : Value} (hown : w3.ownsRow G.base 9 1 v (r.uses.length + 1) (usC r.uses ++ [nmS nm])) (hg : w.grownBy w3 uv.ownBlock) (hl : ∀ g, v.ownBlock = some g → uv.ownBlock = some g ∨ w.heap.size ≤ g) :
    RsM G { r with uses := r.uses ++ [nm] } p L sv v K (w3.setCell ⟨G.R, 3, none⟩ v) ∧ Kf G w (w3.setCell ⟨G.R, 3, none⟩ v) := by
  obtain ⟨k1, k2, k3, k4, k5, _⟩ := h.rowed h.uo ⟨by decide, by decide, by decide⟩ h.zU hg
  have hb := k3.trans h.blk
  have hZ : ∀ b, G.Z b → b < w3.heap.size := fun b hz => Nat.lt_of_lt_of_le (h.zs b hz) hg.size
  have hB := Nat.le_trans h.bs hg.size
  have hg2 := grown_set w3 G.R 3 v
  refine ⟨⟨heap_setCell_same w3 G.R 3 _ _ _ hb, k2.turn hg2 hb (by decide), h.le, h.ne, h.nd, h.nb, ?_, ?_, h.bl, ?_, h.lR, h.lB, h.lM, h.zR, h.zB, h.zM, h.zS, ?_, fun b hz => Nat.lt_of_lt_of_le (hZ b hz) hg2.size, Nat.le_trans hB hg2.size⟩, k1.trans (Kf.set hZ hB h.lR h.zR hb 3 _)⟩
  · exact nm_set (k5 (by decide)) hb (by decide) _ _
  · exact (Below.heap_setCell _ _ _ _ (ne_ty (k4.trans h.bd) hb (by decide))).trans (k4.trans h.bd)
  · show (w3.setCell ⟨G.R, 3, none⟩ v).ownsRow G.base 9 1 v (r.uses ++ [nm]).length (usC (r.uses ++ [nm]))
    rw [usC_snoc, List.length_append]
    exact nm_set hown hb (by decide) 3 v
  · intro g hgv hz
    rcases hl g hgv with h1 | h1
    · exact h.zU g h1 hz
    · have := h.zs g hz
      omega
end Go.Proofs.YtjadckhngalmlaaGreatDoor
namespace Go.Proofs.YtjadckhngalmlaaGreatDoor
set_option linter.unusedVariables false
set_option linter.unusedSimpArgs false
set_option maxRecDepth 100000
open Go.RowKit

theorem bdCs_flat (l : List BdP) : bdCs l = (l.map bdC).flatten := rfl
theorem bdCs_set {l : List BdP} {i : Nat} (hi : i < l.length) (b : BdP) :
    (((bdCs l).toArray.setIfInBounds (i * 3) (.int .i64 b.kind)).setIfInBounds (i * 3 + 1) (.int .i64 (b.idx : Int))).setIfInBounds (i * 3 + 2) (.string ⟨b.type.toArray⟩) = (bdCs (l.set i b)).toArray := by
  have hlen : ∀ (l : List BdP), (bdCs l).length = l.length * 3 := fun l => by
    induction l with
    | nil => rfl
    | cons x l ih =>
      show (bdC x ++ bdCs l).length = _
      rw [List.length_append, ih, List.length_cons, show (bdC x).length = 3 from rfl]
      omega
  obtain ⟨x, hx⟩ : ∃ x, l[i]? = some x := ⟨_, List.getElem?_eq_getElem hi⟩
  have h5 : ∀ (m : List (List Value)) (ys : List Value), (∀ c ∈ m, c.length = 3) → ys.length = 3 → ∀ c ∈ m.set i ys, c.length = 3 := fun m ys hm hy c hc => by
    rcases List.mem_or_eq_of_mem_set hc with hc | rfl
    · exact hm c hc
    · exact hy
  have h0 : ∀ c ∈ l.map bdC, c.length = 3 := fun c hc => by
    obtain ⟨y, _, rfl⟩ := List.mem_map.1 hc
    rfl
  have hk0 : (l.map bdC)[i]? = some (bdC x) := by rw [List.getElem?_map, hx]; rfl
  have t0 : (bdCs l).toArray.toList.take (l.length * 3) = (l.map bdC).flatten := by
    rw [List.take_of_length_le (by simp [hlen])]
    rfl
  have s0 : (bdCs l).toArray.size = l.length * 3 := by simp [hlen]
  have f1 := flat_set (v := .int .i64 b.kind) s0 (Nat.le_refl _) (List.length_map ..) h0 t0 hk0 (by decide : 0 < 3)
  have hk1 : ((l.map bdC).set i ((bdC x).set 0 (.int .i64 b.kind)))[i]? = some ((bdC x).set 0 (.int .i64 b.kind)) := by rw [List.getElem?_set_self (by rw [List.length_map]; exact hi)]
  have f2 := flat_set (v := .int .i64 (b.idx : Int)) (by rw [Array.size_setIfInBounds]; exact s0) (Nat.le_refl _) (by rw [List.length_set, List.length_map]) (h5 _ _ h0 rfl) f1 hk1 (by decide : 1 < 3)
  rw [List.set_set] at f2
  have hk2 : ((l.map bdC).set i (((bdC x).set 0 (.int .i64 b.kind)).set 1 (.int .i64 (b.idx : Int))))[i]? = some (((bdC x).set 0 (.int .i64 b.kind)).set 1 (.int .i64 (b.idx : Int))) := by rw [List.getElem?_set_self (by rw [List.length_map]; exact hi)]
  have f3 := flat_set (v := .string ⟨b.type.toArray⟩) (by rw [Array.size_setIfInBounds, Array.size_setIfInBounds]; exact s0) (Nat.le_refl _) (by rw [List.length_set, List.length_map]) (h5 _ _ h0 rfl) f2 hk2 (by decide : 2 < 3)
  rw [List.set_set, List.take_of_length_le (by simp [hlen])] at f3
  apply Array.toList_inj.1
  rw [Nat.add_zero] at f3
  rw [f3, bdCs_flat, List.map_set]
  rfl
/-- A binding is put. -/
theorem RsM.bind {G : RsG} {r : RsP} {p : Option Addr} {L : List ScM} {sv uv : Value} {K : Nat} {w : World} (h : RsM G r p L sv uv K w) {i : Nat} (hi : i < r.bds.length) (b : BdP) :
    RsM G { r with bds := r.bds.set i b } p L sv uv K (((w.setCell ⟨G.BD, i * 3, none⟩ (.int .i64 b.kind)).setCell ⟨G.BD, i * 3 + 1, none⟩ (.int .i64 (b.idx : Int))).setCell ⟨G.BD, i * 3 + 2, none⟩ (.string ⟨b.type.toArray⟩)) ∧ Kf G w (((w.setCell ⟨G.BD, i * 3, none⟩ (.int .i64 b.kind)).setCell ⟨G.BD, i * 3 + 1, none⟩ (.int .i64 (b.idx : Int))).setCell ⟨G.BD, i * 3 + 2, none⟩ (.string ⟨b.type.toArray⟩)) := by
  have hb := h.bd
  have h1 := heap_setCell_same w G.BD (i * 3) _ _ (.int .i64 b.kind) hb
  have h2 := heap_setCell_same _ G.BD (i * 3 + 1) _ _ (.int .i64 (b.idx : Int)) h1
  have h3 := heap_setCell_same _ G.BD (i * 3 + 2) _ _ (.string ⟨b.type.toArray⟩) h2
  have hg := ((grown_set w G.BD (i * 3) (.int .i64 b.kind)).trans (grown_set _ G.BD (i * 3 + 1) (.int .i64 (b.idx : Int)))).trans (grown_set _ G.BD (i * 3 + 2) (.string ⟨b.type.toArray⟩))
  refine ⟨⟨?_, h.sc.turn hg hb (by decide), h.le, h.ne, h.nd, h.nb, ?_, ?_, ?_, ?_, h.lR, h.lB, h.lM, h.zR, h.zB, h.zM, h.zS, h.zU, fun b hz => Nat.lt_of_lt_of_le (h.zs b hz) hg.size, Nat.le_trans h.bs hg.size⟩, Kf.grown h.zs h.bs hg h.lB h.zB hb rfl⟩
  · exact (hg.block _ (Array.getElem?_eq_some_iff.1 h.blk).1 (fun e => by injection e with e; exact ne_ty h.blk hb (by decide) e)).trans h.blk
  · exact nm_set (nm_set (nm_set h.so hb (by decide) _ _) h1 (by decide) _ _) h2 (by decide) _ _
  · rw [h3, bdCs_set hi b]
  · show (r.bds.set i b).length = G.N
    rw [List.length_set]
    exact h.bl
  · exact nm_set (nm_set (nm_set h.uo hb (by decide) _ _) h1 (by decide) _ _) h2 (by decide) _ _
end Go.Proofs.YtjadckhngalmlaaGreatDoor
namespace Go.Proofs.YtjadckhngalmlaaGreatDoor
set_option linter.unusedVariables false
set_option linter.unusedSimpArgs false
set_option maxRecDepth 100000
open Go.RowKit

theorem infoSl : (Tryz.prog.info? 51).map (fun i => (i.zero, i.size, i.bytes)) = some (some (.agg #[.string ByteArray.empty, .string ByteArray.empty, .bool false, .bool false]), 4, 40) := by kernel_rfl
theorem slC_one (x : SlP) : ∀ u ∈ slC x, u.oneCell' = true := by
  intro u hu
  simp only [slC, List.mem_cons, List.not_mem_nil, or_false] at hu
  rcases hu with rfl | rfl | rfl | rfl <;> rfl
abbrev slV (s : SlP) : Value := .agg #[nmS s.name, nmS s.type, .bool s.vol, .bool s.param]
set_option maxHeartbeats 4000000 in
theorem c_rSlot (G : RsG) {r : RsP} {p : Option Addr} {c : ScM} {L : List ScM} {sv uv : Value} {K : Nat} (s : SlP) (hs : s.name.length ≤ 9223372036854775807 ∧ s.type.length ≤ 9223372036854775807) (i : Int) (w : World) (h : RsM G r p (c :: L) sv uv K w) (hK : K < 4503599627370496) (hl : r.slots.length ≤ 1000000) :
    Calls Tryz.prog 36 #[.pointer (some ⟨G.R, 0, none⟩), slV s, .int .i64 i] w fun e w' => e = .returned (bdV ⟨3, r.slots.length, s.type⟩) ∧ (∃ c' sv', RsM G (r.slot s i) p (c' :: L) sv' uv (K + 1) w') ∧ Kf G w w' := by
  obtain ⟨hp, ⟨q, hX, _⟩, hM⟩ := h.sc
  subst hp
  have HD := Lib.hid (fun b w' (hb : Below w.heap.size w w') => c_declare c.X c.M c.n c.s.depth q c.s.m s.name hs.1 b i w' (blk_on hX hb) (hM.next hb) (by have := h.nb c (by simp); omega))
  have HM := Lib.hid (And.intro h hl)
  obtain ⟨i0, hi, hz0, hz1, hz2⟩ := info_parts infoSl
  obtain ⟨sa, sc, hsv⟩ := own_slice h.so
  subst hsv
  obtain ⟨N, hN⟩ : ∃ N, r.slots.length = N := ⟨_, rfl⟩
  have HN := Lib.hid hN
  obtain ⟨z0, z1, z2, z3, zf⟩ := cells4 h.blk
  have hl := (Array.getElem?_eq_some_iff.1 h.blk).1
  rw [hN] at z1 ⊢
  obtain ⟨sn, st, sb, sp⟩ := s
  show Calls Tryz.prog _ #[_, .agg #[nmS sn, nmS st, .bool sb, .bool sp], _] w _
  simp only at HD
  clear h hX hM hN zf hs
  go_enter Tryz.func36, Tryz.ntmps36
  go_wp2_with fail
  have hb0 : Below w.heap.size w ((w.alloc (.cells #[nmS sn, nmS st, .bool sb, .bool sp] 51)).alloc (.cells #[.int .i64 0, .int .i64 0, .string ⟨#[]⟩] 49)) := below_t (below_o _ _) (below_o _ _) (by simp)
  have hs0 : ((w.alloc (.cells #[nmS sn, nmS st, .bool sb, .bool sp] 51)).alloc (.cells #[.int .i64 0, .int .i64 0, .string ⟨#[]⟩] 49)).heap[w.heap.size]? = some (.cells #[nmS sn, nmS st, .bool sb, .bool sp] 51) := blk_on (heap_alloc_at (w := w) _ _ rfl) (below_o _ _)
  have hr0 : ((w.alloc (.cells #[nmS sn, nmS st, .bool sb, .bool sp] 51)).alloc (.cells #[.int .i64 0, .int .i64 0, .string ⟨#[]⟩] 49)).heap[w.heap.size + 1]? = some (.cells #[.int .i64 0, .int .i64 0, .string ⟨#[]⟩] 49) := heap_alloc_at _ _ (by simp)
  obtain ⟨w1, hw1⟩ : ∃ w1, (w.alloc (.cells #[nmS sn, nmS st, .bool sb, .bool sp] 51)).alloc (.cells #[.int .i64 0, .int .i64 0, .string ⟨#[]⟩] 49) = w1 := ⟨_, rfl⟩
  have hsz : w1.heap.size = w.heap.size + 1 + 1 := by rw [← hw1]; simp
  rw [hw1] at hb0 hs0 hr0 ⊢
  obtain ⟨SB, hSB⟩ : ∃ SB, w.heap.size = SB := ⟨_, rfl⟩
  obtain ⟨RX, hRX⟩ : ∃ RX, SB + 1 = RX := ⟨_, rfl⟩
  obtain ⟨BB, hBB⟩ : ∃ BB, RX + 1 = BB := ⟨_, rfl⟩
  rw [hSB, hRX, hBB] at hsz
  have HSz := Lib.hid (And.intro hSB (And.intro hRX (And.intro hBB hsz)))
  rw [hSB] at hs0 hr0 ⊢
  rw [hRX] at hr0 ⊢
  have HB1 : Hid (Below w.heap.size w w1 ∧ w1.heap[SB]? = some (.cells #[nmS sn, nmS st, .bool sb, .bool sp] 51) ∧ w1.heap[RX]? = some (.cells #[.int .i64 0, .int .i64 0, .string ⟨#[]⟩] 49)) := by rw [hSB]; exact Lib.hid ⟨by rw [← hSB]; exact hb0, hs0, hr0⟩
  obtain ⟨z0, z1, z2, z3, _⟩ := cells4 (HM.out.1.next HB1.out.1).blk
  have hl := (Array.getElem?_eq_some_iff.1 (HM.out.1.next HB1.out.1).blk).1
  obtain ⟨s0, s1, s2, s3, _⟩ := cells4 HB1.out.2.1
  have hsl := (Array.getElem?_eq_some_iff.1 HB1.out.2.1).1
  rw [HN.out] at z1
  clear hb0 hs0 hr0 hw1 hSB hRX hBB hsz
  go_region
  all_goals
    go_wp2_with fail
    obtain ⟨w2, hw2⟩ : ∃ w2, (w1.alloc (.cells #[.int .i64 3, .int .i64 (N : Int), nmS st] 49)).drew = w2 := ⟨_, rfl⟩
    have hb2 : Below w1.heap.size w1 w2 := by rw [← hw2]; exact (below_o _ _).drew
    have hbb : w2.heap[w1.heap.size]? = some (.cells #[.int .i64 3, .int .i64 (N : Int), nmS st] 49) := by rw [← hw2]; exact heap_alloc_at (w := w1) _ _ rfl
    have HB2 : Hid (Below w.heap.size w w2 ∧ w2.heap[SB]? = some (.cells #[nmS sn, nmS st, .bool sb, .bool sp] 51) ∧ w2.heap[RX]? = some (.cells #[.int .i64 0, .int .i64 0, .string ⟨#[]⟩] 49)) := Lib.hid ⟨below_t HB1.out.1 hb2 HB1.out.1.size, blk_on HB1.out.2.1 hb2, blk_on HB1.out.2.2 hb2⟩
    rw [hw2]
    obtain ⟨BX, hBX⟩ : ∃ BX, w1.heap.size = BX := ⟨_, rfl⟩
    have HBX : Hid (BX = BB ∧ w2.heap[BX]? = some (.cells #[.int .i64 3, .int .i64 (N : Int), nmS st] 49)) := by rw [← hBX]; exact Lib.hid ⟨HSz.out.2.2.2, hbb⟩
    rw [hBX]
    clear hw2 hb2 hbb hBX z0 z1 z2 z3 hl s0 s1 s2 s3 hsl
    have HBd := Lib.hid HB2.out.1.drew
    obtain ⟨z0, z1, z2, z3, _⟩ := cells4 (HM.out.1.next HBd.out).blk
    have hl := (Array.getElem?_eq_some_iff.1 (HM.out.1.next HBd.out).blk).1
    obtain ⟨s0, s1, s2, s3, _⟩ := cells4 (blk_on HB2.out.2.1 (Below.refl _ w2).drew)
    obtain ⟨y0, y1, y2, _⟩ := cells3 (blk_on HBX.out.2 (Below.refl _ w2).drew)
    rw [HN.out] at z1
    refine wp_region_still_tail 8 (by kernel_rfl) (by kernel_rfl) ?_
    simp only [List.take_succ_cons, List.take_zero, List.drop_succ_cons, List.drop_zero]
    change wpStill _ _ w2.drew _ _ _
    generalize hW : w2.drew = W2 at z0 z1 z2 z3 hl s0 s1 s2 s3 y0 y1 y2 HBd ⊢
    have HW := Lib.hid hW
    clear hW
    repeat still_step
    refine wpStill_nil ?_
    change wpList _ _ _ _ _ w2.drew
    rw [HW.out]
    go_wp2_with fail
    refine (HD.out ⟨3, N, st⟩ W2 HBd.out).mono ?_
    rintro e w3 ⟨rfl, hm, hg⟩
    obtain ⟨Hi, hhi⟩ : ∃ Hi, W2.heap.size = Hi := ⟨_, rfl⟩
    have hR2 : RsM (G.span SB Hi) r (some ⟨c.X, 0, none⟩) (c :: L) (.slice sa r.slots.length sc) uv K W2 := HM.out.1.span HBd.out (by have := HSz.out; omega) (by omega)
    have HR3 := Lib.hid (hR2.decl hm hg)
    have HSB : Hid (SB ≤ SB ∧ SB < Hi ∧ SB ≤ RX ∧ RX < Hi ∧ SB ≤ BX ∧ BX < Hi) := Lib.hid (by
      have h1 := (Array.getElem?_eq_some_iff.1 HBX.out.2).1
      have h2 : w2.heap.size = Hi := by rw [← hhi, ← HW.out]; rfl
      have h3 := HSz.out
      have h4 := HBX.out.1
      omega)
    have HB3 : Hid (w3.heap[SB]? = some (.cells #[nmS sn, nmS st, .bool sb, .bool sp] 51) ∧ w3.heap[RX]? = some (.cells #[.int .i64 0, .int .i64 0, .string ⟨#[]⟩] 49) ∧ w3.heap[BX]? = some (.cells #[.int .i64 3, .int .i64 (N : Int), nmS st] 49)) := Lib.hid (by
      have k := HSB.out
      have e2 : ∀ b : Nat, w2.heap[b]? = W2.heap[b]? := fun b => by rw [← HW.out]; rfl
      exact ⟨(HR3.out.2.ons k.1 k.2.1).trans ((e2 _).symm.trans HB2.out.2.1), (HR3.out.2.ons k.2.2.1 k.2.2.2.1).trans ((e2 _).symm.trans HB2.out.2.2), (HR3.out.2.ons k.2.2.2.2.1 k.2.2.2.2.2).trans ((e2 _).symm.trans HBX.out.2)⟩)
    have HK2 : Hid (Kf G w W2) := Lib.hid (HM.out.1.kf HBd.out)
    clear hR2 hm hg hhi z0 z1 z2 z3 hl s0 s1 s2 s3 y0 y1 y2 HW
    obtain ⟨z0, z1, z2, z3, zf⟩ := cells4 HR3.out.1.blk
    have hl : G.R < w3.heap.size := (Array.getElem?_eq_some_iff.1 HR3.out.1.blk).1
    have zf1 : w3.frozen? ⟨G.R, 1, none⟩ = false := zf 1
    obtain ⟨s0, s1, s2, s3, _⟩ := cells4 HB3.out.1
    have hsl := (Array.getElem?_eq_some_iff.1 HB3.out.1).1
    have z1 : w3.cell? ⟨G.R, 1, none⟩ = some (.slice sa N sc) := by rw [← HN.out]; exact z1
    clear zf
    obtain ⟨NB, hNB⟩ : ∃ NB : Obj, NB = .cells #[nmS sn, nmS st, .bool sb, .bool sp] 51 := ⟨_, rfl⟩
    have HB5 : Hid (Below w3.heap.size w3 (w3.alloc (.cells #[nmS sn, nmS st, .bool sb, .bool sp] 51)).drew) := Lib.hid (below_o w3 _).drew
    clear hNB NB
    have HA := Lib.hid (HR3.out.1.next HB5.out)
    have HOr : Hid ((w3.alloc (.cells #[nmS sn, nmS st, .bool sb, .bool sp] 51)).drew.ownsRow G.base 51 4 (.slice sa N sc) N (slCs r.slots)) := Lib.hid (by
      have := HA.out.so
      rw [← HN.out]
      exact this)
    have HNw : Hid (∀ (j : Nat) (u : Value), [nmS sn, nmS st, .bool sb, .bool sp][j]? = some u → (w3.alloc (.cells #[nmS sn, nmS st, .bool sb, .bool sp] 51)).drew.cell? ((⟨w3.heap.size, 0, none⟩ : Addr).add j) = some u) := Lib.hid fun j u hu =>
      World.news_of_block (heap_alloc_new w3 (.cells #[nmS sn, nmS st, .bool sb, .bool sp] 51)) j u (by simpa using hu)
    have HVf : Hid (∀ w6, ((w3.alloc (.cells #[nmS sn, nmS st, .bool sb, .bool sp] 51)).drew).grownBy w6 (Value.slice sa N sc).ownBlock → w6.cell? ⟨G.R, 1, none⟩ = some (.slice sa N sc) ∧ w6.frozen? ⟨G.R, 1, none⟩ = false ∧ G.R < w6.heap.size) := Lib.hid fun w6 hg => by
      have hob : (Value.slice sa N sc).ownBlock ≠ some G.R := fun e => by
        obtain ⟨cur, hh⟩ := own_ty HOr.out e
        exact ne_ty hh HA.out.blk (by decide) rfl
      have hfl : G.R < ((w3.alloc (.cells #[nmS sn, nmS st, .bool sb, .bool sp] 51)).drew).heap.size := (Array.getElem?_eq_some_iff.1 HA.out.blk).1
      have hc := cells4 HA.out.blk
      have h3 := hc.2.1
      exact ⟨(hg.cell_far ⟨G.R, 1, none⟩ hfl (Ne.symm hob)).trans (by rw [← HN.out]; exact h3), (hg.frozen_far ⟨G.R, 1, none⟩ hfl (Ne.symm hob)).trans (hc.2.2.2.2 1), Nat.lt_of_lt_of_le hfl hg.size⟩
    have HS3 : Hid (G.base ≤ w3.heap.size + 1) := Lib.hid (by have := HR3.out.1.bs; have h9 : (G.span SB Hi).base = G.base := rfl; omega)
    have HFl1 : Hid (N + 1 ≤ 1000001) := Lib.hid (by have := HM.out.2; have := HN.out; omega)
    go_wp2_with fail
    go_region_law (refine step_append_lies _ (by rfl) _ _ _ (by rfl) G.base 51 i0 _ 4 40 Tryz.underlying28 hi hz0 hz1 hz2 rfl (by decide) (.slice sa N sc) N (slCs r.slots) (by simp [Act.eval, Act.put]) (by exact HOr.out) ⟨w3.heap.size, 0, none⟩ 1 1 [nmS sn, nmS st, .bool sb, .bool sp] (by simp [Act.eval, Act.put]) rfl (by exact HNw.out) (slC_one ⟨sn, st, sb, sp⟩) (by decide) (by have := HFl1.out; unfold maxLen; omega) (by have := HFl1.out; omega) (by have := HS3.out; simp; omega) (w3.heap.size + 1) (by simp) ?_
                   intro g6 cap6 w6 hown6 hgrow6 hat6 hlt6
                   obtain ⟨hv6, hf6, hl6⟩ := HVf.out w6 hgrow6)
    all_goals
      have HO := Lib.hid (HA.out.app ⟨sn, st, sb, sp⟩ (v := .slice (some ⟨g6, 0, none⟩) (N + 1) cap6) (by
        show w6.ownsRow G.base 51 4 _ (r.slots.length + 1) _
        rw [HN.out]
        exact hown6) (by
        rw [ob_len sa r.slots.length N sc sc]
        exact hgrow6) (fun g hg => by
        have hgg : g6 = g := by simpa [Value.ownBlock] using hg
        subst hgg
        rcases hat6 with h1 | h1
        · exact .inl (by rw [ob_len sa r.slots.length N sc sc]; exact h1)
        · exact .inr (by rw [h1]; exact Nat.le_of_eq (by simp))))
      obtain ⟨v6, hv6e⟩ : ∃ v6, Value.slice (some ⟨g6, 0, none⟩) (N + 1) cap6 = v6 := ⟨_, rfl⟩
      rw [hv6e] at HO ⊢
      have HO : Hid (RsM (G.span SB Hi) { sc := ⟨updP c.s.m sn ⟨⟨3, N, st⟩, i⟩, c.s.depth⟩ :: L.map ScM.s, slots := r.slots ++ [⟨sn, st, sb, sp⟩], bds := r.bds, uses := r.uses } (some ⟨c.X, 0, none⟩) (⟨c.X, c.M, c.n + 1, ⟨updP c.s.m sn ⟨⟨3, N, st⟩, i⟩, c.s.depth⟩⟩ :: L) v6 uv (K + 1) (w6.setCell ⟨G.R, 1, none⟩ v6) ∧ Kf (G.span SB Hi) (w3.alloc (.cells #[nmS sn, nmS st, .bool sb, .bool sp] 51)).drew (w6.setCell ⟨G.R, 1, none⟩ v6)) := HO
      obtain ⟨w7, hw7⟩ : ∃ w7, w6.setCell ⟨G.R, 1, none⟩ v6 = w7 := ⟨_, rfl⟩
      clear hown6 hgrow6 hat6 hlt6 hv6 hf6 hl6 z0 z1 z2 z3 hl zf1 s0 s1 s2 s3 hsl
      rw [hw7] at HO
      have HKs := HR3.out.1.kf HB5.out
      have HB7 : Hid (w7.heap[RX]? = some (.cells #[.int .i64 0, .int .i64 0, .string ⟨#[]⟩] 49) ∧ w7.heap[BX]? = some (.cells #[.int .i64 3, .int .i64 (N : Int), nmS st] 49)) := Lib.hid (by
        have k := HSB.out
        have kk := HKs.trans HO.out.2
        exact ⟨(kk.ons k.2.2.1 k.2.2.2.1).trans HB3.out.2.1, (kk.ons k.2.2.2.2.1 k.2.2.2.2.2).trans HB3.out.2.2⟩)
      have HK7 : Hid (Kf G w w7) := Lib.hid (HK2.out.trans ((HR3.out.2.trans (HKs.trans HO.out.2)).slims))
      clear HKs
      obtain ⟨y0, y1, y2, _⟩ := cells3 HB7.out.2
      obtain ⟨x0, x1, x2, xf⟩ := cells3 HB7.out.1
      have xf0 := xf 0
      have xf1 := xf 1
      have xf2 := xf 2
      have hxl := (Array.getElem?_eq_some_iff.1 HB7.out.1).1
      rw [hw7]
      clear xf hw7 hv6e
      go_wp2_with fail
      have hz9 := put3 HB7.out.1 (.int .i64 3) (.int .i64 (N : Int)) (nmS st)
      have hx1 := heap_setCell_same w7 RX 0 _ _ (.int .i64 3) HB7.out.1
      have hx2 := heap_setCell_same _ RX 1 _ _ (.int .i64 (N : Int)) hx1
      have hZX : (G.span SB Hi).Z RX := .inr ⟨HSB.out.2.2.1, HSB.out.2.2.2.1⟩
      have hR9 := ((HO.out.1.zput hZX HB7.out.1 (by decide) 0 (.int .i64 3)).zput hZX hx1 (by decide) 1 (.int .i64 (N : Int))).zput hZX hx2 (by decide) 2 (nmS st)
      have hnz : ¬ G.Z RX := fun hz => by have := HM.out.1.zs RX hz; have := HSz.out; omega
      have hbR : G.base ≤ RX := by have := HM.out.1.bs; have := HSz.out; omega
      have hgr := ((grown_set w7 RX 0 (.int .i64 3)).trans (grown_set _ RX 1 (.int .i64 (N : Int)))).trans (grown_set _ RX 2 (nmS st))
      have hK9 := HK7.out.trans (Kf.grown (G := G) (fun b hz => Nat.lt_of_lt_of_le (HM.out.1.zs b hz) HK7.out.size) (Nat.le_trans HM.out.1.bs HK7.out.size) hgr hbR hnz HB7.out.1 rfl)
      clear hx1 hx2 hgr
      generalize ((w7.setCell ⟨RX, 0, none⟩ (.int .i64 3)).setCell ⟨RX, 1, none⟩ (.int .i64 (N : Int))).setCell ⟨RX, 2, none⟩ (nmS st) = w9 at hz9 hR9 hK9 ⊢
      obtain ⟨p0, p1, p2, _⟩ := cells3 hz9
      refine bodyPost_ret (v := bdV ⟨3, N, st⟩) (by simp [results, Tryz.results36, go_sem, p0, p1, p2]) rfl ?_
      refine ⟨rfl, ⟨⟨c.X, c.M, c.n + 1, ⟨updP c.s.m sn ⟨⟨3, N, st⟩, i⟩, c.s.depth⟩⟩, v6, ?_⟩, hK9⟩
      have e : r.slot ⟨sn, st, sb, sp⟩ i = { sc := ⟨updP c.s.m sn ⟨⟨3, N, st⟩, i⟩, c.s.depth⟩ :: L.map ScM.s, slots := r.slots ++ [⟨sn, st, sb, sp⟩], bds := r.bds, uses := r.uses } := by
        unfold RsP.slot
        rw [← HM.out.1.le, HN.out]
        rfl
      rw [e]
      exact hR9.slims
end Go.Proofs.YtjadckhngalmlaaGreatDoor
namespace Go.Proofs.YtjadckhngalmlaaGreatDoor
set_option linter.unusedVariables false
set_option linter.unusedSimpArgs false
set_option maxRecDepth 100000
open Go.RowKit

set_option maxHeartbeats 4000000 in
theorem c_rLeave (G : RsG) {r : RsP} {p : Option Addr} {L : List ScM} {sv uv : Value} {K : Nat} (d : Nat) (w : World) (h : RsM G r p L sv uv K w) (hne : lvP d r.sc ≠ []) (hd : d ≤ 1000000) :
    Calls Tryz.prog 38 #[.pointer (some ⟨G.R, 0, none⟩), .int .i64 (d : Int)] w fun e w' => e = .returned (.tuple #[]) ∧ (∃ p' L', RsM G (r.leave d) p' L' sv uv K w') ∧ Kf G w w' := by
  have H0 : Hid (∃ p' L', RsM G { r with sc := L'.map ScM.s } p' L' sv uv K w ∧ lvP d r.sc = lvP d (L'.map ScM.s) ∧ L'.length ≤ L.length ∧ Kf G w w) := Lib.hid ⟨p, L, by have := h.le; rw [show ({ r with sc := L.map ScM.s } : RsP) = r by rw [this]]; exact h, by rw [h.le], Nat.le_refl _, Kf.refl _ _⟩
  have HN := Lib.hid hne
  clear h hne
  go_enter Tryz.func38, Tryz.ntmps38
  go_wp2_with fail
  go_loopg [] L.length (fun g wr => Hid (∃ p' L', RsM G { r with sc := L'.map ScM.s } p' L' sv uv K wr ∧ lvP d r.sc = lvP d (L'.map ScM.s) ∧ L'.length ≤ g ∧ Kf G w wr))
  case atStart => exact H0
  case round =>
    obtain ⟨p', L', hR, hl', hlen, hK⟩ := hrel.out
    cases L' with
    | nil => exact absurd rfl hR.ne
    | cons c L'' =>
      obtain ⟨hp, ⟨q, hX, hs''⟩, hM⟩ := hR.sc
      subst hp
      have HR := Lib.hid (And.intro hR (And.intro hl' (And.intro hlen hK)))
      have HS := Lib.hid hs''
      obtain ⟨x0, x1, x2, _⟩ := cells3 (show wr.heap[c.X]? = some (.cells #[.pointer q, .map (some c.M), .int .i64 (c.s.depth : Int)] 98) from hX)
      have hxl := (Array.getElem?_eq_some_iff.1 hX).1
      obtain ⟨z0, z1, z2, z3, zf⟩ := cells4 hR.blk
      have zf0 : wr.frozen? ⟨G.R, 0, none⟩ = false := zf 0
      have hl : G.R < wr.heap.size := (Array.getElem?_eq_some_iff.1 hR.blk).1
      clear zf hR hX hM hs'' hl' hlen hK hrel
      by_cases hge : d ≤ c.s.depth
      · have hdd : decide ((c.s.depth : Int) ≥ (d : Int)) = true := by simp; omega
        have hdd2 : decide ((d : Int) ≤ (c.s.depth : Int)) = true := by simp; omega
        have hlv : lvP d r.sc = lvP d (L''.map ScM.s) := HR.out.2.1.trans (if_pos hge)
        have hne'' : L'' ≠ [] := fun e => by
          subst e
          exact HN.out (hlv.trans rfl)
        have hnd := HR.out.1.nd
        simp only [List.map_cons, List.nodup_cons] at hnd
        have HNx := Lib.hid (HR.out.1.scp HS.out hne'' hnd.2 (fun e he => HR.out.1.nb e (by simp [he])) (fun e he => HR.out.1.lM e (by simp [he])) (fun e he => HR.out.1.zM e (by simp [he])))
        have HLv := Lib.hid hlv
        have HMs : Hid (gk - 1 < gk ∧ L''.length ≤ gk - 1) := Lib.hid (by have := HR.out.2.2.1; rw [List.length_cons] at this; omega)
        clear hlv hne'' hnd
        go_wp2_with fail
        go_roundg (gk - 1)
        case measure => exact HMs.out.1
        case rel => exact Lib.hid ⟨q, L'', HNx.out.1, HLv.out, HMs.out.2, HR.out.2.2.2.trans HNx.out.2⟩
      · have hdd : decide ((c.s.depth : Int) ≥ (d : Int)) = false := by simp; omega
        have hdd2 : decide ((d : Int) ≤ (c.s.depth : Int)) = false := by simp; omega
        have hlv : lvP d r.sc = c.s :: L''.map ScM.s := HR.out.2.1.trans (if_neg hge)
        have HLv := Lib.hid hlv
        clear hlv
        go_wp2_with fail
        go_end0
        refine ⟨rfl, ⟨some ⟨c.X, 0, none⟩, c :: L'', ?_⟩, HR.out.2.2.2⟩
        have e : r.leave d = { r with sc := (c :: L'').map ScM.s } := by
          unfold RsP.leave
          rw [HLv.out]
          rfl
        rw [e]
        exact HR.out.1
end Go.Proofs.YtjadckhngalmlaaGreatDoor
