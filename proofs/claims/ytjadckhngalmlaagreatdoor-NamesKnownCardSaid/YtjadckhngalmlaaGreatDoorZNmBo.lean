/-
  A file's names, in the code: body.
-/
import Derived.Test.YtjadckhngalmlaaGreatDoorZNmFu
namespace Go.Proofs.YtjadckhngalmlaaGreatDoor
set_option linter.unusedVariables false
set_option linter.unusedSimpArgs false
set_option maxRecDepth 100000
open Go.RowKit

set_option maxHeartbeats 4000000 in
theorem c_body1 (nm : List UInt8) (at' : Int) (s : List UInt8) (t : ByteArray) (pa : Option Addr) (pl pc : Nat) (ba : Option Addr) (bl bc : Nat) (b0 : Nat) (w : World) (h0 : w.cell? ⟨b0, 0, none⟩ = some (nmS nm)) :
    Calls Tryz.prog 33 #[fnV at' ⟨s.toArray⟩ t pa pl pc ba bl bc, .pointer (some ⟨b0, 0, none⟩)] w fun e w' => e = .returned (.bool (s == nm && !(bl == 0))) ∧ Below w.heap.size w w' := by
  have hbl := World.block_lt_of_cell? _ ⟨b0, 0, none⟩ h0
  have hl0 : b0 < w.heap.size := hbl
  by_cases hq : s = nm
  · subst hq
    have hqb : (s == s) = true := by simp
    rw [hqb]
    go_enter Tryz.func33, Tryz.ntmps33
    go_wp2_with fail
    refine (c_hasBody at' ⟨s.toArray⟩ t pa pl pc ba bl bc _).mono ?_
    rintro e w1 ⟨rfl, hb⟩
    have hb1 := below_t (below_o _ _) hb (by simp)
    go_wp2_with fail
    go_ret
    exact ⟨rfl, hb1⟩
  · have hqb : (s == nm) = false := by simpa using hq
    rw [hqb]
    go_enter Tryz.func33, Tryz.ntmps33
    go_wp2_with fail
    go_ret
    exact ⟨rfl, below_o _ _⟩
/-- A function, and where its lists lie. -/
structure FnL where
  x : FnP
  pa : Option Addr
  pc : Nat
  ba : Option Addr
  bc : Nat
instance : Inhabited FnL := ⟨⟨fn0, none, 0, none, 0⟩⟩
def FnL.cs (y : FnL) : List Value := [.int .i64 y.x.at', nmS y.x.name, nmS y.x.type, .slice y.pa y.x.params.length y.pc, .slice y.ba y.x.body.length y.bc]
def isB (nm : List UInt8) (x : FnP) : Bool := x.name == nm && !(x.body.length == 0)
/-- The function of a name that has a body. -/
def FlP.body (f : FlP) (nm : List UInt8) : Option FnP := f.funcs.find? (isB nm)
theorem idx_find {α : Type} [Inhabited α] (g : α → Bool) (d : α) (l : List α) : (Lib.idxBy (fun _ y => g y) l d = -1 ∧ l.find? g = none) ∨ ∃ k y, l[k]? = some y ∧ Lib.idxBy (fun _ y => g y) l d = ((k : Nat) : Int) ∧ l.find? g = some y := by
  have key : ∀ (l : List α) (i : Nat), (Lib.idxByFrom (fun _ y => g y) d l i = -1 ∧ l.find? g = none) ∨ ∃ k y, l[k]? = some y ∧ Lib.idxByFrom (fun _ y => g y) d l i = ((i + k : Nat) : Int) ∧ l.find? g = some y := by
    intro l
    induction l with
    | nil => intro i; exact .inl ⟨rfl, rfl⟩
    | cons y r ih =>
      intro i
      unfold Lib.idxByFrom
      by_cases hy : g y = true
      · exact .inr ⟨0, y, rfl, by simp [hy], by simp [hy]⟩
      · rw [List.find?_cons]
        simp only [hy]
        rcases ih (i + 1) with ⟨h1, h2⟩ | ⟨k, z, h1, h2, h3⟩
        · exact .inl ⟨by simpa using h1, h2⟩
        · exact .inr ⟨k + 1, z, h1, by simp; rw [h2]; push_cast; omega, h3⟩
  rcases key l 0 with h | ⟨k, y, h1, h2, h3⟩
  · exact .inl h
  · exact .inr ⟨k, y, h1, by unfold Lib.idxBy; rw [h2, Nat.zero_add], h3⟩
set_option maxHeartbeats 1000000 in
theorem c_idxNil (c : Nat) (g : Value) (w : World) :
    Calls Tryz.prog 32 #[.slice none 0 c, g] w fun e w' => e = .returned (.int .i64 (-1)) ∧ Below w.heap.size w w' := by
  go_enter Tryz.func32, Tryz.ntmps32
  go_wp2_with fail
  go_loopg [8] 0 (fun g v8 wr => wr = w ∧ v8 = .int .i64 0)
  case atStart => exact ⟨rfl, rfl⟩
  case round =>
    obtain ⟨rfl, rfl⟩ := hrel
    go_wp2_with fail
    go_ret
    exact ⟨rfl, Below.refl _ _⟩
theorem put5 {w : World} {g : Nat} {a0 a1 a2 a3 a4 : Value} {T : TypeId} (h : w.heap[g]? = some (.cells #[a0, a1, a2, a3, a4] T)) (c0 c1 c2 c3 c4 : Value) :
    (((((w.setCell ⟨g, 0, none⟩ c0).setCell ⟨g, 1, none⟩ c1).setCell ⟨g, 2, none⟩ c2).setCell ⟨g, 3, none⟩ c3).setCell ⟨g, 4, none⟩ c4).heap[g]? = some (.cells #[c0, c1, c2, c3, c4] T) :=
  heap_setCell_same _ g 4 _ _ c4 (heap_setCell_same _ g 3 _ _ c3 (heap_setCell_same _ g 2 _ _ c2 (heap_setCell_same _ g 1 _ _ c1 (heap_setCell_same _ g 0 _ _ c0 h))))
theorem put5b {B : Nat} {w0 w : World} {g : Nat} (h : Below B w0 w) (hB : B ≤ g) (c0 c1 c2 c3 c4 : Value) : Below B w0 (((((w.setCell ⟨g, 0, none⟩ c0).setCell ⟨g, 1, none⟩ c1).setCell ⟨g, 2, none⟩ c2).setCell ⟨g, 3, none⟩ c3).setCell ⟨g, 4, none⟩ c4) := ((((h.setCell (p := ⟨g, 0, none⟩) hB c0).setCell (p := ⟨g, 1, none⟩) hB c1).setCell (p := ⟨g, 2, none⟩) hB c2).setCell (p := ⟨g, 3, none⟩) hB c3).setCell (p := ⟨g, 4, none⟩) hB c4
set_option maxHeartbeats 4000000 in
theorem c_fBody {w0 : World} {Fb : Nat} {f : FlP} {p : Option Addr} {L : List ScM} {ov fv : Value} {css : List (List Value)} {K : Nat} (nm : List UInt8) (w : World) (h : FlM w0 Fb f p L ov fv css K w) (hl : f.funcs.length ≤ 128) :
    Calls Tryz.prog 23 #[.pointer (some ⟨Fb, 0, none⟩), nmS nm] w fun e w' => ((f.body nm = none ∧ e = .returned (.tuple #[fnV 0 ByteArray.empty ByteArray.empty none 0 0 none 0 0, .bool false])) ∨ ∃ y : FnL, f.body nm = some y.x ∧ e = .returned (.tuple #[.agg y.cs.toArray, .bool true]) ∧ FnC w0 y.x y.cs) ∧ Below w.heap.size w w' := by
  have hF0 : ∃ zs : List FnL, zs.length = f.funcs.length ∧ ∀ (i : Nat) (y : FnL), zs[i]? = some y → f.funcs[i]? = some y.x ∧ css[i]? = some y.cs ∧ FnC w0 y.x y.cs :=
    choose_list f.funcs.length (fun i hi => by
      have hx : f.funcs[i]? = some (f.funcs[i]'hi) := List.getElem?_eq_getElem hi
      obtain ⟨cs, hcs⟩ : ∃ cs, css[i]? = some cs := ⟨_, List.getElem?_eq_getElem (by rw [h.cl]; exact hi)⟩
      have hC := h.fc i _ cs hx hcs
      obtain ⟨pa, pc, ba, bc, rfl, h2⟩ := hC
      exact ⟨⟨f.funcs[i]'hi, pa, pc, ba, bc⟩, hx, hcs, pa, pc, ba, bc, rfl, h2⟩)
  obtain ⟨zs, hzl, hz⟩ := hF0
  have hbody : (zs.find? (fun y => isB nm y.x)).map FnL.x = f.body nm := by
    have e : f.funcs = zs.map FnL.x := by
      apply List.ext_getElem?
      intro i
      rw [List.getElem?_map]
      cases hy : zs[i]? with
      | none => rw [List.getElem?_eq_none]; rfl; rw [← hzl]; exact List.getElem?_eq_none_iff.1 hy
      | some y => rw [(hz i y hy).1]; rfl
    unfold FlP.body
    rw [e, List.find?_map]
    rfl
  have HIx := Lib.hid (idx_find (fun y : FnL => isB nm y.x) default zs)
  obtain ⟨N, hN⟩ : ∃ N, f.funcs.length = N := ⟨_, rfl⟩
  obtain ⟨ra, rc, hfv⟩ := own_slice h.fo
  subst hfv
  have HP : Hid (∀ (W : World) (b0 : Nat), Below w.heap.size w W → W.cell? ⟨b0, 0, none⟩ = some (nmS nm) → Calls Tryz.prog 32 #[.slice ra N rc, .func (.func 33) #[] #[.pointer (some ⟨b0, 0, none⟩)]] W fun e w' => e = .returned (.int .i64 (Lib.idxBy (fun _ y => isB nm y.x) zs default)) ∧ Below W.heap.size W w') := Lib.hid fun W b0 hb hb0 => by
    rcases (h.next hb).fo.2 with ⟨h1, h2⟩ | ⟨g, cap, cur, h1, _, h3, _⟩
    · have hz0 : zs = [] := List.eq_nil_of_length_eq_zero (by omega)
      subst hz0
      have h0 : N = 0 := by omega
      rw [h0]
      injection h1 with h1 _ h2
      subst h1 h2
      exact c_idxNil 0 _ W
    · injection h1 with h1 _ h2
      subst h1 h2
      have hgl := (Array.getElem?_eq_some_iff.1 h3).1
      have h1 := AnyQ.slices_IndexFunc Tryz.laysSlH06_f32 5 (fun w => by kernel_rfl) (fun w => by kernel_rfl) FnL.cs (fun _ => rfl) (fun y => isB nm y.x) 33 #[.pointer (some ⟨b0, 0, none⟩)] (fun args w => by kernel_rfl) g 0 N rc zs W ?hp (by omega) (by omega) hgl ?hc
      case hp =>
        intro W2 x hb2
        exact (c_body1 nm x.x.at' x.x.name ⟨x.x.type.toArray⟩ x.pa x.x.params.length x.pc x.ba x.x.body.length x.bc b0 W2 ((hb2.cell (World.block_lt_of_cell? _ ⟨b0, 0, none⟩ hb0)).trans hb0)).mono fun e w' ⟨he, hb'⟩ => ⟨he, below_t hb2 hb' hb2.size⟩
      case hc =>
        intro j hj i v hi
        have hy : zs[j]? = some (zs[j]'hj) := List.getElem?_eq_getElem hj
        have hi5 : i < 5 := (List.getElem?_eq_some_iff.1 hi).1
        obtain ⟨_, k2, _⟩ := hz j _ hy
        rw [show zs[j]! = zs[j]'hj by simp [hj]] at hi
        obtain ⟨g', hg', _, _, hcell⟩ := own_cell (h.next hb).fo (by omega)
        injection hg' with hg'
        injection hg' with hg'
        subst hg'
        have k3 := hcell (j * 5 + i) v (by rw [flat_at h.all5 k2 hi5]; exact hi)
        rw [show 0 + j * 5 + i = j * 5 + i by omega]
        exact k3
      rw [List.take_of_length_le (by omega)] at h1
      exact h1
  rw [← hbody]
  have HF := Lib.hid (fun w' (hb : Below w.heap.size w w') => h.next hb)
  have HZ := Lib.hid (And.intro hz (And.intro hzl (And.intro hN (And.intro h.all5 hl))))
  obtain ⟨r, hr⟩ : ∃ r, Lib.idxBy (fun _ (y : FnL) => isB nm y.x) zs default = r := ⟨_, rfl⟩
  rw [hr] at HP HIx
  obtain ⟨z0, z1, z2, z3, zf⟩ := cells4 h.blk
  have hfl := (Array.getElem?_eq_some_iff.1 h.blk).1
  rw [hN] at z3
  clear h hz hzl hN hl hbody zf hr
  obtain ⟨Z, hZ⟩ : ∃ Z : Obj, Z = .cells #[.int .i64 0, .string ⟨#[]⟩, .string ⟨#[]⟩, .slice none 0 0, .slice none 0 0] 45 := ⟨_, rfl⟩
  have hb0 : Below w.heap.size w ((w.alloc (.cells #[nmS nm] 9)).alloc Z) := below_t (below_o _ _) (below_o _ _) (by simp)
  have hn0 : ((w.alloc (.cells #[nmS nm] 9)).alloc Z).cell? ⟨w.heap.size, 0, none⟩ = some (nmS nm) := by
    rw [Lib.cell_of_heap (blk_on (heap_alloc_at (w := w) _ _ rfl) (below_o _ _))]
    rfl
  have hx0 : ((w.alloc (.cells #[nmS nm] 9)).alloc Z).heap[w.heap.size + 1]? = some Z := heap_alloc_at _ _ (by simp)
  subst hZ
  have HB0 := Lib.hid (And.intro hb0 hx0)
  have HC := Lib.hid (HP.out _ _ hb0 hn0)
  clear hb0 hn0 hx0 HP
  rcases HIx.out with ⟨rfl, hnone⟩ | ⟨k, y, hk, rfl, hsome⟩
  · rw [hnone]
    go_enter Tryz.func23, Tryz.ntmps23
    go_wp2_with fail
    refine HC.out.mono ?_
    rintro e w1 ⟨rfl, hb⟩
    have HB1 := Lib.hid (below_t HB0.out.1 hb HB0.out.1.size)
    have HX1 := Lib.hid (blk_on HB0.out.2 hb)
    obtain ⟨x0, x1, x2, x3, x4, xf⟩ := five_cells HX1.out
    have xf0 := xf 0
    have xf1 := xf 1
    have xf2 := xf 2
    have xf3 := xf 3
    have xf4 := xf 4
    have hxl := (Array.getElem?_eq_some_iff.1 HX1.out).1
    have hz9 := put5 HX1.out (.int .i64 0) (.string ⟨#[]⟩) (.string ⟨#[]⟩) (.slice none 0 0) (.slice none 0 0)
    have hb9 := put5b HB1.out (Nat.le_succ _) (.int .i64 0) (.string ⟨#[]⟩) (.string ⟨#[]⟩) (.slice none 0 0) (.slice none 0 0)
    clear hb xf
    go_wp2_with fail
    generalize (((((w1.setCell ⟨w.heap.size + 1, 0, none⟩ (.int .i64 0)).setCell ⟨w.heap.size + 1, 1, none⟩ (.string ⟨#[]⟩)).setCell ⟨w.heap.size + 1, 2, none⟩ (.string ⟨#[]⟩)).setCell ⟨w.heap.size + 1, 3, none⟩ (.slice none 0 0)).setCell ⟨w.heap.size + 1, 4, none⟩ (.slice none 0 0)) = w9 at hz9 hb9 ⊢
    obtain ⟨p0, p1, p2, p3, p4, _⟩ := five_cells hz9
    refine bodyPost_ret (v := .tuple #[fnV 0 ByteArray.empty ByteArray.empty none 0 0 none 0 0, .bool false]) (by simp [results, Tryz.results23, go_sem, p0, p1, p2, p3, p4]; rfl) rfl ?_
    exact ⟨.inl ⟨rfl, rfl⟩, hb9⟩
  · rw [hsome]
    have hk0 : (0 : Int) ≤ (k : Int) := by omega
    have hkN : (k : Int) < (N : Int) := by have := (List.getElem?_eq_some_iff.1 hk).1; have := HZ.out.2; omega
    go_enter Tryz.func23, Tryz.ntmps23
    go_wp2_with fail
    refine HC.out.mono ?_
    rintro e w1 ⟨rfl, hb⟩
    have HB1 := Lib.hid (below_t HB0.out.1 hb HB0.out.1.size)
    have HX1 := Lib.hid (blk_on HB0.out.2 hb)
    obtain ⟨x0, x1, x2, x3, x4, xf⟩ := five_cells HX1.out
    have xf0 := xf 0
    have xf1 := xf 1
    have xf2 := xf 2
    have xf3 := xf 3
    have xf4 := xf 4
    have hxl := (Array.getElem?_eq_some_iff.1 HX1.out).1
    obtain ⟨y0, y1, y2, y3, _⟩ := cells4 (HF.out w1 HB1.out).blk
    have hyl := (Array.getElem?_eq_some_iff.1 (HF.out w1 HB1.out).blk).1
    rw [HZ.out.2.2.1] at y3
    obtain ⟨g, cap, cs, hfv, hgl, hC, hcs, _, hcell⟩ := (HF.out w1 HB1.out).fcell (HZ.out.1 k y hk).1
    injection hfv with hfv _ _
    subst hfv
    have hcsy : cs = y.cs := by
      have := (HZ.out.1 k y hk).2.1
      rw [hcs] at this
      cases this
      rfl
    subst hcsy
    have HY := Lib.hid (HZ.out.1 k y hk).2.2
    obtain ⟨⟨xat, xn, xt, xp, xb⟩, pa, pc, ba, bc⟩ := y
    have c0 := hcell 0 _ rfl
    have c1 := hcell 1 _ rfl
    have c2 := hcell 2 _ rfl
    have c3 := hcell 3 _ rfl
    have c4 := hcell 4 _ rfl
    rw [Nat.add_zero] at c0
    simp only at c0 c1 c2 c3 c4
    have hz9 := put5 HX1.out (.int .i64 xat) (nmS xn) (nmS xt) (.slice pa xp.length pc) (.slice ba xb.length bc)
    have hb9 := put5b HB1.out (Nat.le_succ _) (.int .i64 xat) (nmS xn) (nmS xt) (.slice pa xp.length pc) (.slice ba xb.length bc)
    clear hb xf z0 z1 z2 z3 hcell hC hcs
    go_wp2_with fail
    generalize (((((w1.setCell ⟨w.heap.size + 1, 0, none⟩ (.int .i64 xat)).setCell ⟨w.heap.size + 1, 1, none⟩ (nmS xn)).setCell ⟨w.heap.size + 1, 2, none⟩ (nmS xt)).setCell ⟨w.heap.size + 1, 3, none⟩ (.slice pa xp.length pc)).setCell ⟨w.heap.size + 1, 4, none⟩ (.slice ba xb.length bc)) = w9 at hz9 hb9 ⊢
    obtain ⟨p0, p1, p2, p3, p4, _⟩ := five_cells hz9
    refine bodyPost_ret (v := .tuple #[.agg (FnL.cs ⟨⟨xat, xn, xt, xp, xb⟩, pa, pc, ba, bc⟩).toArray, .bool true]) (by simp [results, Tryz.results23, go_sem, p0, p1, p2, p3, p4, FnL.cs]) rfl ?_
    exact ⟨.inr ⟨_, rfl, rfl, HY.out⟩, hb9⟩
end Go.Proofs.YtjadckhngalmlaaGreatDoor
