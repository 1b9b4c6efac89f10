/-
  The contracts of what is wrong with structs, and with a type, in the code.
-/
import Derived.Test.YtacbjhbiaaieoaaGreatDoorTzKe
import Derived.Test.YtacbjhbiaaieoaaGreatDoorTyLz
namespace Go.Proofs.YtacbjhbiaaieoaaGreatDoor
set_option linter.unusedVariables false
set_option linter.unusedSimpArgs false
set_option maxRecDepth 100000
open Go.RowKit

/-- Structs as they come in. -/
def StIn (S : List StP) (a : Option Addr) (w : World) : Prop := 0 < S.length → ∃ b off, a = some ⟨b, off, none⟩ ∧ b < w.heap.size ∧ ∀ (k : Nat) s, S[k]? = some s → ∃ ma mc, w.cell? ⟨b, off + k * 2, none⟩ = some (.string ⟨s.name.toArray⟩) ∧ w.cell? ⟨b, off + k * 2 + 1, none⟩ = some (.slice ma s.mems.length mc) ∧ MmIn s.mems ma w
theorem StIn.next {S : List StP} {a : Option Addr} {w w' : World} (h : StIn S a w) (hb : Below w.heap.size w w') : StIn S a w' := fun h0 => by
  obtain ⟨b, off, h1, h2, h3⟩ := h h0
  refine ⟨b, off, h1, Nat.lt_of_lt_of_le h2 hb.size, fun k s hk => ?_⟩
  obtain ⟨ma, mc, c0, c1, hm⟩ := h3 k s hk
  have e := hb.block b h2
  exact ⟨ma, mc, (cell_of_blk e _).trans c0, (cell_of_blk e _).trans c1, hm.next hb⟩
/-- The reach of structs that come in. -/
def SzS (S : List StP) : Prop := ∀ s ∈ S, s.name.length ≤ 9223372036854775807 ∧ (∀ m ∈ s.mems, m.1.length ≤ 9223372036854775807 ∧ m.2.length ≤ 9223372036854775807) ∧ s.mems.length ≤ 4503599627370496
def lyC (x : LayP) (v : Value) : List Value := [.int .i64 x.bytes, .int .i64 x.align, .int .i64 x.scal, .string ⟨x.name.toArray⟩, v]
def lyCs (P : List (LayP × Value)) : List Value := P.flatMap fun p => lyC p.1 p.2
theorem lyCs_len (P : List (LayP × Value)) : (lyCs P).length = P.length * 5 := by
  induction P with
  | nil => rfl
  | cons p P ih =>
    show (lyC p.1 p.2 ++ lyCs P).length = _
    rw [List.length_append, ih, List.length_cons, show (lyC p.1 p.2).length = 5 from rfl]
    omega
theorem lyCs_snoc (P : List (LayP × Value)) (p : LayP × Value) : lyCs (P ++ [p]) = lyCs P ++ lyC p.1 p.2 := by
  unfold lyCs
  simp
theorem lyCs_at : ∀ (P : List (LayP × Value)) (k : Nat) (p : LayP × Value), P[k]? = some p → ∀ i, i < 5 → (lyCs P)[k * 5 + i]? = (lyC p.1 p.2)[i]?
  | [], k, p, h, i, hi => by cases h
  | q :: P, 0, p, h, i, hi => by
    cases h
    show (lyC q.1 q.2 ++ lyCs P)[0 * 5 + i]? = _
    rw [List.getElem?_append_left (by show 0 * 5 + i < 5; omega)]
    congr 1
    omega
  | q :: P, k + 1, p, h, i, hi => by
    show (lyC q.1 q.2 ++ lyCs P)[(k + 1) * 5 + i]? = _
    rw [List.getElem?_append_right (by show 5 ≤ _; omega)]
    have ih := lyCs_at P k p h i hi
    rw [← ih]
    congr 1
    show (k + 1) * 5 + i - 5 = _
    omega
/-- Structs laid out, as a row that is the function's own. -/
structure KoX (X : Nat) (K : List (LayP × Value)) (v : Value) (w : World) : Prop where
  own : w.ownsRow (X + 1) 89 5 v K.length (lyCs K)
  nd : ∀ p ∈ K, ∃ ma mc, p.2 = .slice ma p.1.mems.length mc ∧ p.1.mems.length ≤ mc ∧ MbS (fun j => X < j ∧ j < w.heap.size ∧ v.ownBlock ≠ some j) p.1.mems ma w
theorem KoX.next {X : Nat} {K : List (LayP × Value)} {v : Value} {w w' : World} (h : KoX X K v w) (hb : Below w.heap.size w w') : KoX X K v w' :=
  ⟨own_far h.own (fun g hg _ => hb.block g (h.own.lt g hg).2), fun p hp => by
    obtain ⟨ma, mc, h1, h2, h3⟩ := h.nd p hp
    exact ⟨ma, mc, h1, h2, h3.mono (fun j hj => ⟨hj.1, Nat.lt_of_lt_of_le hj.2.1 hb.size, hj.2.2⟩) (fun j hj => hb.block j hj.2.1)⟩⟩
theorem KoX.stp {X : Nat} {K : List (LayP × Value)} {v : Value} {w w' : World} (h : KoX X K v w) (hs : Stp X w w') : KoX X K v w' :=
  ⟨own_far h.own (fun g hg hg2 => hs.blk g (by omega)), fun p hp => by
    obtain ⟨ma, mc, h1, h2, h3⟩ := h.nd p hp
    exact ⟨ma, mc, h1, h2, h3.mono (fun j hj => ⟨hj.1, by rw [hs.size]; exact hj.2.1, hj.2.2⟩) (fun j hj => hs.blk j (by omega))⟩⟩
theorem KoX.in {X : Nat} {K : List (LayP × Value)} {v : Value} {w : World} (h : KoX X K v w) : ∃ a c, v = .slice a K.length c ∧ K.length ≤ c ∧ KnIn (K.map Prod.fst) a w := by
  rcases h.own.2 with ⟨hv, hz⟩ | ⟨g, cap, cur, hv, hb, hg, h1, _⟩
  · exact ⟨none, 0, by rw [hv, hz], by omega, fun h0 => by rw [List.length_map] at h0; omega⟩
  · subst hv
    refine ⟨some ⟨g, 0, none⟩, cap, rfl, h1, fun _ => ⟨g, rfl, (Array.getElem?_eq_some_iff.1 hg).1, fun k x hx => ?_⟩⟩
    rw [List.getElem?_map] at hx
    obtain ⟨p, hp, rfl⟩ := Option.map_eq_some_iff.1 hx
    obtain ⟨ma, mc, hpv, hmc, hm⟩ := h.nd p (List.mem_of_getElem? hp)
    have key : ∀ i u, (lyC p.1 p.2)[i]? = some u → w.cell? ⟨g, k * 5 + i, none⟩ = some u := fun i u hu => by
      have hi : i < 5 := (List.getElem?_eq_some_iff.1 hu).1
      have h2 := lyCs_at K k p hp i hi
      rw [hu] at h2
      have e := h.own.cells (g := g) rfl (k * 5 + i) u h2
      have ea : (⟨g, 0, none⟩ : Addr).add (k * 5 + i) = ⟨g, k * 5 + i, none⟩ := by unfold Addr.add; split <;> simp_all
      rwa [ea] at e
    rw [hpv] at key
    exact ⟨ma, mc, hm.mono (fun j hj => hj.2.1) (fun _ _ => rfl), hmc, key 0 _ rfl, key 1 _ rfl, key 2 _ rfl, key 3 _ rfl, key 4 _ rfl⟩
theorem KoX.add {X : Nat} {K : List (LayP × Value)} {v : Value} {w wd : World} (h : KoX X K v w) {x : LayP} {ma : Option Addr} {mc g cap : Nat} (hmc : x.mems.length ≤ mc) (hn : MbS (fun j => X < j ∧ j < w.heap.size ∧ v.ownBlock ≠ some j) x.mems ma w)
    (hown : wd.ownsRow (X + 1) 89 5 (.slice (some ⟨g, 0, none⟩) (K.length + 1) cap) (K.length + 1) (lyCs K ++ lyC x (.slice ma x.mems.length mc))) (hg : w.grownBy wd v.ownBlock) (hl : v.ownBlock = some g ∨ g = w.heap.size) :
    KoX X (K ++ [(x, .slice ma x.mems.length mc)]) (.slice (some ⟨g, 0, none⟩) (K.length + 1) cap) wd := by
  have hk : ∀ j, (X < j ∧ j < w.heap.size ∧ v.ownBlock ≠ some j) → (X < j ∧ j < wd.heap.size ∧ (Value.slice (some ⟨g, 0, none⟩) (K.length + 1) cap).ownBlock ≠ some j) := fun j hj => ⟨hj.1, Nat.lt_of_lt_of_le hj.2.1 hg.size, fun e => by
    have e2 : g = j := by simpa [Value.ownBlock] using e
    subst e2
    rcases hl with h1 | h1
    · exact hj.2.2 h1
    · omega⟩
  have hb : ∀ j, (X < j ∧ j < w.heap.size ∧ v.ownBlock ≠ some j) → wd.heap[j]? = w.heap[j]? := fun j hj => hg.block j hj.2.1 (fun e => hj.2.2 e.symm)
  refine ⟨by rw [lyCs_snoc, List.length_append, List.length_singleton]; exact hown, fun p hp => ?_⟩
  rcases List.mem_append.1 hp with hp | hp
  · obtain ⟨ma', mc', h1, h2, h3⟩ := h.nd p hp
    exact ⟨ma', mc', h1, h2, h3.mono hk hb⟩
  · rw [List.mem_singleton] at hp
    subst hp
    exact ⟨ma, mc, rfl, hmc, hn.mono hk hb⟩
theorem goS_gd : ∀ (ss : List StP) (L : List LayP), GdL L → GdL (goS L ss).2.2
  | [], L, h => h
  | s :: ss, L, h => by
    unfold goS
    split
    · rename_i h1
      exact goS_gd ss _ (h.add h1)
    · exact fun x hx => by cases hx
theorem gd0 : GdL [] := fun x hx => by cases hx
theorem lo_gd (S : List StP) : GdL (loA S).2.2 := by
  unfold loA
  split
  · exact gd0
  · exact goS_gd S [] gd0
theorem goS_len : ∀ (ss : List StP) (L : List LayP), (goS L ss).2.2.length ≤ L.length + ss.length
  | [], L => Nat.le_refl _
  | s :: ss, L => by
    unfold goS
    split
    · have := goS_len ss (L ++ [nxL L s])
      rw [List.length_append, List.length_singleton] at this
      rw [List.length_cons]
      omega
    · exact Nat.zero_le _
theorem lo_len (S : List StP) : (loA S).2.2.length ≤ 64 := by
  unfold loA
  split
  · exact Nat.zero_le _
  · have := goS_len S []
    simp at this
    omega
/-- While structs are laid out. -/
structure LoI (S : List StP) (w : World) (X q : Nat) (K : List (LayP × Value)) (v : Value) (wr : World) : Prop where
  kl : K.length = q
  gd : GdL (K.map Prod.fst)
  go : goS [] S = goS (K.map Prod.fst) (S.drop q)
  bel : Below w.heap.size w wr
  fb : wr.heap[X]? = some (.cells #[.int .i64 0, .int .i64 0] 27)
  ko : KoX X K v wr
theorem ly_one (x y z : Int) (nm : ByteArray) (a : Option Addr) (n c : Nat) : ∀ u ∈ [Value.int .i64 x, .int .i64 y, .int .i64 z, .string nm, .slice a n c], u.oneCell' = true := by
  intro u hu
  simp only [List.mem_cons, List.not_mem_nil, or_false] at hu
  rcases hu with rfl | rfl | rfl | rfl | rfl <;> rfl
/-- What layOut answers. -/
def LoX (S : List StP) (w : World) (e : Ending) (w' : World) : Prop :=
  (((loA S).2.1 = 0 ∧ ∃ a c, e = .returned (.tuple #[.slice a (loA S).2.2.length c, .agg #[.int .i64 0, .int .i64 0]]) ∧ (loA S).2.2.length ≤ c ∧ KnIn (loA S).2.2 a w') ∨ ((loA S).2.1 ≠ 0 ∧ e = .returned (.tuple #[.slice none 0 0, .agg #[.int .i64 (loA S).1, .int .i64 (loA S).2.1]]))) ∧ Below w.heap.size w w'
set_option maxHeartbeats 8000000 in
theorem c_layOutX (B : Nat) (S : List StP) (a : Option Addr) (c : Nat) (hS : SzS S) (hSl : S.length ≤ 4503599627370496) (w : World) (hE : Env B w) (hB : B ≤ w.heap.size) (hI : StIn S a w) :
    Calls Tryz.prog 41 #[.slice a S.length c] w fun e w' => LoX S w e w' := by
  have HE := Lib.hid (fun w' (hb : Below w.heap.size w w') => And.intro (hE.next (hb.mono hB)) (Nat.le_trans hB hb.size))
  have HS := Lib.hid (fun w' (hb : Below w.heap.size w w') => hI.next hb)
  have HSz := Lib.hid (And.intro hS hSl)
  obtain ⟨i0, hi, hz0, hz1, hz2⟩ := info_parts infoLy
  obtain ⟨N, hN⟩ : ∃ N, S.length = N := ⟨_, rfl⟩
  have HN := Lib.hid hN
  have HLo : Hid (loA S = if 64 < N then (0, 3, []) else goS [] S) := by rw [← hN]; exact Lib.hid rfl
  rw [hN]
  clear hE hB hI hS hSl hN
  by_cases h64 : 64 < N
  · have hd : decide ((64 : Int) < (N : Int)) = true := by simp; omega
    have hv : loA S = (0, 3, []) := HLo.out.trans (if_pos h64)
    have HV := Lib.hid hv
    clear hv h64
    go_enter Tryz.func41, Tryz.ntmps41
    go_wp2_with fail
    refine bodyPost_ret (v := .tuple #[.slice none 0 0, .agg #[.int .i64 0, .int .i64 3]]) (by simp [results, Tryz.results41, go_sem]) rfl ?_
    exact ⟨.inr ⟨by rw [HV.out]; decide, by rw [HV.out]; rfl⟩, below_a _ _⟩
  · have hd : decide ((64 : Int) < (N : Int)) = false := by simp; omega
    have hv : loA S = goS [] S := HLo.out.trans (if_neg h64)
    have HV := Lib.hid hv
    have H64 := Lib.hid h64
    clear hv h64
    go_enter Tryz.func41, Tryz.ntmps41
    go_wp2_with fail
    obtain ⟨X, hX⟩ : ∃ X, w.heap.size = X := ⟨_, rfl⟩
    have hI0 : LoI S w X 0 [] (.slice none 0 0) (w.alloc (.cells #[.int .i64 0, .int .i64 0] 27)) := ⟨rfl, gd0, rfl, below_a _ _, by rw [← hX]; exact heap_alloc_new w _, ⟨World.ownsRow_nil _ _ _ _, fun p hp => by cases hp⟩⟩
    have HI0 := Lib.hid hI0
    have HX := Lib.hid hX
    rw [hX]
    clear hI0 hX hd
    go_loopg [4, 15] N (fun g v4 v15 wr => ∃ (q : Nat) (ao : Option Addr) (co : Nat), q + g = N ∧ v15 = .int .i64 (q : Int) ∧ v4 = .slice ao q co ∧ Hid (∃ K, LoI S w X q K (.slice ao q co) wr))
    case atStart => exact ⟨0, none, 0, by omega, rfl, rfl, [], HI0.out⟩
    case round =>
      obtain ⟨q, va, vc, hq, rfl, rfl, HIx⟩ := hrel
      obtain ⟨K, hI⟩ := HIx.out
      have HI := Lib.hid hI
      obtain ⟨va', vc', hv, hvc, hkn⟩ := hI.ko.in
      injection hv with hv1 hv2 hv3
      subst hv1 hv3
      have HKn := Lib.hid (And.intro hkn hvc)
      have hXl : X < wr.heap.size := (Array.getElem?_eq_some_iff.1 hI.fb).1
      clear hI hkn HIx hv2
      by_cases hlt : q < N
      · have hdq : decide ((q : Int) < (N : Int)) = true := by simp; omega
        obtain ⟨s, hs⟩ : ∃ s, S[q]? = some s := ⟨_, List.getElem?_eq_getElem (by have := HN.out; omega)⟩
        obtain ⟨gb, gof, hgab, hgb, hrow⟩ := HS.out wr HI.out.bel (by have := HN.out; omega)
        obtain ⟨ma, mc, g0, g1, hmm⟩ := hrow q s hs
        have HSs := Lib.hid (And.intro hs hmm)
        obtain ⟨sn, sm⟩ := s
        simp only at g0 g1
        obtain ⟨ML, hML⟩ : ∃ ML, sm.length = ML := ⟨_, rfl⟩
        rw [hML] at g1
        have hq0 : (0 : Int) ≤ (q : Int) := by omega
        have hql : (q : Int) < (N : Int) := by omega
        have hwm : IntKind.i64.wrap ((q : Int) + 1) = ((q + 1 : Nat) : Int) := by rw [IntKind.wrap_i64]; have := H64.out; omega
        have HM : Hid (N - (q + 1) < gk ∧ q + 1 + (N - (q + 1)) = N) := ⟨by omega, by omega⟩
        subst hgab
        clear hrow hs hmm
        go_wp2_with fail
        clear g0 g1
        have HAm := Lib.hid (below_a wr (.cells #[.string ⟨sn.toArray⟩, .slice ma ML mc] 61))
        have HBm := Lib.hid (HI.out.bel.trans (HAm.out.mono HI.out.bel.size))
        have hsz := HSz.out.1 _ (List.mem_of_getElem? HSs.out.1)
        have hnx := c_nextX (K.map Prod.fst) va vc (by rw [List.length_map]; exact HKn.out.2) HI.out.gd (by rw [List.length_map, HI.out.kl]; have := H64.out; omega) B ⟨sn, sm⟩ ma mc hsz.1 hsz.2.1 hsz.2.2 (wr.alloc (.cells #[.string ⟨sn.toArray⟩, .slice ma ML mc] 61)) (HE.out _ HBm.out).1 (HE.out _ HBm.out).2 (HKn.out.1.next HAm.out) (HSs.out.2.next HAm.out)
        rw [List.length_map, HI.out.kl, hML] at hnx
        refine hnx.mono ?_
        clear hnx hsz
        rintro e w1 ⟨hr, hb⟩
        have HB1 := Lib.hid (below_on HBm.out hb HBm.out.size)
        have HF1 := Lib.hid (blk_next (blk_next HI.out.fb HAm.out) hb)
        have HO1 := Lib.hid ((HI.out.ko.next HAm.out).next hb)
        have hs1 : wr.heap.size + 1 ≤ w1.heap.size := by have := hb.size; simp at this; omega
        have HGw : Hid (∀ g, (Value.slice va q vc).ownBlock = some g → X + 1 ≤ g ∧ g < wr.heap.size) := fun g hg => HI.out.ko.own.lt g hg
        clear hb HAm HBm
        rcases hr with ⟨hn0, ma', mc', rfl, hmc, hmb⟩ | ⟨hn0, fx, fy, fz, fnm, fa, fn, fc, rfl⟩
        · have hgo2 : goS [] S = goS (K.map Prod.fst ++ [nxL (K.map Prod.fst) ⟨sn, sm⟩]) (S.drop (q + 1)) := by
            rw [HI.out.go, List.drop_eq_getElem_cons (by have := HN.out; omega), (List.getElem?_eq_some_iff.1 HSs.out.1).2]
            show goS _ (⟨sn, sm⟩ :: S.drop (q + 1)) = _
            conv => lhs; unfold goS
            rw [if_pos hn0]
          have hgd2 := HI.out.gd.add hn0
          obtain ⟨Y, hY⟩ : ∃ Y, nxL (K.map Prod.fst) ⟨sn, sm⟩ = Y := ⟨_, rfl⟩
          rw [hY] at hgo2 hgd2 hmc hmb ⊢
          have HG2 := Lib.hid (And.intro hgo2 (And.intro hgd2 (And.intro hmc hmb)))
          obtain ⟨lx, hlx⟩ : ∃ y : Int, (Y.bytes : Int) = y := ⟨_, rfl⟩
          obtain ⟨ly, hly⟩ : ∃ y : Int, (Y.align : Int) = y := ⟨_, rfl⟩
          obtain ⟨lz, hlz⟩ : ∃ y : Int, (Y.scal : Int) = y := ⟨_, rfl⟩
          obtain ⟨ln, hln⟩ : ∃ y, (⟨Y.name.toArray⟩ : ByteArray) = y := ⟨_, rfl⟩
          obtain ⟨lm, hlm⟩ : ∃ y, Y.mems.length = y := ⟨_, rfl⟩
          have HYs := Lib.hid (And.intro hlx (And.intro hly (And.intro hlz (And.intro hln hlm))))
          rw [hlx, hly, hlz, hln, hlm]
          clear hgo2 hgd2 hmc hmb hn0 hY hlx hly hlz hln hlm
          have HOx := Lib.hid ((HO1.out.next (below_a w1 (.cells #[.int .i64 lx, .int .i64 ly, .int .i64 lz, .string ln, .slice ma' lm mc'] 89))).next (below_a (w1.alloc (.cells #[.int .i64 lx, .int .i64 ly, .int .i64 lz, .string ln, .slice ma' lm mc'] 89)) (.cells #[.int .i64 lx, .int .i64 ly, .int .i64 lz, .string ln, .slice ma' lm mc'] 89)))
          have HBx := Lib.hid ((HB1.out.alloc HB1.out.size (.cells #[.int .i64 lx, .int .i64 ly, .int .i64 lz, .string ln, .slice ma' lm mc'] 89)).alloc (HB1.out.alloc HB1.out.size _).size (.cells #[.int .i64 lx, .int .i64 ly, .int .i64 lz, .string ln, .slice ma' lm mc'] 89))
          go_wp2_with (at_builtin; refine wpList_append_lies _ rfl _ _ 63 rfl (X + 1) 89 i0 (.agg #[.int .i64 0, .int .i64 0, .int .i64 0, .string ByteArray.empty, .slice none 0 0]) 5 64 Tryz.underlying63 hi hz0 hz1 hz2 rfl (by decide) (.slice va q vc) q (lyCs K) rfl (by have h := HOx.out.own; rw [HI.out.kl] at h; exact h) ⟨w1.heap.size + 1, 0, none⟩ 1 1 [.int .i64 lx, .int .i64 ly, .int .i64 lz, .string ln, .slice ma' lm mc'] rfl rfl ?cc1 (ly_one _ _ _ _ _ _ _) (by decide) ?cc3 ?cc4 ?cc5 (w1.heap.size + 2) ?cc6 ?_)
          case cc1 =>
            intro j u hu
            have h := World.news_of_block (heap_alloc_new (w1.alloc (.cells #[.int .i64 lx, .int .i64 ly, .int .i64 lz, .string ln, .slice ma' lm mc'] 89)) (.cells #[.int .i64 lx, .int .i64 ly, .int .i64 lz, .string ln, .slice ma' lm mc'] 89)) j u hu
            rw [show (w1.alloc (.cells #[.int .i64 lx, .int .i64 ly, .int .i64 lz, .string ln, .slice ma' lm mc'] 89)).heap.size = w1.heap.size + 1 by simp] at h
            exact h
          case cc3 => have h3 := H64.out; unfold maxLen; omega
          case cc4 => have h3 := H64.out; omega
          case cc5 => simp; omega
          case cc6 => simp
          intro gr cap1 wd hown hgrow hlies hglt
          have HNI : Hid (LoI S w X (q + 1) (K ++ [(Y, .slice ma' Y.mems.length mc')]) (.slice (some ⟨gr, 0, none⟩) (q + 1) cap1) wd) := by
            obtain ⟨h1, h2, h3, h4⟩ := HG2.out
            obtain ⟨y0, y1, y2, y3, y4⟩ := HYs.out
            refine ⟨by rw [List.length_append, HI.out.kl]; rfl, by rw [List.map_append]; exact h2, by rw [List.map_append]; exact h1, HBx.out.grown hgrow (by have := HBx.out.size; exact this) (fun k hk => by have := (HGw.out k hk).1; have := HX.out; omega), ?_, ?_⟩
            · refine (hgrow.block X (by simp; omega) (fun e => by have := (HGw.out X e.symm).1; omega)).trans ?_
              exact (Below.heap_alloc _ _ _ (by simp; omega)).trans ((Below.heap_alloc _ _ _ (by omega)).trans HF1.out)
            · have hadd := HOx.out.add (x := Y) (ma := ma') (mc := mc') (g := gr) (cap := cap1) (wd := wd) h3 (h4.mono (fun j hj => ⟨by have := hj.1; simp at this; omega, by have := hj.2; simp; omega, fun e => by have := (HGw.out j e).2; have := hj.1; simp at this; omega⟩) (fun j hj => (Below.heap_alloc _ _ _ (by have := hj.2; simp; omega)).trans (Below.heap_alloc _ _ _ hj.2))) (by rw [HI.out.kl]; show wd.ownsRow _ _ _ _ _ (lyCs K ++ [.int .i64 Y.bytes, .int .i64 Y.align, .int .i64 Y.scal, .string ⟨Y.name.toArray⟩, .slice ma' Y.mems.length mc']); rw [y0, y1, y2, y3, y4]; exact hown) hgrow (by simpa using hlies)
              rw [HI.out.kl] at hadd
              exact hadd
          clear hown hgrow hlies hglt HOx HBx HO1 HF1
          go_wp2_with fail
          go_roundg (N - (q + 1))
          case measure => exact HM.out.1
          case rel => exact ⟨q + 1, _, _, HM.out.2, rfl, rfl, _, HNI.out⟩
        · obtain ⟨E, hE⟩ : ∃ E : Int, (nxE (K.map Prod.fst) ⟨sn, sm⟩ : Int) = E := ⟨_, rfl⟩
          have hE0 : (E == 0) = false := by rw [← hE]; simp; exact hn0
          have hgo2 : loA S = (q, nxE (K.map Prod.fst) ⟨sn, sm⟩, []) := by
            rw [HV.out, HI.out.go, List.drop_eq_getElem_cons (by have := HN.out; omega), (List.getElem?_eq_some_iff.1 HSs.out.1).2]
            show goS _ (⟨sn, sm⟩ :: S.drop (q + 1)) = _
            unfold goS
            rw [if_neg hn0, List.length_map, HI.out.kl]
          have HG2 := Lib.hid (And.intro hgo2 (And.intro hE hn0))
          have r0 : w1.cell? ⟨X, 0, none⟩ = some (.int .i64 0) := by rw [Lib.cell_of_heap HF1.out]; rfl
          have r1 : w1.cell? ⟨X, 1, none⟩ = some (.int .i64 0) := by rw [Lib.cell_of_heap HF1.out]; rfl
          have f0 := Lib.frozen_of_heap HF1.out 0
          have f1 := Lib.frozen_of_heap HF1.out 1
          have hX1 : X < w1.heap.size := by omega
          rw [hE]
          clear hgo2 hE hn0
          go_wp2_with fail
          have hst : Stp X w1 ((w1.setCell ⟨X, 0, none⟩ (.int .i64 q)).setCell ⟨X, 1, none⟩ (.int .i64 E)) := (Stp.set X 0 w1 _).trans (Stp.set X 1 _ _)
          have hz9 : ((w1.setCell ⟨X, 0, none⟩ (.int .i64 q)).setCell ⟨X, 1, none⟩ (.int .i64 E)).heap[X]? = some (.cells #[.int .i64 q, .int .i64 E] 27) := heap_setCell_same _ X 1 _ _ _ (heap_setCell_same w1 X 0 _ _ _ HF1.out)
          have hb9 := below_stp HB1.out hst (by have := HX.out; omega)
          have hs9 := hst.size
          clear hst
          generalize (w1.setCell ⟨X, 0, none⟩ (.int .i64 q)).setCell ⟨X, 1, none⟩ (.int .i64 E) = w9 at hb9 hz9 hs9 ⊢
          have hz10 := (Below.heap_alloc w9 (.cells #[.int .i64 fx, .int .i64 fy, .int .i64 fz, .string fnm, .slice fa fn fc] 89) _ (by omega : X < w9.heap.size)).trans hz9
          have hb10 := hb9.alloc hb9.size (.cells #[.int .i64 fx, .int .i64 fy, .int .i64 fz, .string fnm, .slice fa fn fc] 89)
          generalize w9.alloc (.cells #[.int .i64 fx, .int .i64 fy, .int .i64 fz, .string fnm, .slice fa fn fc] 89) = wx at hb10 hz10 ⊢
          have p0 : wx.cell? ⟨X, 0, none⟩ = some (.int .i64 q) := by rw [Lib.cell_of_heap hz10]; rfl
          have p1 : wx.cell? ⟨X, 1, none⟩ = some (.int .i64 E) := by rw [Lib.cell_of_heap hz10]; rfl
          refine bodyPost_ret (v := .tuple #[.slice none 0 0, .agg #[.int .i64 q, .int .i64 E]]) (by simp [results, Tryz.results41, go_sem, p0, p1]) rfl ?_
          exact ⟨.inr ⟨by rw [HG2.out.1]; exact HG2.out.2.2, by rw [HG2.out.1, ← HG2.out.2.1]⟩, hb10⟩
      · have hdq : decide ((q : Int) < (N : Int)) = false := by simp; omega
        have hqN : q = S.length := by have := HN.out; omega
        have hlo : loA S = (0, 0, K.map Prod.fst) := by
          rw [HV.out, HI.out.go, hqN, List.drop_length]
          rfl
        have HLo2 := Lib.hid (And.intro hlo (And.intro hqN hvc))
        have r0 : wr.cell? ⟨X, 0, none⟩ = some (.int .i64 0) := by rw [Lib.cell_of_heap HI.out.fb]; rfl
        have r1 : wr.cell? ⟨X, 1, none⟩ = some (.int .i64 0) := by rw [Lib.cell_of_heap HI.out.fb]; rfl
        have f0 := Lib.frozen_of_heap HI.out.fb 0
        have f1 := Lib.frozen_of_heap HI.out.fb 1
        clear hlo hqN
        go_wp2_with fail
        have hst : Stp X wr ((wr.setCell ⟨X, 0, none⟩ (.int .i64 0)).setCell ⟨X, 1, none⟩ (.int .i64 0)) := (Stp.set X 0 wr _).trans (Stp.set X 1 _ _)
        have hz9 : ((wr.setCell ⟨X, 0, none⟩ (.int .i64 0)).setCell ⟨X, 1, none⟩ (.int .i64 0)).heap[X]? = some (.cells #[.int .i64 0, .int .i64 0] 27) := heap_setCell_same _ X 1 _ _ _ (heap_setCell_same wr X 0 _ _ _ HI.out.fb)
        have hb9 := below_stp HI.out.bel hst (by have := HX.out; omega)
        have hko := (HI.out.ko.stp hst).in
        clear hst
        generalize (wr.setCell ⟨X, 0, none⟩ (.int .i64 0)).setCell ⟨X, 1, none⟩ (.int .i64 0) = w9 at hb9 hz9 hko ⊢
        have p0 : w9.cell? ⟨X, 0, none⟩ = some (.int .i64 0) := by rw [Lib.cell_of_heap hz9]; rfl
        have p1 : w9.cell? ⟨X, 1, none⟩ = some (.int .i64 0) := by rw [Lib.cell_of_heap hz9]; rfl
        refine bodyPost_ret (v := .tuple #[.slice va q vc, .agg #[.int .i64 0, .int .i64 0]]) (by simp [results, Tryz.results41, go_sem, p0, p1]) rfl ?_
        obtain ⟨a', c', hav, hac, hkn⟩ := hko
        injection hav with hv1 hv2 hv3
        subst hv1
        refine ⟨.inl ⟨by rw [HLo2.out.1], va, vc, ?_, ?_, ?_⟩, hb9⟩
        · rw [HLo2.out.1]
          show _ = Ending.returned (.tuple #[.slice va (K.map Prod.fst).length vc, .agg #[.int .i64 0, .int .i64 0]])
          rw [List.length_map, HI.out.kl]
        · rw [HLo2.out.1]
          show (K.map Prod.fst).length ≤ vc
          rw [List.length_map]
          exact HLo2.out.2.2
        · rw [HLo2.out.1]
          exact hkn
end Go.Proofs.YtacbjhbiaaieoaaGreatDoor
namespace Go.Proofs.YtacbjhbiaaieoaaGreatDoor
set_option linter.unusedVariables false
set_option linter.unusedSimpArgs false
set_option maxRecDepth 100000
open Go.RowKit

theorem goS_zero : ∀ (ss : List StP) (L : List LayP), (goS L ss).2.1 = 0 → (goS L ss).1 = 0
  | [], L, _ => rfl
  | s :: ss, L, h => by
    unfold goS at h ⊢
    split
    · rename_i h1
      rw [if_pos h1] at h
      exact goS_zero ss _ h
    · rename_i h1
      rw [if_neg h1] at h
      exact absurd h h1
theorem lo_zero (S : List StP) (h : (loA S).2.1 = 0) : (loA S).1 = 0 := by
  unfold loA at h ⊢
  split
  · rfl
  · rename_i h1
    rw [if_neg h1] at h
    exact goS_zero S [] h
set_option maxHeartbeats 4000000 in
theorem c_StructsX (B : Nat) (S : List StP) (a : Option Addr) (c : Nat) (hS : SzS S) (hSl : S.length ≤ 4503599627370496) (w : World) (hE : Env B w) (hB : B ≤ w.heap.size) (hI : StIn S a w) :
    Calls Tryz.prog 8 #[.slice a S.length c] w fun e w' => e = .returned (.agg #[.int .i64 (loA S).1, .int .i64 (loA S).2.1]) ∧ Below w.heap.size w w' := by
  have HL := Lib.hid (fun w' (hb : Below w.heap.size w w') => c_layOutX B S a c hS hSl w' (hE.next (hb.mono hB)) (Nat.le_trans hB hb.size) (hI.next hb))
  have HZ := Lib.hid (lo_zero S)
  obtain ⟨N, hN⟩ : ∃ N, S.length = N := ⟨_, rfl⟩
  rw [hN] at HL ⊢
  obtain ⟨f0, f1, hf0, hf1⟩ : ∃ f0 f1 : Int, ((loA S).1 : Int) = f0 ∧ ((loA S).2.1 : Int) = f1 := ⟨_, _, rfl, rfl⟩
  have HFs := Lib.hid (And.intro hf0 hf1)
  rw [hf0, hf1]
  clear hE hB hI hS hSl hN hf0 hf1
  go_enter Tryz.func8, Tryz.ntmps8
  go_wp2_with fail
  refine (HL.out _ (below_a w _)).mono ?_
  rintro e w1 ⟨hr, hb⟩
  have HB := Lib.hid (below_on (below_a w (.cells #[.int .i64 0, .int .i64 0] 27)) hb (by simp))
  have HZ1 := Lib.hid (blk_next (heap_alloc_new w (.cells #[.int .i64 0, .int .i64 0] 27)) hb)
  clear hb HL
  obtain ⟨ra, rn, rc, hr2⟩ : ∃ ra rn rc, e = .returned (.tuple #[.slice ra rn rc, .agg #[.int .i64 f0, .int .i64 f1]]) := by
    rcases hr with ⟨h0, a', c', he, _⟩ | ⟨h0, he⟩
    · exact ⟨_, _, _, by rw [he, ← HFs.out.1, ← HFs.out.2, HZ.out h0, h0]; rfl⟩
    · exact ⟨_, _, _, by rw [he, ← HFs.out.1, ← HFs.out.2]⟩
  subst hr2
  have r0 : w1.cell? ⟨w.heap.size, 0, none⟩ = some (.int .i64 0) := by rw [Lib.cell_of_heap HZ1.out]; rfl
  have r1 : w1.cell? ⟨w.heap.size, 1, none⟩ = some (.int .i64 0) := by rw [Lib.cell_of_heap HZ1.out]; rfl
  have rf0 := Lib.frozen_of_heap HZ1.out 0
  have rf1 := Lib.frozen_of_heap HZ1.out 1
  have hlt : w.heap.size < w1.heap.size := (Array.getElem?_eq_some_iff.1 HZ1.out).1
  clear hr
  go_wp2_with fail
  have hst : Stp w.heap.size w1 ((w1.setCell ⟨w.heap.size, 0, none⟩ (.int .i64 f0)).setCell ⟨w.heap.size, 1, none⟩ (.int .i64 f1)) := (Stp.set w.heap.size 0 w1 _).trans (Stp.set w.heap.size 1 _ _)
  have hz9 : ((w1.setCell ⟨w.heap.size, 0, none⟩ (.int .i64 f0)).setCell ⟨w.heap.size, 1, none⟩ (.int .i64 f1)).heap[w.heap.size]? = some (.cells #[.int .i64 f0, .int .i64 f1] 27) := heap_setCell_same _ w.heap.size 1 _ _ _ (heap_setCell_same w1 w.heap.size 0 _ _ _ HZ1.out)
  have hb9 := below_stp HB.out hst (Nat.le_refl _)
  have hs9 := hst.size
  clear hst
  generalize (w1.setCell ⟨w.heap.size, 0, none⟩ (.int .i64 f0)).setCell ⟨w.heap.size, 1, none⟩ (.int .i64 f1) = w9 at hb9 hz9 hs9 ⊢
  have hz10 := (Below.heap_alloc w9 (.cells #[.int .i64 f0, .int .i64 f1] 27) _ (by omega : w.heap.size < w9.heap.size)).trans hz9
  have hb10 := hb9.alloc hb9.size (.cells #[.int .i64 f0, .int .i64 f1] 27)
  generalize w9.alloc (.cells #[.int .i64 f0, .int .i64 f1] 27) = wx at hb10 hz10 ⊢
  have p0 : wx.cell? ⟨w.heap.size, 0, none⟩ = some (.int .i64 f0) := by rw [Lib.cell_of_heap hz10]; rfl
  have p1 : wx.cell? ⟨w.heap.size, 1, none⟩ = some (.int .i64 f1) := by rw [Lib.cell_of_heap hz10]; rfl
  refine bodyPost_ret (v := .agg #[.int .i64 f0, .int .i64 f1]) (by simp [results, Tryz.results8, go_sem, p0, p1]) rfl ?_
  exact ⟨rfl, hb10⟩
/-- What rightType answers. -/
def RtX (S : List StP) (l : List UInt8) (w : World) (e : Ending) (w' : World) : Prop :=
  (((loA S).2.1 = 0 ∧ (∃ (x0 : Int) (s1 : ByteArray) (x2 : Int) (s3 : ByteArray) (a : Option Addr) (n c : Nat) (ka : Option Addr) (kc : Nat), e = .returned (.tuple #[nV x0 s1 x2 s3 a n c, .slice ka (loA S).2.2.length kc, .int .i64 (rgA (loA S).2.2 l)]))) ∨ ((loA S).2.1 ≠ 0 ∧ e = .returned (.tuple #[nV 0 ⟨#[]⟩ 0 ⟨#[]⟩ none 0 0, .slice none 0 0, .int .i64 (loA S).2.1]))) ∧ Below w.heap.size w w'
set_option maxHeartbeats 4000000 in
theorem c_rightTypeX (B : Nat) (S : List StP) (a : Option Addr) (c : Nat) (hS : SzS S) (hSl : S.length ≤ 4503599627370496) (l : List UInt8) (w : World) (hE : Env B w) (hB : B ≤ w.heap.size) (hm : l.length ≤ 9223372036854775807) (hI : StIn S a w) :
    Calls Tryz.prog 42 #[.string ⟨l.toArray⟩, .slice a S.length c] w fun e w' => RtX S l w e w' := by
  have HL := Lib.hid (fun w' (hb : Below w.heap.size w w') => c_layOutX B S a c hS hSl w' (hE.next (hb.mono hB)) (Nat.le_trans hB hb.size) (hI.next hb))
  have HR := Lib.hid (fun w' (hb : Below w.heap.size w w') ka kc hkc hK => c_rightX (loA S).2.2 ka kc hkc (lo_gd S) (Nat.le_trans (lo_len S) (by decide)) B l w' (hE.next (hb.mono hB)) (Nat.le_trans hB hb.size) hm hK)
  have HZ := Lib.hid (lo_zero S)
  obtain ⟨N, hN⟩ : ∃ N, S.length = N := ⟨_, rfl⟩
  rw [hN] at HL ⊢
  clear hE hB hI hS hSl hN hm
  go_enter Tryz.func42, Tryz.ntmps42
  go_wp2_with fail
  refine (HL.out _ (below_a w zOb)).mono ?_
  rintro e w1 ⟨hr, hb⟩
  have HB1 := Lib.hid (below_on (below_a w zOb) hb (by simp))
  have HZ1 := Lib.hid (blk_next (heap_alloc_new w zOb) hb)
  clear hb HL
  rcases hr with ⟨h0, ka, kc, rfl, hkc, hK⟩ | ⟨h0, rfl⟩
  · have HK := Lib.hid (And.intro h0 (And.intro hkc hK))
    obtain ⟨ML, hML⟩ : ∃ ML, (loA S).2.2.length = ML := ⟨_, rfl⟩
    have HML := Lib.hid hML
    rw [hML]
    clear h0 hkc hK hML
    go_wp2_with fail
    have HA := Lib.hid (below_a w1 (.cells #[.int .i64 0, .int .i64 0] 27))
    have HB2 := Lib.hid (below_on HB1.out HA.out HB1.out.size)
    have HZ2 := Lib.hid (blk_next HZ1.out HA.out)
    have hr := HR.out _ HB2.out ka kc HK.out.2.1 (HK.out.2.2.next HA.out)
    rw [HML.out] at hr
    refine hr.mono ?_
    clear hr
    rintro e w3 ⟨hr, hb⟩
    have HB3 := Lib.hid (below_on HB2.out hb HB2.out.size)
    have HZ3 := Lib.hid (blk_next HZ2.out hb)
    clear hb HR HA HB1 HZ1 HB2 HZ2
    obtain ⟨x0, s1, x2, s3, a', n', c', E, hE, rfl⟩ : ∃ (x0 : Int) (s1 : ByteArray) (x2 : Int) (s3 : ByteArray) (a' : Option Addr) (n' c' : Nat) (E : Int), (rgA (loA S).2.2 l : Int) = E ∧ e = .returned (.tuple #[nV x0 s1 x2 s3 a' n' c', .int .i64 E]) := by
      rcases hr with ⟨t, a', n', c', _, h1, he, _⟩ | ⟨_, he⟩
      · exact ⟨_, _, _, _, _, _, _, _, rfl, by rw [he, h1]; rfl⟩
      · exact ⟨_, _, _, _, _, _, _, _, rfl, he⟩
    have HEe := Lib.hid hE
    clear hr hE
    have hs3 : w.heap.size < w3.heap.size := (Array.getElem?_eq_some_iff.1 HZ3.out).1
    obtain ⟨r0, r1, r2, r3, r4, rf⟩ := five_cells HZ3.out
    have rf0 := rf 0
    have rf1 := rf 1
    have rf2 := rf 2
    have rf3 := rf 3
    have rf4 := rf 4
    clear rf
    go_wp2_with fail
    have hst := Stp.five0 w.heap.size w3 (.int .u8 x0) (.string s1) (.int .i64 x2) (.string s3) (.slice a' n' c')
    have hb9 := below_stp HB3.out hst (Nat.le_refl _)
    have hz9 := five_set HZ3.out (.int .u8 x0) (.string s1) (.int .i64 x2) (.string s3) (.slice a' n' c')
    have hs9 := hst.size
    clear hst
    generalize ((((w3.setCell ⟨w.heap.size, 0, none⟩ (.int .u8 x0)).setCell ⟨w.heap.size, 1, none⟩ (.string s1)).setCell ⟨w.heap.size, 2, none⟩ (.int .i64 x2)).setCell ⟨w.heap.size, 3, none⟩ (.string s3)).setCell ⟨w.heap.size, 4, none⟩ (.slice a' n' c') = w9 at hb9 hz9 hs9 ⊢
    have hlt9 : w.heap.size < w9.heap.size := by rw [hs9]; exact hs3
    have hz10 := (Below.heap_alloc w9 (.cells #[.int .u8 x0, .string s1, .int .i64 x2, .string s3, .slice a' n' c'] 68) _ hlt9).trans hz9
    have hb10 := hb9.alloc hb9.size (.cells #[.int .u8 x0, .string s1, .int .i64 x2, .string s3, .slice a' n' c'] 68)
    generalize w9.alloc (.cells #[.int .u8 x0, .string s1, .int .i64 x2, .string s3, .slice a' n' c'] 68) = wx at hb10 hz10 ⊢
    obtain ⟨q0, q1, q2, q3, q4, qf⟩ := five_cells hz10
    refine bodyPost_ret (v := .tuple #[nV x0 s1 x2 s3 a' n' c', .slice ka ML kc, .int .i64 E]) (by simp [results, Tryz.results42, go_sem, q0, q1, q2, q3, q4]) rfl ?_
    exact ⟨.inl ⟨HK.out.1, _, _, _, _, _, _, _, ka, kc, by rw [HEe.out, HML.out]⟩, hb10⟩
  · obtain ⟨f0, f1, hf0, hf1⟩ : ∃ f0 f1 : Int, ((loA S).1 : Int) = f0 ∧ ((loA S).2.1 : Int) = f1 := ⟨_, _, rfl, rfl⟩
    have HFs := Lib.hid (And.intro h0 hf1)
    have hE0 : (f1 == 0) = false := by rw [← hf1]; simp; exact h0
    have hE1 : (f1 != 0) = true := by simp [bne, hE0]
    rw [hf0, hf1]
    have hs3 : w.heap.size < w1.heap.size := (Array.getElem?_eq_some_iff.1 HZ1.out).1
    obtain ⟨r0, r1, r2, r3, r4, rf⟩ := five_cells HZ1.out
    have rf0 := rf 0
    have rf1 := rf 1
    have rf2 := rf 2
    have rf3 := rf 3
    have rf4 := rf 4
    clear rf h0 hf0 hf1
    go_wp2_with fail
    go_region_law (fail)
    all_goals
      go_wp2_with fail
      have hst := Stp.five0 w.heap.size w1 (.int .u8 0) (.string ⟨#[]⟩) (.int .i64 0) (.string ⟨#[]⟩) (.slice none 0 0)
      have hb9 := below_stp HB1.out hst (Nat.le_refl _)
      have hz9 := five_set HZ1.out (.int .u8 0) (.string ⟨#[]⟩) (.int .i64 0) (.string ⟨#[]⟩) (.slice none 0 0)
      have hs9 := hst.size
      clear hst
      generalize ((((w1.setCell ⟨w.heap.size, 0, none⟩ (.int .u8 0)).setCell ⟨w.heap.size, 1, none⟩ (.string ⟨#[]⟩)).setCell ⟨w.heap.size, 2, none⟩ (.int .i64 0)).setCell ⟨w.heap.size, 3, none⟩ (.string ⟨#[]⟩)).setCell ⟨w.heap.size, 4, none⟩ (.slice none 0 0) = w9 at hb9 hz9 hs9 ⊢
      have hlt9 : w.heap.size < w9.heap.size := by rw [hs9]; exact hs3
      have hz10 := (Below.heap_alloc w9 (.cells #[.int .i64 f0, .int .i64 f1] 27) _ hlt9).trans hz9
      have hb10 := hb9.alloc hb9.size (.cells #[.int .i64 f0, .int .i64 f1] 27)
      generalize w9.alloc (.cells #[.int .i64 f0, .int .i64 f1] 27) = wx at hb10 hz10 ⊢
      obtain ⟨q0, q1, q2, q3, q4, qf⟩ := five_cells hz10
      refine bodyPost_ret (v := .tuple #[nV 0 ⟨#[]⟩ 0 ⟨#[]⟩ none 0 0, .slice none 0 0, .int .i64 f1]) (by simp [results, Tryz.results42, go_sem, q0, q1, q2, q3, q4]) rfl ?_
      exact ⟨.inr ⟨HFs.out.1, by rw [HFs.out.2]⟩, by first | exact hb10 | exact hb10.drew⟩
set_option maxHeartbeats 2000000 in
theorem c_CheckX (B : Nat) (S : List StP) (a : Option Addr) (c : Nat) (hS : SzS S) (hSl : S.length ≤ 4503599627370496) (l : List UInt8) (w : World) (hE : Env B w) (hB : B ≤ w.heap.size) (hm : l.length ≤ 9223372036854775807) (hI : StIn S a w) :
    Calls Tryz.prog 9 #[.string ⟨l.toArray⟩, .slice a S.length c] w fun e w' => e = .returned (.int .i64 (chA S l)) ∧ Below w.heap.size w w' := by
  have HR := Lib.hid (c_rightTypeX B S a c hS hSl l w hE hB hm hI)
  obtain ⟨N, hN⟩ : ∃ N, S.length = N := ⟨_, rfl⟩
  rw [hN] at HR ⊢
  obtain ⟨E, hEe⟩ : ∃ E : Int, (chA S l : Int) = E := ⟨_, rfl⟩
  rw [hEe]
  have HEe := Lib.hid hEe
  clear hE hB hI hS hSl hN hm hEe
  go_enter Tryz.func9, Tryz.ntmps9
  go_wp2_with fail
  refine HR.out.mono ?_
  rintro e w1 ⟨hr, hb⟩
  have HB := Lib.hid hb
  clear hb HR
  obtain ⟨x0, s1, x2, s3, a', n', c', ka, kn, kc, rfl⟩ : ∃ (x0 : Int) (s1 : ByteArray) (x2 : Int) (s3 : ByteArray) (a' : Option Addr) (n' c' : Nat) (ka : Option Addr) (kn kc : Nat), e = .returned (.tuple #[nV x0 s1 x2 s3 a' n' c', .slice ka kn kc, .int .i64 E]) := by
    rcases hr with ⟨h0, x0, s1, x2, s3, a', n', c', ka, kc, he⟩ | ⟨h0, he⟩
    · exact ⟨x0, s1, x2, s3, a', n', c', ka, _, kc, by rw [he, ← HEe.out]; unfold chA; rw [if_pos h0]⟩
    · exact ⟨_, _, _, _, _, _, _, _, _, _, by rw [he, ← HEe.out]; unfold chA; rw [if_neg h0]⟩
  clear hr
  go_wp2_with fail
  go_ret
  first
    | exact ⟨rfl, HB.out⟩
    | exact ⟨rfl, HB.out.alloc HB.out.size _⟩
end Go.Proofs.YtacbjhbiaaieoaaGreatDoor
