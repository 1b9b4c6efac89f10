/-
  The contracts of what is wrong with structs, and with a type, in the code.
-/
import Derived.Test.YtjadckhngalmlaaGreatDoorZTyKb
import Derived.Test.YtjadckhngalmlaaGreatDoorZTyLz
import Derived.Deep.AppendLies
namespace Go.Proofs.YtjadckhngalmlaaGreatDoor
set_option linter.unusedVariables false
set_option linter.unusedSimpArgs false
set_option maxRecDepth 100000
open Go.RowKit

/-- A struct's members as they come in. -/
def MmIn (M : List (List UInt8 × List UInt8)) (a : Option Addr) (w : World) : Prop := 0 < M.length → ∃ b off, a = some ⟨b, off, none⟩ ∧ b < w.heap.size ∧ ∀ (k : Nat) m, M[k]? = some m → w.cell? ⟨b, off + k * 2, none⟩ = some (.string ⟨m.1.toArray⟩) ∧ w.cell? ⟨b, off + k * 2 + 1, none⟩ = some (.string ⟨m.2.toArray⟩)
theorem MmIn.next {M : List (List UInt8 × List UInt8)} {a : Option Addr} {w w' : World} (h : MmIn M a w) (hb : Below w.heap.size w w') : MmIn M a w' := fun h0 => by
  obtain ⟨b, off, h1, h2, h3⟩ := h h0
  refine ⟨b, off, h1, Nat.lt_of_lt_of_le h2 hb.size, fun k m hk => ?_⟩
  have e := hb.block b h2
  exact ⟨(cell_of_blk e _).trans (h3 k m hk).1, (cell_of_blk e _).trans (h3 k m hk).2⟩
def mbCs (P : List (MemP × Value)) : List Value := P.flatMap fun p => mbC p.1 p.2
theorem mbCs_snoc (P : List (MemP × Value)) (p : MemP × Value) : mbCs (P ++ [p]) = mbCs P ++ mbC p.1 p.2 := by
  unfold mbCs
  simp
theorem mbCs_at : ∀ (P : List (MemP × Value)) (k : Nat) (p : MemP × Value), P[k]? = some p → ∀ i, i < 7 → (mbCs P)[k * 7 + i]? = (mbC p.1 p.2)[i]?
  | [], k, p, h, i, hi => by cases h
  | q :: P, 0, p, h, i, hi => by
    cases h
    show (mbC q.1 q.2 ++ mbCs P)[0 * 7 + i]? = _
    rw [List.getElem?_append_left (by show 0 * 7 + i < 7; omega)]
    congr 1
    omega
  | q :: P, k + 1, p, h, i, hi => by
    show (mbC q.1 q.2 ++ mbCs P)[(k + 1) * 7 + i]? = _
    rw [List.getElem?_append_right (by show 7 ≤ _; omega)]
    have ih := mbCs_at P k p h i hi
    rw [← ih]
    congr 1
    show (k + 1) * 7 + i - 7 = _
    omega
/-- Members laid out, as a row that is the function's own. -/
structure MoX (X : Nat) (P : List (MemP × Value)) (v : Value) (w : World) : Prop where
  own : w.ownsRow (X + 1) 179 7 v P.length (mbCs P)
  nd : ∀ p ∈ P, (∃ a n c, p.2 = .slice a n c) ∧ Nd (fun j => X < j ∧ j < w.heap.size ∧ v.ownBlock ≠ some j) w p.1.ty p.2
theorem MoX.next {X : Nat} {P : List (MemP × Value)} {v : Value} {w w' : World} (h : MoX X P v w) (hb : Below w.heap.size w w') : MoX X P v w' :=
  ⟨own_far h.own (fun g hg _ => hb.block g (h.own.lt g hg).2), fun p hp => ⟨(h.nd p hp).1, (h.nd p hp).2.mono (fun j hj => ⟨hj.1, Nat.lt_of_lt_of_le hj.2.1 hb.size, hj.2.2⟩) (fun j hj => hb.block j hj.2.1)⟩⟩
theorem MoX.stp {X : Nat} {P : List (MemP × Value)} {v : Value} {w w' : World} (h : MoX X P v w) (hs : Stp X w w') : MoX X P v w' :=
  ⟨own_far h.own (fun g hg hg2 => hs.blk g (by omega)), fun p hp => ⟨(h.nd p hp).1, (h.nd p hp).2.mono (fun j hj => ⟨hj.1, by rw [hs.size]; exact hj.2.1, hj.2.2⟩) (fun j hj => hs.blk j (by omega))⟩⟩
theorem MoX.in {X : Nat} {P : List (MemP × Value)} {v : Value} {w : World} (h : MoX X P v w) : ∃ a c, v = .slice a P.length c ∧ P.length ≤ c ∧ MbS (fun j => X < j ∧ j < w.heap.size) (P.map Prod.fst) a w := by
  rcases h.own.2 with ⟨hv, hz⟩ | ⟨g, cap, cur, hv, hb, hg, h1, _⟩
  · exact ⟨none, 0, by rw [hv, hz], by omega, fun h0 => by rw [List.length_map] at h0; omega⟩
  · subst hv
    refine ⟨some ⟨g, 0, none⟩, cap, rfl, h1, fun _ => ⟨g, rfl, ⟨by omega, (Array.getElem?_eq_some_iff.1 hg).1⟩, fun k x hx => ?_⟩⟩
    rw [List.getElem?_map] at hx
    obtain ⟨p, hp, rfl⟩ := Option.map_eq_some_iff.1 hx
    obtain ⟨⟨pa, pn, pc, hpv⟩, hn⟩ := h.nd p (List.mem_of_getElem? hp)
    rw [hpv] at hn
    refine ⟨pa, pn, pc, hn.mono (fun j hj => ⟨hj.1, hj.2.1⟩) (fun _ _ => rfl), fun i u hu => ?_⟩
    have hi : i < 7 := by
      have := (List.getElem?_eq_some_iff.1 hu).1
      exact this
    have h2 := mbCs_at P k p hp i hi
    rw [hpv, hu] at h2
    have e := h.own.cells (g := g) rfl (k * 7 + i) u h2
    have ea : (⟨g, 0, none⟩ : Addr).add (k * 7 + i) = ⟨g, k * 7 + i, none⟩ := by unfold Addr.add; split <;> simp_all
    rwa [ea] at e
/-- A member more. -/
theorem MoX.add {X : Nat} {P : List (MemP × Value)} {v : Value} {w wd : World} (h : MoX X P v w) {x : MemP} {a : Option Addr} {n c g cap : Nat} (hn : Nd (fun j => X < j ∧ j < w.heap.size ∧ v.ownBlock ≠ some j) w x.ty (.slice a n c))
    (hown : wd.ownsRow (X + 1) 179 7 (.slice (some ⟨g, 0, none⟩) (P.length + 1) cap) (P.length + 1) (mbCs P ++ mbC x (.slice a n c))) (hg : w.grownBy wd v.ownBlock) (hl : v.ownBlock = some g ∨ g = w.heap.size) :
    MoX X (P ++ [(x, .slice a n c)]) (.slice (some ⟨g, 0, none⟩) (P.length + 1) cap) wd := by
  have hk : ∀ j, (X < j ∧ j < w.heap.size ∧ v.ownBlock ≠ some j) → (X < j ∧ j < wd.heap.size ∧ (Value.slice (some ⟨g, 0, none⟩) (P.length + 1) cap).ownBlock ≠ some j) := fun j hj => ⟨hj.1, Nat.lt_of_lt_of_le hj.2.1 hg.size, fun e => by
    have e2 : g = j := by simpa [Value.ownBlock] using e
    subst e2
    rcases hl with h1 | h1
    · exact hj.2.2 h1
    · omega⟩
  have hb : ∀ j, (X < j ∧ j < w.heap.size ∧ v.ownBlock ≠ some j) → wd.heap[j]? = w.heap[j]? := fun j hj => hg.block j hj.2.1 (fun e => hj.2.2 e.symm)
  refine ⟨by rw [mbCs_snoc, List.length_append, List.length_singleton]; exact hown, fun p hp => ?_⟩
  rcases List.mem_append.1 hp with hp | hp
  · exact ⟨(h.nd p hp).1, (h.nd p hp).2.mono hk hb⟩
  · rw [List.mem_singleton] at hp
    subst hp
    exact ⟨⟨a, n, c, rfl⟩, hn.mono hk hb⟩
abbrev lyO (x y z : Int) (nm : ByteArray) (v : Value) : Obj := .cells #[.int .i64 x, .int .i64 y, .int .i64 z, .string nm, v] 152
theorem ly_set {w : World} {X : Nat} {x y z x' y' z' : Int} {nm : ByteArray} {v v' : Value} (h : w.heap[X]? = some (lyO x y z nm v)) :
    ((((w.setCell ⟨X, 4, none⟩ v').setCell ⟨X, 0, none⟩ (.int .i64 x')).setCell ⟨X, 1, none⟩ (.int .i64 y')).setCell ⟨X, 2, none⟩ (.int .i64 z')).heap[X]? = some (lyO x' y' z' nm v') := by
  have h1 := heap_setCell_same w X 4 _ _ v' h
  have h2 := heap_setCell_same _ X 0 _ _ (.int .i64 x') h1
  have h3 := heap_setCell_same _ X 1 _ _ (.int .i64 y') h2
  have h4 := heap_setCell_same _ X 2 _ _ (.int .i64 z') h3
  exact h4
/-- While members are laid out. -/
structure NxI (L : List LayP) (sn : List UInt8) (sm : List (List UInt8 × List UInt8)) (ga : Option Addr) (ML gc : Nat) (w : World) (X q : Nat) (x : AcP) (P : List (MemP × Value)) (v : Value) (wr : World) : Prop where
  pm : P.map Prod.fst = x.mems
  pl : P.length = q
  acb : AcB x
  go : goM L ac0 sm = goM L x (sm.drop q)
  bel : Below w.heap.size w wr
  xb : wr.heap[X]? = some (lyO x.b x.a x.s ⟨sn.toArray⟩ v)
  sb : wr.heap[w.heap.size]? = some (.cells #[.string ⟨sn.toArray⟩, .slice ga ML gc] 83)
  rb : wr.heap[w.heap.size + 1]? = some (.cells #[.int .i64 0, .int .i64 0, .int .i64 0, .string ⟨#[]⟩, .slice none 0 0] 152)
  mo : MoX X P v wr
/-- What next answers. -/
def NxX (L : List LayP) (s : StP) (w : World) (e : Ending) (w' : World) : Prop :=
  ((nxE L s = 0 ∧ ∃ ma mc, e = .returned (.tuple #[lV (nxL L s).bytes (nxL L s).align (nxL L s).scal ⟨(nxL L s).name.toArray⟩ ma (nxL L s).mems.length mc, .int .i64 0]) ∧ (nxL L s).mems.length ≤ mc ∧ MbS (Fm w.heap.size w') (nxL L s).mems ma w') ∨ (nxE L s ≠ 0 ∧ ∃ x y z nm ma mn mc, e = .returned (.tuple #[lV x y z nm ma mn mc, .int .i64 (nxE L s)]))) ∧ Below w.heap.size w w'
end Go.Proofs.YtjadckhngalmlaaGreatDoor
namespace Go.Proofs.YtjadckhngalmlaaGreatDoor
set_option linter.unusedVariables false
set_option linter.unusedSimpArgs false
set_option maxRecDepth 100000
open Go.RowKit

set_option maxHeartbeats 8000000 in
theorem c_nextX (L : List LayP) (ka : Option Addr) (kc : Nat) (hkc : L.length ≤ kc) (hL : GdL L) (hll : L.length ≤ 65536) (B : Nat) (s : StP) (ga : Option Addr) (gc : Nat) (hs1 : s.name.length ≤ 9223372036854775807) (hs2 : ∀ m ∈ s.mems, m.1.length ≤ 9223372036854775807 ∧ m.2.length ≤ 9223372036854775807) (hsl : s.mems.length ≤ 4503599627370496) (w : World) (hE : Env B w) (hB : B ≤ w.heap.size) (hK : KnIn L ka w) (hM : MmIn s.mems ga w) :
    Calls Tryz.prog 79 #[.slice ka L.length kc, .agg #[.string ⟨s.name.toArray⟩, .slice ga s.mems.length gc]] w fun e w' => NxX L s w e w' := by
  have HE := Lib.hid (fun w' (hb : Below w.heap.size w w') => And.intro (hE.next (hb.mono hB)) (Nat.le_trans hB hb.size))
  have HF := Lib.hid (fun w' (hb : Below w.heap.size w w') => c_findX L ka kc hkc s.name w' (hK.next hb) hll)
  have HN := Lib.hid (fun w => c_IsName s.name w hs1)
  have HKn := Lib.hid (fun w' (hb : Below w.heap.size w w') => hK.next hb)
  have HMm := Lib.hid (fun w' (hb : Below w.heap.size w w') => hM.next hb)
  have HC := Lib.hid (And.intro hkc (And.intro hL (And.intro hll (And.intro hs2 hsl))))
  have HNx : Hid (nxE L s = if nameB s.name = true then if (findL L s.name).isSome = true then 6 else if 64 < s.mems.length then 3 else if s.mems = [] then 5 else if (goM L ac0 s.mems).1 = 0 then if 65536 < upN (goM L ac0 s.mems).2.b (goM L ac0 s.mems).2.a then 3 else 0 else (goM L ac0 s.mems).1 else 2) := rfl
  obtain ⟨sn, sm⟩ := s
  simp only at HF HN HMm HC HNx
  obtain ⟨qn, hqn⟩ : ∃ q, nameB sn = q := ⟨_, rfl⟩
  rw [hqn] at HN HNx
  obtain ⟨N, hN1⟩ : ∃ N, L.length = N := ⟨_, rfl⟩
  have HN1 := Lib.hid hN1
  obtain ⟨ML, hML⟩ : ∃ ML, sm.length = ML := ⟨_, rfl⟩
  have HML := Lib.hid hML
  rw [hN1] at HF ⊢
  rw [hML] at HNx ⊢
  clear hE hB hK hM hkc hL hll hs1 hs2 hsl hqn hN1 hML
  go_enter Tryz.func79, Tryz.ntmps79
  go_wp2_with fail
  have HA0 := Lib.hid ((below_a w (.cells #[.string ⟨sn.toArray⟩, .slice ga ML gc] 83)).alloc (by simp) (.cells #[.int .i64 0, .int .i64 0, .int .i64 0, .string ⟨#[]⟩, .slice none 0 0] 152))
  have HS0 : Hid (((w.alloc (.cells #[.string ⟨sn.toArray⟩, .slice ga ML gc] 83)).alloc (.cells #[.int .i64 0, .int .i64 0, .int .i64 0, .string ⟨#[]⟩, .slice none 0 0] 152)).heap[w.heap.size]? = some (.cells #[.string ⟨sn.toArray⟩, .slice ga ML gc] 83)) := (Below.heap_alloc _ _ _ (by simp)).trans (heap_alloc_new w _)
  have HR0 := Lib.hid (new2 w (.cells #[.string ⟨sn.toArray⟩, .slice ga ML gc] 83) (.cells #[.int .i64 0, .int .i64 0, .int .i64 0, .string ⟨#[]⟩, .slice none 0 0] 152))
  refine (HF.out _ HA0.out).mono ?_
  rintro e w1 ⟨hfd, hb⟩
  have HB1 := Lib.hid (below_on HA0.out hb HA0.out.size)
  have HS1 := Lib.hid (blk_next HS0.out hb)
  have HR1 := Lib.hid (blk_next HR0.out hb)
  clear hb HA0 HS0 HR0 HF
  obtain ⟨fx, fy, fz, fnm, fa, fn, fc, fq, hfe, hfq⟩ : ∃ (fx fy fz : Int) (fnm : ByteArray) (fa : Option Addr) (fn fc : Nat) (fq : Bool), e = .returned (.tuple #[lV fx fy fz fnm fa fn fc, .bool fq]) ∧ (findL L sn).isSome = fq := by
    rcases hfd with ⟨x, ma, mc, hx, he, _⟩ | ⟨hx, he⟩
    · exact ⟨_, _, _, _, _, _, _, _, he, by rw [hx]; rfl⟩
    · exact ⟨_, _, _, _, _, _, _, _, he, by rw [hx]; rfl⟩
  subst hfe
  rw [hfq] at HNx
  clear hfd hfq
  have HB2 := Lib.hid (HB1.out.alloc HB1.out.size (.cells #[.int .i64 fx, .int .i64 fy, .int .i64 fz, .string fnm, .slice fa fn fc] 152))
  have HA2 := Lib.hid (below_a w1 (.cells #[.int .i64 fx, .int .i64 fy, .int .i64 fz, .string fnm, .slice fa fn fc] 152))
  have HS2 := Lib.hid (blk_next HS1.out HA2.out)
  have HR2 := Lib.hid (blk_next HR1.out HA2.out)
  have s0 : w1.cell? ⟨w.heap.size, 0, none⟩ = some (.string ⟨sn.toArray⟩) := by rw [Lib.cell_of_heap HS1.out]; rfl
  have hlt : w.heap.size < w1.heap.size := (Array.getElem?_eq_some_iff.1 HS1.out).1
  go_wp2_with fail
  refine (HN.out _).mono ?_
  rintro e w3 ⟨rfl, hb⟩
  have HB3 := Lib.hid (below_on HB2.out hb HB2.out.size)
  have HS3 := Lib.hid (blk_next HS2.out hb)
  have HR3 := Lib.hid (blk_next HR2.out hb)
  clear hb HN HB1 HS1 HR1 HB2 HA2 HS2 HR2 s0 hlt
  have s0 : w3.cell? ⟨w.heap.size, 0, none⟩ = some (.string ⟨sn.toArray⟩) := by rw [Lib.cell_of_heap HS3.out]; rfl
  have s1 : w3.cell? ⟨w.heap.size, 1, none⟩ = some (.slice ga ML gc) := by rw [Lib.cell_of_heap HS3.out]; rfl
  have hlt : w.heap.size < w3.heap.size := (Array.getElem?_eq_some_iff.1 HS3.out).1
  have hXw : w.heap.size + 2 ≤ w3.heap.size := (Array.getElem?_eq_some_iff.1 HR3.out).1
  obtain ⟨r0, r1, r2, r3, r4, rf⟩ := five_cells HR3.out
  have rf0 := rf 0
  have rf1 := rf 1
  have rf2 := rf 2
  have rf3 := rf 3
  have rf4 := rf 4
  cases qn
  · have hv : nxE L ⟨sn, sm⟩ = 2 := HNx.out
    have HV := Lib.hid hv
    clear hv rf
    go_wp2_with fail
    refine bodyPost_ret (v := .tuple #[lV 0 0 0 ⟨#[]⟩ none 0 0, .int .i64 2]) (by simp [results, Tryz.results79, go_sem, r0, r1, r2, r3, r4, hlt, hXw]) rfl ?_
    exact ⟨.inr ⟨by rw [HV.out]; decide, _, _, _, _, _, _, _, by rw [HV.out]; rfl⟩, below_stp HB3.out (Stp.five0 (w.heap.size + 1) w3 _ _ _ _ _) (by omega)⟩
  · cases fq
    · by_cases h64 : 64 < ML
      · have hd : decide ((64 : Int) < (ML : Int)) = true := by simp; omega
        have hv : nxE L ⟨sn, sm⟩ = 3 := HNx.out.trans (if_pos h64)
        have HV := Lib.hid hv
        clear hv rf h64
        go_wp2_with fail
        refine bodyPost_ret (v := .tuple #[lV 0 0 0 ⟨#[]⟩ none 0 0, .int .i64 3]) (by simp [results, Tryz.results79, go_sem, r0, r1, r2, r3, r4, hlt, hXw]) rfl ?_
        exact ⟨.inr ⟨by rw [HV.out]; decide, _, _, _, _, _, _, _, by rw [HV.out]; rfl⟩, below_stp HB3.out (Stp.five0 (w.heap.size + 1) w3 _ _ _ _ _) (by omega)⟩
      · have hd : decide ((64 : Int) < (ML : Int)) = false := by simp; omega
        by_cases h0 : ML = 0
        · have hz : sm = [] := List.eq_nil_of_length_eq_zero (by rw [HML.out]; exact h0)
          have hv : nxE L ⟨sn, sm⟩ = 5 := HNx.out.trans ((if_neg h64).trans (if_pos hz))
          have HV := Lib.hid hv
          subst h0
          clear hv rf h64 hz
          go_wp2_with fail
          refine bodyPost_ret (v := .tuple #[lV 0 0 0 ⟨#[]⟩ none 0 0, .int .i64 5]) (by simp [results, Tryz.results79, go_sem, r0, r1, r2, r3, r4, hlt, hXw]) rfl ?_
          exact ⟨.inr ⟨by rw [HV.out]; decide, _, _, _, _, _, _, _, by rw [HV.out]; rfl⟩, below_stp HB3.out (Stp.five0 (w.heap.size + 1) w3 _ _ _ _ _) (by omega)⟩
        · have hd0 : ((ML : Int) == 0) = false := by simp; omega
          have hz : ¬ sm = [] := fun e => h0 (by rw [← HML.out, e]; rfl)
          have hgo := HNx.out.trans ((if_neg h64).trans (if_neg hz))
          have HGo := Lib.hid hgo
          have H64 := Lib.hid (And.intro h64 h0)
          clear hgo rf h64 hz h0
          go_wp2_with fail
          have HX4 := Lib.hid (heap_alloc_new w3 (.cells #[.int .i64 0, .int .i64 0, .int .i64 0, .string ⟨sn.toArray⟩, .slice none 0 0] 152))
          have hA4 := below_a w3 (.cells #[.int .i64 0, .int .i64 0, .int .i64 0, .string ⟨sn.toArray⟩, .slice none 0 0] 152)
          have HI0 : Hid (NxI L sn sm ga ML gc w w3.heap.size 0 ac0 [] (.slice none 0 0) (w3.alloc (.cells #[.int .i64 0, .int .i64 0, .int .i64 0, .string ⟨sn.toArray⟩, .slice none 0 0] 152))) :=
            ⟨rfl, rfl, acb0, rfl, HB3.out.alloc HB3.out.size _, HX4.out, blk_next HS3.out hA4, blk_next HR3.out hA4, ⟨World.ownsRow_nil _ _ _ _, fun p hp => by cases hp⟩⟩
          clear hA4 HX4 HB3 HS3 HR3 s0 s1 hlt r0 r1 r2 r3 r4 rf0 rf1 rf2 rf3 rf4 hd hd0
          generalize hw4 : w3.alloc (.cells #[.int .i64 0, .int .i64 0, .int .i64 0, .string ⟨sn.toArray⟩, .slice none 0 0] 152) = w4 at HI0 ⊢
          clear hw4
          obtain ⟨X, hX⟩ : ∃ X, w3.heap.size = X := ⟨_, rfl⟩
          rw [hX] at HI0 hXw ⊢
          clear hX
          obtain ⟨i0, hi, hz0, hz1, hz2⟩ := info_parts infoMb
          go_loopg [50] ML (fun g v50 wr => ∃ q : Nat, q + g = ML ∧ v50 = .int .i64 (q : Int) ∧ Hid (∃ x P v, NxI L sn sm ga ML gc w X q x P v wr))
          case atStart => exact ⟨0, by omega, rfl, ac0, [], _, HI0.out⟩
          case round =>
            obtain ⟨q, hq, rfl, HIx⟩ := hrel
            obtain ⟨x, P, v, hI⟩ := HIx.out
            have HI := Lib.hid hI
            obtain ⟨va, vc, hv, hvc, hms⟩ := hI.mo.in
            rw [hI.pl] at hv hvc
            subst hv
            have HMs := Lib.hid hms
            clear hI hms HIx
            by_cases hlt : q < ML
            · have hdq : decide ((q : Int) < (ML : Int)) = true := by simp; omega
              obtain ⟨m, hm⟩ : ∃ m, sm[q]? = some m := ⟨_, List.getElem?_eq_getElem (by have := HML.out; omega)⟩
              obtain ⟨gb, go', hgab, hgb, hrow⟩ := HMm.out wr HI.out.bel (by have := HML.out; omega)
              obtain ⟨g0, g1⟩ := hrow q m hm
              have HMem := Lib.hid hm
              obtain ⟨m1, m2⟩ := m
              simp only at g0 g1
              obtain ⟨x0, x1, x2, x3, x4, xf⟩ := five_cells HI.out.xb
              have hXl : X < wr.heap.size := (Array.getElem?_eq_some_iff.1 HI.out.xb).1
              have HXlt := Lib.hid hXl
              have hq0 : (0 : Int) ≤ (q : Int) := by omega
              have hql : (q : Int) < (ML : Int) := by omega
              have hwm : IntKind.i64.wrap ((q : Int) + 1) = ((q + 1 : Nat) : Int) := by rw [IntKind.wrap_i64]; have := H64.out.1; omega
              have HM : Hid (ML - (q + 1) < gk ∧ q + 1 + (ML - (q + 1)) = ML) := ⟨by omega, by omega⟩
              subst hgab
              clear hrow hm xf
              go_wp2_with fail
              clear g0 g1 x0 x1 x2 x3 x4
              have HAm := Lib.hid (below_a wr (.cells #[.string ⟨m1.toArray⟩, .string ⟨m2.toArray⟩] 170))
              have HMm1 := Lib.hid (heap_alloc_new wr (.cells #[.string ⟨m1.toArray⟩, .string ⟨m2.toArray⟩] 170))
              have HBm := Lib.hid (HI.out.bel.trans (HAm.out.mono HI.out.bel.size))
              have HMs2 : Hid (x.mems.length = q) := by show _ = _; rw [← HI.out.pm, List.length_map, HI.out.pl]
              have hmt := c_memberTypeX L ka kc HC.out.1 HC.out.2.1 HC.out.2.2.1 B x.b x.a x.s ⟨sn.toArray⟩ x.mems va vc (by rw [HMs2.out]; exact hvc) (by rw [HMs2.out]; have := H64.out.1; omega) (m1, m2) (HC.out.2.2.2.1 _ (List.mem_of_getElem? HMem.out)).1 (HC.out.2.2.2.1 _ (List.mem_of_getElem? HMem.out)).2 (wr.alloc (.cells #[.string ⟨m1.toArray⟩, .string ⟨m2.toArray⟩] 170)) (HE.out _ HBm.out).1 (HE.out _ HBm.out).2 (HKn.out _ HBm.out) ((show MbIn x.mems va wr by rw [← HI.out.pm]; exact HMs.out.mono (fun j hj => hj.2) (fun _ _ => rfl)).next HAm.out)
              rw [HN1.out, HMs2.out] at hmt
              refine hmt.mono ?_
              clear hmt
              rintro e wa ⟨hr, hb⟩
              have hIa := HBm.out
              have HBa := Lib.hid (below_on HBm.out hb HBm.out.size)
              have HXa := Lib.hid (blk_next (blk_next HI.out.xb HAm.out) hb)
              have HRa := Lib.hid (blk_next (blk_next HI.out.rb HAm.out) hb)
              have HSa := Lib.hid (blk_next (blk_next HI.out.sb HAm.out) hb)
              have HMa := Lib.hid (blk_next HMm1.out hb)
              have HOa := Lib.hid ((HI.out.mo.next HAm.out).next hb)
              have hsza : wr.heap.size + 1 ≤ wa.heap.size := by have := hb.size; simp at this; omega
              clear hb hIa
              rcases hr with ⟨tt, pa, pn, pc, htk, hme, rfl, hnd⟩ | ⟨hme, rfl⟩
              · have HTk := Lib.hid (And.intro htk hme)
                have HNa : Hid (Nd (fun j => wr.heap.size < j ∧ j < wa.heap.size) wa tt (.slice pa pn pc)) := hnd.mono (fun j hj => ⟨by have := hj.1; simp at this; omega, hj.2⟩) (fun _ _ => rfl)
                obtain ⟨y0, hy0⟩ : ∃ y : Int, (tt.letter.toNat : Int) = y := ⟨_, rfl⟩
                obtain ⟨y2, hy2⟩ : ∃ y : Int, (tt.count : Int) = y := ⟨_, rfl⟩
                obtain ⟨y1, hy1⟩ : ∃ s1, (⟨tt.code.toArray⟩ : ByteArray) = s1 := ⟨_, rfl⟩
                obtain ⟨y3, hy3⟩ : ∃ s3, (⟨tt.tag.toArray⟩ : ByteArray) = s3 := ⟨_, rfl⟩
                have HY := Lib.hid (And.intro hy0 (And.intro hy1 (And.intro hy2 hy3)))
                have hnT : nT tt pa pn pc = nV y0 y1 y2 y3 pa pn pc := by unfold nT; rw [hy0, hy2, hy1, hy3]
                have HnT := Lib.hid hnT
                rw [hnT]
                clear hnd htk hme hy0 hy1 hy2 hy3 hnT
                have HAn := Lib.hid (below_a wa (.cells #[.int .u8 y0, .string y1, .int .i64 y2, .string y3, .slice pa pn pc] 173))
                have HBn := Lib.hid (below_on HBa.out HAn.out HBa.out.size)
                have HXn := Lib.hid (blk_next HXa.out HAn.out)
                have HRn := Lib.hid (blk_next HRa.out HAn.out)
                have HSn := Lib.hid (blk_next HSa.out HAn.out)
                have HMn := Lib.hid (blk_next HMa.out HAn.out)
                have HVn := Lib.hid (heap_alloc_new wa (.cells #[.int .u8 y0, .string y1, .int .i64 y2, .string y3, .slice pa pn pc] 173))
                have HOn := Lib.hid (HOa.out.next HAn.out)
                have HNn : Hid (Nd (fun j => wr.heap.size < j ∧ j < (wa.alloc (.cells #[.int .u8 y0, .string y1, .int .i64 y2, .string y3, .slice pa pn pc] 173)).heap.size) (wa.alloc (.cells #[.int .u8 y0, .string y1, .int .i64 y2, .string y3, .slice pa pn pc] 173)) tt (.slice pa pn pc)) := HNa.out.mono (fun j hj => ⟨hj.1, Nat.lt_of_lt_of_le hj.2 HAn.out.size⟩) (fun j hj => HAn.out.block j hj.2)
                clear HAm HMm1 HBm HBa HXa HRa HSa HMa HOa HNa hXl
                go_wp2_with fail
                have hok := mem_ok HC.out.2.1 HTk.out.2
                have hex := c_extentX L ka kc HC.out.1 HC.out.2.1 HC.out.2.2.1 tt.size tt pa pn pc _ (Nat.le_refl _) (tk_some HTk.out.1).1 (show NdIn tt (.slice pa pn pc) (wa.alloc (.cells #[.int .u8 y0, .string y1, .int .i64 y2, .string y3, .slice pa pn pc] 173)) from HNn.out.mono (fun j hj => hj.2) (fun _ _ => rfl)) (HKn.out _ HBn.out)
                rw [HN1.out, HnT.out] at hex
                have htd : tkD m2 = tt := by unfold tkD; rw [HTk.out.1]; rfl
                have hgo2 : goM L ac0 sm = goM L (addM L x (m1, m2)) (sm.drop (q + 1)) := by
                  rw [HI.out.go, List.drop_eq_getElem_cons (by have := HML.out; omega), (List.getElem?_eq_some_iff.1 HMem.out).2]
                  show goM L x ((m1, m2) :: sm.drop (q + 1)) = _
                  unfold goM
                  rw [if_pos HTk.out.2]
                  cases sm.drop (q + 1) <;> rfl
                have hadd := HI.out.acb.add HC.out.2.1 HTk.out.2
                obtain ⟨⟨E1, E2, E3, qx⟩, hEx⟩ : ∃ E, extT L tt = E := ⟨_, rfl⟩
                have hbd := ext_bd HC.out.2.1 tt
                obtain ⟨_, ht2, hwf, hnm, hhm, hoj, hal, hsm, _⟩ := hok
                obtain rfl := Option.some.inj (HTk.out.1.symm.trans ht2)
                rw [hEx] at hex hbd hal hsm
                refine hex.mono ?_
                clear hex
                rintro e wb ⟨rfl, hb⟩
                have HBb := Lib.hid (below_on HBn.out hb HBn.out.size)
                have HXb := Lib.hid (blk_next HXn.out hb)
                have HRb := Lib.hid (blk_next HRn.out hb)
                have HSb := Lib.hid (blk_next HSn.out hb)
                have HMb := Lib.hid (blk_next HMn.out hb)
                have HVb := Lib.hid (blk_next HVn.out hb)
                have HOb := Lib.hid (HOn.out.next hb)
                have HNb : Hid (Nd (fun j => wr.heap.size < j ∧ j < wb.heap.size) wb tt (.slice pa pn pc)) := HNn.out.mono (fun j hj => ⟨hj.1, Nat.lt_of_lt_of_le hj.2 hb.size⟩) (fun j hj => hb.block j hj.2)
                have hsz2 := hb.size
                have hgw : ∀ g, (Value.slice va q vc).ownBlock = some g → X + 1 ≤ g ∧ g < wr.heap.size := fun g hg => HI.out.mo.own.lt g hg
                have HGw := Lib.hid hgw
                clear hb HAn HBn HXn HRn HSn HMn HVn HOn HNn hgw
                have hszb : wa.heap.size + 1 ≤ wb.heap.size := by simp at hsz2; omega
                clear hsz2
                obtain ⟨x0, x1, x2, x3, x4, xf⟩ := five_cells HXb.out
                obtain ⟨n0, n1, n2, n3, n4, nf⟩ := five_cells HVb.out
                have m0 : wb.cell? ⟨wr.heap.size, 0, none⟩ = some (.string ⟨m1.toArray⟩) := by rw [Lib.cell_of_heap HMb.out]; rfl
                have m1c : wb.cell? ⟨wr.heap.size, 1, none⟩ = some (.string ⟨m2.toArray⟩) := by rw [Lib.cell_of_heap HMb.out]; rfl
                have hXb := (Array.getElem?_eq_some_iff.1 HXb.out).1
                have hMb := (Array.getElem?_eq_some_iff.1 HMb.out).1
                have hNb := (Array.getElem?_eq_some_iff.1 HVb.out).1
                have hxq : x.b ≤ 64 * 65539 := by
                  have h1 := HI.out.acb.b
                  have h2 : x.mems.length = q := HMs2.out
                  have h3 := H64.out.1
                  rw [h2] at h1
                  exact Nat.le_trans h1 (Nat.mul_le_mul_right 65539 (Nat.le_of_not_lt (fun h => h3 (Nat.lt_of_lt_of_le h (Nat.le_of_lt hlt)))))
                have hxa := HI.out.acb.a
                have hxs : x.s ≤ 64 * 65539 := Nat.le_trans HI.out.acb.s hxq
                have hup := up_bd x.b E2 hal hbd.2.1
                have hal2 := c_alignedX x.b E2 (by omega) hal hbd.2.1
                obtain ⟨U, hU⟩ : ∃ U, upN x.b E2 = U := ⟨_, rfl⟩
                rw [hU] at hal2 hup
                have HAl := Lib.hid hal2
                have hw1 : wrap64 ((U : Int) + (E1 : Int)) = ((U + E1 : Nat) : Int) := by unfold wrap64; omega
                have hE3 : E3 ≤ 65537 := Nat.le_trans hbd.2.2 hbd.1
                have hw2 : wrap64 ((x.s : Int) + (E3 : Int)) = ((x.s + E3 : Nat) : Int) := by unfold wrap64; omega
                obtain ⟨B', hB'⟩ : ∃ B', U + E1 = B' := ⟨_, rfl⟩
                obtain ⟨S', hS'⟩ : ∃ S', x.s + E3 = S' := ⟨_, rfl⟩
                obtain ⟨A', hA'⟩ : ∃ A', max x.a E2 = A' := ⟨_, rfl⟩
                rw [hB'] at hw1
                rw [hS'] at hw2
                have hmx : max (x.a : Int) (E2 : Int) = (A' : Int) := by omega
                have hAd : addM L x (m1, m2) = ⟨x.mems ++ [⟨tt, m1, U⟩], B', A', S'⟩ := by
                  unfold addM
                  simp only [htd, hEx]
                  rw [hU, hB', hA', hS']
                rw [hAd] at hgo2 hadd
                have HAd := Lib.hid (And.intro hgo2 hadd)
                clear hE3 xf nf hal2 hgo2 hadd hAd hB' hS' hA' hU hup hxq hxa hxs hal hbd hsm hEx htd hwf hnm hhm hoj ht2
                go_wp2_with fail
                refine (HAl.out _).mono ?_
                rintro e wc ⟨rfl, rfl⟩
                have HEx := Lib.hid (below_a wb (.cells #[.int .i64 E1, .int .i64 E2, .int .i64 E3] 149))
                have HOx := Lib.hid ((HOb.out.next HEx.out).next (below_a (wb.alloc (.cells #[.int .i64 E1, .int .i64 E2, .int .i64 E3] 149)) (.cells #[.int .u8 y0, .string y1, .int .i64 y2, .string y3, .slice pa pn pc, .string ⟨m1.toArray⟩, .int .i64 U] 179)))
                have HBx := Lib.hid (below_on (below_on HBb.out HEx.out HBb.out.size) (below_a (wb.alloc (.cells #[.int .i64 E1, .int .i64 E2, .int .i64 E3] 149)) (.cells #[.int .u8 y0, .string y1, .int .i64 y2, .string y3, .slice pa pn pc, .string ⟨m1.toArray⟩, .int .i64 U] 179)) (below_on HBb.out HEx.out HBb.out.size).size)
                go_wp2_with (at_builtin; refine wpList_append_lies _ rfl _ _ 150 rfl (X + 1) 179 i0 (.agg #[.int .u8 0, .string ByteArray.empty, .int .i64 0, .string ByteArray.empty, .slice none 0 0, .string ByteArray.empty, .int .i64 0]) 7 96 Tryz.underlying150 hi hz0 hz1 hz2 rfl (by decide) (.slice va q vc) q (mbCs P) rfl (by have h := HOx.out.own; rw [HI.out.pl] at h; exact h) ⟨wb.heap.size + 1, 0, none⟩ 1 1 [.int .u8 y0, .string y1, .int .i64 y2, .string y3, .slice pa pn pc, .string ⟨m1.toArray⟩, .int .i64 U] rfl rfl ?cc1 ?cc2 (by decide) ?cc3 ?cc4 ?cc5 (wb.heap.size + 2) ?cc6 ?_)
                case cc1 =>
                  intro j u hu
                  have h := World.news_of_block (heap_alloc_new (wb.alloc (.cells #[.int .i64 E1, .int .i64 E2, .int .i64 E3] 149)) (.cells #[.int .u8 y0, .string y1, .int .i64 y2, .string y3, .slice pa pn pc, .string ⟨m1.toArray⟩, .int .i64 U] 179)) j u hu
                  rw [show (wb.alloc (.cells #[.int .i64 E1, .int .i64 E2, .int .i64 E3] 149)).heap.size = wb.heap.size + 1 by simp] at h
                  exact h
                case cc2 =>
                  intro u hu
                  simp only [List.mem_cons, List.not_mem_nil, or_false] at hu
                  rcases hu with rfl | rfl | rfl | rfl | rfl | rfl | rfl <;> rfl
                case cc3 => have h3 := H64.out.1; unfold maxLen; omega
                case cc4 => have h3 := H64.out.1; omega
                case cc5 => simp; omega
                case cc6 => simp
                intro gr cap1 wd hown hgrow hlies hglt
                have hXd : wd.heap[X]? = some (lyO x.b x.a x.s ⟨sn.toArray⟩ (.slice va q vc)) := by
                  refine (hgrow.block X (by simp; omega) (fun e => by have := (HGw.out X e.symm).1; omega)).trans ?_
                  exact (Below.heap_alloc _ _ _ (by simp; omega)).trans ((Below.heap_alloc _ _ _ hXb).trans HXb.out)
                have hEd : wd.heap[wb.heap.size]? = some (.cells #[.int .i64 E1, .int .i64 E2, .int .i64 E3] 149) := by
                  refine (hgrow.block _ (by simp; omega) (fun e => by have := (HGw.out _ e.symm).2; omega)).trans ?_
                  exact (Below.heap_alloc _ _ _ (by simp)).trans (heap_alloc_new _ _)
                have hMo : MoX X (P ++ [(⟨tt, m1, U⟩, .slice pa pn pc)]) (.slice (some ⟨gr, 0, none⟩) (P.length + 1) cap1) wd := by
                  refine HOx.out.add (w := (wb.alloc (.cells #[.int .i64 E1, .int .i64 E2, .int .i64 E3] 149)).alloc (.cells #[.int .u8 y0, .string y1, .int .i64 y2, .string y3, .slice pa pn pc, .string ⟨m1.toArray⟩, .int .i64 U] 179)) (x := ⟨tt, m1, U⟩) (HNb.out.mono (fun j hj => ⟨?_, ?_, ?_⟩) (fun j hj => ?_)) ?_ hgrow ?_
                  · have := HXlt.out; omega
                  · simp; omega
                  · intro e
                    have := (HGw.out j e).2
                    omega
                  · exact (Below.heap_alloc _ _ _ (by simp; omega)).trans (Below.heap_alloc _ _ _ hj.2)
                  · rw [HI.out.pl]
                    obtain ⟨z0, z1, z2, z3⟩ := HY.out
                    show wd.ownsRow _ _ _ _ _ (mbCs P ++ [.int .u8 tt.letter.toNat, .string ⟨tt.code.toArray⟩, .int .i64 tt.count, .string ⟨tt.tag.toArray⟩, .slice pa pn pc, .string ⟨m1.toArray⟩, .int .i64 U])
                    rw [z0, z1, z2, z3]
                    exact hown
                  · simpa using hlies
                rw [HI.out.pl] at hMo
                have hgx : ∀ k, (Value.slice va q vc).ownBlock = some k → X + 1 ≤ k := fun k hk => (HGw.out k hk).1
                have HMo := Lib.hid hMo
                have HGr := Lib.hid hgrow
                have HXd := Lib.hid hXd
                have HGx := Lib.hid hgx
                clear hMo hown hgrow hlies hgx x0 x1 x2 x3 x4 n0 n1 n2 n3 n4 m0 m1c HMb HVb HNb HOx HOb HEx HGw
                obtain ⟨x0, x1, x2, x3, x4, xf⟩ := five_cells hXd
                have xf0 := xf 0
                have xf1 := xf 1
                have xf2 := xf 2
                have xf4 := xf 4
                have e0 : wd.cell? ⟨wb.heap.size, 0, none⟩ = some (.int .i64 E1) := by rw [Lib.cell_of_heap hEd]; rfl
                have e1 : wd.cell? ⟨wb.heap.size, 1, none⟩ = some (.int .i64 E2) := by rw [Lib.cell_of_heap hEd]; rfl
                have e2 : wd.cell? ⟨wb.heap.size, 2, none⟩ = some (.int .i64 E3) := by rw [Lib.cell_of_heap hEd]; rfl
                have hne : ¬ wb.heap.size = X := by omega
                have hne2 : ¬ X = wb.heap.size := by omega
                clear xf hXd hEd
                go_wp2_with fail
                have hst1 := x_stp X wd (.slice (some ⟨gr, 0, none⟩) (q + 1) cap1) (.int .i64 B') (.int .i64 A') (.int .i64 S')
                have hxs1 := ly_set (x' := B') (y' := A') (z' := S') (v' := .slice (some ⟨gr, 0, none⟩) (q + 1) cap1) HXd.out
                have hre1 := rnd_end (B := w.heap.size) (X := X) HBx.out HGr.out hst1 (by omega) (by have := HBx.out.size; simp at this ⊢; omega) (fun j hj => HGx.out j hj)
                have HNI : Hid (NxI L sn sm _ ML gc w X (q + 1) ⟨x.mems ++ [⟨tt, m1, U⟩], B', A', S'⟩ (P ++ [(⟨tt, m1, U⟩, .slice pa pn pc)]) (.slice (some ⟨gr, 0, none⟩) (q + 1) cap1) ((((wd.setCell ⟨X, 4, none⟩ (.slice (some ⟨gr, 0, none⟩) (q + 1) cap1)).setCell ⟨X, 0, none⟩ (.int .i64 B')).setCell ⟨X, 1, none⟩ (.int .i64 A')).setCell ⟨X, 2, none⟩ (.int .i64 S'))) :=
                  ⟨by rw [List.map_append, HI.out.pm]; rfl, by rw [List.length_append, HI.out.pl]; rfl, HAd.out.2, HAd.out.1, hre1.1, hxs1, hre1.2 w.heap.size _ (by omega) (blk_next (blk_next HSb.out (below_a _ _)) (below_a _ _)), hre1.2 (w.heap.size + 1) _ (by omega) (blk_next (blk_next HRb.out (below_a _ _)) (below_a _ _)), HMo.out.stp hst1⟩
                clear hst1 hxs1 hre1
                go_roundg (ML - (q + 1))
                case measure => exact HM.out.1
                case rel => exact ⟨q + 1, HM.out.2, rfl, _, _, _, HNI⟩
              · obtain ⟨E, hE⟩ : ∃ E : Int, (memE L x.mems (m1, m2) : Int) = E := ⟨_, rfl⟩
                have hE0 : (E == 0) = false := by rw [← hE]; simp; exact hme
                have hgo2 : (goM L ac0 sm).1 = memE L x.mems (m1, m2) := by
                  rw [HI.out.go, List.drop_eq_getElem_cons (by have := HML.out; omega), (List.getElem?_eq_some_iff.1 HMem.out).2]
                  show (goM L x ((m1, m2) :: sm.drop (q + 1))).1 = _
                  unfold goM
                  rw [if_neg hme]
                have hv : nxE L ⟨sn, sm⟩ = memE L x.mems (m1, m2) := by
                  rw [HGo.out, hgo2, if_neg hme]
                have HV := Lib.hid (And.intro hv (And.intro hE hme))
                obtain ⟨r0, r1, r2, r3, r4, rf⟩ := five_cells HRa.out
                have rf0 := rf 0
                have rf1 := rf 1
                have rf2 := rf 2
                have rf3 := rf 3
                have rf4 := rf 4
                have hRl := (Array.getElem?_eq_some_iff.1 HRa.out).1
                rw [hE]
                clear hgo2 hv hE hme rf HAm HMm1 HBm HXa HSa HMa HOa hXl
                go_wp2_with fail
                have hst := Stp.five0 (w.heap.size + 1) wa (.int .i64 0) (.int .i64 0) (.int .i64 0) (.string ⟨#[]⟩) (.slice none 0 0)
                have hb9 := below_stp HBa.out hst (by omega)
                have hz9 := five_set HRa.out (.int .i64 0) (.int .i64 0) (.int .i64 0) (.string ⟨#[]⟩) (.slice none 0 0)
                have hs9 := hst.size
                clear hst
                generalize ((((wa.setCell ⟨w.heap.size + 1, 0, none⟩ (.int .i64 0)).setCell ⟨w.heap.size + 1, 1, none⟩ (.int .i64 0)).setCell ⟨w.heap.size + 1, 2, none⟩ (.int .i64 0)).setCell ⟨w.heap.size + 1, 3, none⟩ (.string ⟨#[]⟩)).setCell ⟨w.heap.size + 1, 4, none⟩ (.slice none 0 0) = w9 at hb9 hz9 hs9 ⊢
                have hlt9 : w.heap.size + 1 < w9.heap.size := by rw [hs9]; exact hRl
                have hz10 := (Below.heap_alloc w9 (.cells #[.int .u8 0, .string ⟨#[]⟩, .int .i64 0, .string ⟨#[]⟩, .slice none 0 0] 173) _ hlt9).trans hz9
                have hb10 := hb9.alloc hb9.size (.cells #[.int .u8 0, .string ⟨#[]⟩, .int .i64 0, .string ⟨#[]⟩, .slice none 0 0] 173)
                generalize w9.alloc (.cells #[.int .u8 0, .string ⟨#[]⟩, .int .i64 0, .string ⟨#[]⟩, .slice none 0 0] 173) = wx at hb10 hz10 ⊢
                obtain ⟨p0, p1, p2, p3, p4, pf⟩ := five_cells hz10
                refine bodyPost_ret (v := .tuple #[lV 0 0 0 ⟨#[]⟩ none 0 0, .int .i64 E]) (by simp [results, Tryz.results79, go_sem, p0, p1, p2, p3, p4]) rfl ?_
                exact ⟨.inr ⟨by rw [HV.out.1]; exact HV.out.2.2, _, _, _, _, _, _, _, by rw [HV.out.1, HV.out.2.1]⟩, hb10⟩
            · have hdq : decide ((q : Int) < (ML : Int)) = false := by simp; omega
              have hqM : q = sm.length := by have := HML.out; omega
              have hgo2 : goM L ac0 sm = (0, x) := by
                rw [HI.out.go, hqM, List.drop_length]
                rfl
              have hMs2 : x.mems.length = q := by rw [← HI.out.pm, List.length_map, HI.out.pl]
              have hxa1 : 1 ≤ x.a := HI.out.acb.a1 (by have := H64.out.2; omega)
              have hxa4 := HI.out.acb.a
              have hxb : x.b ≤ 64 * 65539 := by
                have h1 := HI.out.acb.b
                rw [hMs2] at h1
                exact Nat.le_trans h1 (Nat.mul_le_mul_right 65539 (by have := H64.out.1; omega))
              have hal2 := c_alignedX x.b x.a (by omega) hxa1 hxa4
              obtain ⟨U, hU⟩ : ∃ U, upN x.b x.a = U := ⟨_, rfl⟩
              rw [hU] at hal2
              have HAl := Lib.hid hal2
              have hgo3 : nxE L ⟨sn, sm⟩ = if 65536 < U then 3 else 0 := by
                rw [HGo.out, hgo2]
                show (if (0 : Nat) = 0 then if 65536 < upN x.b x.a then 3 else 0 else 0) = _
                rw [if_pos rfl, hU]
              have hlay : nxL L ⟨sn, sm⟩ = ⟨U, x.a, x.s, sn, x.mems⟩ := by
                unfold nxL layM
                rw [hgo2]
                show (⟨upN x.b x.a, x.a, x.s, sn, x.mems⟩ : LayP) = _
                rw [hU]
              have HG3 := Lib.hid (And.intro hgo3 (And.intro hlay hMs2))
              have HQM := Lib.hid (And.intro hqM hvc)
              obtain ⟨x0, x1, x2, x3, x4, xf⟩ := five_cells HI.out.xb
              obtain ⟨r0, r1, r2, r3, r4, rf⟩ := five_cells HI.out.rb
              have hXl : X < wr.heap.size := (Array.getElem?_eq_some_iff.1 HI.out.xb).1
              have hRl : w.heap.size + 1 < wr.heap.size := (Array.getElem?_eq_some_iff.1 HI.out.rb).1
              have xf0 := xf 0
              have rf0 := rf 0
              have rf1 := rf 1
              have rf2 := rf 2
              have rf3 := rf 3
              have rf4 := rf 4
              have hXR : ¬ X = w.heap.size + 1 := by omega
              have hRX : ¬ w.heap.size + 1 = X := by omega
              clear xf rf hal2 hgo2 hgo3 hlay hU hxb hxa4 hxa1 hMs2
              by_cases hU6 : 65536 < U
              · have hdU : decide ((65536 : Int) < (U : Int)) = true := by simp; omega
                have hv : nxE L ⟨sn, sm⟩ = 3 := HG3.out.1.trans (if_pos hU6)
                have HV := Lib.hid hv
                clear hv hU6
                go_wp2_with fail
                refine (HAl.out _).mono ?_
                rintro e we ⟨rfl, rfl⟩
                go_wp2_with fail
                have hst0 := Stp.set X 0 we (.int .i64 U)
                have hst := Stp.five0 (w.heap.size + 1) (we.setCell ⟨X, 0, none⟩ (.int .i64 U)) (.int .i64 0) (.int .i64 0) (.int .i64 0) (.string ⟨#[]⟩) (.slice none 0 0)
                have hb9 := below_stp (below_stp HI.out.bel hst0 (by omega)) hst (by omega)
                have hz9 := five_set ((hst0.blk _ hRX).trans HI.out.rb) (.int .i64 0) (.int .i64 0) (.int .i64 0) (.string ⟨#[]⟩) (.slice none 0 0)
                have hmo := (HI.out.mo.stp hst0).in
                have hbl := hst.blk
                have hs9 := hst.size
                clear hst hst0 r0 r1 r2 r3 r4 rf0 rf1 rf2 rf3 rf4 x0 x1 x2 x3 x4 xf0
                generalize we.setCell ⟨X, 0, none⟩ (.int .i64 U) = w8 at hb9 hz9 hmo hbl hs9 ⊢
                generalize ((((w8.setCell ⟨w.heap.size + 1, 0, none⟩ (.int .i64 0)).setCell ⟨w.heap.size + 1, 1, none⟩ (.int .i64 0)).setCell ⟨w.heap.size + 1, 2, none⟩ (.int .i64 0)).setCell ⟨w.heap.size + 1, 3, none⟩ (.string ⟨#[]⟩)).setCell ⟨w.heap.size + 1, 4, none⟩ (.slice none 0 0) = w9 at hb9 hz9 hbl hs9 ⊢
                obtain ⟨p0, p1, p2, p3, p4, pf⟩ := five_cells hz9
                refine bodyPost_ret (v := .tuple #[lV 0 0 0 ⟨#[]⟩ none 0 0, .int .i64 3]) (by simp [results, Tryz.results79, go_sem, p0, p1, p2, p3, p4]) rfl ?_
                exact ⟨.inr ⟨by rw [HV.out]; decide, _, _, _, _, _, _, _, by rw [HV.out]; rfl⟩, hb9⟩
              · have hdU : decide ((65536 : Int) < (U : Int)) = false := by simp; omega
                have hv : nxE L ⟨sn, sm⟩ = 0 := HG3.out.1.trans (if_neg hU6)
                have HV := Lib.hid hv
                clear hv hU6
                go_wp2_with fail
                refine (HAl.out _).mono ?_
                rintro e we ⟨rfl, rfl⟩
                go_wp2_with fail
                have hst0 := Stp.set X 0 we (.int .i64 U)
                have hst := Stp.five0 (w.heap.size + 1) (we.setCell ⟨X, 0, none⟩ (.int .i64 U)) (.int .i64 U) (.int .i64 x.a) (.int .i64 x.s) (.string ⟨sn.toArray⟩) (.slice va sm.length vc)
                have hb9 := below_stp (below_stp HI.out.bel hst0 (by omega)) hst (by omega)
                have hz9 := five_set ((hst0.blk _ hRX).trans HI.out.rb) (.int .i64 U) (.int .i64 x.a) (.int .i64 x.s) (.string ⟨sn.toArray⟩) (.slice va sm.length vc)
                have hmo := (HI.out.mo.stp hst0).in
                have hbl := hst.blk
                have hs9 := hst.size
                clear hst hst0 r0 r1 r2 r3 r4 rf0 rf1 rf2 rf3 rf4 x0 x1 x2 x3 x4 xf0
                generalize we.setCell ⟨X, 0, none⟩ (.int .i64 U) = w8 at hb9 hz9 hmo hbl hs9 ⊢
                generalize ((((w8.setCell ⟨w.heap.size + 1, 0, none⟩ (.int .i64 U)).setCell ⟨w.heap.size + 1, 1, none⟩ (.int .i64 x.a)).setCell ⟨w.heap.size + 1, 2, none⟩ (.int .i64 x.s)).setCell ⟨w.heap.size + 1, 3, none⟩ (.string ⟨sn.toArray⟩)).setCell ⟨w.heap.size + 1, 4, none⟩ (.slice va sm.length vc) = w9 at hb9 hz9 hbl hs9 ⊢
                obtain ⟨p0, p1, p2, p3, p4, pf⟩ := five_cells hz9
                refine bodyPost_ret (v := .tuple #[lV U x.a x.s ⟨sn.toArray⟩ va sm.length vc, .int .i64 0]) (by simp [results, Tryz.results79, go_sem, p0, p1, p2, p3, p4]) rfl ?_
                obtain ⟨a', c', hav, hac, hmb⟩ := hmo
                injection hav with hv1 hv2 hv3
                subst hv1
                refine ⟨.inl ⟨HV.out, va, vc, ?_, ?_, ?_⟩, hb9⟩
                · rw [HG3.out.2.1]
                  show _ = Ending.returned (.tuple #[lV U x.a x.s ⟨sn.toArray⟩ va x.mems.length vc, .int .i64 0])
                  rw [HG3.out.2.2, HQM.out.1]
                · rw [HG3.out.2.1]
                  show x.mems.length ≤ vc
                  rw [HG3.out.2.2]
                  exact HQM.out.2
                · rw [HG3.out.2.1]
                  show MbS _ x.mems va w9
                  rw [← HI.out.pm]
                  exact hmb.mono (fun j hj => ⟨by omega, by rw [hs9]; exact hj.2⟩) (fun j hj => hbl j (by omega))
    · have hv : nxE L ⟨sn, sm⟩ = 6 := HNx.out
      have HV := Lib.hid hv
      clear hv rf
      go_wp2_with fail
      refine bodyPost_ret (v := .tuple #[lV 0 0 0 ⟨#[]⟩ none 0 0, .int .i64 6]) (by simp [results, Tryz.results79, go_sem, r0, r1, r2, r3, r4, hlt, hXw]) rfl ?_
      exact ⟨.inr ⟨by rw [HV.out]; decide, _, _, _, _, _, _, _, by rw [HV.out]; rfl⟩, below_stp HB3.out (Stp.five0 (w.heap.size + 1) w3 _ _ _ _ _) (by omega)⟩
end Go.Proofs.YtjadckhngalmlaaGreatDoor
namespace Go.Proofs.YtjadckhngalmlaaGreatDoor
set_option linter.unusedVariables false
set_option linter.unusedSimpArgs false
set_option maxRecDepth 100000
open Go.RowKit

/-- Structs as they come in. -/
def StIn (S : List StP) (a : Option Addr) (w : World) : Prop := 0 < S.length → ∃ b off, a = some ⟨b, off, none⟩ ∧ b < w.heap.size ∧ ∀ (k : Nat) s, S[k]? = some s → ∃ ma mc, w.cell? ⟨b, off + k * 2, none⟩ = some (.string ⟨s.name.toArray⟩) ∧ w.cell? ⟨b, off + k * 2 + 1, none⟩ = some (.slice ma s.mems.length mc) ∧ MmIn s.mems ma w
theorem StIn.next {S : List StP} {a : Option Addr} {w w' : World} (h : StIn S a w) (hb : Below w.heap.size w w') : StIn S a w' := fun h0 => by
  obtain ⟨b, off, h1, h2, h3⟩ := h h0
  refine ⟨b, off, h1, Nat.lt_of_lt_of_le h2 hb.size, fun k s hk => ?_⟩
  obtain ⟨ma, mc, c0, c1, hm⟩ := h3 k s hk
  have e := hb.block b h2
  exact ⟨ma, mc, (cell_of_blk e _).trans c0, (cell_of_blk e _).trans c1, hm.next hb⟩
/-- The reach of structs that come in. -/
def SzS (S : List StP) : Prop := ∀ s ∈ S, s.name.length ≤ 9223372036854775807 ∧ (∀ m ∈ s.mems, m.1.length ≤ 9223372036854775807 ∧ m.2.length ≤ 9223372036854775807) ∧ s.mems.length ≤ 4503599627370496
def lyC (x : LayP) (v : Value) : List Value := [.int .i64 x.bytes, .int .i64 x.align, .int .i64 x.scal, .string ⟨x.name.toArray⟩, v]
def lyCs (P : List (LayP × Value)) : List Value := P.flatMap fun p => lyC p.1 p.2
theorem lyCs_snoc (P : List (LayP × Value)) (p : LayP × Value) : lyCs (P ++ [p]) = lyCs P ++ lyC p.1 p.2 := by
  unfold lyCs
  simp
theorem lyCs_at : ∀ (P : List (LayP × Value)) (k : Nat) (p : LayP × Value), P[k]? = some p → ∀ i, i < 5 → (lyCs P)[k * 5 + i]? = (lyC p.1 p.2)[i]?
  | [], k, p, h, i, hi => by cases h
  | q :: P, 0, p, h, i, hi => by
    cases h
    show (lyC q.1 q.2 ++ lyCs P)[0 * 5 + i]? = _
    rw [List.getElem?_append_left (by show 0 * 5 + i < 5; omega)]
    congr 1
    omega
  | q :: P, k + 1, p, h, i, hi => by
    show (lyC q.1 q.2 ++ lyCs P)[(k + 1) * 5 + i]? = _
    rw [List.getElem?_append_right (by show 5 ≤ _; omega)]
    have ih := lyCs_at P k p h i hi
    rw [← ih]
    congr 1
    show (k + 1) * 5 + i - 5 = _
    omega
/-- Structs laid out, as a row that is the function's own. -/
structure KoX (X : Nat) (K : List (LayP × Value)) (v : Value) (w : World) : Prop where
  own : w.ownsRow (X + 1) 152 5 v K.length (lyCs K)
  nd : ∀ p ∈ K, ∃ ma mc, p.2 = .slice ma p.1.mems.length mc ∧ p.1.mems.length ≤ mc ∧ MbS (fun j => X < j ∧ j < w.heap.size ∧ v.ownBlock ≠ some j) p.1.mems ma w
theorem KoX.next {X : Nat} {K : List (LayP × Value)} {v : Value} {w w' : World} (h : KoX X K v w) (hb : Below w.heap.size w w') : KoX X K v w' :=
  ⟨own_far h.own (fun g hg _ => hb.block g (h.own.lt g hg).2), fun p hp => by
    obtain ⟨ma, mc, h1, h2, h3⟩ := h.nd p hp
    exact ⟨ma, mc, h1, h2, h3.mono (fun j hj => ⟨hj.1, Nat.lt_of_lt_of_le hj.2.1 hb.size, hj.2.2⟩) (fun j hj => hb.block j hj.2.1)⟩⟩
theorem KoX.stp {X : Nat} {K : List (LayP × Value)} {v : Value} {w w' : World} (h : KoX X K v w) (hs : Stp X w w') : KoX X K v w' :=
  ⟨own_far h.own (fun g hg hg2 => hs.blk g (by omega)), fun p hp => by
    obtain ⟨ma, mc, h1, h2, h3⟩ := h.nd p hp
    exact ⟨ma, mc, h1, h2, h3.mono (fun j hj => ⟨hj.1, by rw [hs.size]; exact hj.2.1, hj.2.2⟩) (fun j hj => hs.blk j (by omega))⟩⟩
theorem KoX.in {X : Nat} {K : List (LayP × Value)} {v : Value} {w : World} (h : KoX X K v w) : ∃ a c, v = .slice a K.length c ∧ K.length ≤ c ∧ KnIn (K.map Prod.fst) a w := by
  rcases h.own.2 with ⟨hv, hz⟩ | ⟨g, cap, cur, hv, hb, hg, h1, _⟩
  · exact ⟨none, 0, by rw [hv, hz], by omega, fun h0 => by rw [List.length_map] at h0; omega⟩
  · subst hv
    refine ⟨some ⟨g, 0, none⟩, cap, rfl, h1, fun _ => ⟨g, rfl, (Array.getElem?_eq_some_iff.1 hg).1, fun k x hx => ?_⟩⟩
    rw [List.getElem?_map] at hx
    obtain ⟨p, hp, rfl⟩ := Option.map_eq_some_iff.1 hx
    obtain ⟨ma, mc, hpv, hmc, hm⟩ := h.nd p (List.mem_of_getElem? hp)
    have key : ∀ i u, (lyC p.1 p.2)[i]? = some u → w.cell? ⟨g, k * 5 + i, none⟩ = some u := fun i u hu => by
      have hi : i < 5 := (List.getElem?_eq_some_iff.1 hu).1
      have h2 := lyCs_at K k p hp i hi
      rw [hu] at h2
      have e := h.own.cells (g := g) rfl (k * 5 + i) u h2
      have ea : (⟨g, 0, none⟩ : Addr).add (k * 5 + i) = ⟨g, k * 5 + i, none⟩ := by unfold Addr.add; split <;> simp_all
      rwa [ea] at e
    rw [hpv] at key
    exact ⟨ma, mc, hm.mono (fun j hj => hj.2.1) (fun _ _ => rfl), hmc, key 0 _ rfl, key 1 _ rfl, key 2 _ rfl, key 3 _ rfl, key 4 _ rfl⟩
theorem KoX.add {X : Nat} {K : List (LayP × Value)} {v : Value} {w wd : World} (h : KoX X K v w) {x : LayP} {ma : Option Addr} {mc g cap : Nat} (hmc : x.mems.length ≤ mc) (hn : MbS (fun j => X < j ∧ j < w.heap.size ∧ v.ownBlock ≠ some j) x.mems ma w)
    (hown : wd.ownsRow (X + 1) 152 5 (.slice (some ⟨g, 0, none⟩) (K.length + 1) cap) (K.length + 1) (lyCs K ++ lyC x (.slice ma x.mems.length mc))) (hg : w.grownBy wd v.ownBlock) (hl : v.ownBlock = some g ∨ g = w.heap.size) :
    KoX X (K ++ [(x, .slice ma x.mems.length mc)]) (.slice (some ⟨g, 0, none⟩) (K.length + 1) cap) wd := by
  have hk : ∀ j, (X < j ∧ j < w.heap.size ∧ v.ownBlock ≠ some j) → (X < j ∧ j < wd.heap.size ∧ (Value.slice (some ⟨g, 0, none⟩) (K.length + 1) cap).ownBlock ≠ some j) := fun j hj => ⟨hj.1, Nat.lt_of_lt_of_le hj.2.1 hg.size, fun e => by
    have e2 : g = j := by simpa [Value.ownBlock] using e
    subst e2
    rcases hl with h1 | h1
    · exact hj.2.2 h1
    · omega⟩
  have hb : ∀ j, (X < j ∧ j < w.heap.size ∧ v.ownBlock ≠ some j) → wd.heap[j]? = w.heap[j]? := fun j hj => hg.block j hj.2.1 (fun e => hj.2.2 e.symm)
  refine ⟨by rw [lyCs_snoc, List.length_append, List.length_singleton]; exact hown, fun p hp => ?_⟩
  rcases List.mem_append.1 hp with hp | hp
  · obtain ⟨ma', mc', h1, h2, h3⟩ := h.nd p hp
    exact ⟨ma', mc', h1, h2, h3.mono hk hb⟩
  · rw [List.mem_singleton] at hp
    subst hp
    exact ⟨ma, mc, rfl, hmc, hn.mono hk hb⟩
theorem goS_gd : ∀ (ss : List StP) (L : List LayP), GdL L → GdL (goS L ss).2.2
  | [], L, h => h
  | s :: ss, L, h => by
    unfold goS
    split
    · rename_i h1
      exact goS_gd ss _ (h.add h1)
    · exact fun x hx => by cases hx
theorem gd0 : GdL [] := fun x hx => by cases hx
theorem lo_gd (S : List StP) : GdL (loA S).2.2 := by
  unfold loA
  split
  · exact gd0
  · exact goS_gd S [] gd0
theorem goS_len : ∀ (ss : List StP) (L : List LayP), (goS L ss).2.2.length ≤ L.length + ss.length
  | [], L => Nat.le_refl _
  | s :: ss, L => by
    unfold goS
    split
    · have := goS_len ss (L ++ [nxL L s])
      rw [List.length_append, List.length_singleton] at this
      rw [List.length_cons]
      omega
    · exact Nat.zero_le _
theorem lo_len (S : List StP) : (loA S).2.2.length ≤ 64 := by
  unfold loA
  split
  · exact Nat.zero_le _
  · have := goS_len S []
    simp at this
    omega
/-- While structs are laid out. -/
structure LoI (S : List StP) (w : World) (X q : Nat) (K : List (LayP × Value)) (v : Value) (wr : World) : Prop where
  kl : K.length = q
  gd : GdL (K.map Prod.fst)
  go : goS [] S = goS (K.map Prod.fst) (S.drop q)
  bel : Below w.heap.size w wr
  fb : wr.heap[X]? = some (.cells #[.int .i64 0, .int .i64 0] 32)
  ko : KoX X K v wr
theorem ly_one (x y z : Int) (nm : ByteArray) (a : Option Addr) (n c : Nat) : ∀ u ∈ [Value.int .i64 x, .int .i64 y, .int .i64 z, .string nm, .slice a n c], u.oneCell' = true := by
  intro u hu
  simp only [List.mem_cons, List.not_mem_nil, or_false] at hu
  rcases hu with rfl | rfl | rfl | rfl | rfl <;> rfl
/-- What layOut answers. -/
def LoX (S : List StP) (w : World) (e : Ending) (w' : World) : Prop :=
  (((loA S).2.1 = 0 ∧ ∃ a c, e = .returned (.tuple #[.slice a (loA S).2.2.length c, .agg #[.int .i64 0, .int .i64 0]]) ∧ (loA S).2.2.length ≤ c ∧ KnIn (loA S).2.2 a w') ∨ ((loA S).2.1 ≠ 0 ∧ e = .returned (.tuple #[.slice none 0 0, .agg #[.int .i64 (loA S).1, .int .i64 (loA S).2.1]]))) ∧ Below w.heap.size w w'
set_option maxHeartbeats 8000000 in
theorem c_layOutX (B : Nat) (S : List StP) (a : Option Addr) (c : Nat) (hS : SzS S) (hSl : S.length ≤ 4503599627370496) (w : World) (hE : Env B w) (hB : B ≤ w.heap.size) (hI : StIn S a w) :
    Calls Tryz.prog 61 #[.slice a S.length c] w fun e w' => LoX S w e w' := by
  have HE := Lib.hid (fun w' (hb : Below w.heap.size w w') => And.intro (hE.next (hb.mono hB)) (Nat.le_trans hB hb.size))
  have HS := Lib.hid (fun w' (hb : Below w.heap.size w w') => hI.next hb)
  have HSz := Lib.hid (And.intro hS hSl)
  obtain ⟨i0, hi, hz0, hz1, hz2⟩ := info_parts infoLy
  obtain ⟨N, hN⟩ : ∃ N, S.length = N := ⟨_, rfl⟩
  have HN := Lib.hid hN
  have HLo : Hid (loA S = if 64 < N then (0, 3, []) else goS [] S) := by rw [← hN]; exact Lib.hid rfl
  rw [hN]
  clear hE hB hI hS hSl hN
  by_cases h64 : 64 < N
  · have hd : decide ((64 : Int) < (N : Int)) = true := by simp; omega
    have hv : loA S = (0, 3, []) := HLo.out.trans (if_pos h64)
    have HV := Lib.hid hv
    clear hv h64
    go_enter Tryz.func61, Tryz.ntmps61
    go_wp2_with fail
    refine bodyPost_ret (v := .tuple #[.slice none 0 0, .agg #[.int .i64 0, .int .i64 3]]) (by simp [results, Tryz.results61, go_sem]) rfl ?_
    exact ⟨.inr ⟨by rw [HV.out]; decide, by rw [HV.out]; rfl⟩, below_a _ _⟩
  · have hd : decide ((64 : Int) < (N : Int)) = false := by simp; omega
    have hv : loA S = goS [] S := HLo.out.trans (if_neg h64)
    have HV := Lib.hid hv
    have H64 := Lib.hid h64
    clear hv h64
    go_enter Tryz.func61, Tryz.ntmps61
    go_wp2_with fail
    obtain ⟨X, hX⟩ : ∃ X, w.heap.size = X := ⟨_, rfl⟩
    have hI0 : LoI S w X 0 [] (.slice none 0 0) (w.alloc (.cells #[.int .i64 0, .int .i64 0] 32)) := ⟨rfl, gd0, rfl, below_a _ _, by rw [← hX]; exact heap_alloc_new w _, ⟨World.ownsRow_nil _ _ _ _, fun p hp => by cases hp⟩⟩
    have HI0 := Lib.hid hI0
    have HX := Lib.hid hX
    rw [hX]
    clear hI0 hX hd
    go_loopg [4, 15] N (fun g v4 v15 wr => ∃ (q : Nat) (ao : Option Addr) (co : Nat), q + g = N ∧ v15 = .int .i64 (q : Int) ∧ v4 = .slice ao q co ∧ Hid (∃ K, LoI S w X q K (.slice ao q co) wr))
    case atStart => exact ⟨0, none, 0, by omega, rfl, rfl, [], HI0.out⟩
    case round =>
      obtain ⟨q, va, vc, hq, rfl, rfl, HIx⟩ := hrel
      obtain ⟨K, hI⟩ := HIx.out
      have HI := Lib.hid hI
      obtain ⟨va', vc', hv, hvc, hkn⟩ := hI.ko.in
      injection hv with hv1 hv2 hv3
      subst hv1 hv3
      have HKn := Lib.hid (And.intro hkn hvc)
      have hXl : X < wr.heap.size := (Array.getElem?_eq_some_iff.1 hI.fb).1
      clear hI hkn HIx hv2
      by_cases hlt : q < N
      · have hdq : decide ((q : Int) < (N : Int)) = true := by simp; omega
        obtain ⟨s, hs⟩ : ∃ s, S[q]? = some s := ⟨_, List.getElem?_eq_getElem (by have := HN.out; omega)⟩
        obtain ⟨gb, gof, hgab, hgb, hrow⟩ := HS.out wr HI.out.bel (by have := HN.out; omega)
        obtain ⟨ma, mc, g0, g1, hmm⟩ := hrow q s hs
        have HSs := Lib.hid (And.intro hs hmm)
        obtain ⟨sn, sm⟩ := s
        simp only at g0 g1
        obtain ⟨ML, hML⟩ : ∃ ML, sm.length = ML := ⟨_, rfl⟩
        rw [hML] at g1
        have hq0 : (0 : Int) ≤ (q : Int) := by omega
        have hql : (q : Int) < (N : Int) := by omega
        have hwm : IntKind.i64.wrap ((q : Int) + 1) = ((q + 1 : Nat) : Int) := by rw [IntKind.wrap_i64]; have := H64.out; omega
        have HM : Hid (N - (q + 1) < gk ∧ q + 1 + (N - (q + 1)) = N) := ⟨by omega, by omega⟩
        subst hgab
        clear hrow hs hmm
        go_wp2_with fail
        clear g0 g1
        have HAm := Lib.hid (below_a wr (.cells #[.string ⟨sn.toArray⟩, .slice ma ML mc] 83))
        have HBm := Lib.hid (HI.out.bel.trans (HAm.out.mono HI.out.bel.size))
        have hsz := HSz.out.1 _ (List.mem_of_getElem? HSs.out.1)
        have hnx := c_nextX (K.map Prod.fst) va vc (by rw [List.length_map]; exact HKn.out.2) HI.out.gd (by rw [List.length_map, HI.out.kl]; have := H64.out; omega) B ⟨sn, sm⟩ ma mc hsz.1 hsz.2.1 hsz.2.2 (wr.alloc (.cells #[.string ⟨sn.toArray⟩, .slice ma ML mc] 83)) (HE.out _ HBm.out).1 (HE.out _ HBm.out).2 (HKn.out.1.next HAm.out) (HSs.out.2.next HAm.out)
        rw [List.length_map, HI.out.kl, hML] at hnx
        refine hnx.mono ?_
        clear hnx hsz
        rintro e w1 ⟨hr, hb⟩
        have HB1 := Lib.hid (below_on HBm.out hb HBm.out.size)
        have HF1 := Lib.hid (blk_next (blk_next HI.out.fb HAm.out) hb)
        have HO1 := Lib.hid ((HI.out.ko.next HAm.out).next hb)
        have hs1 : wr.heap.size + 1 ≤ w1.heap.size := by have := hb.size; simp at this; omega
        have HGw : Hid (∀ g, (Value.slice va q vc).ownBlock = some g → X + 1 ≤ g ∧ g < wr.heap.size) := fun g hg => HI.out.ko.own.lt g hg
        clear hb HAm HBm
        rcases hr with ⟨hn0, ma', mc', rfl, hmc, hmb⟩ | ⟨hn0, fx, fy, fz, fnm, fa, fn, fc, rfl⟩
        · have hgo2 : goS [] S = goS (K.map Prod.fst ++ [nxL (K.map Prod.fst) ⟨sn, sm⟩]) (S.drop (q + 1)) := by
            rw [HI.out.go, List.drop_eq_getElem_cons (by have := HN.out; omega), (List.getElem?_eq_some_iff.1 HSs.out.1).2]
            show goS _ (⟨sn, sm⟩ :: S.drop (q + 1)) = _
            conv => lhs; unfold goS
            rw [if_pos hn0]
          have hgd2 := HI.out.gd.add hn0
          obtain ⟨Y, hY⟩ : ∃ Y, nxL (K.map Prod.fst) ⟨sn, sm⟩ = Y := ⟨_, rfl⟩
          rw [hY] at hgo2 hgd2 hmc hmb ⊢
          have HG2 := Lib.hid (And.intro hgo2 (And.intro hgd2 (And.intro hmc hmb)))
          obtain ⟨lx, hlx⟩ : ∃ y : Int, (Y.bytes : Int) = y := ⟨_, rfl⟩
          obtain ⟨ly, hly⟩ : ∃ y : Int, (Y.align : Int) = y := ⟨_, rfl⟩
          obtain ⟨lz, hlz⟩ : ∃ y : Int, (Y.scal : Int) = y := ⟨_, rfl⟩
          obtain ⟨ln, hln⟩ : ∃ y, (⟨Y.name.toArray⟩ : ByteArray) = y := ⟨_, rfl⟩
          obtain ⟨lm, hlm⟩ : ∃ y, Y.mems.length = y := ⟨_, rfl⟩
          have HYs := Lib.hid (And.intro hlx (And.intro hly (And.intro hlz (And.intro hln hlm))))
          rw [hlx, hly, hlz, hln, hlm]
          clear hgo2 hgd2 hmc hmb hn0 hY hlx hly hlz hln hlm
          have HOx := Lib.hid ((HO1.out.next (below_a w1 (.cells #[.int .i64 lx, .int .i64 ly, .int .i64 lz, .string ln, .slice ma' lm mc'] 152))).next (below_a (w1.alloc (.cells #[.int .i64 lx, .int .i64 ly, .int .i64 lz, .string ln, .slice ma' lm mc'] 152)) (.cells #[.int .i64 lx, .int .i64 ly, .int .i64 lz, .string ln, .slice ma' lm mc'] 152)))
          have HBx := Lib.hid ((HB1.out.alloc HB1.out.size (.cells #[.int .i64 lx, .int .i64 ly, .int .i64 lz, .string ln, .slice ma' lm mc'] 152)).alloc (HB1.out.alloc HB1.out.size _).size (.cells #[.int .i64 lx, .int .i64 ly, .int .i64 lz, .string ln, .slice ma' lm mc'] 152))
          go_wp2_with (at_builtin; refine wpList_append_lies _ rfl _ _ 136 rfl (X + 1) 152 i0 (.agg #[.int .i64 0, .int .i64 0, .int .i64 0, .string ByteArray.empty, .slice none 0 0]) 5 64 Tryz.underlying136 hi hz0 hz1 hz2 rfl (by decide) (.slice va q vc) q (lyCs K) rfl (by have h := HOx.out.own; rw [HI.out.kl] at h; exact h) ⟨w1.heap.size + 1, 0, none⟩ 1 1 [.int .i64 lx, .int .i64 ly, .int .i64 lz, .string ln, .slice ma' lm mc'] rfl rfl ?cc1 (ly_one _ _ _ _ _ _ _) (by decide) ?cc3 ?cc4 ?cc5 (w1.heap.size + 2) ?cc6 ?_)
          case cc1 =>
            intro j u hu
            have h := World.news_of_block (heap_alloc_new (w1.alloc (.cells #[.int .i64 lx, .int .i64 ly, .int .i64 lz, .string ln, .slice ma' lm mc'] 152)) (.cells #[.int .i64 lx, .int .i64 ly, .int .i64 lz, .string ln, .slice ma' lm mc'] 152)) j u hu
            rw [show (w1.alloc (.cells #[.int .i64 lx, .int .i64 ly, .int .i64 lz, .string ln, .slice ma' lm mc'] 152)).heap.size = w1.heap.size + 1 by simp] at h
            exact h
          case cc3 => have h3 := H64.out; unfold maxLen; omega
          case cc4 => have h3 := H64.out; omega
          case cc5 => simp; omega
          case cc6 => simp
          intro gr cap1 wd hown hgrow hlies hglt
          have HNI : Hid (LoI S w X (q + 1) (K ++ [(Y, .slice ma' Y.mems.length mc')]) (.slice (some ⟨gr, 0, none⟩) (q + 1) cap1) wd) := by
            obtain ⟨h1, h2, h3, h4⟩ := HG2.out
            obtain ⟨y0, y1, y2, y3, y4⟩ := HYs.out
            refine ⟨by rw [List.length_append, HI.out.kl]; rfl, by rw [List.map_append]; exact h2, by rw [List.map_append]; exact h1, HBx.out.grown hgrow (by have := HBx.out.size; exact this) (fun k hk => by have := (HGw.out k hk).1; have := HX.out; omega), ?_, ?_⟩
            · refine (hgrow.block X (by simp; omega) (fun e => by have := (HGw.out X e.symm).1; omega)).trans ?_
              exact (Below.heap_alloc _ _ _ (by simp; omega)).trans ((Below.heap_alloc _ _ _ (by omega)).trans HF1.out)
            · have hadd := HOx.out.add (x := Y) (ma := ma') (mc := mc') (g := gr) (cap := cap1) (wd := wd) h3 (h4.mono (fun j hj => ⟨by have := hj.1; simp at this; omega, by have := hj.2; simp; omega, fun e => by have := (HGw.out j e).2; have := hj.1; simp at this; omega⟩) (fun j hj => (Below.heap_alloc _ _ _ (by have := hj.2; simp; omega)).trans (Below.heap_alloc _ _ _ hj.2))) (by rw [HI.out.kl]; show wd.ownsRow _ _ _ _ _ (lyCs K ++ [.int .i64 Y.bytes, .int .i64 Y.align, .int .i64 Y.scal, .string ⟨Y.name.toArray⟩, .slice ma' Y.mems.length mc']); rw [y0, y1, y2, y3, y4]; exact hown) hgrow (by simpa using hlies)
              rw [HI.out.kl] at hadd
              exact hadd
          clear hown hgrow hlies hglt HOx HBx HO1 HF1
          go_wp2_with fail
          go_roundg (N - (q + 1))
          case measure => exact HM.out.1
          case rel => exact ⟨q + 1, _, _, HM.out.2, rfl, rfl, _, HNI.out⟩
        · obtain ⟨E, hE⟩ : ∃ E : Int, (nxE (K.map Prod.fst) ⟨sn, sm⟩ : Int) = E := ⟨_, rfl⟩
          have hE0 : (E == 0) = false := by rw [← hE]; simp; exact hn0
          have hgo2 : loA S = (q, nxE (K.map Prod.fst) ⟨sn, sm⟩, []) := by
            rw [HV.out, HI.out.go, List.drop_eq_getElem_cons (by have := HN.out; omega), (List.getElem?_eq_some_iff.1 HSs.out.1).2]
            show goS _ (⟨sn, sm⟩ :: S.drop (q + 1)) = _
            unfold goS
            rw [if_neg hn0, List.length_map, HI.out.kl]
          have HG2 := Lib.hid (And.intro hgo2 (And.intro hE hn0))
          have r0 : w1.cell? ⟨X, 0, none⟩ = some (.int .i64 0) := by rw [Lib.cell_of_heap HF1.out]; rfl
          have r1 : w1.cell? ⟨X, 1, none⟩ = some (.int .i64 0) := by rw [Lib.cell_of_heap HF1.out]; rfl
          have f0 := Lib.frozen_of_heap HF1.out 0
          have f1 := Lib.frozen_of_heap HF1.out 1
          have hX1 : X < w1.heap.size := by omega
          rw [hE]
          clear hgo2 hE hn0
          go_wp2_with fail
          have hst : Stp X w1 ((w1.setCell ⟨X, 0, none⟩ (.int .i64 q)).setCell ⟨X, 1, none⟩ (.int .i64 E)) := (Stp.set X 0 w1 _).trans (Stp.set X 1 _ _)
          have hz9 : ((w1.setCell ⟨X, 0, none⟩ (.int .i64 q)).setCell ⟨X, 1, none⟩ (.int .i64 E)).heap[X]? = some (.cells #[.int .i64 q, .int .i64 E] 32) := heap_setCell_same _ X 1 _ _ _ (heap_setCell_same w1 X 0 _ _ _ HF1.out)
          have hb9 := below_stp HB1.out hst (by have := HX.out; omega)
          have hs9 := hst.size
          clear hst
          generalize (w1.setCell ⟨X, 0, none⟩ (.int .i64 q)).setCell ⟨X, 1, none⟩ (.int .i64 E) = w9 at hb9 hz9 hs9 ⊢
          have hz10 := (Below.heap_alloc w9 (.cells #[.int .i64 fx, .int .i64 fy, .int .i64 fz, .string fnm, .slice fa fn fc] 152) _ (by omega : X < w9.heap.size)).trans hz9
          have hb10 := hb9.alloc hb9.size (.cells #[.int .i64 fx, .int .i64 fy, .int .i64 fz, .string fnm, .slice fa fn fc] 152)
          generalize w9.alloc (.cells #[.int .i64 fx, .int .i64 fy, .int .i64 fz, .string fnm, .slice fa fn fc] 152) = wx at hb10 hz10 ⊢
          have p0 : wx.cell? ⟨X, 0, none⟩ = some (.int .i64 q) := by rw [Lib.cell_of_heap hz10]; rfl
          have p1 : wx.cell? ⟨X, 1, none⟩ = some (.int .i64 E) := by rw [Lib.cell_of_heap hz10]; rfl
          refine bodyPost_ret (v := .tuple #[.slice none 0 0, .agg #[.int .i64 q, .int .i64 E]]) (by simp [results, Tryz.results61, go_sem, p0, p1]) rfl ?_
          exact ⟨.inr ⟨by rw [HG2.out.1]; exact HG2.out.2.2, by rw [HG2.out.1, ← HG2.out.2.1]⟩, hb10⟩
      · have hdq : decide ((q : Int) < (N : Int)) = false := by simp; omega
        have hqN : q = S.length := by have := HN.out; omega
        have hlo : loA S = (0, 0, K.map Prod.fst) := by
          rw [HV.out, HI.out.go, hqN, List.drop_length]
          rfl
        have HLo2 := Lib.hid (And.intro hlo (And.intro hqN hvc))
        have r0 : wr.cell? ⟨X, 0, none⟩ = some (.int .i64 0) := by rw [Lib.cell_of_heap HI.out.fb]; rfl
        have r1 : wr.cell? ⟨X, 1, none⟩ = some (.int .i64 0) := by rw [Lib.cell_of_heap HI.out.fb]; rfl
        have f0 := Lib.frozen_of_heap HI.out.fb 0
        have f1 := Lib.frozen_of_heap HI.out.fb 1
        clear hlo hqN
        go_wp2_with fail
        have hst : Stp X wr ((wr.setCell ⟨X, 0, none⟩ (.int .i64 0)).setCell ⟨X, 1, none⟩ (.int .i64 0)) := (Stp.set X 0 wr _).trans (Stp.set X 1 _ _)
        have hz9 : ((wr.setCell ⟨X, 0, none⟩ (.int .i64 0)).setCell ⟨X, 1, none⟩ (.int .i64 0)).heap[X]? = some (.cells #[.int .i64 0, .int .i64 0] 32) := heap_setCell_same _ X 1 _ _ _ (heap_setCell_same wr X 0 _ _ _ HI.out.fb)
        have hb9 := below_stp HI.out.bel hst (by have := HX.out; omega)
        have hko := (HI.out.ko.stp hst).in
        clear hst
        generalize (wr.setCell ⟨X, 0, none⟩ (.int .i64 0)).setCell ⟨X, 1, none⟩ (.int .i64 0) = w9 at hb9 hz9 hko ⊢
        have p0 : w9.cell? ⟨X, 0, none⟩ = some (.int .i64 0) := by rw [Lib.cell_of_heap hz9]; rfl
        have p1 : w9.cell? ⟨X, 1, none⟩ = some (.int .i64 0) := by rw [Lib.cell_of_heap hz9]; rfl
        refine bodyPost_ret (v := .tuple #[.slice va q vc, .agg #[.int .i64 0, .int .i64 0]]) (by simp [results, Tryz.results61, go_sem, p0, p1]) rfl ?_
        obtain ⟨a', c', hav, hac, hkn⟩ := hko
        injection hav with hv1 hv2 hv3
        subst hv1
        refine ⟨.inl ⟨by rw [HLo2.out.1], va, vc, ?_, ?_, ?_⟩, hb9⟩
        · rw [HLo2.out.1]
          show _ = Ending.returned (.tuple #[.slice va (K.map Prod.fst).length vc, .agg #[.int .i64 0, .int .i64 0]])
          rw [List.length_map, HI.out.kl]
        · rw [HLo2.out.1]
          show (K.map Prod.fst).length ≤ vc
          rw [List.length_map]
          exact HLo2.out.2.2
        · rw [HLo2.out.1]
          exact hkn
end Go.Proofs.YtjadckhngalmlaaGreatDoor
namespace Go.Proofs.YtjadckhngalmlaaGreatDoor
set_option linter.unusedVariables false
set_option linter.unusedSimpArgs false
set_option maxRecDepth 100000
open Go.RowKit

theorem goS_zero : ∀ (ss : List StP) (L : List LayP), (goS L ss).2.1 = 0 → (goS L ss).1 = 0
  | [], L, _ => rfl
  | s :: ss, L, h => by
    unfold goS at h ⊢
    split
    · rename_i h1
      rw [if_pos h1] at h
      exact goS_zero ss _ h
    · rename_i h1
      rw [if_neg h1] at h
      exact absurd h h1
theorem lo_zero (S : List StP) (h : (loA S).2.1 = 0) : (loA S).1 = 0 := by
  unfold loA at h ⊢
  split
  · rfl
  · rename_i h1
    rw [if_neg h1] at h
    exact goS_zero S [] h
set_option maxHeartbeats 4000000 in
theorem c_StructsX (B : Nat) (S : List StP) (a : Option Addr) (c : Nat) (hS : SzS S) (hSl : S.length ≤ 4503599627370496) (w : World) (hE : Env B w) (hB : B ≤ w.heap.size) (hI : StIn S a w) :
    Calls Tryz.prog 50 #[.slice a S.length c] w fun e w' => e = .returned (.agg #[.int .i64 (loA S).1, .int .i64 (loA S).2.1]) ∧ Below w.heap.size w w' := by
  have HL := Lib.hid (fun w' (hb : Below w.heap.size w w') => c_layOutX B S a c hS hSl w' (hE.next (hb.mono hB)) (Nat.le_trans hB hb.size) (hI.next hb))
  have HZ := Lib.hid (lo_zero S)
  obtain ⟨N, hN⟩ : ∃ N, S.length = N := ⟨_, rfl⟩
  rw [hN] at HL ⊢
  obtain ⟨f0, f1, hf0, hf1⟩ : ∃ f0 f1 : Int, ((loA S).1 : Int) = f0 ∧ ((loA S).2.1 : Int) = f1 := ⟨_, _, rfl, rfl⟩
  have HFs := Lib.hid (And.intro hf0 hf1)
  rw [hf0, hf1]
  clear hE hB hI hS hSl hN hf0 hf1
  go_enter Tryz.func50, Tryz.ntmps50
  go_wp2_with fail
  refine (HL.out _ (below_a w _)).mono ?_
  rintro e w1 ⟨hr, hb⟩
  have HB := Lib.hid (below_on (below_a w (.cells #[.int .i64 0, .int .i64 0] 32)) hb (by simp))
  have HZ1 := Lib.hid (blk_next (heap_alloc_new w (.cells #[.int .i64 0, .int .i64 0] 32)) hb)
  clear hb HL
  obtain ⟨ra, rn, rc, hr2⟩ : ∃ ra rn rc, e = .returned (.tuple #[.slice ra rn rc, .agg #[.int .i64 f0, .int .i64 f1]]) := by
    rcases hr with ⟨h0, a', c', he, _⟩ | ⟨h0, he⟩
    · exact ⟨_, _, _, by rw [he, ← HFs.out.1, ← HFs.out.2, HZ.out h0, h0]; rfl⟩
    · exact ⟨_, _, _, by rw [he, ← HFs.out.1, ← HFs.out.2]⟩
  subst hr2
  have r0 : w1.cell? ⟨w.heap.size, 0, none⟩ = some (.int .i64 0) := by rw [Lib.cell_of_heap HZ1.out]; rfl
  have r1 : w1.cell? ⟨w.heap.size, 1, none⟩ = some (.int .i64 0) := by rw [Lib.cell_of_heap HZ1.out]; rfl
  have rf0 := Lib.frozen_of_heap HZ1.out 0
  have rf1 := Lib.frozen_of_heap HZ1.out 1
  have hlt : w.heap.size < w1.heap.size := (Array.getElem?_eq_some_iff.1 HZ1.out).1
  clear hr
  go_wp2_with fail
  have hst : Stp w.heap.size w1 ((w1.setCell ⟨w.heap.size, 0, none⟩ (.int .i64 f0)).setCell ⟨w.heap.size, 1, none⟩ (.int .i64 f1)) := (Stp.set w.heap.size 0 w1 _).trans (Stp.set w.heap.size 1 _ _)
  have hz9 : ((w1.setCell ⟨w.heap.size, 0, none⟩ (.int .i64 f0)).setCell ⟨w.heap.size, 1, none⟩ (.int .i64 f1)).heap[w.heap.size]? = some (.cells #[.int .i64 f0, .int .i64 f1] 32) := heap_setCell_same _ w.heap.size 1 _ _ _ (heap_setCell_same w1 w.heap.size 0 _ _ _ HZ1.out)
  have hb9 := below_stp HB.out hst (Nat.le_refl _)
  have hs9 := hst.size
  clear hst
  generalize (w1.setCell ⟨w.heap.size, 0, none⟩ (.int .i64 f0)).setCell ⟨w.heap.size, 1, none⟩ (.int .i64 f1) = w9 at hb9 hz9 hs9 ⊢
  have hz10 := (Below.heap_alloc w9 (.cells #[.int .i64 f0, .int .i64 f1] 32) _ (by omega : w.heap.size < w9.heap.size)).trans hz9
  have hb10 := hb9.alloc hb9.size (.cells #[.int .i64 f0, .int .i64 f1] 32)
  generalize w9.alloc (.cells #[.int .i64 f0, .int .i64 f1] 32) = wx at hb10 hz10 ⊢
  have p0 : wx.cell? ⟨w.heap.size, 0, none⟩ = some (.int .i64 f0) := by rw [Lib.cell_of_heap hz10]; rfl
  have p1 : wx.cell? ⟨w.heap.size, 1, none⟩ = some (.int .i64 f1) := by rw [Lib.cell_of_heap hz10]; rfl
  refine bodyPost_ret (v := .agg #[.int .i64 f0, .int .i64 f1]) (by simp [results, Tryz.results50, go_sem, p0, p1]) rfl ?_
  exact ⟨rfl, hb10⟩
/-- What rightType answers. -/
def RtX (S : List StP) (l : List UInt8) (w : World) (e : Ending) (w' : World) : Prop :=
  (((loA S).2.1 = 0 ∧ (∃ (x0 : Int) (s1 : ByteArray) (x2 : Int) (s3 : ByteArray) (a : Option Addr) (n c : Nat) (ka : Option Addr) (kc : Nat), e = .returned (.tuple #[nV x0 s1 x2 s3 a n c, .slice ka (loA S).2.2.length kc, .int .i64 (rgA (loA S).2.2 l)]))) ∨ ((loA S).2.1 ≠ 0 ∧ e = .returned (.tuple #[nV 0 ⟨#[]⟩ 0 ⟨#[]⟩ none 0 0, .slice none 0 0, .int .i64 (loA S).2.1]))) ∧ Below w.heap.size w w'
set_option maxHeartbeats 4000000 in
theorem c_rightTypeX (B : Nat) (S : List StP) (a : Option Addr) (c : Nat) (hS : SzS S) (hSl : S.length ≤ 4503599627370496) (l : List UInt8) (w : World) (hE : Env B w) (hB : B ≤ w.heap.size) (hm : l.length ≤ 9223372036854775807) (hI : StIn S a w) :
    Calls Tryz.prog 101 #[.string ⟨l.toArray⟩, .slice a S.length c] w fun e w' => RtX S l w e w' := by
  have HL := Lib.hid (fun w' (hb : Below w.heap.size w w') => c_layOutX B S a c hS hSl w' (hE.next (hb.mono hB)) (Nat.le_trans hB hb.size) (hI.next hb))
  have HR := Lib.hid (fun w' (hb : Below w.heap.size w w') ka kc hkc hK => c_rightX (loA S).2.2 ka kc hkc (lo_gd S) (Nat.le_trans (lo_len S) (by decide)) B l w' (hE.next (hb.mono hB)) (Nat.le_trans hB hb.size) hm hK)
  have HZ := Lib.hid (lo_zero S)
  obtain ⟨N, hN⟩ : ∃ N, S.length = N := ⟨_, rfl⟩
  rw [hN] at HL ⊢
  clear hE hB hI hS hSl hN hm
  go_enter Tryz.func101, Tryz.ntmps101
  go_wp2_with fail
  refine (HL.out _ (below_a w zOb)).mono ?_
  rintro e w1 ⟨hr, hb⟩
  have HB1 := Lib.hid (below_on (below_a w zOb) hb (by simp))
  have HZ1 := Lib.hid (blk_next (heap_alloc_new w zOb) hb)
  clear hb HL
  rcases hr with ⟨h0, ka, kc, rfl, hkc, hK⟩ | ⟨h0, rfl⟩
  · have HK := Lib.hid (And.intro h0 (And.intro hkc hK))
    obtain ⟨ML, hML⟩ : ∃ ML, (loA S).2.2.length = ML := ⟨_, rfl⟩
    have HML := Lib.hid hML
    rw [hML]
    clear h0 hkc hK hML
    go_wp2_with fail
    have HA := Lib.hid (below_a w1 (.cells #[.int .i64 0, .int .i64 0] 32))
    have HB2 := Lib.hid (below_on HB1.out HA.out HB1.out.size)
    have HZ2 := Lib.hid (blk_next HZ1.out HA.out)
    have hr := HR.out _ HB2.out ka kc HK.out.2.1 (HK.out.2.2.next HA.out)
    rw [HML.out] at hr
    refine hr.mono ?_
    clear hr
    rintro e w3 ⟨hr, hb⟩
    have HB3 := Lib.hid (below_on HB2.out hb HB2.out.size)
    have HZ3 := Lib.hid (blk_next HZ2.out hb)
    clear hb HR HA HB1 HZ1 HB2 HZ2
    obtain ⟨x0, s1, x2, s3, a', n', c', E, hE, rfl⟩ : ∃ (x0 : Int) (s1 : ByteArray) (x2 : Int) (s3 : ByteArray) (a' : Option Addr) (n' c' : Nat) (E : Int), (rgA (loA S).2.2 l : Int) = E ∧ e = .returned (.tuple #[nV x0 s1 x2 s3 a' n' c', .int .i64 E]) := by
      rcases hr with ⟨t, a', n', c', _, h1, he, _⟩ | ⟨_, he⟩
      · exact ⟨_, _, _, _, _, _, _, _, rfl, by rw [he, h1]; rfl⟩
      · exact ⟨_, _, _, _, _, _, _, _, rfl, he⟩
    have HEe := Lib.hid hE
    clear hr hE
    have hs3 : w.heap.size < w3.heap.size := (Array.getElem?_eq_some_iff.1 HZ3.out).1
    obtain ⟨r0, r1, r2, r3, r4, rf⟩ := five_cells HZ3.out
    have rf0 := rf 0
    have rf1 := rf 1
    have rf2 := rf 2
    have rf3 := rf 3
    have rf4 := rf 4
    clear rf
    go_wp2_with fail
    have hst := Stp.five0 w.heap.size w3 (.int .u8 x0) (.string s1) (.int .i64 x2) (.string s3) (.slice a' n' c')
    have hb9 := below_stp HB3.out hst (Nat.le_refl _)
    have hz9 := five_set HZ3.out (.int .u8 x0) (.string s1) (.int .i64 x2) (.string s3) (.slice a' n' c')
    have hs9 := hst.size
    clear hst
    generalize ((((w3.setCell ⟨w.heap.size, 0, none⟩ (.int .u8 x0)).setCell ⟨w.heap.size, 1, none⟩ (.string s1)).setCell ⟨w.heap.size, 2, none⟩ (.int .i64 x2)).setCell ⟨w.heap.size, 3, none⟩ (.string s3)).setCell ⟨w.heap.size, 4, none⟩ (.slice a' n' c') = w9 at hb9 hz9 hs9 ⊢
    have hlt9 : w.heap.size < w9.heap.size := by rw [hs9]; exact hs3
    have hz10 := (Below.heap_alloc w9 (.cells #[.int .u8 x0, .string s1, .int .i64 x2, .string s3, .slice a' n' c'] 173) _ hlt9).trans hz9
    have hb10 := hb9.alloc hb9.size (.cells #[.int .u8 x0, .string s1, .int .i64 x2, .string s3, .slice a' n' c'] 173)
    generalize w9.alloc (.cells #[.int .u8 x0, .string s1, .int .i64 x2, .string s3, .slice a' n' c'] 173) = wx at hb10 hz10 ⊢
    obtain ⟨q0, q1, q2, q3, q4, qf⟩ := five_cells hz10
    refine bodyPost_ret (v := .tuple #[nV x0 s1 x2 s3 a' n' c', .slice ka ML kc, .int .i64 E]) (by simp [results, Tryz.results101, go_sem, q0, q1, q2, q3, q4]) rfl ?_
    exact ⟨.inl ⟨HK.out.1, _, _, _, _, _, _, _, ka, kc, by rw [HEe.out, HML.out]⟩, hb10⟩
  · obtain ⟨f0, f1, hf0, hf1⟩ : ∃ f0 f1 : Int, ((loA S).1 : Int) = f0 ∧ ((loA S).2.1 : Int) = f1 := ⟨_, _, rfl, rfl⟩
    have HFs := Lib.hid (And.intro h0 hf1)
    have hE0 : (f1 == 0) = false := by rw [← hf1]; simp; exact h0
    have hE1 : (f1 != 0) = true := by simp [bne, hE0]
    rw [hf0, hf1]
    have hs3 : w.heap.size < w1.heap.size := (Array.getElem?_eq_some_iff.1 HZ1.out).1
    obtain ⟨r0, r1, r2, r3, r4, rf⟩ := five_cells HZ1.out
    have rf0 := rf 0
    have rf1 := rf 1
    have rf2 := rf 2
    have rf3 := rf 3
    have rf4 := rf 4
    clear rf h0 hf0 hf1
    go_wp2_with fail
    go_region_law (fail)
    all_goals
      go_wp2_with fail
      have hst := Stp.five0 w.heap.size w1 (.int .u8 0) (.string ⟨#[]⟩) (.int .i64 0) (.string ⟨#[]⟩) (.slice none 0 0)
      have hb9 := below_stp HB1.out hst (Nat.le_refl _)
      have hz9 := five_set HZ1.out (.int .u8 0) (.string ⟨#[]⟩) (.int .i64 0) (.string ⟨#[]⟩) (.slice none 0 0)
      have hs9 := hst.size
      clear hst
      generalize ((((w1.setCell ⟨w.heap.size, 0, none⟩ (.int .u8 0)).setCell ⟨w.heap.size, 1, none⟩ (.string ⟨#[]⟩)).setCell ⟨w.heap.size, 2, none⟩ (.int .i64 0)).setCell ⟨w.heap.size, 3, none⟩ (.string ⟨#[]⟩)).setCell ⟨w.heap.size, 4, none⟩ (.slice none 0 0) = w9 at hb9 hz9 hs9 ⊢
      have hlt9 : w.heap.size < w9.heap.size := by rw [hs9]; exact hs3
      have hz10 := (Below.heap_alloc w9 (.cells #[.int .i64 f0, .int .i64 f1] 32) _ hlt9).trans hz9
      have hb10 := hb9.alloc hb9.size (.cells #[.int .i64 f0, .int .i64 f1] 32)
      generalize w9.alloc (.cells #[.int .i64 f0, .int .i64 f1] 32) = wx at hb10 hz10 ⊢
      obtain ⟨q0, q1, q2, q3, q4, qf⟩ := five_cells hz10
      refine bodyPost_ret (v := .tuple #[nV 0 ⟨#[]⟩ 0 ⟨#[]⟩ none 0 0, .slice none 0 0, .int .i64 f1]) (by simp [results, Tryz.results101, go_sem, q0, q1, q2, q3, q4]) rfl ?_
      exact ⟨.inr ⟨HFs.out.1, by rw [HFs.out.2]⟩, by first | exact hb10 | exact hb10.drew⟩
set_option maxHeartbeats 2000000 in
theorem c_CheckX (B : Nat) (S : List StP) (a : Option Addr) (c : Nat) (hS : SzS S) (hSl : S.length ≤ 4503599627370496) (l : List UInt8) (w : World) (hE : Env B w) (hB : B ≤ w.heap.size) (hm : l.length ≤ 9223372036854775807) (hI : StIn S a w) :
    Calls Tryz.prog 83 #[.string ⟨l.toArray⟩, .slice a S.length c] w fun e w' => e = .returned (.int .i64 (chA S l)) ∧ Below w.heap.size w w' := by
  have HR := Lib.hid (c_rightTypeX B S a c hS hSl l w hE hB hm hI)
  obtain ⟨N, hN⟩ : ∃ N, S.length = N := ⟨_, rfl⟩
  rw [hN] at HR ⊢
  obtain ⟨E, hEe⟩ : ∃ E : Int, (chA S l : Int) = E := ⟨_, rfl⟩
  rw [hEe]
  have HEe := Lib.hid hEe
  clear hE hB hI hS hSl hN hm hEe
  go_enter Tryz.func83, Tryz.ntmps83
  go_wp2_with fail
  refine HR.out.mono ?_
  rintro e w1 ⟨hr, hb⟩
  have HB := Lib.hid hb
  clear hb HR
  obtain ⟨x0, s1, x2, s3, a', n', c', ka, kn, kc, rfl⟩ : ∃ (x0 : Int) (s1 : ByteArray) (x2 : Int) (s3 : ByteArray) (a' : Option Addr) (n' c' : Nat) (ka : Option Addr) (kn kc : Nat), e = .returned (.tuple #[nV x0 s1 x2 s3 a' n' c', .slice ka kn kc, .int .i64 E]) := by
    rcases hr with ⟨h0, x0, s1, x2, s3, a', n', c', ka, kc, he⟩ | ⟨h0, he⟩
    · exact ⟨x0, s1, x2, s3, a', n', c', ka, _, kc, by rw [he, ← HEe.out]; unfold chA; rw [if_pos h0]⟩
    · exact ⟨_, _, _, _, _, _, _, _, _, _, by rw [he, ← HEe.out]; unfold chA; rw [if_neg h0]⟩
  clear hr
  go_wp2_with fail
  go_ret
  first
    | exact ⟨rfl, HB.out⟩
    | exact ⟨rfl, HB.out.alloc HB.out.size _⟩
end Go.Proofs.YtjadckhngalmlaaGreatDoor
