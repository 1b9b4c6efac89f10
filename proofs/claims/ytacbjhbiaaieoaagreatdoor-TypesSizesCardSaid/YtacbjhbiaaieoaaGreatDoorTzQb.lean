/-
  The contracts of what is wrong with structs, and with a type, as the document has it, in the code.
-/
import Derived.Test.YtacbjhbiaaieoaaGreatDoorTzQ9
import Derived.Test.YtacbjhbiaaieoaaGreatDoorTzKf
namespace Go.Proofs.YtacbjhbiaaieoaaGreatDoor
set_option linter.unusedVariables false
set_option linter.unusedSimpArgs false
set_option maxRecDepth 100000
open Go.RowKit

/-- The struct as the function's own variable. -/
structure OneS (w : World) (sn : List UInt8) (ma : Option Addr) (ML mc : Nat) (wr : World) : Prop where
  bel : Below w.heap.size w wr
  blk : wr.heap[w.heap.size]? = some (.cells #[.string ⟨sn.toArray⟩, .slice ma ML mc] 61)
theorem OneS.next {w : World} {sn : List UInt8} {ma : Option Addr} {ML mc : Nat} {wr w' : World} (h : OneS w sn ma ML mc wr) (hb : Below wr.heap.size wr w') : OneS w sn ma ML mc w' := ⟨below_on h.bel hb h.bel.size, blk_next h.blk hb⟩
theorem OneS.drew {w : World} {sn : List UInt8} {ma : Option Addr} {ML mc : Nat} {wr : World} (h : OneS w sn ma ML mc wr) : OneS w sn ma ML mc wr.drew := ⟨h.bel.drew, h.blk⟩
theorem OneS.drewN {w : World} {sn : List UInt8} {ma : Option Addr} {ML mc : Nat} {wr : World} (h : OneS w sn ma ML mc wr) (k : Nat) : OneS w sn ma ML mc (wr.drewN k) := ⟨below_drewN h.bel k, h.blk⟩
theorem OneS.cell0 {w : World} {sn : List UInt8} {ma : Option Addr} {ML mc : Nat} {wr : World} (h : OneS w sn ma ML mc wr) : wr.cell? ⟨w.heap.size, 0, none⟩ = some (.string ⟨sn.toArray⟩) := by rw [Lib.cell_of_heap h.blk]; rfl
theorem OneS.cell1 {w : World} {sn : List UInt8} {ma : Option Addr} {ML mc : Nat} {wr : World} (h : OneS w sn ma ML mc wr) : wr.cell? ⟨w.heap.size, 1, none⟩ = some (.slice ma ML mc) := by rw [Lib.cell_of_heap h.blk]; rfl
theorem findS_no {L : List LayP} {S : List StP} (h : MtL L S) {n : List UInt8} (hn : ∀ (j : Nat) (y : StP), S[j]? = some y → (y.name == n) = false) : findL L n = none := by
  cases hf : findL L n with
  | none => rfl
  | some x =>
    obtain ⟨i, h1, h2, h3⟩ := find_idx hf
    obtain ⟨y, g1, g2⟩ := mt_name h h1
    have := hn i y g1
    rw [g2, h2] at this
    simp at this
theorem findS_yes {L : List LayP} {S : List StP} (h : MtL L S) (hl : L.length = S.length) {n : List UInt8} {q : Nat} {s : StP} (hs : S[q]? = some s) (hn : (s.name == n) = true) : (findL L n).isSome = true := by
  have hq : q < L.length := by rw [hl]; exact (List.getElem?_eq_some_iff.1 hs).1
  obtain ⟨y, g1, g2⟩ := mt_name h (List.getElem?_eq_getElem hq)
  rw [hs] at g1
  cases g1
  unfold findL
  rw [List.find?_isSome]
  exact ⟨L[q], List.getElem_mem hq, by rw [← g2]; exact hn⟩
theorem has_map (M : List MemP) (n : List UInt8) : hasM M n = (M.map MemP.name).any (· == n) := by
  unfold hasM
  rw [List.any_map]
  rfl
theorem has_no {M : List MemP} {sm : List (List UInt8 × List UInt8)} {p : Nat} (hx : M.map MemP.name = (sm.take p).map Prod.fst) {n : List UInt8} (h : ∀ (j : Nat) (y : List UInt8 × List UInt8), j < p → sm[j]? = some y → (y.1 == n) = false) : hasM M n = false := by
  rw [has_map, hx, List.any_map]
  rw [List.any_eq_false]
  intro y hy
  obtain ⟨j, hj⟩ := List.getElem?_of_mem hy
  have hjp : j < p := by
    have := (List.getElem?_eq_some_iff.1 hj).1
    rw [List.length_take] at this
    omega
  rw [List.getElem?_take_of_lt hjp] at hj
  have := h j y hjp hj
  simpa using this
theorem has_yes {M : List MemP} {sm : List (List UInt8 × List UInt8)} {p : Nat} (hx : M.map MemP.name = (sm.take p).map Prod.fst) {n : List UInt8} {k : Nat} {y : List UInt8 × List UInt8} (hk : k < p) (hy : sm[k]? = some y) (h : (y.1 == n) = true) : hasM M n = true := by
  rw [has_map, hx, List.any_map]
  rw [List.any_eq_true]
  exact ⟨y, List.mem_of_getElem? (by rw [List.getElem?_take_of_lt hk]; exact hy), h⟩
theorem oja_ne {L : List LayP} {l : List UInt8} (h : rgA L l ≠ 0) : ojA L l = rgA L l := by
  unfold ojA
  unfold rgA at h ⊢
  cases ht : tk l with
  | none => rfl
  | some t =>
    rw [ht] at h
    show ojT L t = rgT L t
    unfold ojT
    rw [if_neg h]
theorem oja_eq {L : List LayP} {l : List UInt8} (h : rgA L l = 0) : ∃ t, tk l = some t ∧ l = t.code ∧ ojA L l = if objI t.letter.toNat = true then 0 else 5 := by
  unfold ojA
  unfold rgA at h
  cases ht : tk l with
  | none => rw [ht] at h; cases h
  | some t =>
    rw [ht] at h
    refine ⟨t, rfl, (tk_some ht).2.1, ?_⟩
    show ojT L t = _
    unfold ojT
    rw [if_pos h]
theorem goM_step (L : List LayP) (x : AcP) (m : List UInt8 × List UInt8) (ms : List (List UInt8 × List UInt8)) : goM L x (m :: ms) = if memE L x.mems m = 0 then goM L (addM L x m) ms else (memE L x.mems m, x) := by
  rw [goM]
theorem OneS.app {w : World} {sn : List UInt8} {ma : Option Addr} {ML mc : Nat} {wr : World} (h : OneS w sn ma ML mc wr) (o : Obj) {w' : World} (hg : (wr.alloc o).drew.grownBy w' (some wr.heap.size)) : OneS w sn ma ML mc w' := by
  have hlt : w.heap.size < wr.heap.size := (Array.getElem?_eq_some_iff.1 h.blk).1
  have h1 : OneS w sn ma ML mc (wr.alloc o).drew := OneS.drew (h.next (below_a wr o))
  refine ⟨h1.bel.grown hg h1.bel.size (fun k hk => by simp at hk; omega), ?_⟩
  rw [hg.block w.heap.size (by show w.heap.size < (wr.alloc o).heap.size; simp; omega) (by simp; omega)]
  exact h1.blk
theorem OneS.app2 {w : World} {sn : List UInt8} {ma : Option Addr} {ML mc : Nat} {wr : World} (h : OneS w sn ma ML mc wr) (o o' : Obj) {w' : World} (hg : ((wr.alloc o).alloc o').drew.grownBy w' (some wr.heap.size)) : OneS w sn ma ML mc w' := by
  have hlt : w.heap.size < wr.heap.size := (Array.getElem?_eq_some_iff.1 h.blk).1
  have h1 : OneS w sn ma ML mc ((wr.alloc o).alloc o').drew := OneS.drew ((h.next (below_a wr o)).next (below_a _ o'))
  refine ⟨h1.bel.grown hg h1.bel.size (fun k hk => by simp at hk; omega), ?_⟩
  rw [hg.block w.heap.size (by show w.heap.size < ((wr.alloc o).alloc o').heap.size; simp; omega) (by simp; omega)]
  exact h1.blk
theorem OneS.app3 {w : World} {sn : List UInt8} {ma : Option Addr} {ML mc : Nat} {wr : World} (h : OneS w sn ma ML mc wr) (o o' : Obj) {w' : World} (hg : ((wr.alloc o).alloc o').drew.grownBy w' (some (wr.heap.size + 1))) : OneS w sn ma ML mc w' := by
  have hlt : w.heap.size < wr.heap.size := (Array.getElem?_eq_some_iff.1 h.blk).1
  have h1 : OneS w sn ma ML mc ((wr.alloc o).alloc o').drew := OneS.drew ((h.next (below_a wr o)).next (below_a _ o'))
  refine ⟨h1.bel.grown hg h1.bel.size (fun k hk => by simp at hk; omega), ?_⟩
  rw [hg.block w.heap.size (by show w.heap.size < ((wr.alloc o).alloc o').heap.size; simp; omega) (by simp; omega)]
  exact h1.blk
theorem OneS.grow {w : World} {sn : List UInt8} {ma : Option Addr} {ML mc : Nat} {wx w92 : World} {v : Value} {Y n : Nat} {T : TypeId} {xs : List Value} (h : OneS w sn ma ML mc wx) (hg : wx.grownBy w92 v.ownBlock) (hown : wx.ownsRow Y T 2 v n xs) (hY : w.heap.size < Y) : OneS w sn ma ML mc w92 := by
  have hlt : w.heap.size < wx.heap.size := (Array.getElem?_eq_some_iff.1 h.blk).1
  refine ⟨h.bel.grown hg h.bel.size (fun k hk => by have := (hown.lt k hk).1; omega), ?_⟩
  rw [hg.block w.heap.size hlt (fun e => by have := (hown.lt _ e.symm).1; omega)]
  exact h.blk
theorem in_last {w w92 : World} {X N : Nat} {v92 : Value} {P : List (StP × Value)} {S : List StP} (hP1 : P.map Prod.fst = S) (hP2 : ∀ p ∈ P, MvIn w p) (hN : P.length = N) (hb : Below w.heap.size w w92) (sn : List UInt8) (sm : List (List UInt8 × List UInt8)) (ma : Option Addr) (ML mc : Nat) (hML : sm.length = ML) (hM : MmIn sm ma w92)
    (hown : w92.ownsRow X 61 2 v92 (N + 1) (rowS P ++ [.string ⟨sn.toArray⟩, .slice ma ML mc])) : ∃ a c, v92 = .slice a (N + 1) c ∧ StIn (S ++ [⟨sn, sm⟩]) a w92 := by
  have hl : (P ++ [((⟨sn, sm⟩ : StP), Value.slice ma ML mc)]).length = N + 1 := by simp [hN]
  obtain ⟨a, c, h1, h2⟩ := in_of_row (w := w92) (X := X) (v := v92) (P := P ++ [((⟨sn, sm⟩ : StP), Value.slice ma ML mc)]) (by rw [hl, rowS_snoc]; exact hown) (fun p hp => by
    rcases List.mem_append.1 hp with hp | hp
    · exact (hP2 p hp).next hb
    · rw [List.mem_singleton] at hp
      subst hp
      exact ⟨ma, mc, by rw [hML], hM⟩)
  rw [hl] at h1
  rw [List.map_append, hP1] at h2
  exact ⟨a, c, h1, h2⟩
set_option maxHeartbeats 16000000 in
theorem c_rone (L : List LayP) (hL : GdL L) (S : List StP) (hS : SzS S) (hSl : S.length ≤ 64) (hm : MtL L S) (hLS : L.length = S.length) (s : StP) (hs1 : s.name.length ≤ 9223372036854775807) (hs2 : ∀ m ∈ s.mems, m.1.length ≤ 9223372036854775807 ∧ m.2.length ≤ 9223372036854775807) (hsl : s.mems.length ≤ 4503599627370496) (b off c : Nat) (ma : Option Addr) (mc : Nat) (w : World) (hI : StIn S (some ⟨b, off, none⟩) w) (hM : MmIn s.mems ma w) :
    Calls Tryz.prog 45 #[.agg #[.string ⟨s.name.toArray⟩, .slice ma s.mems.length mc], .slice (some ⟨b, off, none⟩) S.length c] w fun e w' => e = .returned (.int .i64 (nxE L s : Nat)) ∧ Below w.heap.size w w' := by
  have HN := Lib.hid (fun w => c_bName s.name w hs1)
  have HSt := Lib.hid (fun w' (hb : Below w.heap.size w w') => hI.next hb)
  have HMm := Lib.hid (fun w' (hb : Below w.heap.size w w') => hM.next hb)
  have HC := Lib.hid (And.intro hL (And.intro hS (And.intro hSl (And.intro hm (And.intro hLS (And.intro hs2 hsl))))))
  have HNx : Hid (nxE L s = if nameB s.name = true then if (findL L s.name).isSome = true then 6 else if 64 < s.mems.length then 3 else if s.mems = [] then 5 else if (goM L ac0 s.mems).1 = 0 then if 65536 < upN (goM L ac0 s.mems).2.b (goM L ac0 s.mems).2.a then 3 else 0 else (goM L ac0 s.mems).1 else 2) := rfl
  obtain ⟨sn, sm⟩ := s
  simp only at HN HMm HC HNx
  obtain ⟨R, hR⟩ : ∃ R, nxE L ⟨sn, sm⟩ = R := ⟨_, rfl⟩
  obtain ⟨qn, hqn⟩ : ∃ q, nameB sn = q := ⟨_, rfl⟩
  have HQn := Lib.hid hqn
  rw [hqn] at HN
  rw [hqn, hR] at HNx
  rw [hR]
  obtain ⟨N, hN1⟩ : ∃ N, S.length = N := ⟨_, rfl⟩
  have HN1 := Lib.hid hN1
  obtain ⟨ML, hML⟩ : ∃ ML, sm.length = ML := ⟨_, rfl⟩
  have HML := Lib.hid hML
  rw [hML] at HNx
  show Calls _ _ #[.agg #[.string ⟨sn.toArray⟩, .slice ma sm.length mc], _] _ _
  rw [hML, hN1]
  clear hI hM hL hS hSl hm hLS hs1 hs2 hsl hqn hR hN1 hML
  go_enter Tryz.func45, Tryz.ntmps45
  go_wp2_with fail
  have HA := Lib.hid (below_a w (.cells #[.string ⟨sn.toArray⟩, .slice ma ML mc] 61))
  have HA2 := Lib.hid (heap_alloc_new w (.cells #[.string ⟨sn.toArray⟩, .slice ma ML mc] 61))
  refine (HN.out _).mono ?_
  rintro e w1 ⟨rfl, hb⟩
  have HO : Hid (OneS w sn ma ML mc w1) := OneS.next ⟨HA.out, HA2.out⟩ hb
  clear hb HA HA2
  cases qn
  · have hRv : R = 2 := HNx.out
    clear HNx
    subst hRv
    go_wp2_with fail
    go_ret
    exact ⟨rfl, HO.out.bel⟩
  · have HNy : Hid (R = if (findL L sn).isSome = true then 6 else if 64 < ML then 3 else if sm = [] then 5 else if (goM L ac0 sm).1 = 0 then if 65536 < upN (goM L ac0 sm).2.b (goM L ac0 sm).2.a then 3 else 0 else (goM L ac0 sm).1) := HNx.out
    clear HNx
    go_wp2_with fail
    go_loopg [5] N (fun g v5 wr => ∃ q : Nat, q + g = N ∧ v5 = .int .i64 (q : Int) ∧ Hid (OneS w sn ma ML mc wr ∧ ∀ (j : Nat) (y : StP), j < q → S[j]? = some y → (y.name == sn) = false))
    case atStart => exact ⟨0, by omega, rfl, HO.out, fun j y hj => by omega⟩
    case round =>
      obtain ⟨q, hq, rfl, HRl⟩ := hrel
      have c0 := HRl.out.1.cell0
      have hlw : w.heap.size < wr.heap.size := (Array.getElem?_eq_some_iff.1 HRl.out.1.blk).1
      by_cases hlt : q < N
      · have hd : decide ((q : Int) < (N : Int)) = true := by simp; omega
        obtain ⟨y, hy⟩ : ∃ y, S[q]? = some y := ⟨_, List.getElem?_eq_getElem (by have := HN1.out; omega)⟩
        obtain ⟨gb, gof, hgab, hgb, hrow⟩ := HSt.out wr HRl.out.1.bel (by have := HN1.out; omega)
        obtain ⟨ya, yc, g0, g1, hmm⟩ := hrow q y hy
        have HS1 := Lib.hid hy
        obtain ⟨yn, hyn⟩ : ∃ x, y.name = x := ⟨_, rfl⟩
        rw [hyn] at g0
        have HSn := Lib.hid hyn
        have hq0 : (0 : Int) ≤ (q : Int) := by omega
        have hql : (q : Int) < (N : Int) := by omega
        have hwm : IntKind.i64.wrap ((q : Int) + 1) = ((q + 1 : Nat) : Int) := by rw [IntKind.wrap_i64]; have := HC.out.2.2.1; have := HN1.out; omega
        have HM : Hid (N - (q + 1) < gk ∧ q + 1 + (N - (q + 1)) = N) := ⟨by omega, by omega⟩
        cases hgab
        clear hrow hy hmm hyn g1
        cases hne : (yn == sn)
        · have HN5 : Hid (∀ k, OneS w sn ma ML mc (wr.drewN k) ∧ ∀ (j : Nat) (y : StP), j < q + 1 → S[j]? = some y → (y.name == sn) = false) := fun k => ⟨HRl.out.1.drewN k, fun j y hj hy => by
            by_cases e : j = q
            · subst e
              rw [HS1.out] at hy
              cases hy
              rw [HSn.out]
              exact hne
            · exact HRl.out.2 j y (by omega) hy⟩
          go_wp2_with fail
          go_quiet (fail)
          go_wp2_with fail
          go_roundg (N - (q + 1))
          case measure => exact HM.out.1
          case rel => exact ⟨q + 1, HM.out.2, rfl, HN5.out _⟩
        · have hRv : R = 6 := HNy.out.trans (if_pos (findS_yes HC.out.2.2.2.1 HC.out.2.2.2.2.1 HS1.out (by rw [HSn.out]; exact hne)))
          clear HNy
          subst hRv
          go_wp2_with fail
          go_quiet (fail)
          go_wp2_with fail
          go_ret
          exact ⟨rfl, (HRl.out.1.drewN _).bel⟩
      · have hd : decide ((q : Int) < (N : Int)) = false := by simp; omega
        have hdn : decide (q < N) = false := by simp; omega
        have HF : Hid (findL L sn = none) := findS_no HC.out.2.2.2.1 (fun j y hy => HRl.out.2 j y (by have := (List.getElem?_eq_some_iff.1 hy).1; have := HN1.out; omega) hy)
        have HNz : Hid (R = if 64 < ML then 3 else if sm = [] then 5 else if (goM L ac0 sm).1 = 0 then if 65536 < upN (goM L ac0 sm).2.b (goM L ac0 sm).2.a then 3 else 0 else (goM L ac0 sm).1) := HNy.out.trans (if_neg (by rw [HF.out]; simp))
        have HO1 := Lib.hid HRl.out.1
        have c1 := HRl.out.1.cell1
        clear HNy HRl HO hq hlt
        by_cases h64 : 64 < ML
        · have hd4 : decide ((64 : Int) < (ML : Int)) = true := by simp; omega
          have hRv : R = 3 := HNz.out.trans (if_pos h64)
          clear HNz h64
          subst hRv
          go_wp2_with fail
          go_ret
          exact ⟨rfl, HO1.out.bel⟩
        · have hd4 : decide ((64 : Int) < (ML : Int)) = false := by simp; omega
          by_cases h0 : ML = 0
          · have hz : sm = [] := List.eq_nil_of_length_eq_zero (by rw [HML.out]; exact h0)
            have hRv : R = 5 := HNz.out.trans ((if_neg h64).trans (if_pos hz))
            subst h0
            clear HNz h64 hz
            subst hRv
            go_wp2_with fail
            go_ret
            exact ⟨rfl, HO1.out.bel⟩
          · have hd0 : ((ML : Int) == 0) = false := by simp; omega
            have hz : ¬ sm = [] := fun e => h0 (by rw [← HML.out, e]; rfl)
            have HGo : Hid (R = if (goM L ac0 sm).1 = 0 then if 65536 < upN (goM L ac0 sm).2.b (goM L ac0 sm).2.a then 3 else 0 else (goM L ac0 sm).1) := HNz.out.trans ((if_neg h64).trans (if_neg hz))
            have H64 := Lib.hid (And.intro h64 hz)
            clear HNz h64 h0 hz
            go_wp2_with fail
            clear c0 c1 hd hdn hd4 hd0 hlw
            go_loopg [6] ML (fun g v6 wr => ∃ q : Nat, q + g = ML ∧ v6 = .int .i64 (q : Int) ∧ Hid (OneS w sn ma ML mc wr ∧ ∃ x : AcP, goM L ac0 sm = goM L x (sm.drop q) ∧ x.mems.map MemP.name = (sm.take q).map Prod.fst))
            case atStart => exact ⟨0, by omega, rfl, HO1.out, ac0, rfl, rfl⟩
            case round =>
              obtain ⟨p, hp, rfl, HRm⟩ := hrel
              have c1 := HRm.out.1.cell1
              have hlw : w.heap.size < wr.heap.size := (Array.getElem?_eq_some_iff.1 HRm.out.1.blk).1
              by_cases hlt : p < ML
              · have hd : decide ((p : Int) < (ML : Int)) = true := by simp; omega
                have hdn : decide (p < ML) = true := by simp; omega
                obtain ⟨m, hmm⟩ : ∃ m, sm[p]? = some m := ⟨_, List.getElem?_eq_getElem (by have := HML.out; omega)⟩
                obtain ⟨gb, gof, hgab, hgb, hrow⟩ := HMm.out wr HRm.out.1.bel (by have := HML.out; omega)
                obtain ⟨g0, g1⟩ := hrow p m hmm
                have HMem := Lib.hid hmm
                obtain ⟨m1, m2⟩ := m
                simp only at g0 g1
                have hq0 : (0 : Int) ≤ (p : Int) := by omega
                have hql : (p : Int) < (ML : Int) := by omega
                have hwm : IntKind.i64.wrap ((p : Int) + 1) = ((p + 1 : Nat) : Int) := by rw [IntKind.wrap_i64]; have := H64.out.1; omega
                have HM : Hid (ML - (p + 1) < gk ∧ p + 1 + (ML - (p + 1)) = ML) := ⟨by omega, by omega⟩
                subst hgab
                clear hrow hmm
                go_wp2_with fail
                obtain ⟨x, hx1, hx2⟩ := HRm.out.2
                rw [List.drop_eq_getElem_cons (by have := HML.out; omega), show sm[p]'(by have := HML.out; omega) = (m1, m2) by have := HMem.out; rw [List.getElem?_eq_some_iff] at this; exact this.2, goM_step] at hx1
                have hme : memE L x.mems (m1, m2) = if nameB m1 = true then if hasM x.mems m1 = true then 6 else ojA L m2 else 2 := rfl
                obtain ⟨E, hE⟩ : ∃ E, memE L x.mems (m1, m2) = E := ⟨_, rfl⟩
                rw [hE] at hx1 hme
                have HE : Hid (E ≠ 0 → R = E) := fun h => by
                  rw [if_neg h] at hx1
                  rw [HGo.out, hx1]
                  exact if_neg h
                have HZ : Hid (E = 0 → ∃ x : AcP, goM L ac0 sm = goM L x (sm.drop (p + 1)) ∧ x.mems.map MemP.name = (sm.take (p + 1)).map Prod.fst) := fun h => ⟨addM L x (m1, m2), by rw [hx1, if_pos h], by
                  rw [List.take_add_one, HMem.out]
                  show (x.mems ++ [_]).map MemP.name = _
                  rw [List.map_append, hx2, List.map_append]
                  rfl⟩
                have HMe := Lib.hid hme
                have HX2 := Lib.hid hx2
                clear hx1 hme hx2 hE
                have hr2 := HC.out.2.2.2.2.2.1 _ (List.mem_of_getElem? HMem.out)
                have HNm := Lib.hid (fun w => c_bName m1 w hr2.1)
                have HCk := Lib.hid (fun w' (hb : Below w.heap.size w w') => c_rcheck L HC.out.1 S HC.out.2.1 (Nat.le_trans HC.out.2.2.1 (by decide)) HC.out.2.2.2.1 HC.out.2.2.2.2.1 m2 hr2.2 (some ⟨b, off, none⟩) c w' (HSt.out w' hb))
                rw [HN1.out] at HCk
                obtain ⟨qm, hqm⟩ : ∃ q, nameB m1 = q := ⟨_, rfl⟩
                rw [hqm] at HNm HMe
                have HAm := Lib.hid (below_a wr (.cells #[.string ⟨m1.toArray⟩, .string ⟨m2.toArray⟩] 77))
                have HY := Lib.hid (heap_alloc_new wr (.cells #[.string ⟨m1.toArray⟩, .string ⟨m2.toArray⟩] 77))
                have HO4 := Lib.hid (HRm.out.1.next HAm.out)
                clear c1 hlw g0 g1 hr2 hqm hd hdn HRm HAm HO1
                refine (HNm.out _).mono ?_
                rintro e w4 ⟨rfl, hb⟩
                have HO5 := Lib.hid (HO4.out.next hb)
                have HY5 := Lib.hid (blk_next HY.out hb)
                clear hb HO4 HY HNm
                obtain ⟨Y, hY⟩ : ∃ Y, wr.heap.size = Y := ⟨_, rfl⟩
                rw [hY] at HY5 ⊢
                clear hY
                cases qm
                · have hE2 : E = 2 := HMe.out
                  have hRv : R = 2 := by rw [← hE2]; exact HE.out (by omega)
                  clear HE HZ HMe HGo
                  subst hRv
                  go_wp2_with fail
                  go_ret
                  exact ⟨rfl, HO5.out.bel⟩
                · have HMf : Hid (E = if hasM x.mems m1 = true then 6 else ojA L m2) := HMe.out
                  clear HMe
                  go_wp2_with fail
                  have HP := Lib.hid (And.intro hq0 (And.intro hql hwm))
                  clear hq0 hql hwm hp hgb
                  go_loopg [8] p (fun g v8 wr => ∃ k : Nat, k + g = p ∧ v8 = .int .i64 (k : Int) ∧ Hid (OneS w sn (some ⟨gb, gof, none⟩) ML mc wr ∧ wr.heap[Y]? = some (.cells #[.string ⟨m1.toArray⟩, .string ⟨m2.toArray⟩] 77) ∧ ∀ (j : Nat) (y : List UInt8 × List UInt8), j < k → sm[j]? = some y → (y.1 == m1) = false))
                  case atStart => exact ⟨0, by omega, rfl, HO5.out, HY5.out, fun j y hj => by omega⟩
                  case round =>
                    obtain ⟨k, hk, rfl, HRk⟩ := hrel
                    have c1 := HRk.out.1.cell1
                    have hlw : w.heap.size < wr.heap.size := (Array.getElem?_eq_some_iff.1 HRk.out.1.blk).1
                    have y0 : wr.cell? ⟨Y, 0, none⟩ = some (.string ⟨m1.toArray⟩) := by rw [Lib.cell_of_heap HRk.out.2.1]; rfl
                    have y1 : wr.cell? ⟨Y, 1, none⟩ = some (.string ⟨m2.toArray⟩) := by rw [Lib.cell_of_heap HRk.out.2.1]; rfl
                    have hlY : Y < wr.heap.size := (Array.getElem?_eq_some_iff.1 HRk.out.2.1).1
                    by_cases hlt2 : k < p
                    · have hd : decide ((k : Int) < (p : Int)) = true := by simp; omega
                      have hdn : decide (k < p) = true := by simp; omega
                      obtain ⟨⟨n1, n2⟩, hnn⟩ : ∃ m, sm[k]? = some m := ⟨_, List.getElem?_eq_getElem (by have := HML.out; omega)⟩
                      obtain ⟨gb2, gof2, hgab2, hgb2, hrow2⟩ := HMm.out wr HRk.out.1.bel (by have := HML.out; omega)
                      cases hgab2
                      obtain ⟨g0, g1⟩ := hrow2 k (n1, n2) hnn
                      have HNk := Lib.hid hnn
                      simp only at g0 g1
                      have hq0 : (0 : Int) ≤ (k : Int) := by omega
                      have hql : (k : Int) < (p : Int) := by omega
                      have hqM : (k : Int) < (ML : Int) := by omega
                      have hwm : IntKind.i64.wrap ((k : Int) + 1) = ((k + 1 : Nat) : Int) := by rw [IntKind.wrap_i64]; have := H64.out.1; omega
                      have HMk : Hid (p - (k + 1) < gk ∧ k + 1 + (p - (k + 1)) = p) := ⟨by omega, by omega⟩
                      clear hrow2 hnn g1 y1
                      cases hne : (n1 == m1)
                      · have HN5 : Hid (∀ i, OneS w sn (some ⟨gb, gof, none⟩) ML mc (wr.drewN i) ∧ (wr.drewN i).heap[Y]? = some (.cells #[.string ⟨m1.toArray⟩, .string ⟨m2.toArray⟩] 77) ∧ ∀ (j : Nat) (y : List UInt8 × List UInt8), j < k + 1 → sm[j]? = some y → (y.1 == m1) = false) := fun i => ⟨HRk.out.1.drewN i, HRk.out.2.1, fun j y hj hy => by
                          by_cases e : j = k
                          · subst e
                            rw [HNk.out] at hy
                            cases hy
                            exact hne
                          · exact HRk.out.2.2 j y (by omega) hy⟩
                        go_wp2_with fail
                        go_quiet (fail)
                        go_wp2_with fail
                        go_roundg (p - (k + 1))
                        case measure => exact HMk.out.1
                        case rel => exact ⟨k + 1, HMk.out.2, rfl, HN5.out _⟩
                      · have hE2 : E = 6 := HMf.out.trans (if_pos (has_yes HX2.out hlt2 HNk.out hne))
                        have hRv : R = 6 := by rw [← hE2]; exact HE.out (by omega)
                        clear HE HZ HMf HGo
                        subst hRv
                        go_wp2_with fail
                        go_quiet (fail)
                        go_wp2_with fail
                        go_ret
                        exact ⟨rfl, (HRk.out.1.drewN _).bel⟩
                    · have hd : decide ((k : Int) < (p : Int)) = false := by simp; omega
                      have hdn : decide (k < p) = false := by simp; omega
                      have HMg : Hid (E = ojA L m2) := HMf.out.trans (if_neg (by rw [has_no HX2.out fun j y hj hy => HRk.out.2.2 j y (by omega) hy]; simp))
                      clear HMf
                      obtain ⟨Z, hZ⟩ : ∃ Z, rgA L m2 = Z := ⟨_, rfl⟩
                      rw [hZ] at HCk
                      have HZz := Lib.hid hZ
                      clear hZ
                      go_wp2_with fail
                      refine (HCk.out _ HRk.out.1.bel).mono ?_
                      rintro e w6 ⟨rfl, hb⟩
                      have HO6 := Lib.hid (HRk.out.1.next hb)
                      have HY6 := Lib.hid (blk_next HRk.out.2.1 hb)
                      clear c1 hlw y0 y1 hlY hb HRk HO5 HY5 hd hdn hlt2 hk
                      by_cases hz : Z = 0
                      · subst hz
                        obtain ⟨t, ht1, ht2, ht3⟩ := oja_eq HZz.out
                        subst ht2
                        have HOb := Lib.hid (c_robject t w6)
                        have HE3 : Hid (E = if objI t.letter.toNat = true then 0 else 5) := HMg.out.trans ht3
                        obtain ⟨qo, hqo⟩ : ∃ q, objI t.letter.toNat = q := ⟨_, rfl⟩
                        rw [hqo] at HOb HE3
                        have y1 : w6.cell? ⟨Y, 1, none⟩ = some (.string ⟨t.code.toArray⟩) := by rw [Lib.cell_of_heap HY6.out]; rfl
                        have hlY : Y < w6.heap.size := (Array.getElem?_eq_some_iff.1 HY6.out).1
                        clear ht3 ht1 hqo HMg
                        go_wp2_with fail
                        refine HOb.out.mono ?_
                        rintro e w7 ⟨rfl, rfl⟩
                        clear y1 hlY HOb
                        cases qo
                        · have hE2 : E = 5 := HE3.out
                          have hRv : R = 5 := by rw [← hE2]; exact HE.out (by omega)
                          clear HE HZ HGo
                          subst hRv
                          go_wp2_with fail
                          go_ret
                          exact ⟨rfl, HO6.out.bel⟩
                        · have hE2 : E = 0 := HE3.out
                          have HZ2 := Lib.hid (HZ.out hE2)
                          have hwm := HP.out.2.2
                          clear HE HZ
                          go_wp2_with fail
                          go_roundg (ML - (p + 1))
                          case measure => exact HM.out.1
                          case rel => exact ⟨p + 1, HM.out.2, rfl, HO6.out, HZ2.out⟩
                      · have hzn : ((Z : Int) == 0) = false := by simp; omega
                        have hE2 : E = Z := by rw [HMg.out, oja_ne (by rw [HZz.out]; exact hz), HZz.out]
                        have hRv : R = Z := by rw [← hE2]; exact HE.out (by omega)
                        clear HE HZ HMg HGo
                        subst hRv
                        go_wp2_with fail
                        go_ret
                        exact ⟨rfl, HO6.out.bel⟩
              · have hd : decide ((p : Int) < (ML : Int)) = false := by simp; omega
                have hdn : decide (p < ML) = false := by simp; omega
                have HGz : Hid ((goM L ac0 sm).1 = 0) := by
                  obtain ⟨x, hx1, _⟩ := HRm.out.2
                  show _ = _
                  rw [hx1, List.drop_eq_nil_of_le (by have := HML.out; omega)]
                  rfl
                have HRx : Hid (R = if 65536 < upN (goM L ac0 sm).2.b (goM L ac0 sm).2.a then 3 else 0) := HGo.out.trans (if_pos HGz.out)
                have HO2 := Lib.hid HRm.out.1
                have c0 := HRm.out.1.cell0
                clear HGo HRm hlt hp HO1
                go_wp2_with fail
                have hsn : sn.length ≤ 31 := (name_all (show (Ty.str sn).wf from HQn.out)).2.2.2
                have ha1 := add_s [83] sn (by simp; omega)
                have ha2 := add_s (83 :: sn) [59] (by simp; omega)
                have HSn := Lib.hid hsn
                have hlw : w.heap.size < wr.heap.size := (Array.getElem?_eq_some_iff.1 HO2.out.blk).1
                have hnN : N ≤ 64 := by rw [← HN1.out]; exact HC.out.2.2.1
                obtain ⟨P, hP1, hP2, hP3⟩ := row_of_in (HSt.out w (Below.refl _ _))
                have hPl : P.length = N := by rw [← HN1.out, ← hP1, List.length_map]
                have HP := Lib.hid (And.intro hP1 hP2)
                have HPl : Hid ((rowS P).length = N * 2) := by show _ = _; rw [rowS_len, hPl]
                have HP1 := Lib.hid (row_one w P hP2)
                have hba := HO2.out.next (below_a wr (.cells #[] 61))
                have HPc : Hid (∀ j u, (rowS P)[j]? = some u → (wr.alloc (.cells #[] 61)).drew.cell? ((⟨b, off, none⟩ : Addr).add j) = some u) := fun j u hu => by
                  obtain ⟨h1, h2⟩ := hP3 j u hu
                  have ea : (⟨b, off, none⟩ : Addr).add j = ⟨b, off + j, none⟩ := by unfold Addr.add; split <;> simp_all
                  rw [ea] at h2 ⊢
                  exact (cell_of_blk (hba.bel.block b h1) _).trans h2
                have hbb := hba.next (below_a _ (.cells #[.string ⟨sn.toArray⟩, .slice ma ML mc] 61))
                have HPd : Hid (∀ j u, (rowS P)[j]? = some u → ((wr.alloc (.cells #[] 61)).alloc (.cells #[.string ⟨sn.toArray⟩, .slice ma ML mc] 61)).drew.cell? ((⟨b, off, none⟩ : Addr).add j) = some u) := fun j u hu => by
                  obtain ⟨h1, h2⟩ := hP3 j u hu
                  have ea : (⟨b, off, none⟩ : Addr).add j = ⟨b, off + j, none⟩ := by unfold Addr.add; split <;> simp_all
                  rw [ea] at h2 ⊢
                  exact (cell_of_blk (hbb.bel.block b h1) _).trans h2
                have HOwF : Hid (((wr.alloc (.cells #[] 61)).alloc (.cells #[.string ⟨sn.toArray⟩, .slice ma ML mc] 61)).drew.ownsRow wr.heap.size 61 2 (.slice (some ⟨wr.heap.size, 0, none⟩) 0 0) 0 []) := (World.ownsRow_made wr #[] 0 (Nat.le_refl _) (by decide) rfl).alloc _
                have HBl : Hid (((wr.alloc (.cells #[] 61)).alloc (.cells #[.string ⟨sn.toArray⟩, .slice ma ML mc] 61)).drew.heap[wr.heap.size + 1]? = some (.cells #[.string ⟨sn.toArray⟩, .slice ma ML mc] 61)) := by
                  have h := heap_alloc_new (wr.alloc (.cells #[] 61)) (.cells #[.string ⟨sn.toArray⟩, .slice ma ML mc] 61)
                  rw [show (wr.alloc (.cells #[] 61)).heap.size = wr.heap.size + 1 by simp] at h
                  exact h
                have hbc := (HO2.out.next (below_a wr (.cells #[.string ⟨sn.toArray⟩, .slice ma ML mc] 61))).next (below_a _ (.cells #[] 61))
                have HPe : Hid (∀ j u, (rowS P)[j]? = some u → ((wr.alloc (.cells #[.string ⟨sn.toArray⟩, .slice ma ML mc] 61)).alloc (.cells #[] 61)).drew.cell? ((⟨b, off, none⟩ : Addr).add j) = some u) := fun j u hu => by
                  obtain ⟨h1, h2⟩ := hP3 j u hu
                  have ea : (⟨b, off, none⟩ : Addr).add j = ⟨b, off + j, none⟩ := by unfold Addr.add; split <;> simp_all
                  rw [ea] at h2 ⊢
                  exact (cell_of_blk (hbc.bel.block b h1) _).trans h2
                have HOwG : Hid (((wr.alloc (.cells #[.string ⟨sn.toArray⟩, .slice ma ML mc] 61)).alloc (.cells #[] 61)).drew.ownsRow wr.heap.size 61 2 (.slice (some ⟨wr.heap.size + 1, 0, none⟩) 0 0) 0 []) := by
                  have h := World.ownsRow_made (base := wr.heap.size) (size := 2) (e := 61) (wr.alloc (.cells #[.string ⟨sn.toArray⟩, .slice ma ML mc] 61)) #[] 0 (by simp) (by decide) rfl
                  rw [show (wr.alloc (.cells #[.string ⟨sn.toArray⟩, .slice ma ML mc] 61)).heap.size = wr.heap.size + 1 by simp] at h
                  exact h
                have HBm : Hid (((wr.alloc (.cells #[.string ⟨sn.toArray⟩, .slice ma ML mc] 61)).alloc (.cells #[] 61)).drew.heap[wr.heap.size]? = some (.cells #[.string ⟨sn.toArray⟩, .slice ma ML mc] 61)) := blk_next (heap_alloc_new wr (.cells #[.string ⟨sn.toArray⟩, .slice ma ML mc] 61)) (below_a _ _).drew
                have HOwE : Hid ((wr.alloc (.cells #[] 61)).drew.ownsRow wr.heap.size 61 2 (.slice (some ⟨wr.heap.size, 0, none⟩) 0 0) 0 []) := World.ownsRow_made wr #[] 0 (Nat.le_refl _) (by decide) rfl
                have HPL := Lib.hid hPl
                have HLw := Lib.hid hlw
                have HLa := Lib.hid (c_rlast L HC.out.1 S HC.out.2.1 HC.out.2.2.1 HC.out.2.2.2.1 HC.out.2.2.2.2.1 sn sm (by omega) HC.out.2.2.2.2.2.1 HC.out.2.2.2.2.2.2 HQn.out HF.out HGz.out H64.out.2)
                rw [HN1.out] at HLa
                obtain ⟨U, hU⟩ : ∃ U, upN (goM L ac0 sm).2.b (goM L ac0 sm).2.a = U := ⟨_, rfl⟩
                obtain ⟨V, hV⟩ : ∃ V, (goM L ac0 sm).2.a = V := ⟨_, rfl⟩
                rw [hU] at HRx HLa
                rw [hV] at HLa
                obtain ⟨i0, hi, hz0, hz1, hz2⟩ := info_parts infoSt
                clear hsn hP1 hP2 hP3 hPl hba hbb hbc hU hV hd hdn
                go_region_law (first
                  | (refine step_own _ (by rfl) _ _ _ (by rfl) wr.heap.size 61 i0 _ 2 40 Tryz.underlying23 hi hz0 hz1 hz2 rfl (by decide) (.slice (some ⟨wr.heap.size, 0, none⟩) 0 0) 0 [] (by simp [Act.eval, Act.put]) (by exact HOwE.out) ⟨b, off, none⟩ N c (rowS P) (by simp [Act.eval, Act.put]) HPl.out (by exact HPc.out) HP1.out (by unfold maxLen; omega) (by omega) (by simp) ?_
                     intro v91 w91 hown1 hgrow1
                     have HO91 := Lib.hid (HO2.out.app _ hgrow1)
                     have hc0 : ∀ o, (w91.alloc o).cell? ⟨w.heap.size, 0, none⟩ = some (.string ⟨sn.toArray⟩) := fun o => (HO91.out.next (below_a w91 o)).cell0
                     have hc1 : ∀ o, (w91.alloc o).cell? ⟨w.heap.size, 1, none⟩ = some (.slice ma ML mc) := fun o => (HO91.out.next (below_a w91 o)).cell1
                     have hd0 := HO91.out.cell0
                     have hd1 := HO91.out.cell1
                     have hl91 : w.heap.size < w91.heap.size := (Array.getElem?_eq_some_iff.1 HO91.out.blk).1
                     have hl92 : wr.heap.size ≤ w91.heap.size := by have := hgrow1.size; simp at this; omega
                     have HOw91 : Hid (∀ o, (w91.alloc o).ownsRow wr.heap.size 61 2 v91 N (rowS P)) := fun o => World.ownsRow.alloc (by rw [Nat.zero_add, List.nil_append] at hown1; exact hown1) o
                     have HNw91 : Hid (∀ (j : Nat) (u : Value), [Value.string ⟨sn.toArray⟩, .slice ma ML mc][j]? = some u → (w91.alloc (.cells #[.string ⟨sn.toArray⟩, .slice ma ML mc] 61)).cell? ((⟨w91.heap.size, 0, none⟩ : Addr).add j) = some u) := fun j u hu => World.news_of_block (heap_alloc_new w91 (.cells #[.string ⟨sn.toArray⟩, .slice ma ML mc] 61)) j u (by simpa using hu)
                     clear hown1 hgrow1)
                  | (refine step_own _ (by rfl) _ _ _ (by rfl) wr.heap.size 61 i0 _ 2 40 Tryz.underlying23 hi hz0 hz1 hz2 rfl (by decide) v91 N (rowS P) (by simp [Act.eval, Act.put]) (by exact HOw91.out _) ⟨w91.heap.size, 0, none⟩ 1 1 [.string ⟨sn.toArray⟩, .slice ma ML mc] (by simp [Act.eval, Act.put]) rfl (by exact HNw91.out) (fun u hu => by simp at hu; rcases hu with rfl | rfl <;> rfl) (by unfold maxLen; omega) (by omega) (by simp; omega) ?_
                     intro v92 w92 hown2 hgrow2
                     have HO92 := Lib.hid ((HO91.out.next (below_a w91 (.cells #[.string ⟨sn.toArray⟩, .slice ma ML mc] 61))).grow hgrow2 (HOw91.out _) HLw.out)
                     have HB92 := Lib.hid HO92.out.bel
                     have he0 := HO92.out.cell0
                     have hl93 : w.heap.size < w92.heap.size := (Array.getElem?_eq_some_iff.1 HO92.out.blk).1
                     obtain ⟨a92, c92, hv92, hI92⟩ := in_last HP.out.1 HP.out.2 HPL.out HB92.out sn sm ma ML mc HML.out (HMm.out w92 HB92.out) hown2
                     subst hv92
                     clear hown2 hgrow2)
                  | (refine step_own _ (by rfl) _ _ _ (by rfl) wr.heap.size 61 i0 _ 2 40 Tryz.underlying23 hi hz0 hz1 hz2 rfl (by decide) (.slice (some ⟨wr.heap.size, 0, none⟩) 0 0) 0 [] (by simp [Act.eval, Act.put]) (by exact HOwF.out) ⟨b, off, none⟩ N c (rowS P) (by simp [Act.eval, Act.put]) HPl.out (by exact HPd.out) HP1.out (by unfold maxLen; omega) (by omega) (by simp <;> omega) ?_
                     intro v91 w91 hown1 hgrow1
                     have HO91 := Lib.hid (HO2.out.app2 _ _ hgrow1)
                     have hd0 := HO91.out.cell0
                     have hd1 := HO91.out.cell1
                     have hl91 : w.heap.size < w91.heap.size := (Array.getElem?_eq_some_iff.1 HO91.out.blk).1
                     have HOw92 : Hid (w91.ownsRow wr.heap.size 61 2 v91 N (rowS P)) := by rw [Nat.zero_add, List.nil_append] at hown1; exact hown1
                     have hl92 : wr.heap.size ≤ w91.heap.size := by have := hgrow1.size; simp at this; omega
                     have HNw92 : Hid (∀ (j : Nat) (u : Value), [Value.string ⟨sn.toArray⟩, .slice ma ML mc][j]? = some u → w91.cell? ((⟨wr.heap.size + 1, 0, none⟩ : Addr).add j) = some u) := fun j u hu => World.news_of_block ((hgrow1.block (wr.heap.size + 1) (by simp) (by simp [Value.ownBlock])).trans HBl.out) j u (by simpa using hu)
                     clear hown1 hgrow1)
                  | (refine step_own _ (by rfl) _ _ _ (by rfl) wr.heap.size 61 i0 _ 2 40 Tryz.underlying23 hi hz0 hz1 hz2 rfl (by decide) v91 N (rowS P) (by simp [Act.eval, Act.put]) (by exact HOw92.out) ⟨wr.heap.size + 1, 0, none⟩ 1 1 [.string ⟨sn.toArray⟩, .slice ma ML mc] (by simp [Act.eval, Act.put]) rfl (by exact HNw92.out) (fun u hu => by simp at hu; rcases hu with rfl | rfl <;> rfl) (by unfold maxLen; omega) (by omega) (by omega) ?_
                     intro v92 w92 hown2 hgrow2
                     have HO92 := Lib.hid (HO91.out.grow hgrow2 HOw92.out HLw.out)
                     have HB92 := Lib.hid HO92.out.bel
                     have he0 := HO92.out.cell0
                     have hl93 : w.heap.size < w92.heap.size := (Array.getElem?_eq_some_iff.1 HO92.out.blk).1
                     obtain ⟨a92, c92, hv92, hI92⟩ := in_last HP.out.1 HP.out.2 HPL.out HB92.out sn sm ma ML mc HML.out (HMm.out w92 HB92.out) hown2
                     subst hv92
                     clear hown2 hgrow2)
                  | (refine step_own _ (by rfl) _ _ _ (by rfl) wr.heap.size 61 i0 _ 2 40 Tryz.underlying23 hi hz0 hz1 hz2 rfl (by decide) (.slice (some ⟨wr.heap.size + 1, 0, none⟩) 0 0) 0 [] (by simp [Act.eval, Act.put]) (by exact HOwG.out) ⟨b, off, none⟩ N c (rowS P) (by simp [Act.eval, Act.put]) HPl.out (by exact HPe.out) HP1.out (by unfold maxLen; omega) (by omega) (by simp <;> omega) ?_
                     intro v91 w91 hown1 hgrow1
                     have HO91 := Lib.hid (HO2.out.app3 _ _ hgrow1)
                     have hd0 := HO91.out.cell0
                     have hd1 := HO91.out.cell1
                     have hl91 : w.heap.size < w91.heap.size := (Array.getElem?_eq_some_iff.1 HO91.out.blk).1
                     have HOw93 : Hid (w91.ownsRow wr.heap.size 61 2 v91 N (rowS P)) := by rw [Nat.zero_add, List.nil_append] at hown1; exact hown1
                     have hl92 : wr.heap.size ≤ w91.heap.size := by have := hgrow1.size; simp at this; omega
                     have HNw93 : Hid (∀ (j : Nat) (u : Value), [Value.string ⟨sn.toArray⟩, .slice ma ML mc][j]? = some u → w91.cell? ((⟨wr.heap.size, 0, none⟩ : Addr).add j) = some u) := fun j u hu => World.news_of_block ((hgrow1.block wr.heap.size (by simp <;> omega) (by simp [Value.ownBlock])).trans HBm.out) j u (by simpa using hu)
                     clear hown1 hgrow1)
                  | (refine step_own _ (by rfl) _ _ _ (by rfl) wr.heap.size 61 i0 _ 2 40 Tryz.underlying23 hi hz0 hz1 hz2 rfl (by decide) v91 N (rowS P) (by simp [Act.eval, Act.put]) (by exact HOw93.out) ⟨wr.heap.size, 0, none⟩ 1 1 [.string ⟨sn.toArray⟩, .slice ma ML mc] (by simp [Act.eval, Act.put]) rfl (by exact HNw93.out) (fun u hu => by simp at hu; rcases hu with rfl | rfl <;> rfl) (by unfold maxLen; omega) (by omega) (by omega) ?_
                     intro v92 w92 hown2 hgrow2
                     have HO92 := Lib.hid (HO91.out.grow hgrow2 HOw93.out HLw.out)
                     have HB92 := Lib.hid HO92.out.bel
                     have he0 := HO92.out.cell0
                     have hl93 : w.heap.size < w92.heap.size := (Array.getElem?_eq_some_iff.1 HO92.out.blk).1
                     obtain ⟨a92, c92, hv92, hI92⟩ := in_last HP.out.1 HP.out.2 HPL.out HB92.out sn sm ma ML mc HML.out (HMm.out w92 HB92.out) hown2
                     subst hv92
                     clear hown2 hgrow2)
                  | (go_simp
                     go_at_call 50
                     refine (HLa.out _ _ _ hI92).mono ?_
                     rintro e w93 ⟨rfl, hb93⟩
                     have HB93 := Lib.hid (below_on HB92.out hb93 HB92.out.size)
                     clear hb93))
                all_goals
                  try clear hc0 hc1
                  try clear hd0 hd1 hl91
                  clear hl92 he0 hl93
                  by_cases hgr : 65536 < U
                  · have hd9 : decide ((65536 : Int) < ((min U 65537 : Nat) : Int)) = true := by simp; omega
                    have hRv : R = 3 := HRx.out.trans (if_pos hgr)
                    clear HRx
                    subst hRv
                    go_wp2_with fail
                    go_ret
                    exact ⟨rfl, HB93.out⟩
                  · have hd9 : decide ((65536 : Int) < ((min U 65537 : Nat) : Int)) = false := by simp; omega
                    have hRv : R = 0 := HRx.out.trans (if_neg hgr)
                    clear HRx
                    subst hRv
                    go_wp2_with fail
                    go_ret
                    exact ⟨rfl, HB93.out⟩
end Go.Proofs.YtacbjhbiaaieoaaGreatDoor
namespace Go.Proofs.YtacbjhbiaaieoaaGreatDoor
set_option linter.unusedVariables false
set_option linter.unusedSimpArgs false
set_option maxRecDepth 100000
open Go.RowKit

theorem mt_next {L : List LayP} {S : List StP} {q : Nat} {s : StP} (h : MtL L (S.take q)) (hl : L.length = q) (hs : S[q]? = some s) (hn : nxE L s = 0) : MtL (L ++ [nxL L s]) (S.take (q + 1)) := fun i x hx => by
  by_cases hi : i < q
  · rw [List.getElem?_append_left (by omega)] at hx
    obtain ⟨y, h1, h2, h3⟩ := h i x hx
    rw [List.getElem?_take_of_lt hi] at h1
    have e : (L ++ [nxL L s]).take i = L.take i := by rw [List.take_append_of_le_length (by omega)]
    exact ⟨y, by rw [List.getElem?_take_of_lt (by omega)]; exact h1, by rw [e]; exact h2, by rw [e]; exact h3⟩
  · have hil := (List.getElem?_eq_some_iff.1 hx).1
    rw [List.length_append, List.length_singleton] at hil
    obtain rfl : i = q := by omega
    have e : (L ++ [nxL L s]).take i = L := by rw [List.take_append_of_le_length (by omega), ← hl, List.take_length]
    rw [List.getElem?_append_right (by omega), show i - L.length = 0 by omega] at hx
    cases hx
    exact ⟨s, by rw [List.getElem?_take_of_lt (by omega)]; exact hs, by rw [e]; exact hn, by rw [e]⟩
/-- The structs that are laid out of the first ones. -/
structure GoI (S : List StP) (q : Nat) (L : List LayP) : Prop where
  len : L.length = q
  gd : GdL L
  mt : MtL L (S.take q)
  go : goS [] S = goS L (S.drop q)
theorem GoI.start (S : List StP) : GoI S 0 [] := ⟨rfl, gd0, (fun i x hx => by cases hx), rfl⟩
theorem GoI.next {S : List StP} {q : Nat} {L : List LayP} (h : GoI S q L) {s : StP} (hs : S[q]? = some s) (hn : nxE L s = 0) : GoI S (q + 1) (L ++ [nxL L s]) := by
  refine ⟨by rw [List.length_append, h.len]; rfl, h.gd.add hn, mt_next h.mt h.len hs hn, ?_⟩
  obtain ⟨hq, e⟩ := List.getElem?_eq_some_iff.1 hs
  rw [h.go, List.drop_eq_getElem_cons hq, e]
  show (if nxE L s = 0 then _ else _) = _
  rw [if_pos hn]
theorem GoI.stop {S : List StP} {q : Nat} {L : List LayP} (h : GoI S q L) {s : StP} (hs : S[q]? = some s) (hn : nxE L s ≠ 0) : goS [] S = (q, nxE L s, []) := by
  obtain ⟨hq, e⟩ := List.getElem?_eq_some_iff.1 hs
  rw [h.go, List.drop_eq_getElem_cons hq, e]
  show (if nxE L s = 0 then _ else _) = _
  rw [if_neg hn, h.len]
theorem GoI.all {S : List StP} {L : List LayP} (h : GoI S S.length L) : goS [] S = (0, 0, L) := by
  rw [h.go, List.drop_length]
  rfl
theorem goI_of (S : List StP) : ∀ (n q : Nat) (L : List LayP), q + n = S.length → GoI S q L → (goS [] S).2.1 = 0 → GoI S S.length (goS [] S).2.2
  | 0, q, L, hq, h, _ => by
    obtain rfl : q = S.length := by omega
    rw [h.all]
    exact h
  | n + 1, q, L, hq, h, h0 => by
    have hs : S[q]? = some S[q] := List.getElem?_eq_getElem (by omega)
    by_cases hn : nxE L S[q] = 0
    · exact goI_of S n (q + 1) _ (by omega) (h.next hs hn) h0
    · rw [h.stop hs hn] at h0
      exact absurd h0 hn
/-- What is laid out of right structs. -/
theorem lo_goI {S : List StP} (h : (loA S).2.1 = 0) : GoI S S.length (loA S).2.2 ∧ S.length ≤ 64 := by
  unfold loA at h ⊢
  split
  · rename_i h1
    rw [if_pos h1] at h
    cases h
  · rename_i h1
    rw [if_neg h1] at h
    exact ⟨goI_of S S.length 0 [] (by omega) (GoI.start S) h, by omega⟩
theorem lo_mt {S : List StP} (h : (loA S).2.1 = 0) : MtL (loA S).2.2 S ∧ (loA S).2.2.length = S.length ∧ S.length ≤ 64 := by
  obtain ⟨h1, h2⟩ := lo_goI h
  have h3 := h1.mt
  rw [List.take_length] at h3
  exact ⟨h3, h1.len, h2⟩
theorem StIn.take {S : List StP} {b off : Nat} {w : World} (h : StIn S (some ⟨b, off, none⟩) w) (q : Nat) : StIn (S.take q) (some ⟨b, off, none⟩) w := fun h0 => by
  have hl : 0 < S.length := by rw [List.length_take] at h0; omega
  obtain ⟨b', off', e, hb, hx⟩ := h hl
  refine ⟨b', off', e, hb, fun k s hk => hx k s ?_⟩
  have hkq : k < q := by
    have := (List.getElem?_eq_some_iff.1 hk).1
    rw [List.length_take] at this
    omega
  rwa [List.getElem?_take_of_lt hkq] at hk
theorem SzS.take {S : List StP} (h : SzS S) (q : Nat) : SzS (S.take q) := fun s hs => h s (List.mem_of_mem_take hs)
set_option maxHeartbeats 8000000 in
theorem c_rStructs (S : List StP) (a : Option Addr) (c : Nat) (hc : S.length ≤ c) (hS : SzS S) (hSl : S.length ≤ 4503599627370496) (w : World) (hI : StIn S a w) :
    Calls Tryz.prog 12 #[.slice a S.length c] w fun e w' => e = .returned (.agg #[.int .i64 (loA S).1, .int .i64 (loA S).2.1]) ∧ Below w.heap.size w w' := by
  obtain ⟨N, hN⟩ : ∃ N, S.length = N := ⟨_, rfl⟩
  have HN := Lib.hid hN
  have HLo : Hid (loA S = if 64 < N then (0, 3, []) else goS [] S) := by rw [← hN]; exact Lib.hid rfl
  have HSz := Lib.hid (And.intro hS hI)
  rw [hN] at hc ⊢
  obtain ⟨f0, f1, hf0, hf1⟩ : ∃ f0 f1 : Int, ((loA S).1 : Int) = f0 ∧ ((loA S).2.1 : Int) = f1 := ⟨_, _, rfl, rfl⟩
  rw [hf0, hf1]
  have HFs := Lib.hid (And.intro hf0 hf1)
  clear hS hSl hI hN hf0 hf1
  by_cases h64 : 64 < N
  · have hd : decide ((64 : Int) < (N : Int)) = true := by simp; omega
    have hv : loA S = (0, 3, []) := HLo.out.trans (if_pos h64)
    obtain rfl : f0 = 0 := by have := HFs.out.1; rw [hv] at this; exact this.symm
    obtain rfl : f1 = 3 := by have := HFs.out.2; rw [hv] at this; exact this.symm
    clear hv h64
    go_enter Tryz.func12, Tryz.ntmps12
    go_wp2_with fail
    refine bodyPost_ret (v := .agg #[.int .i64 0, .int .i64 3]) (by simp [results, Tryz.results12, go_sem]) rfl ?_
    exact ⟨rfl, below_a _ _⟩
  · have hd : decide ((64 : Int) < (N : Int)) = false := by simp; omega
    have hv : loA S = goS [] S := HLo.out.trans (if_neg h64)
    have HV := Lib.hid hv
    have H64 := Lib.hid h64
    clear hv h64
    go_enter Tryz.func12, Tryz.ntmps12
    go_wp2_with fail
    have HA := Lib.hid (And.intro (below_a w (.cells #[.int .i64 0, .int .i64 0] 27)) (heap_alloc_new w (.cells #[.int .i64 0, .int .i64 0] 27)))
    clear hd
    go_loopg [3] N (fun g v3 wr => ∃ q : Nat, q + g = N ∧ v3 = .int .i64 (q : Int) ∧ Hid (Below w.heap.size w wr ∧ wr.heap[w.heap.size]? = some (.cells #[.int .i64 0, .int .i64 0] 27) ∧ ∃ L, GoI S q L))
    case atStart => exact ⟨0, by omega, rfl, HA.out.1, HA.out.2, [], GoI.start S⟩
    case round =>
      obtain ⟨q, hq, rfl, HR⟩ := hrel
      have hlw : w.heap.size < wr.heap.size := (Array.getElem?_eq_some_iff.1 HR.out.2.1).1
      by_cases hlt : q < N
      · have hd : decide ((q : Int) < (N : Int)) = true := by simp; omega
        have hdn : decide (q < N) = true := by simp; omega
        obtain ⟨L, hG⟩ := HR.out.2.2
        obtain ⟨s, hs⟩ : ∃ s, S[q]? = some s := ⟨_, List.getElem?_eq_getElem (by have := HN.out; omega)⟩
        obtain ⟨gb, gof, hgab, hgb, hrow⟩ := HSz.out.2.next HR.out.1 (by have := HN.out; omega)
        obtain ⟨ma, mc, g0, g1, hmm⟩ := hrow q s hs
        have hsz := HSz.out.1 s (List.mem_of_getElem? hs)
        subst hgab
        have hq64 : q ≤ 64 := by have := H64.out; omega
        have htl : (S.take q).length = q := by rw [List.length_take]; have := HN.out; omega
        have HOne : Hid (∀ w' c, Below wr.heap.size wr w' → Calls Tryz.prog 45 #[.agg #[.string ⟨s.name.toArray⟩, .slice ma s.mems.length mc], .slice (some ⟨gb, gof, none⟩) q c] w' fun e w'' => e = .returned (.int .i64 (nxE L s : Nat)) ∧ Below w'.heap.size w' w'') := fun w' c hb => by
          have h := c_rone L hG.gd (S.take q) (HSz.out.1.take q) (by rw [htl]; exact hq64) hG.mt (by rw [hG.len, htl]) s hsz.1 hsz.2.1 hsz.2.2 gb gof c ma mc w' (((HSz.out.2.next HR.out.1).next hb).take q) (hmm.next hb)
          rw [htl] at h
          exact h
        have HG := Lib.hid (And.intro hG hs)
        obtain ⟨E, hE⟩ : ∃ E, nxE L s = E := ⟨_, rfl⟩
        have HE := Lib.hid hE
        rw [hE] at HOne
        obtain ⟨sn, hsn⟩ : ∃ sn, (⟨s.name.toArray⟩ : ByteArray) = sn := ⟨_, rfl⟩
        obtain ⟨ML, hML⟩ : ∃ ML, s.mems.length = ML := ⟨_, rfl⟩
        rw [hsn, hML] at HOne
        rw [hsn] at g0
        rw [hML] at g1
        have hqc : q ≤ c := by omega
        have hq0 : (0 : Int) ≤ (q : Int) := by omega
        have hql : (q : Int) < (N : Int) := by omega
        have hwm : IntKind.i64.wrap ((q : Int) + 1) = ((q + 1 : Nat) : Int) := by rw [IntKind.wrap_i64]; omega
        have HM : Hid (N - (q + 1) < gk ∧ q + 1 + (N - (q + 1)) = N) := ⟨by omega, by omega⟩
        clear hs hrow hmm hsz htl hE hsn hML hG hq64
        go_wp2_with fail
        go_region_law (first
          | (go_simp
             go_at_call 45
             refine (HOne.out _ _ ((Below.refl _ _).drew)).mono ?_
             rintro e w6 ⟨rfl, hb6⟩
             have HB6 := Lib.hid (And.intro (below_on HR.out.1.drew hb6 HR.out.1.size) (blk_next (w := wr.drew) HR.out.2.1 hb6))
             clear hb6))
        all_goals
          clear g0 g1 hlw
          have hl6 : w.heap.size < w6.heap.size := (Array.getElem?_eq_some_iff.1 HB6.out.2).1
          by_cases hz : E = 0
          · subst hz
            have HN5 := Lib.hid (HG.out.1.next HG.out.2 HE.out)
            go_wp2_with fail
            go_roundg (N - (q + 1))
            case measure => exact HM.out.1
            case rel => exact ⟨q + 1, HM.out.2, rfl, HB6.out.1, HB6.out.2, _, HN5.out⟩
          · have hzn : ((E : Int) == 0) = false := by simp; omega
            have hlo : loA S = (q, E, []) := by rw [HV.out, HG.out.1.stop HG.out.2 (by rw [HE.out]; exact hz), HE.out]
            obtain rfl : f0 = (q : Int) := by have := HFs.out.1; rw [hlo] at this; exact this.symm
            obtain rfl : f1 = (E : Int) := by have := HFs.out.2; rw [hlo] at this; exact this.symm
            clear hlo hz
            have r0 : w6.cell? ⟨w.heap.size, 0, none⟩ = some (.int .i64 0) := by rw [Lib.cell_of_heap HB6.out.2]; rfl
            have r1 : w6.cell? ⟨w.heap.size, 1, none⟩ = some (.int .i64 0) := by rw [Lib.cell_of_heap HB6.out.2]; rfl
            have rf0 := Lib.frozen_of_heap HB6.out.2 0
            have rf1 := Lib.frozen_of_heap HB6.out.2 1
            go_wp2_with fail
            have hst : Stp w.heap.size w6 ((w6.setCell ⟨w.heap.size, 0, none⟩ (.int .i64 q)).setCell ⟨w.heap.size, 1, none⟩ (.int .i64 E)) := (Stp.set w.heap.size 0 w6 _).trans (Stp.set w.heap.size 1 _ _)
            have hz9 : ((w6.setCell ⟨w.heap.size, 0, none⟩ (.int .i64 q)).setCell ⟨w.heap.size, 1, none⟩ (.int .i64 E)).heap[w.heap.size]? = some (.cells #[.int .i64 q, .int .i64 E] 27) := heap_setCell_same _ w.heap.size 1 _ _ _ (heap_setCell_same w6 w.heap.size 0 _ _ _ HB6.out.2)
            have hb9 := below_stp HB6.out.1 hst (Nat.le_refl _)
            clear hst
            generalize (w6.setCell ⟨w.heap.size, 0, none⟩ (.int .i64 q)).setCell ⟨w.heap.size, 1, none⟩ (.int .i64 E) = w9 at hb9 hz9 ⊢
            have p0 : w9.cell? ⟨w.heap.size, 0, none⟩ = some (.int .i64 q) := by rw [Lib.cell_of_heap hz9]; rfl
            have p1 : w9.cell? ⟨w.heap.size, 1, none⟩ = some (.int .i64 E) := by rw [Lib.cell_of_heap hz9]; rfl
            refine bodyPost_ret (v := .agg #[.int .i64 q, .int .i64 E]) (by simp [results, Tryz.results12, go_sem, p0, p1]) rfl ?_
            exact ⟨rfl, hb9⟩
      · have hd : decide ((q : Int) < (N : Int)) = false := by simp; omega
        have hdn : decide (q < N) = false := by simp; omega
        have hqN : q = N := by omega
        subst hqN
        obtain ⟨L, hG⟩ := HR.out.2.2
        have hlo : loA S = (0, 0, L) := by
          have e : q = S.length := HN.out.symm
          rw [HV.out]
          exact GoI.all (by rw [e] at hG; exact hG)
        obtain rfl : f0 = 0 := by have := HFs.out.1; rw [hlo] at this; exact this.symm
        obtain rfl : f1 = 0 := by have := HFs.out.2; rw [hlo] at this; exact this.symm
        clear hG hlo
        have r0 : wr.cell? ⟨w.heap.size, 0, none⟩ = some (.int .i64 0) := by rw [Lib.cell_of_heap HR.out.2.1]; rfl
        have r1 : wr.cell? ⟨w.heap.size, 1, none⟩ = some (.int .i64 0) := by rw [Lib.cell_of_heap HR.out.2.1]; rfl
        have rf0 := Lib.frozen_of_heap HR.out.2.1 0
        have rf1 := Lib.frozen_of_heap HR.out.2.1 1
        go_wp2_with fail
        have hst : Stp w.heap.size wr ((wr.setCell ⟨w.heap.size, 0, none⟩ (.int .i64 0)).setCell ⟨w.heap.size, 1, none⟩ (.int .i64 0)) := (Stp.set w.heap.size 0 wr _).trans (Stp.set w.heap.size 1 _ _)
        have hz9 : ((wr.setCell ⟨w.heap.size, 0, none⟩ (.int .i64 0)).setCell ⟨w.heap.size, 1, none⟩ (.int .i64 0)).heap[w.heap.size]? = some (.cells #[.int .i64 0, .int .i64 0] 27) := heap_setCell_same _ w.heap.size 1 _ _ _ (heap_setCell_same wr w.heap.size 0 _ _ _ HR.out.2.1)
        have hb9 := below_stp HR.out.1 hst (Nat.le_refl _)
        clear hst
        generalize (wr.setCell ⟨w.heap.size, 0, none⟩ (.int .i64 0)).setCell ⟨w.heap.size, 1, none⟩ (.int .i64 0) = w9 at hb9 hz9 ⊢
        have p0 : w9.cell? ⟨w.heap.size, 0, none⟩ = some (.int .i64 0) := by rw [Lib.cell_of_heap hz9]; rfl
        have p1 : w9.cell? ⟨w.heap.size, 1, none⟩ = some (.int .i64 0) := by rw [Lib.cell_of_heap hz9]; rfl
        refine bodyPost_ret (v := .agg #[.int .i64 0, .int .i64 0]) (by simp [results, Tryz.results12, go_sem, p0, p1]) rfl ?_
        exact ⟨rfl, hb9⟩
set_option maxHeartbeats 4000000 in
theorem c_rCheck (S : List StP) (a : Option Addr) (c : Nat) (hc : S.length ≤ c) (hS : SzS S) (hSl : S.length ≤ 4503599627370496) (l : List UInt8) (hlm : l.length ≤ 9223372036854775807) (w : World) (hI : StIn S a w) :
    Calls Tryz.prog 13 #[.string ⟨l.toArray⟩, .slice a S.length c] w fun e w' => e = .returned (.int .i64 (chA S l : Nat)) ∧ Below w.heap.size w w' := by
  have HS := Lib.hid (c_rStructs S a c hc hS hSl w hI)
  obtain ⟨f1, hf1⟩ : ∃ f1, (loA S).2.1 = f1 := ⟨_, rfl⟩
  obtain ⟨f0, hf0⟩ : ∃ f0 : Int, ((loA S).1 : Int) = f0 := ⟨_, rfl⟩
  obtain ⟨R, hR⟩ : ∃ R, chA S l = R := ⟨_, rfl⟩
  have HR := Lib.hid hR
  rw [hf0, hf1] at HS
  rw [hR]
  by_cases h0 : f1 = 0
  · subst h0
    have HCk := Lib.hid (fun w' (hb : Below w.heap.size w w') => c_rcheck (loA S).2.2 (lo_gd S) S hS hSl (lo_mt hf1).1 (lo_mt hf1).2.1 l hlm a c w' (hI.next hb))
    have hv : rgA (loA S).2.2 l = R := by rw [← hR]; unfold chA; rw [if_pos hf1]
    rw [hv] at HCk
    obtain ⟨N, hN⟩ : ∃ N, S.length = N := ⟨_, rfl⟩
    rw [hN] at HS HCk ⊢
    clear hN hv hS hSl hI hf0 hf1 hlm hR hc
    go_enter Tryz.func13, Tryz.ntmps13
    go_wp2_with fail
    refine HS.out.mono ?_
    rintro e w1 ⟨rfl, hb⟩
    have HB := Lib.hid hb
    clear hb HS
    go_wp2_with fail
    refine (HCk.out _ (HB.out.alloc HB.out.size _)).mono ?_
    rintro e w2 ⟨rfl, hb⟩
    have HB2 := Lib.hid (below_on (HB.out.alloc HB.out.size _) hb (HB.out.alloc HB.out.size _).size)
    clear hb HCk
    go_wp2_with fail
    go_ret
    exact ⟨rfl, HB2.out⟩
  · have hzn : ((f1 : Int) == 0) = false := by simp; omega
    have hv : R = f1 := by rw [← hR]; unfold chA; rw [hf1, if_neg h0]
    subst hv
    obtain ⟨N, hN⟩ : ∃ N, S.length = N := ⟨_, rfl⟩
    rw [hN] at HS ⊢
    clear hN hS hSl hI hf0 hf1 hlm hR HR h0 hc
    go_enter Tryz.func13, Tryz.ntmps13
    go_wp2_with fail
    refine HS.out.mono ?_
    rintro e w1 ⟨rfl, hb⟩
    have HB := Lib.hid hb
    clear hb HS
    go_wp2_with fail
    go_ret
    exact ⟨rfl, HB.out.alloc HB.out.size _⟩
end Go.Proofs.YtacbjhbiaaieoaaGreatDoor
