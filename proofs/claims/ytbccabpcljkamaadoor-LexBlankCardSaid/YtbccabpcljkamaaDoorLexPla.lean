/-
  The walk of the law on places.
-/
import Derived.Test.YtbccabpcljkamaaDoorLexWrk
import Derived.Test.YtbccabpcljkamaaDoorLexSam
import Derived.Handy
namespace Go.Proofs.YtbccabpcljkamaaDoor
set_option linter.unusedVariables false
set_option linter.unusedSimpArgs false
set_option maxRecDepth 100000
open Go.RowKit

theorem c_SameNil (w : World) : Calls Tryd.prog 11 #[.slice none 0 0, .slice none 0 0] w fun e w' => e = .returned (.bool true) ∧ w' = w := by
  have hcv : ∀ W : World, (convert 46 9 (.slice none 0 0)).run Tryd.prog W = .ok (.string ByteArray.empty) W := fun W => run_convert_bytes_nil _ 46 5 Tryd.underlying46 Tryd.underlying5 0 0 9 Tryd.underlying9
  go_enter Tryd.func11, Tryd.ntmps11
  go_wp2
  go_ret
  exact ⟨rfl, rfl⟩
theorem neq_fault (a c : Int) (w : World) : (binOp .neq 26 (.agg #[.int .i64 a, .int .i64 c]) (.agg #[.int .i64 a, .int .i64 c])).run Tryd.prog w = .ok (.bool false) w := by
  have h := eq_fault a c w
  rw [run_eql_struct] at h
  rw [run_neq_struct]
  cases hc : (Op.equalIn 10000 26 (.agg #[.int .i64 a, .int .i64 c]) (.agg #[.int .i64 a, .int .i64 c])).run Tryd.prog w with
  | ok r w2 =>
    rw [hc] at h
    simp only [Result.andThen_ok, Result.ok.injEq, Value.bool.injEq] at h ⊢
    exact ⟨by rw [h.1]; rfl, h.2⟩
  | halt r w2 =>
    rw [hc] at h
    cases h
def tkN (N : Nat) (t : Pt) : Tk := ⟨t.kind, ((N - t.rest : Nat) : Int), t.int, t.text⟩
theorem fob_set2 {w : World} {N : Nat} {a0 c0 : Int} (h : w.heap[N]? = some (fOb a0 c0)) (a c : Int) : ((w.setCell ⟨N, 0, none⟩ (.int .i64 a)).setCell ⟨N, 1, none⟩ (.int .i64 c)).heap[N]? = some (fOb a c) := by
  simp [World.setCell, Array.getElem?_modify, h]
theorem set2_cell {w : World} {N : Nat} (a c : Value) (p : Addr) (hp : p.block ≠ N) : ((w.setCell ⟨N, 0, none⟩ a).setCell ⟨N, 1, none⟩ c).cell? p = w.cell? p :=
  (World.cell?_setCell_other _ _ _ _ (fun e => hp (by rw [← e]))).trans (World.cell?_setCell_other _ _ _ _ (fun e => hp (by rw [← e])))
/-- The cells of a row of tokens in block g. -/
def RowC (w : World) (g N : Nat) (L : List Pt) : Prop := ∀ (k : Nat) (t : Pt), L[k]? = some t → w.cell? ⟨g, k * 4, none⟩ = some (.int .i64 t.kind) ∧ w.cell? ⟨g, k * 4 + 1, none⟩ = some (.int .i64 ((N - t.rest : Nat) : Int)) ∧ w.cell? ⟨g, k * 4 + 2, none⟩ = some (.int .i64 t.int) ∧ w.cell? ⟨g, k * 4 + 3, none⟩ = some (.string ⟨t.text.toArray⟩)
theorem RowC.to {w w' : World} {g N : Nat} {L : List Pt} (h : RowC w g N L) (hc : ∀ i, w'.cell? ⟨g, i, none⟩ = w.cell? ⟨g, i, none⟩) : RowC w' g N L := fun k t hk => by
  obtain ⟨a, b, c, d⟩ := h k t hk
  exact ⟨(hc _).trans a, (hc _).trans b, (hc _).trans c, (hc _).trans d⟩
theorem RowC.tks {w : World} {g N : Nat} {L : List Pt} (h : RowC w g N L) (i : Nat) : TksIn w (some ⟨g, i * 4, none⟩) ((L.drop i).map (tkN N)) := fun _ => ⟨g, i * 4, rfl, fun k t hk => by
  rw [List.getElem?_map, List.getElem?_drop] at hk
  obtain ⟨u, hu, rfl⟩ := Option.map_eq_some_iff.1 hk
  obtain ⟨a, b, c, d⟩ := h (i + k) u hu
  rw [show (i + k) * 4 = i * 4 + k * 4 by omega] at a b c d
  exact ⟨a, b, c, d⟩⟩
theorem RowC.tks0 {w : World} {g N : Nat} {L : List Pt} (h : RowC w g N L) (i : Nat) : TksIn w (some ⟨g, 0, none⟩) ((L.take i).map (tkN N)) := fun _ => ⟨g, 0, rfl, fun k t hk => by
  rw [List.getElem?_map] at hk
  obtain ⟨u, hu, rfl⟩ := Option.map_eq_some_iff.1 hk
  rw [List.getElem?_take] at hu
  split at hu
  · obtain ⟨a, b, c, d⟩ := h k u hu
    rw [Nat.zero_add]
    exact ⟨a, b, c, d⟩
  · cases hu⟩
theorem own_tks {w : World} {base N : Nat} {L : List Pt} {ao : Option Addr} {cap : Nat} (h : w.ownsRow base 33 4 (.slice ao L.length cap) L.length (tCells N L)) : TksIn w ao (L.map (tkN N)) ∧ (0 < L.length → ∃ g, ao = some ⟨g, 0, none⟩ ∧ base ≤ g) := by
  by_cases h0 : 0 < L.length
  · obtain ⟨g, cap', hv, _, hg, _, hk⟩ := row_at h h0
    injection hv with hv _ _
    subst hv
    have := RowC.tks0 (w := w) (g := g) (N := N) (L := L) hk L.length
    rw [List.take_length] at this
    exact ⟨this, fun _ => ⟨g, rfl, hg⟩⟩
  · exact ⟨fun h => absurd (by simpa using h) h0, fun h => absurd h h0⟩
theorem TksIn.to {w w' : World} {ao : Option Addr} {L : List Tk} (h : TksIn w ao L) (hc : 0 < L.length → ∀ g off, ao = some ⟨g, off, none⟩ → ∀ i, w'.cell? ⟨g, i, none⟩ = w.cell? ⟨g, i, none⟩) : TksIn w' ao L := fun h0 => by
  obtain ⟨b, off, rfl, hh⟩ := h h0
  refine ⟨b, off, rfl, fun k t hk => ?_⟩
  obtain ⟨a1, a2, a3, a4⟩ := hh k t hk
  have e := hc h0 b off rfl
  exact ⟨(e _).trans a1, (e _).trans a2, (e _).trans a3, (e _).trans a4⟩
theorem less_map {L : List Pt} {i d N : Nat} (h : ∀ u ∈ L.take i, d ≤ u.rest ∧ u.rest ≤ N) : ((L.take i).map (lessP d)).map (tkN (N - d)) = (L.take i).map (tkN N) := by
  rw [List.map_map]
  refine List.map_congr_left (fun u hu => ?_)
  obtain ⟨h1, h2⟩ := h u hu
  show tkN (N - d) (lessP d u) = tkN N u
  unfold tkN lessP
  have : N - d - (u.rest - d) = N - u.rest := by omega
  rw [this]
/-- The law's walk up to its tokens. -/
theorem fault_row {w : World} {base N : Nat} {v : Value} {L : List Pt} (h : w.ownsRow base 33 4 v L.length (tCells N L)) : ∃ ao cap, v = .slice ao L.length cap ∧ L.length ≤ cap ∧ (L = [] → ao = none ∨ True) := by
  rcases h.2 with ⟨hv, hz⟩ | ⟨g, cap, cur, hv, _, _, hc, _⟩
  · exact ⟨none, 0, by rw [hv, hz], by omega, fun _ => .inr trivial⟩
  · exact ⟨_, cap, hv, hc, fun _ => .inr trivial⟩
set_option maxHeartbeats 4000000 in
attribute [local irreducible] Go.wpQuiet in
theorem c_Places (s : List UInt8) (at' : Int) (w : World) (hE : Env w.heap.size w) (hs : s.length ≤ 9223372036854775807) (ha0 : -9223372036854775808 ≤ at') (ha1 : at' ≤ 9223372036854775807) :
    Calls Tryd.prog 5 #[.string ⟨s.toArray⟩, .int .i64 at'] w fun e w' => e = .returned (.bool true) ∧ Below w.heap.size w w' := by
  have HE := Lib.hid hE
  clear hE
  go_enter Tryd.func5, Tryd.ntmps5
  go_wp2_with fail
  refine (c_works w HE.out).mono ?_
  rintro e w1 ⟨rfl, hb1⟩
  have HB1 := Lib.hid hb1
  have HE1 := Lib.hid (HE.out.grow hb1)
  clear hb1
  go_wp2_with fail
  refine (c_Tokens s w1 HE1.out hs).mono ?_
  rintro e w2 ⟨hT | ⟨p, c, rfl, hp, hc, _⟩, hb2⟩
  · obtain ⟨L, v, hsl, hL, rfl, hown, hLl⟩ := hT
    have HB2 := Lib.hid (HB1.out.trans (hb2.mono HB1.out.size))
    have HE2 := Lib.hid ((HE1.out.grow hb2).grow (bel_al w2 (fOb 0 0)))
    have HT := Lib.hid hL
    have HO := Lib.hid hown
    clear hb2
    by_cases hL0 : L = []
    · obtain ⟨ao, cap, hv, _⟩ := fault_row hown
      rw [hL0] at hv
      subst hv
      clear hown
      go_wp2_with fail
      go_rounds 1
      go_wp2_with fail
      go_ret
      exact ⟨rfl, HB2.out.alloc HB2.out.size _⟩
    · have hLp := List.length_pos_iff.2 hL0
      obtain ⟨g, cap, rfl, hcap, hg, hgl, hk⟩ := row_at hown hLp
      have hrs := T_rests hL
      have HRs : Hid (∀ (k : Nat) t, L[k]? = some t → (0 : Int) ≤ ((s.length - t.rest : Nat) : Int) ∧ ((s.length - t.rest : Nat) : Int) < (s.length : Int)) := fun k t hk => by
        have := hrs.1 t (List.mem_of_getElem? hk)
        omega
      have HRl : Hid (∀ (k : Nat) t t', L[k]? = some t → L[k + 1]? = some t' → ((s.length - t.rest : Nat) : Int) < ((s.length - t'.rest : Nat) : Int)) := fun k t t' h1 h2 => by
        have a1 := hrs.1 t (List.mem_of_getElem? h1)
        have a2 := hrs.1 t' (List.mem_of_getElem? h2)
        have hp := List.pairwise_iff_getElem.1 hrs.2
        have l1 := (List.getElem?_eq_some_iff.1 h1)
        have l2 := (List.getElem?_eq_some_iff.1 h2)
        obtain ⟨l1a, l1b⟩ := l1
        obtain ⟨l2a, l2b⟩ := l2
        have := hp k (k + 1) l1a l2a (Nat.lt_succ_self k)
        rw [l1b, l2b] at this
        omega
      have HkW : Hid (∀ (k : Nat) t, L[k]? = some t → (w2.alloc (fOb 0 0)).cell? ⟨g, k * 4, none⟩ = some (.int .i64 t.kind) ∧ (w2.alloc (fOb 0 0)).cell? ⟨g, k * 4 + 1, none⟩ = some (.int .i64 ((s.length - t.rest : Nat) : Int)) ∧ (w2.alloc (fOb 0 0)).cell? ⟨g, k * 4 + 2, none⟩ = some (.int .i64 t.int) ∧ (w2.alloc (fOb 0 0)).cell? ⟨g, k * 4 + 3, none⟩ = some (.string ⟨t.text.toArray⟩)) := fun k t h => by
        obtain ⟨b0, b1, b2, b3⟩ := hk k t h
        exact ⟨(World.cell?_alloc_lt _ _ ⟨g, _, none⟩ hgl).trans b0, (World.cell?_alloc_lt _ _ ⟨g, _, none⟩ hgl).trans b1, (World.cell?_alloc_lt _ _ ⟨g, _, none⟩ hgl).trans b2, (World.cell?_alloc_lt _ _ ⟨g, _, none⟩ hgl).trans b3⟩
      have HFo : Hid ((w2.alloc (fOb 0 0)).heap[w2.heap.size]? = some (fOb 0 0)) := heap_alloc_new w2 _
      have HBW : Hid (Below w.heap.size w (w2.alloc (fOb 0 0))) := HB2.out.alloc HB2.out.size _
      have HgN : Hid (g < w2.heap.size ∧ w.heap.size ≤ w2.heap.size) := ⟨hgl, HB2.out.size⟩
      have HLl := Lib.hid hLl
      clear hown hk hrs hL HB2 HO hg hgl hL0
      go_wp2_with fail
      obtain ⟨N2, hN2⟩ : ∃ N2, w2.heap.size = N2 := ⟨_, rfl⟩
      rw [hN2] at HFo HgN ⊢
      generalize w2.alloc (fOb 0 0) = W at HE2 HkW HFo HBW ⊢
      clear hN2
      go_loopw [7] (fun i wr => ∃ k : Nat, k ≤ L.length ∧ i = .int .i64 k ∧ Hid (∃ n, wr = W.drewN n)) (fun i _ => L.length - (intOf i).toNat)
      case atStart => exact ⟨0, Nat.zero_le _, rfl, 0, rfl⟩
      case round =>
        obtain ⟨k, hkL, rfl, HW⟩ := hrel
        obtain ⟨n, rfl⟩ := HW.out
        by_cases hlt : k < L.length
        · obtain ⟨t, ht⟩ : ∃ t, L[k]? = some t := ⟨_, List.getElem?_eq_getElem hlt⟩
          obtain ⟨_, c1, _, _⟩ := HkW.out k t ht
          obtain ⟨a0, a1⟩ := HRs.out k t ht
          cases k with
          | zero =>
            generalize ((s.length - t.rest : Nat) : Int) = aI at c1 a0 a1
            clear ht
            go_wp2_with fail
            go_quiet (fail)
            go_wp2_with fail
            go_roundw
            case rel => exact ⟨1, by omega, by go_num, n + nq, by first | rfl | rw [World.drewN_drewN]⟩
            case measure => simp [intOf]; omega
          | succ k' =>
            obtain ⟨t', ht'⟩ : ∃ t', L[k']? = some t' := ⟨_, List.getElem?_eq_getElem (by omega)⟩
            obtain ⟨_, d1, _, _⟩ := HkW.out k' t' ht'
            have hab := HRl.out k' t' t ht' ht
            generalize ((s.length - t.rest : Nat) : Int) = aI at c1 a0 a1 hab
            generalize ((s.length - t'.rest : Nat) : Int) = bI at d1 hab
            obtain ⟨k, hk⟩ : ∃ k, k' + 1 = k := ⟨_, rfl⟩
            rw [hk] at c1 hkL hlt ⊢
            have hkd : (0 : Int) < (k : Int) := by omega
            have hkp : 0 < k := by omega
            have hks : (k : Int) - 1 = (k' : Int) := by omega
            have hk1 : (0 : Int) ≤ (k' : Int) ∧ (k' : Int) < (L.length : Int) := by omega
            obtain ⟨hk1a, hk1b⟩ := hk1
            have hwk : IntKind.i64.wrap (k' : Int) = (k' : Int) := by rw [IntKind.wrap_i64]; omega
            have HKk := Lib.hid hk
            clear ht ht' hk
            go_wp2_with fail
            go_quiet (fail)
            go_wp2_with fail
            go_roundw
            case rel => exact ⟨k + 1, by omega, by go_num, n + nq, by first | rfl | rw [World.drewN_drewN]⟩
            case measure => simp [intOf]; omega
        · have hge : decide (k < L.length) = false := by simp; omega
          obtain rfl : k = L.length := by omega
          have hn0 : ((L.length : Int) == 0) = false := by rw [beq_eq_false_iff_ne]; omega
          obtain ⟨iN, hiN, hiL⟩ : ∃ iN : Nat, wrap64 ((IntKind.u64.wrap at').tmod (L.length : Int)) = (iN : Int) ∧ iN < L.length := by
            have h1 : 0 ≤ IntKind.u64.wrap at' := by rw [IntKind.wrap_u64]; omega
            have h2 : (IntKind.u64.wrap at').tmod (L.length : Int) = (IntKind.u64.wrap at') % (L.length : Int) := Int.tmod_eq_emod_of_nonneg h1
            have h3 := Int.emod_nonneg (IntKind.u64.wrap at') (show (L.length : Int) ≠ 0 by omega)
            have h4 := Int.emod_lt_of_pos (IntKind.u64.wrap at') (show (0 : Int) < (L.length : Int) by omega)
            refine ⟨((IntKind.u64.wrap at') % (L.length : Int)).toNat, ?_, by omega⟩
            rw [h2]
            unfold wrap64
            omega
          obtain ⟨t, ht⟩ : ∃ t, L[iN]? = some t := ⟨_, List.getElem?_eq_getElem hiL⟩
          obtain ⟨_, c1, _, _⟩ := HkW.out iN t ht
          obtain ⟨a0, a1⟩ := HRs.out iN t ht
          obtain ⟨aN, haN⟩ : ∃ aN, s.length - t.rest = aN := ⟨_, rfl⟩
          rw [haN] at c1 a0 a1
          obtain ⟨hTp, hTs⟩ := T_parts HT.out HLl.out ht
          rw [haN] at hTp hTs
          have HTp := Lib.hid hTp
          have HTs := Lib.hid hTs
          have HaN := Lib.hid haN
          have HTt := Lib.hid ht
          have HPw : Hid (∀ u ∈ L.take iN, t.rest ≤ u.rest ∧ u.rest ≤ s.length) := fun u hu => by
            have hr := T_rests HT.out
            obtain ⟨m, hm⟩ := List.getElem?_of_mem hu
            rw [List.getElem?_take] at hm
            split at hm
            · rename_i hmi
              have h1 := hr.1 u (List.mem_of_getElem? hm)
              obtain ⟨l1a, l1b⟩ := List.getElem?_eq_some_iff.1 hm
              obtain ⟨l2a, l2b⟩ := List.getElem?_eq_some_iff.1 ht
              have := List.pairwise_iff_getElem.1 hr.2 m iN l1a l2a hmi
              rw [l1b, l2b] at this
              omega
            · cases hm
          have hex : (⟨s.toArray⟩ : ByteArray).extract 0 aN = ⟨(s.take aN).toArray⟩ := by rw [ext_sub]; rfl
          have hex2 := ext_end s aN
          have hi0 : (0 : Int) ≤ (iN : Int) ∧ (iN : Int) < (L.length : Int) := by omega
          obtain ⟨hi0a, hi0b⟩ := hi0
          have hasz : (aN : Int) ≤ (s.length : Int) := by omega
          clear hTp hTs haN
          have HE3 : Hid (Env (W.drewN n).heap.size (W.drewN n)) := HE2.out.grow (below_drewN (Below.refl _ _) n)
          have HBW3 : Hid (Below w.heap.size w (W.drewN n)) := below_drewN HBW.out n
          have HFo3 : Hid ((W.drewN n).heap[N2]? = some (fOb 0 0)) := HFo.out
          have HkW3 : Hid (∀ (k : Nat) t, L[k]? = some t → (W.drewN n).cell? ⟨g, k * 4, none⟩ = some (.int .i64 t.kind) ∧ (W.drewN n).cell? ⟨g, k * 4 + 1, none⟩ = some (.int .i64 ((s.length - t.rest : Nat) : Int)) ∧ (W.drewN n).cell? ⟨g, k * 4 + 2, none⟩ = some (.int .i64 t.int) ∧ (W.drewN n).cell? ⟨g, k * 4 + 3, none⟩ = some (.string ⟨t.text.toArray⟩)) := HkW.out
          have hic : ¬ cap = iN := by omega
          have hic2 : ¬ iN = cap := by omega
          clear hkL hlt
          go_wp2_with fail
          generalize W.drewN n = W3 at HE3 HBW3 HFo3 HkW3 ⊢
          refine (c_TokOk (s.take aN) _ W3 HE3.out (by rw [List.length_take]; omega) HTp.out).mono ?_
          rintro e w4 ⟨⟨v4, rfl, ho4, hl4⟩, hb4⟩
          have hlen4 : ((L.take iN).map (lessP t.rest)).length = iN := by simp; omega
          obtain ⟨ao4, cap4, hv4, hc4, _⟩ := fault_row ho4
          subst hv4
          obtain ⟨ht4, hg4⟩ := own_tks ho4
          have hes : (s.take aN).length = s.length - t.rest := by rw [List.length_take]; have := HaN.out; omega
          rw [hes, less_map HPw.out] at ht4
          rw [hlen4] at hc4 hg4 ⊢
          have hN2 : N2 < W3.heap.size := (Array.getElem?_eq_some_iff.1 HFo3.out).1
          have HFo4 : Hid (w4.heap[N2]? = some (fOb 0 0)) := (hb4.block _ hN2).trans HFo3.out
          obtain ⟨q0, q1, q2⟩ := fob_cells HFo4.out
          have qf0 := q2 0
          have qf1 := q2 1
          have HBW4 : Hid (Below w.heap.size w w4) := HBW3.out.trans (hb4.mono HBW3.out.size)
          have HFo5 := Lib.hid (fob_set2 HFo4.out 0 0)
          have HBW5 : Hid (Below w.heap.size w ((w4.setCell ⟨N2, 0, none⟩ (.int .i64 0)).setCell ⟨N2, 1, none⟩ (.int .i64 0))) := (HBW4.out.setCell (p := ⟨N2, 0, none⟩) HgN.out.2 _).setCell (p := ⟨N2, 1, none⟩) HgN.out.2 _
          have HT5 : Hid (TksIn ((w4.setCell ⟨N2, 0, none⟩ (.int .i64 0)).setCell ⟨N2, 1, none⟩ (.int .i64 0)) ao4 ((L.take iN).map (tkN s.length))) := ht4.to (fun hp' g' off' he i => set2_cell _ _ _ (by
            have hp : 0 < iN := by simp at hp'; omega
            obtain ⟨g'', he', hge'⟩ := hg4 hp
            rw [he] at he'
            injection he' with he'
            injection he' with he' _
            show g' ≠ N2
            omega))
          have HR5 : Hid (RowC ((w4.setCell ⟨N2, 0, none⟩ (.int .i64 0)).setCell ⟨N2, 1, none⟩ (.int .i64 0)) g s.length L) := RowC.to (w := W3) HkW3.out (fun i => (set2_cell _ _ _ (show g ≠ N2 by have := HgN.out.1; omega)).trans (hb4.cell (p := ⟨g, i, none⟩) (show g < _ by have := HgN.out.1; omega)))
          have HLt5 : Hid (g < N2 ∧ N2 < ((w4.setCell ⟨N2, 0, none⟩ (.int .i64 0)).setCell ⟨N2, 1, none⟩ (.int .i64 0)).heap.size) := ⟨HgN.out.1, by have := hb4.size; simp [World.setCell]; omega⟩
          clear q2 ho4 hb4 ht4 hg4 hes
          have hnf := neq_fault
          have hef := eq_fault
          go_wp2_with fail
          generalize (w4.setCell ⟨N2, 0, none⟩ (.int .i64 0)).setCell ⟨N2, 1, none⟩ (.int .i64 0) = w5 at HFo5 HBW5 HT5 HR5 HLt5 ⊢
          refine (c_same ao4 (some ⟨g, 0, none⟩) iN cap4 cap ((L.take iN).map (tkN s.length)) w5 (by simp; omega) hc4 (by omega) (by have := HLl.out; omega) HT5.out (HR5.out.tks0 iN)).mono ?_
          rintro e w6 ⟨rfl, hb6⟩
          have HBW6 : Hid (Below w.heap.size w w6) := HBW5.out.trans (hb6.mono HBW5.out.size)
          have HFo6 : Hid (w6.heap[N2]? = some (fOb 0 0)) := (hb6.block _ HLt5.out.2).trans HFo5.out
          have HR6 : Hid (RowC w6 g s.length L) := HR5.out.to (fun i => hb6.cell (p := ⟨g, i, none⟩) (Nat.lt_trans HLt5.out.1 HLt5.out.2))
          obtain ⟨_, c6, _, _⟩ := HR6.out iN t HTt.out
          rw [HaN.out] at c6
          clear hb6 q0 q1 qf0 qf1
          go_wp2_with fail
          refine (c_TokOk (s.drop aN) _ w6 (HE.out.grow HBW6.out) (by rw [List.length_drop]; omega) HTs.out).mono ?_
          rintro e w7 ⟨⟨v7, rfl, ho7, hl7⟩, hb7⟩
          have hlen7 : (L.drop iN).length = L.length - iN := List.length_drop
          obtain ⟨ao7, cap7, hv7, hc7, _⟩ := fault_row ho7
          subst hv7
          obtain ⟨ht7, hg7⟩ := own_tks ho7
          rw [hlen7] at hc7 hg7 ⊢
          have hN6 : N2 < w6.heap.size := (Array.getElem?_eq_some_iff.1 HFo6.out).1
          have HFo7 : Hid (w7.heap[N2]? = some (fOb 0 0)) := (hb7.block _ hN6).trans HFo6.out
          obtain ⟨q0, q1, q2⟩ := fob_cells HFo7.out
          have qf0 := q2 0
          have qf1 := q2 1
          have HBW7 : Hid (Below w.heap.size w w7) := HBW6.out.trans (hb7.mono HBW6.out.size)
          have HFo8 := Lib.hid (fob_set2 HFo7.out 0 0)
          have HBW8 : Hid (Below w.heap.size w ((w7.setCell ⟨N2, 0, none⟩ (.int .i64 0)).setCell ⟨N2, 1, none⟩ (.int .i64 0))) := (HBW7.out.setCell (p := ⟨N2, 0, none⟩) HgN.out.2 _).setCell (p := ⟨N2, 1, none⟩) HgN.out.2 _
          have HT8 : Hid (TksIn ((w7.setCell ⟨N2, 0, none⟩ (.int .i64 0)).setCell ⟨N2, 1, none⟩ (.int .i64 0)) ao7 ((L.drop iN).map (tkN (s.drop aN).length))) := ht7.to (fun hp' g' off' he i => set2_cell _ _ _ (by
            obtain ⟨g'', he', hge'⟩ := hg7 (by omega)
            rw [he] at he'
            injection he' with he'
            injection he' with he' _
            show g' ≠ N2
            omega))
          have HR8 : Hid (RowC ((w7.setCell ⟨N2, 0, none⟩ (.int .i64 0)).setCell ⟨N2, 1, none⟩ (.int .i64 0)) g s.length L) := RowC.to (w := w6) HR6.out (fun i => (set2_cell _ _ _ (show g ≠ N2 by have := HgN.out.1; omega)).trans (hb7.cell (p := ⟨g, i, none⟩) (show g < _ by have := HgN.out.1; omega)))
          have HLt8 : Hid (g < N2 ∧ N2 < ((w7.setCell ⟨N2, 0, none⟩ (.int .i64 0)).setCell ⟨N2, 1, none⟩ (.int .i64 0)).heap.size) := ⟨HgN.out.1, by have := hb7.size; simp [World.setCell]; omega⟩
          clear q2 ho7 hb7 ht7 hg7
          go_wp2_with fail
          generalize (w7.setCell ⟨N2, 0, none⟩ (.int .i64 0)).setCell ⟨N2, 1, none⟩ (.int .i64 0) = w8 at HFo8 HBW8 HT8 HR8 HLt8 ⊢
          refine (c_sameF ao7 (some ⟨g, iN * 4, none⟩) (L.length - iN) cap7 (cap - iN) ((L.drop iN).map (tkN (s.drop aN).length)) ((L.drop iN).map (tkN s.length)) (fun k u hu => by
            rw [List.getElem?_map] at hu ⊢
            obtain ⟨x, hx, rfl⟩ := Option.map_eq_some_iff.1 hu
            exact ⟨tkN s.length x, by rw [hx]; rfl, rfl, rfl, rfl⟩) w8 (by simp) hc7 (by omega) (by have := HLl.out; omega) HT8.out (HR8.out.tks iN) (by simp)).mono ?_
          rintro e w9 ⟨rfl, hb9⟩
          have HBW9 : Hid (Below w.heap.size w w9) := HBW8.out.trans (hb9.mono HBW8.out.size)
          clear hb9 q0 q1 qf0 qf1
          go_wp2_with fail
          refine (c_SameNil w9).mono ?_
          rintro e w10 ⟨rfl, rfl⟩
          go_wp2_with fail
          go_ret
          exact ⟨rfl, HBW9.out⟩
  · have HB2 := Lib.hid (HB1.out.trans (hb2.mono HB1.out.size))
    have hc0 : (c == 0) = false := by rw [beq_eq_false_iff_ne]; omega
    have hp0 : (0 : Int) ≤ (p : Int) := by omega
    have hp1 : (p : Int) ≤ (s.length : Int) := by omega
    clear hb2 hp hc
    go_wp2_with fail
    go_ret
    exact ⟨rfl, HB2.out.alloc HB2.out.size _⟩
end Go.Proofs.YtbccabpcljkamaaDoor
