/-
  The contract of the next struct that is laid out, in the code.
-/
import Derived.Test.YtacbjhbiaaieoaaGreatDoorTzK9
import Derived.Test.YtacbjhbiaaieoaaGreatDoorTyNy
import Derived.Deep.AppendLies
namespace Go.Proofs.YtacbjhbiaaieoaaGreatDoor
set_option linter.unusedVariables false
set_option linter.unusedSimpArgs false
set_option maxRecDepth 100000
open Go.RowKit

set_option maxHeartbeats 4000000 in
theorem c_alignedX (n a : Nat) (hn : n ≤ 4503599627370496) (ha : 1 ≤ a) (ha4 : a ≤ 4) (w : World) :
    Calls Tryz.prog 96 #[.int .i64 n, .int .i64 a] w fun e w' => e = .returned (.int .i64 (upN n a)) ∧ w' = w := by
  have h5 : (n + a - 1) / a * a ≤ n + a - 1 := Nat.div_mul_le_self _ _
  have h8 : (n + a - 1) / a ≤ n + a - 1 := Nat.div_le_self _ _
  have e1 : wrap64 (wrap64 ((n : Int) + (a : Int)) - 1) = ((n + a - 1 : Nat) : Int) := by unfold wrap64; omega
  have e2 : ((n + a - 1 : Nat) : Int).tdiv (a : Int) = (((n + a - 1) / a : Nat) : Int) := rfl
  have key : wrap64 (wrap64 ((wrap64 (wrap64 ((n : Int) + (a : Int)) - 1)).tdiv (a : Int)) * (a : Int)) = ((upN n a : Nat) : Int) := by
    rw [e1, e2]
    unfold upN
    obtain ⟨Q, hQ⟩ : ∃ Q, (n + a - 1) / a = Q := ⟨_, rfl⟩
    rw [hQ] at h5 h8 ⊢
    obtain ⟨P, hP⟩ : ∃ P, Q * a = P := ⟨_, rfl⟩
    have hPI : (Q : Int) * (a : Int) = (P : Int) := by rw [← hP]; simp
    rw [hP] at h5 ⊢
    have e3 : wrap64 (Q : Int) = (Q : Int) := by clear e1 e2; unfold wrap64; omega
    rw [e3, hPI]
    clear e1 e2
    unfold wrap64
    omega
  rw [← key]
  have h6 : ¬ (a : Int) = 0 := by omega
  have h7 : ((a : Int) == 0) = false := by simp; omega
  have h9 : ((a : Int) == -1) = false := by simp
  clear hn ha ha4 h5 h8 e1 e2 key
  go_enter Tryz.func96, Tryz.ntmps96
  go_wp2_with fail
  go_ret
  exact ⟨rfl, rfl⟩
theorem has_take {M : List MemP} {q : Nat} {x : MemP} {n : List UInt8} (h : M[q]? = some x) : hasM (M.take (q + 1)) n = (hasM (M.take q) n || x.name == n) := by
  have hk := (List.getElem?_eq_some_iff.1 h).1
  unfold hasM
  rw [List.take_succ_eq_append_getElem hk, (List.getElem?_eq_some_iff.1 h).2, List.any_append]
  simp
theorem has_of_take {M : List MemP} {q : Nat} {n : List UInt8} (h : hasM (M.take (q + 1)) n = true) : hasM M n = true := by
  unfold hasM at h ⊢
  rw [List.any_eq_true] at h
  obtain ⟨x, hx, hf⟩ := h
  exact List.any_eq_true.2 ⟨x, List.mem_of_mem_take hx, hf⟩
set_option maxHeartbeats 4000000 in
theorem c_hasX (x y z : Int) (nm : ByteArray) (M : List MemP) (ma : Option Addr) (mc : Nat) (hmc : M.length ≤ mc) (m : List UInt8) (w : World) (hM : MbIn M ma w) (hl : M.length ≤ 65536) :
    Calls Tryz.prog 116 #[lV x y z nm ma M.length mc, .string ⟨m.toArray⟩] w fun e w' => e = .returned (.bool (hasM M m)) ∧ Below w.heap.size w w' := by
  have HMb := Lib.hid (fun w' (hb : Below w.heap.size w w') => hM.next hb)
  obtain ⟨R, hR⟩ : ∃ R, hasM M m = R := ⟨_, rfl⟩
  rw [hR]
  have HR := Lib.hid hR
  have HL := Lib.hid hl
  obtain ⟨N, hN⟩ : ∃ N, M.length = N := ⟨_, rfl⟩
  have HN := Lib.hid hN
  rw [hN] at HL hmc ⊢
  clear hM hR hl hN
  go_enter Tryz.func116, Tryz.ntmps116
  go_wp2_with fail
  have HB0 := Lib.hid (below_a w (.cells #[.int .i64 x, .int .i64 y, .int .i64 z, .string nm, .slice ma N mc] 89))
  go_loopg [10] N (fun g v10 wr => ∃ q : Nat, q + g = N ∧ v10 = .int .i64 (q : Int) ∧ Hid (Below w.heap.size w wr ∧ hasM (M.take q) m = false))
  case atStart => exact ⟨0, by omega, rfl, HB0.out, rfl⟩
  case round =>
    obtain ⟨q, hq, rfl, HRl⟩ := hrel
    by_cases hlt : q < N
    · have hd : decide ((q : Int) < (N : Int)) = true := by simp; omega
      obtain ⟨x', hx⟩ : ∃ x, M[q]? = some x := ⟨_, List.getElem?_eq_getElem (by have := HN.out; omega)⟩
      obtain ⟨g, hag, hg, hrow⟩ := HMb.out wr HRl.out.1 (by have := HN.out; omega)
      obtain ⟨pa, pn, pc, hnd, hc⟩ := hrow q x' hx
      have c0 := hc 0 _ rfl
      rw [Nat.add_zero] at c0
      have c1 := hc 1 _ rfl
      have c2 := hc 2 _ rfl
      have c3 := hc 3 _ rfl
      have c4 := hc 4 _ rfl
      have c5 := hc 5 _ rfl
      have c6 := hc 6 _ rfl
      have HT := Lib.hid (has_take (n := m) hx)
      obtain ⟨y0, hy0⟩ : ∃ y : Int, (x'.ty.letter.toNat : Int) = y := ⟨_, rfl⟩
      obtain ⟨y1, hy1⟩ : ∃ y, (⟨x'.ty.code.toArray⟩ : ByteArray) = y := ⟨_, rfl⟩
      obtain ⟨y2, hy2⟩ : ∃ y : Int, (x'.ty.count : Int) = y := ⟨_, rfl⟩
      obtain ⟨y3, hy3⟩ : ∃ y, (⟨x'.ty.tag.toArray⟩ : ByteArray) = y := ⟨_, rfl⟩
      obtain ⟨y5, hy5⟩ : ∃ y, x'.name = y := ⟨_, rfl⟩
      obtain ⟨y6, hy6⟩ : ∃ y : Int, (x'.at' : Int) = y := ⟨_, rfl⟩
      rw [hy0] at c0
      rw [hy1] at c1
      rw [hy2] at c2
      rw [hy3] at c3
      rw [hy5] at c5 HT
      rw [hy6] at c6
      have hq0 : (0 : Int) ≤ (q : Int) := by omega
      have hql : (q : Int) < (N : Int) := by omega
      have hwm : IntKind.i64.wrap ((q : Int) + 1) = ((q + 1 : Nat) : Int) := by rw [IntKind.wrap_i64]; have := HL.out; omega
      have HM : Hid (N - (q + 1) < gk ∧ q + 1 + (N - (q + 1)) = N) := ⟨by omega, by omega⟩
      subst hag
      have hg1 : g < wr.heap.size + 1 := by omega
      clear hx hnd hc hrow hy0 hy1 hy2 hy3 hy5 hy6
      cases hne : y5 == m
      · rw [hne] at HT
        go_wp2_with fail
        have HN5 : Hid (Below w.heap.size w (wr.alloc (.cells #[.int .u8 y0, .string y1, .int .i64 y2, .string y3, .slice pa pn pc, .string ⟨y5.toArray⟩, .int .i64 y6] 93)) ∧ hasM (M.take (q + 1)) m = false) := ⟨HRl.out.1.alloc HRl.out.1.size _, by rw [HT.out, HRl.out.2]; rfl⟩
        clear c0 c1 c2 c3 c4 c5 c6
        go_roundg (N - (q + 1))
        case measure => exact HM.out.1
        case rel => exact ⟨q + 1, HM.out.2, rfl, HN5⟩
      · rw [hne] at HT
        have hRv : R = true := by rw [← HR.out]; exact has_of_take (by rw [HT.out, Bool.or_true])
        subst hRv
        go_wp2_with fail
        go_ret
        exact ⟨rfl, HRl.out.1.alloc HRl.out.1.size _⟩
    · have hd : decide ((q : Int) < (N : Int)) = false := by simp; omega
      have hRv : R = false := by
        have h := HRl.out.2
        rw [show q = M.length by have := HN.out; omega, List.take_length] at h
        rw [← HR.out, h]
      subst hRv
      go_wp2_with fail
      go_ret
      exact ⟨rfl, HRl.out.1⟩
end Go.Proofs.YtacbjhbiaaieoaaGreatDoor
namespace Go.Proofs.YtacbjhbiaaieoaaGreatDoor
set_option linter.unusedVariables false
set_option linter.unusedSimpArgs false
set_option maxRecDepth 100000
open Go.RowKit

/-- What memberType answers. -/
def MtX (L : List LayP) (M : List MemP) (m : List UInt8 × List UInt8) (w : World) (e : Ending) (w' : World) : Prop :=
  ((∃ t a n c, tk m.2 = some t ∧ memE L M m = 0 ∧ e = .returned (.tuple #[nT t a n c, .int .i64 0]) ∧ Nd (Fm w.heap.size w') w' t (.slice a n c)) ∨ (memE L M m ≠ 0 ∧ e = .returned (.tuple #[nV 0 ⟨#[]⟩ 0 ⟨#[]⟩ none 0 0, .int .i64 (memE L M m)]))) ∧ Below w.heap.size w w'
set_option maxHeartbeats 8000000 in
theorem c_memberTypeX (L : List LayP) (ka : Option Addr) (kc : Nat) (hkc : L.length ≤ kc) (hL : GdL L) (hll : L.length ≤ 65536) (B : Nat) (x y z : Int) (nm : ByteArray) (M : List MemP) (ma : Option Addr) (mc : Nat) (hmc : M.length ≤ mc) (hMl : M.length ≤ 65536) (m : List UInt8 × List UInt8) (h1 : m.1.length ≤ 9223372036854775807) (h2 : m.2.length ≤ 9223372036854775807) (w : World) (hE : Env B w) (hB : B ≤ w.heap.size) (hK : KnIn L ka w) (hM : MbIn M ma w) :
    Calls Tryz.prog 95 #[.slice ka L.length kc, lV x y z nm ma M.length mc, .agg #[.string ⟨m.1.toArray⟩, .string ⟨m.2.toArray⟩]] w fun e w' => MtX L M m w e w' := by
  have HI := Lib.hid (fun w => c_IsName m.1 w h1)
  have HH := Lib.hid (fun w' (hb : Below w.heap.size w w') => c_hasX x y z nm M ma mc hmc m.1 w' (hM.next hb) hMl)
  have HO := Lib.hid (fun w' (hb : Below w.heap.size w w') => c_objectX L ka kc hkc hL hll B m.2 w' (hE.next (hb.mono hB)) (Nat.le_trans hB hb.size) h2 (hK.next hb))
  have HE : Hid (memE L M m = if nameB m.1 = true then if hasM M m.1 = true then 6 else ojA L m.2 else 2) := rfl
  obtain ⟨m1, m2⟩ := m
  obtain ⟨N, hN1⟩ : ∃ N, L.length = N := ⟨_, rfl⟩
  obtain ⟨ml, hml⟩ : ∃ ml, M.length = ml := ⟨_, rfl⟩
  obtain ⟨qn, hqn⟩ : ∃ q, nameB m1 = q := ⟨_, rfl⟩
  obtain ⟨qh, hqh⟩ : ∃ q, hasM M m1 = q := ⟨_, rfl⟩
  simp only at HI HH HO HE
  rw [hqn] at HI HE
  rw [hqh, hml] at HH
  rw [hqh] at HE
  rw [hN1] at HO ⊢
  rw [hml]
  clear hE hB hK hM hL hll hkc hmc hMl h1 h2 hN1 hml hqn hqh
  go_enter Tryz.func95, Tryz.ntmps95
  go_wp2_with fail
  have HA0 : Hid (Below w.heap.size w (((w.alloc (.cells #[.int .i64 x, .int .i64 y, .int .i64 z, .string nm, .slice ma ml mc] 89)).alloc (.cells #[.string ⟨m1.toArray⟩, .string ⟨m2.toArray⟩] 77)).alloc zOb)) := ((below_a w _).alloc (by simp) _).alloc (by simp; omega) _
  have HL0 : Hid ((((w.alloc (.cells #[.int .i64 x, .int .i64 y, .int .i64 z, .string nm, .slice ma ml mc] 89)).alloc (.cells #[.string ⟨m1.toArray⟩, .string ⟨m2.toArray⟩] 77)).alloc zOb).heap[w.heap.size]? = some (.cells #[.int .i64 x, .int .i64 y, .int .i64 z, .string nm, .slice ma ml mc] 89)) := (Below.heap_alloc _ _ _ (by simp; omega)).trans ((Below.heap_alloc _ _ _ (by simp)).trans (heap_alloc_new w _))
  have HM0 : Hid ((((w.alloc (.cells #[.int .i64 x, .int .i64 y, .int .i64 z, .string nm, .slice ma ml mc] 89)).alloc (.cells #[.string ⟨m1.toArray⟩, .string ⟨m2.toArray⟩] 77)).alloc zOb).heap[w.heap.size + 1]? = some (.cells #[.string ⟨m1.toArray⟩, .string ⟨m2.toArray⟩] 77)) := by
    exact (Below.heap_alloc _ _ _ (by simp)).trans (new2 w _ _)
  have HR0 : Hid ((((w.alloc (.cells #[.int .i64 x, .int .i64 y, .int .i64 z, .string nm, .slice ma ml mc] 89)).alloc (.cells #[.string ⟨m1.toArray⟩, .string ⟨m2.toArray⟩] 77)).alloc zOb).heap[w.heap.size + 2]? = some zOb) := by
    exact new3 w _ _ _
  refine (HI.out _).mono ?_
  rintro e w1 ⟨rfl, hb⟩
  have HB1 := Lib.hid (below_on HA0.out hb HA0.out.size)
  have HL1 := Lib.hid (blk_next HL0.out hb)
  have HM1 := Lib.hid (blk_next HM0.out hb)
  have HR1 := Lib.hid (blk_next HR0.out hb)
  clear hb HA0 HL0 HM0 HR0 HI
  obtain ⟨l0, l1, l2, l3, l4, lf⟩ := five_cells HL1.out
  have m0 : w1.cell? ⟨w.heap.size + 1, 0, none⟩ = some (.string ⟨m1.toArray⟩) := by rw [Lib.cell_of_heap HM1.out]; rfl
  have m1' : w1.cell? ⟨w.heap.size + 1, 1, none⟩ = some (.string ⟨m2.toArray⟩) := by rw [Lib.cell_of_heap HM1.out]; rfl
  cases qn
  · have hv : memE L M (m1, m2) = 2 := HE.out
    have HV := Lib.hid hv
    obtain ⟨r0, r1, r2, r3, r4, rf⟩ := five_cells HR1.out
    have rf0 := rf 0
    have rf1 := rf 1
    have rf2 := rf 2
    have rf3 := rf 3
    have rf4 := rf 4
    clear hv rf lf
    go_wp2_with fail
    refine bodyPost_ret (v := .tuple #[nV 0 ⟨#[]⟩ 0 ⟨#[]⟩ none 0 0, .int .i64 2]) (by simp [results, Tryz.results95, go_sem, r0, r1, r2, r3, r4]) rfl ?_
    exact ⟨.inr ⟨by rw [HV.out]; decide, by rw [HV.out]; rfl⟩, below_stp HB1.out (Stp.five0 (w.heap.size + 2) w1 _ _ _ _ _) (by omega)⟩
  · clear lf
    go_wp2_with fail
    refine (HH.out _ HB1.out).mono ?_
    rintro e w2 ⟨rfl, hb⟩
    have HB2 := Lib.hid (below_on HB1.out hb HB1.out.size)
    have HM2 := Lib.hid (blk_next HM1.out hb)
    have HR2 := Lib.hid (blk_next HR1.out hb)
    clear hb HB1 HL1 HM1 HR1 l0 l1 l2 l3 l4 m0 m1' HH
    have m1' : w2.cell? ⟨w.heap.size + 1, 1, none⟩ = some (.string ⟨m2.toArray⟩) := by rw [Lib.cell_of_heap HM2.out]; rfl
    cases qh
    · have hv : memE L M (m1, m2) = ojA L m2 := HE.out
      have HV := Lib.hid hv
      have hs2 : w.heap.size + 2 < w2.heap.size := (Array.getElem?_eq_some_iff.1 HR2.out).1
      clear hv
      go_wp2_with fail
      refine (HO.out _ HB2.out).mono ?_
      rintro e w3 ⟨hr, hb⟩
      have HB3 := Lib.hid (below_on HB2.out hb HB2.out.size)
      obtain ⟨r0, r1, r2, r3, r4, rf⟩ := five_cells (blk_next HR2.out hb)
      have rf0 := rf 0
      have rf1 := rf 1
      have rf2 := rf 2
      have rf3 := rf 3
      have rf4 := rf 4
      clear hb rf HO HB2 HM2 HR2 m1'
      rcases hr with ⟨t, a, n, c, ht, h0, rfl, hn⟩ | ⟨h0, rfl⟩
      · have HT := Lib.hid (And.intro ht h0)
        have HN3 : Hid (Nd (fun j => w.heap.size + 2 < j ∧ j < w3.heap.size) w3 t (.slice a n c)) := hn.mono (fun j hj => ⟨by have := hj.1; omega, hj.2⟩) (fun _ _ => rfl)
        obtain ⟨x0, hx0⟩ : ∃ x0 : Int, (t.letter.toNat : Int) = x0 := ⟨_, rfl⟩
        obtain ⟨x2, hx2⟩ : ∃ x2 : Int, (t.count : Int) = x2 := ⟨_, rfl⟩
        obtain ⟨s1, hs1'⟩ : ∃ s1, (⟨t.code.toArray⟩ : ByteArray) = s1 := ⟨_, rfl⟩
        obtain ⟨s3, hs3⟩ : ∃ s3, (⟨t.tag.toArray⟩ : ByteArray) = s3 := ⟨_, rfl⟩
        have hnT : nT t a n c = nV x0 s1 x2 s3 a n c := by unfold nT; rw [hx0, hx2, hs1', hs3]
        have HnT := Lib.hid hnT
        rw [hnT]
        clear hn ht h0 hx0 hx2 hs1' hs3 hnT
        go_wp2_with fail
        refine bodyPost_ret (v := .tuple #[nV x0 s1 x2 s3 a n c, .int .i64 0]) (by simp [results, Tryz.results95, go_sem, r0, r1, r2, r3, r4]) rfl ?_
        have hst := Stp.five0 (w.heap.size + 2) w3 (.int .u8 x0) (.string s1) (.int .i64 x2) (.string s3) (.slice a n c)
        exact ⟨.inl ⟨t, a, n, c, HT.out.1, by rw [HV.out]; exact HT.out.2, by rw [HnT.out], HN3.out.mono (fun j hj => ⟨by have := hj.1; omega, by rw [hst.size]; exact hj.2⟩) (fun j hj => hst.blk j (by have := hj.1; omega))⟩, below_stp HB3.out hst (by omega)⟩
      · obtain ⟨E, hE⟩ : ∃ E : Int, (ojA L m2 : Int) = E := ⟨_, rfl⟩
        have HEe := Lib.hid (And.intro hE h0)
        rw [hE]
        clear hE h0
        go_wp2_with fail
        refine bodyPost_ret (v := .tuple #[nV 0 ⟨#[]⟩ 0 ⟨#[]⟩ none 0 0, .int .i64 E]) (by simp [results, Tryz.results95, go_sem, r0, r1, r2, r3, r4]) rfl ?_
        exact ⟨.inr ⟨by rw [HV.out]; exact HEe.out.2, by rw [HV.out, HEe.out.1]⟩, below_stp HB3.out (Stp.five0 (w.heap.size + 2) w3 _ _ _ _ _) (by omega)⟩
    · have hv : memE L M (m1, m2) = 6 := HE.out
      have HV := Lib.hid hv
      obtain ⟨r0, r1, r2, r3, r4, rf⟩ := five_cells HR2.out
      have rf0 := rf 0
      have rf1 := rf 1
      have rf2 := rf 2
      have rf3 := rf 3
      have rf4 := rf 4
      clear hv rf
      go_wp2_with fail
      refine bodyPost_ret (v := .tuple #[nV 0 ⟨#[]⟩ 0 ⟨#[]⟩ none 0 0, .int .i64 6]) (by simp [results, Tryz.results95, go_sem, r0, r1, r2, r3, r4]) rfl ?_
      exact ⟨.inr ⟨by rw [HV.out]; decide, by rw [HV.out]; rfl⟩, below_stp HB2.out (Stp.five0 (w.heap.size + 2) w2 _ _ _ _ _) (by omega)⟩
end Go.Proofs.YtacbjhbiaaieoaaGreatDoor
namespace Go.Proofs.YtacbjhbiaaieoaaGreatDoor
set_option linter.unusedVariables false
set_option linter.unusedSimpArgs false
set_option maxRecDepth 100000
open Go.RowKit

/-- A struct's members as they come in. -/
def MmIn (M : List (List UInt8 × List UInt8)) (a : Option Addr) (w : World) : Prop := 0 < M.length → ∃ b off, a = some ⟨b, off, none⟩ ∧ b < w.heap.size ∧ ∀ (k : Nat) m, M[k]? = some m → w.cell? ⟨b, off + k * 2, none⟩ = some (.string ⟨m.1.toArray⟩) ∧ w.cell? ⟨b, off + k * 2 + 1, none⟩ = some (.string ⟨m.2.toArray⟩)
theorem MmIn.next {M : List (List UInt8 × List UInt8)} {a : Option Addr} {w w' : World} (h : MmIn M a w) (hb : Below w.heap.size w w') : MmIn M a w' := fun h0 => by
  obtain ⟨b, off, h1, h2, h3⟩ := h h0
  refine ⟨b, off, h1, Nat.lt_of_lt_of_le h2 hb.size, fun k m hk => ?_⟩
  have e := hb.block b h2
  exact ⟨(cell_of_blk e _).trans (h3 k m hk).1, (cell_of_blk e _).trans (h3 k m hk).2⟩
def mbCs (P : List (MemP × Value)) : List Value := P.flatMap fun p => mbC p.1 p.2
theorem mbCs_len (P : List (MemP × Value)) : (mbCs P).length = P.length * 7 := by
  induction P with
  | nil => rfl
  | cons p P ih =>
    show (mbC p.1 p.2 ++ mbCs P).length = _
    rw [List.length_append, ih, List.length_cons, show (mbC p.1 p.2).length = 7 from rfl]
    omega
theorem mbCs_snoc (P : List (MemP × Value)) (p : MemP × Value) : mbCs (P ++ [p]) = mbCs P ++ mbC p.1 p.2 := by
  unfold mbCs
  simp
theorem mbCs_at : ∀ (P : List (MemP × Value)) (k : Nat) (p : MemP × Value), P[k]? = some p → ∀ i, i < 7 → (mbCs P)[k * 7 + i]? = (mbC p.1 p.2)[i]?
  | [], k, p, h, i, hi => by cases h
  | q :: P, 0, p, h, i, hi => by
    cases h
    show (mbC q.1 q.2 ++ mbCs P)[0 * 7 + i]? = _
    rw [List.getElem?_append_left (by show 0 * 7 + i < 7; omega)]
    congr 1
    omega
  | q :: P, k + 1, p, h, i, hi => by
    show (mbC q.1 q.2 ++ mbCs P)[(k + 1) * 7 + i]? = _
    rw [List.getElem?_append_right (by show 7 ≤ _; omega)]
    have ih := mbCs_at P k p h i hi
    rw [← ih]
    congr 1
    show (k + 1) * 7 + i - 7 = _
    omega
/-- Members laid out, as a row that is the function's own. -/
structure MoX (X : Nat) (P : List (MemP × Value)) (v : Value) (w : World) : Prop where
  own : w.ownsRow (X + 1) 93 7 v P.length (mbCs P)
  nd : ∀ p ∈ P, (∃ a n c, p.2 = .slice a n c) ∧ Nd (fun j => X < j ∧ j < w.heap.size ∧ v.ownBlock ≠ some j) w p.1.ty p.2
theorem MoX.next {X : Nat} {P : List (MemP × Value)} {v : Value} {w w' : World} (h : MoX X P v w) (hb : Below w.heap.size w w') : MoX X P v w' :=
  ⟨own_far h.own (fun g hg _ => hb.block g (h.own.lt g hg).2), fun p hp => ⟨(h.nd p hp).1, (h.nd p hp).2.mono (fun j hj => ⟨hj.1, Nat.lt_of_lt_of_le hj.2.1 hb.size, hj.2.2⟩) (fun j hj => hb.block j hj.2.1)⟩⟩
theorem MoX.stp {X : Nat} {P : List (MemP × Value)} {v : Value} {w w' : World} (h : MoX X P v w) (hs : Stp X w w') : MoX X P v w' :=
  ⟨own_far h.own (fun g hg hg2 => hs.blk g (by omega)), fun p hp => ⟨(h.nd p hp).1, (h.nd p hp).2.mono (fun j hj => ⟨hj.1, by rw [hs.size]; exact hj.2.1, hj.2.2⟩) (fun j hj => hs.blk j (by omega))⟩⟩
theorem MoX.in {X : Nat} {P : List (MemP × Value)} {v : Value} {w : World} (h : MoX X P v w) : ∃ a c, v = .slice a P.length c ∧ P.length ≤ c ∧ MbS (fun j => X < j ∧ j < w.heap.size) (P.map Prod.fst) a w := by
  rcases h.own.2 with ⟨hv, hz⟩ | ⟨g, cap, cur, hv, hb, hg, h1, _⟩
  · exact ⟨none, 0, by rw [hv, hz], by omega, fun h0 => by rw [List.length_map] at h0; omega⟩
  · subst hv
    refine ⟨some ⟨g, 0, none⟩, cap, rfl, h1, fun _ => ⟨g, rfl, ⟨by omega, (Array.getElem?_eq_some_iff.1 hg).1⟩, fun k x hx => ?_⟩⟩
    rw [List.getElem?_map] at hx
    obtain ⟨p, hp, rfl⟩ := Option.map_eq_some_iff.1 hx
    obtain ⟨⟨pa, pn, pc, hpv⟩, hn⟩ := h.nd p (List.mem_of_getElem? hp)
    rw [hpv] at hn
    refine ⟨pa, pn, pc, hn.mono (fun j hj => ⟨hj.1, hj.2.1⟩) (fun _ _ => rfl), fun i u hu => ?_⟩
    have hi : i < 7 := by
      have := (List.getElem?_eq_some_iff.1 hu).1
      exact this
    have h2 := mbCs_at P k p hp i hi
    rw [hpv, hu] at h2
    have e := h.own.cells (g := g) rfl (k * 7 + i) u h2
    have ea : (⟨g, 0, none⟩ : Addr).add (k * 7 + i) = ⟨g, k * 7 + i, none⟩ := by unfold Addr.add; split <;> simp_all
    rwa [ea] at e
theorem mbC_one (x : MemP) (a : Option Addr) (n c : Nat) : ∀ u ∈ mbC x (.slice a n c), u.oneCell' = true := by
  intro u hu
  simp only [mbC, List.mem_cons, List.not_mem_nil, or_false] at hu
  rcases hu with rfl | rfl | rfl | rfl | rfl | rfl | rfl <;> rfl
/-- A member more. -/
theorem MoX.add {X : Nat} {P : List (MemP × Value)} {v : Value} {w wd : World} (h : MoX X P v w) {x : MemP} {a : Option Addr} {n c g cap : Nat} (hn : Nd (fun j => X < j ∧ j < w.heap.size ∧ v.ownBlock ≠ some j) w x.ty (.slice a n c))
    (hown : wd.ownsRow (X + 1) 93 7 (.slice (some ⟨g, 0, none⟩) (P.length + 1) cap) (P.length + 1) (mbCs P ++ mbC x (.slice a n c))) (hg : w.grownBy wd v.ownBlock) (hl : v.ownBlock = some g ∨ g = w.heap.size) :
    MoX X (P ++ [(x, .slice a n c)]) (.slice (some ⟨g, 0, none⟩) (P.length + 1) cap) wd := by
  have hk : ∀ j, (X < j ∧ j < w.heap.size ∧ v.ownBlock ≠ some j) → (X < j ∧ j < wd.heap.size ∧ (Value.slice (some ⟨g, 0, none⟩) (P.length + 1) cap).ownBlock ≠ some j) := fun j hj => ⟨hj.1, Nat.lt_of_lt_of_le hj.2.1 hg.size, fun e => by
    have e2 : g = j := by simpa [Value.ownBlock] using e
    subst e2
    rcases hl with h1 | h1
    · exact hj.2.2 h1
    · omega⟩
  have hb : ∀ j, (X < j ∧ j < w.heap.size ∧ v.ownBlock ≠ some j) → wd.heap[j]? = w.heap[j]? := fun j hj => hg.block j hj.2.1 (fun e => hj.2.2 e.symm)
  refine ⟨by rw [mbCs_snoc, List.length_append, List.length_singleton]; exact hown, fun p hp => ?_⟩
  rcases List.mem_append.1 hp with hp | hp
  · exact ⟨(h.nd p hp).1, (h.nd p hp).2.mono hk hb⟩
  · rw [List.mem_singleton] at hp
    subst hp
    exact ⟨⟨a, n, c, rfl⟩, hn.mono hk hb⟩
abbrev lyO (x y z : Int) (nm : ByteArray) (v : Value) : Obj := .cells #[.int .i64 x, .int .i64 y, .int .i64 z, .string nm, v] 89
theorem ly_set {w : World} {X : Nat} {x y z x' y' z' : Int} {nm : ByteArray} {v v' : Value} (h : w.heap[X]? = some (lyO x y z nm v)) :
    ((((w.setCell ⟨X, 4, none⟩ v').setCell ⟨X, 0, none⟩ (.int .i64 x')).setCell ⟨X, 1, none⟩ (.int .i64 y')).setCell ⟨X, 2, none⟩ (.int .i64 z')).heap[X]? = some (lyO x' y' z' nm v') := by
  have h1 := heap_setCell_same w X 4 _ _ v' h
  have h2 := heap_setCell_same _ X 0 _ _ (.int .i64 x') h1
  have h3 := heap_setCell_same _ X 1 _ _ (.int .i64 y') h2
  have h4 := heap_setCell_same _ X 2 _ _ (.int .i64 z') h3
  exact h4
/-- While members are laid out. -/
structure NxI (L : List LayP) (sn : List UInt8) (sm : List (List UInt8 × List UInt8)) (ga : Option Addr) (ML gc : Nat) (w : World) (X q : Nat) (x : AcP) (P : List (MemP × Value)) (v : Value) (wr : World) : Prop where
  pm : P.map Prod.fst = x.mems
  pl : P.length = q
  acb : AcB x
  go : goM L ac0 sm = goM L x (sm.drop q)
  bel : Below w.heap.size w wr
  xb : wr.heap[X]? = some (lyO x.b x.a x.s ⟨sn.toArray⟩ v)
  sb : wr.heap[w.heap.size]? = some (.cells #[.string ⟨sn.toArray⟩, .slice ga ML gc] 61)
  rb : wr.heap[w.heap.size + 1]? = some (.cells #[.int .i64 0, .int .i64 0, .int .i64 0, .string ⟨#[]⟩, .slice none 0 0] 89)
  mo : MoX X P v wr
/-- What next answers. -/
def NxX (L : List LayP) (s : StP) (w : World) (e : Ending) (w' : World) : Prop :=
  ((nxE L s = 0 ∧ ∃ ma mc, e = .returned (.tuple #[lV (nxL L s).bytes (nxL L s).align (nxL L s).scal ⟨(nxL L s).name.toArray⟩ ma (nxL L s).mems.length mc, .int .i64 0]) ∧ (nxL L s).mems.length ≤ mc ∧ MbS (Fm w.heap.size w') (nxL L s).mems ma w') ∨ (nxE L s ≠ 0 ∧ ∃ x y z nm ma mn mc, e = .returned (.tuple #[lV x y z nm ma mn mc, .int .i64 (nxE L s)]))) ∧ Below w.heap.size w w'
end Go.Proofs.YtacbjhbiaaieoaaGreatDoor
