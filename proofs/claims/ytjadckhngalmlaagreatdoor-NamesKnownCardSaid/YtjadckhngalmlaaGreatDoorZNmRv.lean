/-
  resolve, in the code.
-/
import Derived.Test.YtjadckhngalmlaaGreatDoorZNmRf
import Derived.Test.YtjadckhngalmlaaGreatDoorZNmRe
import Derived.Test.YtjadckhngalmlaaGreatDoorZNmRz
import Derived.Test.YtjadckhngalmlaaGreatDoorZNmBo
namespace Go.Proofs.YtjadckhngalmlaaGreatDoor
set_option linter.unusedVariables false
set_option linter.unusedSimpArgs false
set_option maxRecDepth 100000
open Go.RowKit

/-- A resolver as it begins, in memory: a scope of no names around the file's, a row of zeros. -/
theorem RsM.begin {w0 : World} {Fb : Nat} {f : FlP} {p : Option Addr} {L : List ScM} {ov fv : Value} {css : List (List Value)} {K : Nat} {w w' : World} (h : FlM w0 Fb f p L ov fv css K w) (hb : Below w.heap.size w w') {R BD M X N : Nat}
    (hR : w'.heap[R]? = some (.cells #[.pointer (some ⟨X, 0, none⟩), .slice none 0 0, .slice (some ⟨BD, 0, none⟩) N N, .slice none 0 0] 72)) (hBD : w'.heap[BD]? = some (.cells (bdCs (List.replicate N bd0)).toArray 49))
    (hM : w'.heap[M]? = some (.map #[] 0)) (hX : w'.heap[X]? = some (scO p M 0)) (h1 : w.heap.size ≤ R) (h2 : w.heap.size ≤ BD) (h3 : w.heap.size ≤ M) (hmp : MpIn dcV M 0 mp0 w') :
    RsM ⟨R, BD, N, w0.heap.size, fun _ => False⟩ (rs0 f N) (some ⟨X, 0, none⟩) (⟨X, M, 0, ⟨mp0, 0⟩⟩ :: L) (.slice none 0 0) (.slice none 0 0) K w' := by
  have hn := h.next hb
  have hs : w0.heap.size ≤ w.heap.size := h.bel.size
  refine ⟨hR, ⟨rfl, ⟨p, hX, hn.sc⟩, hmp⟩, ?_, by simp, ?_, ?_, ?_, hBD, ?_, ?_, ?_, ?_, ?_, fun h => h, fun h => h, fun _ _ h => h, fun _ _ h => h, fun _ _ h => h, fun _ h => h.elim, ?_⟩
  · show (⟨mp0, 0⟩ : ScP) :: L.map ScM.s = _
    rw [h.le]
    rfl
  · rw [List.map_cons, List.nodup_cons]
    refine ⟨fun hm => ?_, h.nd⟩
    obtain ⟨c, hc, e⟩ := List.mem_map.1 hm
    have := (h.sc.types c hc).2.lt
    have e : c.M = M := e
    omega
  · intro c hc
    rcases List.mem_cons.1 hc with rfl | hc
    · exact Nat.zero_le _
    · exact h.nb c hc
  · exact ⟨by simp [slCs, rs0], .inl ⟨rfl, rfl⟩⟩
  · show (List.replicate N _).length = N
    simp
  · exact ⟨by simp [usC, rs0], .inl ⟨rfl, rfl⟩⟩
  · show w0.heap.size ≤ R
    omega
  · show w0.heap.size ≤ BD
    omega
  · intro c hc
    rcases List.mem_cons.1 hc with rfl | hc
    · show w0.heap.size ≤ M
      omega
    · exact h.lM c hc
  · show w0.heap.size ≤ w'.heap.size
    have := hb.size
    omega
theorem RsM.ap_ty {G : RsG} {r : RsP} {p : Option Addr} {L : List ScM} {sv uv : Value} {K : Nat} {w : World} (h : RsM G r p L sv uv K w) {b : Nat} {x : Array Value} {T : TypeId} {fr : Nat × Nat} (ho : w.heap[b]? = some (.cells x T fr)) (h1 : T ≠ 98) (h2 : T ≠ 72) (h3 : T ≠ 49) (h4 : T ≠ 51) (h5 : T ≠ 9) : ApR G L sv uv b := by
  refine ⟨ne_ty h.blk ho (Ne.symm h2), ne_ty h.bd ho (Ne.symm h3), fun c hc => ?_, fun e => ?_, fun e => ?_⟩
  · obtain ⟨⟨q, k1⟩, k2⟩ := h.sc.types c hc
    obtain ⟨es, cl, k3⟩ := k2.map
    exact ⟨ne_ty k1 ho (Ne.symm h1), fun e => ne_map ho k3 e.symm⟩
  · obtain ⟨cur, hh⟩ := own_ty h.so e
    exact ne_ty hh ho (Ne.symm h4) rfl
  · obtain ⟨cur, hh⟩ := own_ty h.uo e
    exact ne_ty hh ho (Ne.symm h5) rfl
theorem made_bd (N : Nat) : madeCells #[.int .i64 0, .int .i64 0, .string ByteArray.empty] (N * 3) = (bdCs (List.replicate N bd0)).toArray := by
  apply Array.toList_inj.1
  unfold madeCells
  simp only [Array.toList_map, Array.toList_range, List.toList_toArray]
  induction N with
  | zero => rfl
  | succ N ih =>
    have h0 : N * 3 % 3 = 0 := by omega
    have h1 : (N * 3 + 1) % 3 = 1 := by omega
    have h2 : (N * 3 + 2) % 3 = 2 := by omega
    have e : (List.range 3).map (fun x => N * 3 + x) = [N * 3, N * 3 + 1, N * 3 + 2] := rfl
    rw [show (N + 1) * 3 = N * 3 + 3 by omega, List.range_add, List.map_append, ih, e, List.replicate_succ']
    unfold bdCs
    rw [List.flatMap_append]
    congr 1
    simp [h0, h1, h2, bdC, bd0]
    rfl
theorem begin_a {w0 : World} {Fb : Nat} {f : FlP} {p : Option Addr} {L : List ScM} {ov fv : Value} {css : List (List Value)} {K : Nat} {w : World} (h : FlM w0 Fb f p L ov fv css K w) (N : Nat) :
    RsM ⟨w.heap.size + 1 + 1 + 1, w.heap.size + 1 + 1, N, w0.heap.size, fun _ => False⟩ (rs0 f N) (some ⟨w.heap.size + 1, 0, none⟩) (⟨w.heap.size + 1, w.heap.size, 0, ⟨mp0, 0⟩⟩ :: L) (.slice none 0 0) (.slice none 0 0) K ((((w.alloc (.map #[] 0)).alloc (scO p w.heap.size 0)).alloc (.cells (madeCells #[.int .i64 0, .int .i64 0, .string ByteArray.empty] (N * 3)) 49)).alloc (.cells #[.pointer (some ⟨w.heap.size + 1, 0, none⟩), .slice none 0 0, .slice (some ⟨w.heap.size + 1 + 1, 0, none⟩) N N, .slice none 0 0] 72)).drew ∧
    Below w.heap.size w ((((w.alloc (.map #[] 0)).alloc (scO p w.heap.size 0)).alloc (.cells (madeCells #[.int .i64 0, .int .i64 0, .string ByteArray.empty] (N * 3)) 49)).alloc (.cells #[.pointer (some ⟨w.heap.size + 1, 0, none⟩), .slice none 0 0, .slice (some ⟨w.heap.size + 1 + 1, 0, none⟩) N N, .slice none 0 0] 72)).drew := by
  obtain ⟨o3, ho3⟩ : ∃ o : Obj, (.cells (madeCells #[.int .i64 0, .int .i64 0, .string ByteArray.empty] (N * 3)) 49) = o := ⟨_, rfl⟩
  obtain ⟨o4, ho4⟩ : ∃ o : Obj, (.cells #[.pointer (some ⟨w.heap.size + 1, 0, none⟩), .slice none 0 0, .slice (some ⟨w.heap.size + 1 + 1, 0, none⟩) N N, .slice none 0 0] 72) = o := ⟨_, rfl⟩
  rw [ho3, ho4]
  have b1 := below_o w (.map #[] 0)
  have b2 := below_o (w.alloc (.map #[] 0)) (scO p w.heap.size 0)
  have b3 := below_o ((w.alloc (.map #[] 0)).alloc (scO p w.heap.size 0)) o3
  have b4 := (below_o (((w.alloc (.map #[] 0)).alloc (scO p w.heap.size 0)).alloc o3) o4).drew
  have hb := below_t (below_t (below_t b1 b2 b1.size) b3 (Nat.le_trans b1.size b2.size)) b4 (Nat.le_trans b1.size (Nat.le_trans b2.size b3.size))
  have hM : ((((w.alloc (.map #[] 0)).alloc (scO p w.heap.size 0)).alloc o3).alloc o4).drew.heap[w.heap.size]? = some (.map #[] 0) := blk_on (blk_on (blk_on (heap_alloc_at (w := w) _ _ rfl) b2) b3) b4
  have hX : ((((w.alloc (.map #[] 0)).alloc (scO p w.heap.size 0)).alloc o3).alloc o4).drew.heap[w.heap.size + 1]? = some (scO p w.heap.size 0) := blk_on (blk_on (heap_alloc_at (w := w.alloc (.map #[] 0)) (scO p w.heap.size 0) (w.heap.size + 1) (by simp)) b3) b4
  have hB : ((((w.alloc (.map #[] 0)).alloc (scO p w.heap.size 0)).alloc o3).alloc o4).drew.heap[w.heap.size + 1 + 1]? = some o3 := blk_on (heap_alloc_at (w := (w.alloc (.map #[] 0)).alloc (scO p w.heap.size 0)) o3 (w.heap.size + 1 + 1) (by simp)) b4
  have hR : ((((w.alloc (.map #[] 0)).alloc (scO p w.heap.size 0)).alloc o3).alloc o4).drew.heap[w.heap.size + 1 + 1 + 1]? = some o4 := heap_alloc_at (w := ((w.alloc (.map #[] 0)).alloc (scO p w.heap.size 0)).alloc o3) o4 (w.heap.size + 1 + 1 + 1) (by simp)
  have hmp : MpIn dcV w.heap.size 0 mp0 ((((w.alloc (.map #[] 0)).alloc (scO p w.heap.size 0)).alloc o3).alloc o4).drew := (((MpIn.made dcV w).next b2).next b3).next b4
  exact ⟨RsM.begin h hb (hR.trans (congrArg some ho4.symm)) (hB.trans (congrArg some (ho3.symm.trans (by rw [made_bd])))) hM hX (by omega) (by omega) (Nat.le_refl _) hmp, hb⟩
theorem begin_b {w0 : World} {Fb : Nat} {f : FlP} {p : Option Addr} {L : List ScM} {ov fv : Value} {css : List (List Value)} {K : Nat} {w : World} (h : FlM w0 Fb f p L ov fv css K w) (N : Nat) :
    RsM ⟨w.heap.size + 1 + 1 + 1, w.heap.size, N, w0.heap.size, fun _ => False⟩ (rs0 f N) (some ⟨w.heap.size + 1 + 1, 0, none⟩) (⟨w.heap.size + 1 + 1, w.heap.size + 1, 0, ⟨mp0, 0⟩⟩ :: L) (.slice none 0 0) (.slice none 0 0) K ((((w.alloc (.cells (madeCells #[.int .i64 0, .int .i64 0, .string ByteArray.empty] (N * 3)) 49)).alloc (.map #[] 0)).alloc (scO p (w.heap.size + 1) 0)).alloc (.cells #[.pointer (some ⟨w.heap.size + 1 + 1, 0, none⟩), .slice none 0 0, .slice (some ⟨w.heap.size, 0, none⟩) N N, .slice none 0 0] 72)).drew ∧
    Below w.heap.size w ((((w.alloc (.cells (madeCells #[.int .i64 0, .int .i64 0, .string ByteArray.empty] (N * 3)) 49)).alloc (.map #[] 0)).alloc (scO p (w.heap.size + 1) 0)).alloc (.cells #[.pointer (some ⟨w.heap.size + 1 + 1, 0, none⟩), .slice none 0 0, .slice (some ⟨w.heap.size, 0, none⟩) N N, .slice none 0 0] 72)).drew := by
  obtain ⟨o3, ho3⟩ : ∃ o : Obj, (.cells (madeCells #[.int .i64 0, .int .i64 0, .string ByteArray.empty] (N * 3)) 49) = o := ⟨_, rfl⟩
  obtain ⟨o4, ho4⟩ : ∃ o : Obj, (.cells #[.pointer (some ⟨w.heap.size + 1 + 1, 0, none⟩), .slice none 0 0, .slice (some ⟨w.heap.size, 0, none⟩) N N, .slice none 0 0] 72) = o := ⟨_, rfl⟩
  rw [ho3, ho4]
  have b1 := below_o w o3
  have b2 := below_o (w.alloc o3) (.map #[] 0)
  have b3 := below_o ((w.alloc o3).alloc (.map #[] 0)) (scO p (w.heap.size + 1) 0)
  have b4 := (below_o (((w.alloc o3).alloc (.map #[] 0)).alloc (scO p (w.heap.size + 1) 0)) o4).drew
  have hb := below_t (below_t (below_t b1 b2 b1.size) b3 (Nat.le_trans b1.size b2.size)) b4 (Nat.le_trans b1.size (Nat.le_trans b2.size b3.size))
  have hB : ((((w.alloc o3).alloc (.map #[] 0)).alloc (scO p (w.heap.size + 1) 0)).alloc o4).drew.heap[w.heap.size]? = some o3 := blk_on (blk_on (blk_on (heap_alloc_at (w := w) _ _ rfl) b2) b3) b4
  have hM : ((((w.alloc o3).alloc (.map #[] 0)).alloc (scO p (w.heap.size + 1) 0)).alloc o4).drew.heap[w.heap.size + 1]? = some (.map #[] 0) := blk_on (blk_on (heap_alloc_at (w := w.alloc o3) (.map #[] 0) (w.heap.size + 1) (by simp)) b3) b4
  have hX : ((((w.alloc o3).alloc (.map #[] 0)).alloc (scO p (w.heap.size + 1) 0)).alloc o4).drew.heap[w.heap.size + 1 + 1]? = some (scO p (w.heap.size + 1) 0) := blk_on (heap_alloc_at (w := (w.alloc o3).alloc (.map #[] 0)) (scO p (w.heap.size + 1) 0) (w.heap.size + 1 + 1) (by simp)) b4
  have hR : ((((w.alloc o3).alloc (.map #[] 0)).alloc (scO p (w.heap.size + 1) 0)).alloc o4).drew.heap[w.heap.size + 1 + 1 + 1]? = some o4 := heap_alloc_at (w := ((w.alloc o3).alloc (.map #[] 0)).alloc (scO p (w.heap.size + 1) 0)) o4 (w.heap.size + 1 + 1 + 1) (by simp)
  have hm0 : MpIn dcV (w.heap.size + 1) 0 mp0 ((w.alloc o3).alloc (.map #[] 0)) := by
    have := MpIn.made dcV (w.alloc o3)
    rw [show (w.alloc o3).heap.size = w.heap.size + 1 by simp] at this
    exact this
  have hmp : MpIn dcV (w.heap.size + 1) 0 mp0 ((((w.alloc o3).alloc (.map #[] 0)).alloc (scO p (w.heap.size + 1) 0)).alloc o4).drew := (hm0.next b3).next b4
  exact ⟨RsM.begin h hb (hR.trans (congrArg some ho4.symm)) (hB.trans (congrArg some (ho3.symm.trans (by rw [made_bd])))) hM hX (by omega) (Nat.le_refl _) (by omega) hmp, hb⟩
set_option maxHeartbeats 8000000 in
theorem c_resolve (B : Nat) (u : UnP) (p : UnS) (hU : UnOk u) (nm : List UInt8) (w : World) (hE : Env B w) (hB : B ≤ w.heap.size) (hI : UnIn u p w) :
    Calls Tryz.prog 15 #[unV u p, nmS nm] w fun e w' => RvT (rvA u nm) w e w' := by
  have HC := Lib.hid (fun w' (hb : Below w.heap.size w w') => c_read B u p hU w' (hE.next (hb.mono hB)) (Nat.le_trans hB hb.size) (hI.next hb))
  have HEn := Lib.hid (And.intro hE hB)
  unfold RvT
  unfold RdT at HC
  obtain ⟨ra, hra⟩ : ∃ ra, rdA u = ra := ⟨_, rfl⟩
  obtain ⟨rv, hrv⟩ : ∃ rv, rvA u nm = rv := ⟨_, rfl⟩
  have HF : Hid (ra.1.2 = 0 → ra.2.Wf ∧ ra.2.funcs.length ≤ 128 ∧ ((ra.2.body nm = none ∧ rv.1 = (0, 4)) ∨ ∃ x ps, ra.2.body nm = some x ∧ grow x.body = some ps ∧ ckA wlB x.body = 0 ∧ x.body.length ≤ 4096 ∧ 0 < x.body.length ∧ x.params.length ≤ 8 ∧ FnOk x ∧ rv = fnR (rs0 ra.2 x.body.length) x ps)) := fun h => by
    rw [← hra] at h ⊢
    obtain ⟨o1, o2, o3⟩ := rdA_of h
    refine ⟨(rdA_wf h).1, o3, ?_⟩
    cases hb : (rdA u).2.body nm with
    | none =>
      refine .inl ⟨rfl, ?_⟩
      rw [← hrv]
      unfold rvA
      rw [if_pos h, hb]
    | some x =>
      obtain ⟨ps, h1, h2, h3, h4, h5, h6, h7, h8⟩ := body_ok h hb
      exact .inr ⟨x, ps, rfl, h1, h2, h3, h4, h5, hU.fn x (o1.fn x h7), by rw [← hrv, h8]; exact rsA_eq _ _ _⟩
  have HN : Hid (ra.1.2 ≠ 0 → rv.1 = ra.1) := fun h => by
    rw [← hra] at h ⊢
    rw [← hrv]
    unfold rvA
    rw [if_neg h]
  rw [hra] at HC
  rw [hrv]
  obtain ⟨S, G, F⟩ := u
  obtain ⟨sa, sc, ga, gc, fa, fc⟩ := p
  obtain ⟨⟨gat, ge⟩, f⟩ := ra
  obtain ⟨⟨vat, ve⟩, rr⟩ := rv
  simp only [unV] at HC HF HN ⊢
  clear hE hB hI hU hra hrv
  go_enter Tryz.func15, Tryz.ntmps15
  go_wp2_with fail
  have hb0 : Below w.heap.size w ((w.alloc (.cells #[.slice sa S.length sc, .slice ga G.length gc, .slice fa F.length fc] 26)).alloc (.cells #[.int .i64 0, .int .i64 0] 32)) := below_t (below_o _ _) (below_o _ _) (by simp)
  have HB0 : Hid (w.heap.size ≤ ((w.alloc (.cells #[.slice sa S.length sc, .slice ga G.length gc, .slice fa F.length fc] 26)).alloc (.cells #[.int .i64 0, .int .i64 0] 32)).heap.size) := hb0.size
  have HE1 := Lib.hid (HEn.out.1.next (hb0.mono HEn.out.2))
  refine (HC.out _ hb0).mono ?_
  rintro e w1 ⟨hrd, hb⟩
  have HB1 := Lib.hid (below_t hb0 hb hb0.size)
  have HZ1 := Lib.hid (blk_on (heap_alloc_at (w := w.alloc (.cells #[.slice sa S.length sc, .slice ga G.length gc, .slice fa F.length fc] 26)) _ (w.heap.size + 1) (by simp)) hb)
  clear hb0
  obtain ⟨w0, hw0⟩ : ∃ w0, (w.alloc (.cells #[.slice sa S.length sc, .slice ga G.length gc, .slice fa F.length fc] 26)).alloc (.cells #[.int .i64 0, .int .i64 0] 32) = w0 := ⟨_, rfl⟩
  have HS0 : Hid (w0.heap.size = w.heap.size + 1 + 1) := by rw [← hw0]; exact Lib.hid (by simp)
  rw [hw0] at hrd hb HE1 HB0
  have HBr := Lib.hid hb
  clear hb hw0
  obtain ⟨RB, hRB⟩ : ∃ RB, w.heap.size + 1 = RB := ⟨_, rfl⟩
  have HUR := Lib.hid hRB
  have HZ1' : Hid (w1.heap[RB]? = some (.cells #[.int .i64 0, .int .i64 0] 32)) := by rw [← hRB]; exact HZ1.out
  rw [hRB]
  clear hRB HZ1
  obtain ⟨z0, z1, zf⟩ := two_cells HZ1'.out
  have zf0 := zf 0
  have zf1 := zf 1
  have hzl := (Array.getElem?_eq_some_iff.1 HZ1'.out).1
  clear zf
  rcases hrd with ⟨rfl, Fb, p, L, ov, fv, css, K, rfl, hF, hK⟩ | ⟨hne, rfl⟩
  · have HZ2 := Lib.hid (And.intro hF hK)
    obtain ⟨hWf, hfl, hbd⟩ := HF.out rfl
    have HWf := Lib.hid (And.intro hWf hfl)
    have HBd := Lib.hid hbd
    have HCb : Hid (∀ W, Below w1.heap.size w1 W → Calls Tryz.prog 23 #[.pointer (some ⟨Fb, 0, none⟩), nmS nm] W fun e w' => ((f.body nm = none ∧ e = .returned (.tuple #[fnV 0 ByteArray.empty ByteArray.empty none 0 0 none 0 0, .bool false])) ∨ ∃ y : FnL, f.body nm = some y.x ∧ e = .returned (.tuple #[.agg y.cs.toArray, .bool true]) ∧ FnC w0 y.x y.cs) ∧ Below W.heap.size W w') :=
      fun W hW => c_fBody nm W (hF.next hW) hfl
    clear hF hK hWf hfl hbd HC HF HN
    go_wp2_with fail
    have hb2 := below_o w1 (.cells #[.int .i64 0, .int .i64 0] 32)
    have hz2 := blk_on HZ1'.out hb2
    refine (HCb.out _ hb2).mono ?_
    rintro e w3 ⟨hbo, hb3⟩
    have HB3 := Lib.hid (below_t hb2 hb3 hb2.size)
    have HZ3 := Lib.hid (blk_on hz2 hb3)
    clear hb2 hz2 hb3 HCb z0 z1 zf0 zf1 hzl
    obtain ⟨z0, z1, zf⟩ := two_cells HZ3.out
    have zf0 := zf 0
    have zf1 := zf 1
    have hzl := (Array.getElem?_eq_some_iff.1 HZ3.out).1
    rcases hbo with ⟨hno, rfl⟩ | ⟨⟨x, pa, pc, ba, bc⟩, hso, rfl, hC⟩
    · have hrv : ((vat, ve) : Int × Nat) = (0, 4) := by
        rcases HBd.out with ⟨_, h2⟩ | ⟨x, ps, h2, _⟩
        · exact h2
        · rw [hno] at h2; cases h2
      have HRv := Lib.hid hrv
      clear hno hrv zf
      go_wp2_with fail
      have hz9 := blk_on (two_put HZ3.out (.int .i64 0) (.int .i64 4)) (below_o _ (.cells #[.int .i64 0, .string ByteArray.empty, .string ByteArray.empty, .slice none 0 0, .slice none 0 0] 45))
      have hb9 := (two_below (below_t HB1.out HB3.out HB1.out.size) (show w.heap.size ≤ RB by have := HUR.out; omega) (.int .i64 0) (.int .i64 4)).alloc (by simpa using (below_t HB1.out HB3.out HB1.out.size).size) (.cells #[.int .i64 0, .string ByteArray.empty, .string ByteArray.empty, .slice none 0 0, .slice none 0 0] 45)
      generalize ((w3.setCell ⟨RB, 0, none⟩ (.int .i64 0)).setCell ⟨RB, 1, none⟩ (.int .i64 4)).alloc (.cells #[.int .i64 0, .string ByteArray.empty, .string ByteArray.empty, .slice none 0 0, .slice none 0 0] 45) = w9 at hz9 hb9 ⊢
      obtain ⟨p0, p1, _⟩ := two_cells hz9
      refine bodyPost_ret (v := .tuple #[.pointer none, faV 0 4]) (by simp [results, Tryz.results15, go_sem, p0, p1]) rfl ?_
      have hvv := HRv.out
      injection hvv with hv1 hv2
      have hv1 : vat = 0 := hv1
      have hv2 : ve = 4 := hv2
      exact ⟨.inr ⟨by show ve ≠ 0; rw [hv2]; decide, by show _ = Ending.returned (.tuple #[.pointer none, faV vat (ve : Nat)]); rw [hv1, hv2]; rfl⟩, hb9⟩
    · obtain ⟨ps, hg, hck, h4, h0, h8, hfo, hrv⟩ : ∃ ps, grow x.body = some ps ∧ ckA wlB x.body = 0 ∧ x.body.length ≤ 4096 ∧ 0 < x.body.length ∧ x.params.length ≤ 8 ∧ FnOk x ∧ ((vat, ve), rr) = fnR (rs0 f x.body.length) x ps := by
        rcases HBd.out with ⟨h2, _⟩ | ⟨x', ps, h2, h3⟩
        · rw [h2] at hso; cases hso
        · rw [h2] at hso
          cases hso
          exact ⟨ps, h3⟩
      obtain ⟨pa', pc', ba', bc', hcs, hV, hT, _⟩ := hC
      simp only [FnL.cs, List.cons.injEq, Value.slice.injEq, and_true, true_and] at hcs
      obtain ⟨⟨rfl, rfl⟩, rfl, rfl⟩ := hcs
      have HX := Lib.hid (And.intro hg (And.intro hck (And.intro h4 (And.intro h0 (And.intro h8 (And.intro hfo (And.intro hrv (And.intro hV hT))))))))
      clear hg hck h4 h0 h8 hfo hrv hV hT zf hso
      simp only [FnL.cs]
      obtain ⟨PL, hPL⟩ : ∃ n, x.params.length = n := ⟨_, rfl⟩
      obtain ⟨BL, hBL⟩ : ∃ n, x.body.length = n := ⟨_, rfl⟩
      have HL : Hid (x.params.length = PL ∧ x.body.length = BL) := ⟨hPL, hBL⟩
      rw [hPL, hBL]
      clear hPL hBL
      go_wp2_with fail
      obtain ⟨w4, hw4⟩ : ∃ w4, w3.alloc (.cells #[.int .i64 x.at', nmS x.name, nmS x.type, .slice pa PL pc, .slice ba BL bc] 45) = w4 := ⟨_, rfl⟩
      have hb4 : Below w3.heap.size w3 w4 := by rw [← hw4]; exact below_o _ _
      have hx4 : w4.heap[w3.heap.size]? = some (.cells #[.int .i64 x.at', nmS x.name, nmS x.type, .slice pa PL pc, .slice ba BL bc] 45) := by rw [← hw4]; exact heap_alloc_at (w := w3) _ _ rfl
      rw [hw4]
      obtain ⟨XB, hXB⟩ : ∃ n, w3.heap.size = n := ⟨_, rfl⟩
      rw [hXB] at hx4 ⊢
      have HB4 := Lib.hid (below_t HB3.out hb4 HB3.out.size).drew
      have HB5 := Lib.hid (below_t HB3.out hb4 HB3.out.size)
      have HX5 := Lib.hid hx4
      have HX4 := Lib.hid (blk_on hx4 (Below.refl _ w4).drew)
      have HF4 := Lib.hid (HZ2.out.1.next HB4.out)
      obtain ⟨y0, y1, y2, y3, _⟩ := cells4 HF4.out.blk
      have hyl := (Array.getElem?_eq_some_iff.1 HF4.out.blk).1
      have x4 : w4.drew.cell? ⟨XB, 4, none⟩ = some (.slice ba BL bc) := by rw [Lib.cell_of_heap HX4.out]; rfl
      have hxl := (Array.getElem?_eq_some_iff.1 HX4.out).1
      obtain ⟨iB, hiB, hzB0, hzB1, hzB2⟩ := info_parts infoBd
      have hmk : ∀ w' : World, (Instr.makeSlice 29 (.int .i64 (BL : Int)) (.int .i64 (BL : Int))).run Tryz.prog w' = .ok (.slice (some ⟨w'.heap.size, 0, none⟩) BL BL) (w'.alloc (.cells (madeCells #[.int .i64 0, .int .i64 0, .string ByteArray.empty] (BL * 3)) 49)) := fun w' => by
        have h := run_make (P := Tryz.prog) w' 29 49 iB _ Tryz.underlying29 hiB hzB0 .i64 .i64 (BL : Int) (BL : Int) (by omega) (Int.le_refl _) (by have h1 := HX.out.2.2.1; have h2 := HL.out.2; rw [hzB2]; omega) (by have h1 := HX.out.2.2.1; have h2 := HL.out.2; omega)
        rw [Int.toNat_natCast, hzB1] at h
        exact h
      have xW : ((w4.alloc (.map #[] 0)).alloc (scO p w4.heap.size 0)).drew.cell? ⟨XB, 4, none⟩ = some (.slice ba BL bc) := by rw [Lib.cell_of_heap (blk_on (blk_on HX4.out (below_o w4.drew (.map #[] 0))) (below_o _ (scO p w4.heap.size 0)) : ((w4.alloc (.map #[] 0)).alloc (scO p w4.heap.size 0)).drew.heap[XB]? = _)]; rfl
      have yW : (w4.alloc (.cells (madeCells #[.int .i64 0, .int .i64 0, .string ByteArray.empty] (BL * 3)) 49)).drew.cell? ⟨Fb, 0, none⟩ = some (.pointer p) := by rw [Lib.cell_of_heap (blk_on HF4.out.blk (below_o w4.drew (.cells (madeCells #[.int .i64 0, .int .i64 0, .string ByteArray.empty] (BL * 3)) 49)) : (w4.alloc (.cells (madeCells #[.int .i64 0, .int .i64 0, .string ByteArray.empty] (BL * 3)) 49)).drew.heap[Fb]? = _)]; rfl
      clear hw4 hb4 hx4 hXB z0 z1 zf0 zf1 hzl
      go_region_law (first | (go_simp; go_at_call 24; refine (c_within p 0 _).mono ?_; rintro e w5 ⟨rfl, rfl⟩))
      all_goals
        first
          | (obtain ⟨hR5, hb5⟩ := begin_a (HZ2.out.1.next HB5.out) BL
             obtain ⟨w5, hw5⟩ : ∃ w5, ((((w4.alloc (.map #[] 0)).alloc (scO p w4.heap.size 0)).alloc (.cells (madeCells #[.int .i64 0, .int .i64 0, .string ByteArray.empty] (BL * 3)) 49)).alloc (.cells #[.pointer (some ⟨w4.heap.size + 1, 0, none⟩), .slice none 0 0, .slice (some ⟨w4.heap.size + 1 + 1, 0, none⟩) BL BL, .slice none 0 0] 72)).drew = w5 := ⟨_, rfl⟩
             rw [hw5] at hR5 hb5 ⊢)
          | (obtain ⟨hR5, hb5⟩ := begin_b (HZ2.out.1.next HB5.out) BL
             obtain ⟨w5, hw5⟩ : ∃ w5, ((((w4.alloc (.cells (madeCells #[.int .i64 0, .int .i64 0, .string ByteArray.empty] (BL * 3)) 49)).alloc (.map #[] 0)).alloc (scO p (w4.heap.size + 1) 0)).alloc (.cells #[.pointer (some ⟨w4.heap.size + 1 + 1, 0, none⟩), .slice none 0 0, .slice (some ⟨w4.heap.size, 0, none⟩) BL BL, .slice none 0 0] 72)).drew = w5 := ⟨_, rfl⟩
             rw [hw5] at hR5 hb5 ⊢)
        have hx5 := blk_on HX5.out hb5
        obtain ⟨x0, x1, x2, x3, x4', _⟩ := five_cells hx5
        have hbz := below_t HBr.out (below_t HB5.out hb5 HB5.out.size) HBr.out.size
        have HCf := c_rFunction B ⟨_, _, BL, w0.heap.size, fun _ => False⟩ x pa pc ba bc w0 w5 (HE1.out.next (hbz.mono (Nat.le_trans HEn.out.2 HB0.out))) (Nat.le_trans HEn.out.2 HB0.out) hR5 (by have := HZ2.out.2; omega) (Nat.le_refl _) hbz HX.out.2.2.2.2.2.2.2.1 HX.out.2.2.2.2.2.2.2.2 HX.out.2.2.2.2.2.1 HX.out.2.2.2.2.1 HL.out.2.symm HX.out.2.1 ps HX.out.1 (by rw [← HL.out.2]; exact rs0_wf HWf.out.1 x.body) rfl rfl
        rw [HL.out.1, HL.out.2] at HCf
        have hfe : fnR (rs0 f BL) x ps = ((vat, ve), rr) := by rw [HX.out.2.2.2.2.2.2.1, HL.out.2]
        rw [hfe] at HCf
        have HC5 := Lib.hid (And.intro HCf (And.intro hb5 (And.intro hbz hR5)))
        clear HCf hfe hbz hb5 hR5 hx5 hmk xW yW x4 y0 y1 y2 y3 hyl hxl
        go_wp2_with fail
        refine HC5.out.1.mono ?_
        rintro e w6 ⟨rfl, hR6, hK6⟩
        have hb4 := below_t HB1.out HB5.out HB1.out.size
        have hb5 := below_t hb4 HC5.out.2.1 hb4.size
        have hb6 : Below w.heap.size w w6 := hb5.trans (hK6.bel.mono HB0.out)
        have hz6 := (hK6.bel.block RB (by show RB < w0.heap.size; have := HS0.out; have := HUR.out; omega)).trans (blk_on (blk_on HZ1'.out HB5.out) HC5.out.2.1)
        have HB6 := Lib.hid (And.intro hb6 hz6)
        have HR6 := Lib.hid hR6
        clear hb4 hb5 hb6 hz6 hR6 hK6 HC5
        obtain ⟨z0, z1, zf⟩ := two_cells HB6.out.2
        have zf0 := zf 0
        have zf1 := zf 1
        have hzl := (Array.getElem?_eq_some_iff.1 HB6.out.2).1
        clear zf x0 x1 x2 x3 x4'
        by_cases h0 : ve = 0
        · subst h0
          go_wp2_with fail
          have hz9 := blk_on (two_put HB6.out.2 (.int .i64 0) (.int .i64 0)) (below_o _ (.cells #[.int .i64 vat, .int .i64 0] 32))
          have hb9 := (two_below HB6.out.1 (show w.heap.size ≤ RB by have := HUR.out; omega) (.int .i64 0) (.int .i64 0)).alloc (by simpa using HB6.out.1.size) (.cells #[.int .i64 vat, .int .i64 0] 32)
          obtain ⟨p', L', sv', uv', K', hR7⟩ := HR6.out (by trivial)
          have hx1 := heap_setCell_same w6 RB 0 _ _ (.int .i64 0) HB6.out.2
          have hR8 := hR7.far (hR7.ap_ty HB6.out.2 (by decide) (by decide) (by decide) (by decide) (by decide)) (grown_set w6 RB 0 (.int .i64 0))
          have hR9 := (hR8.far (hR8.ap_ty hx1 (by decide) (by decide) (by decide) (by decide) (by decide)) (grown_set _ RB 1 (.int .i64 0))).next (below_o _ (.cells #[.int .i64 vat, .int .i64 0] 32))
          clear hx1 hR7 hR8
          try go_region
          all_goals
            try go_wp2_with fail
            generalize ((w6.setCell ⟨RB, 0, none⟩ (.int .i64 0)).setCell ⟨RB, 1, none⟩ (.int .i64 0)).alloc (.cells #[.int .i64 vat, .int .i64 0] 32) = w9 at hz9 hb9 hR9 ⊢
            obtain ⟨p0, p1, _⟩ := two_cells hz9
            refine bodyPost_ret (v := .tuple #[.pointer (some ⟨_, 0, none⟩), faV 0 0]) (by simp [results, Tryz.results15, go_sem, p0, p1]; rfl) rfl ?_
            refine ⟨⟨_, ?_, ⟨_, _, _, _, _, hR9⟩, ?_⟩, hb9⟩
            · rfl
            · exact HB0.out
        · obtain ⟨gei, hgei⟩ : ∃ x : Int, ((ve : Nat) : Int) = x := ⟨_, rfl⟩
          have HGe := Lib.hid (And.intro hgei h0)
          have hne2 : (gei != 0) = true := by simp; omega
          rw [hgei]
          clear h0 hgei
          go_wp2_with fail
          have hz9 := blk_on (two_put HB6.out.2 (.int .i64 vat) (.int .i64 gei)) ((below_o _ (.cells #[.int .i64 vat, .int .i64 gei] 32)).drew)
          have hb9 := ((two_below HB6.out.1 (show w.heap.size ≤ RB by have := HUR.out; omega) (.int .i64 vat) (.int .i64 gei)).alloc (by simpa using HB6.out.1.size) (.cells #[.int .i64 vat, .int .i64 gei] 32)).drew
          go_region
          all_goals
            go_wp2_with fail
            generalize (((w6.setCell ⟨RB, 0, none⟩ (.int .i64 vat)).setCell ⟨RB, 1, none⟩ (.int .i64 gei)).alloc (.cells #[.int .i64 vat, .int .i64 gei] 32)).drew = w9 at hz9 hb9 ⊢
            obtain ⟨p0, p1, _⟩ := two_cells hz9
            refine bodyPost_ret (v := .tuple #[.pointer none, faV vat gei]) (by simp [results, Tryz.results15, go_sem, p0, p1]) rfl ?_
            exact ⟨.inr ⟨HGe.out.2, by rw [HGe.out.1]⟩, hb9⟩
  · obtain ⟨gei, hgei⟩ : ∃ x : Int, ((ge : Nat) : Int) = x := ⟨_, rfl⟩
    have hvv := HN.out hne
    have HGe := Lib.hid (And.intro hgei (And.intro hne hvv))
    have hne2 : (gei != 0) = true := by simp; omega
    rw [hgei]
    clear hne hgei hvv
    go_wp2_with fail
    have hz9 := blk_on (two_put HZ1'.out (.int .i64 gat) (.int .i64 gei)) ((below_o _ (.cells #[.int .i64 gat, .int .i64 gei] 32)).drew)
    have hb9 := ((two_below HB1.out (show w.heap.size ≤ RB by have := HUR.out; omega) (.int .i64 gat) (.int .i64 gei)).alloc (by simpa using HB1.out.size) (.cells #[.int .i64 gat, .int .i64 gei] 32)).drew
    go_region
    all_goals
      go_wp2_with fail
      generalize (((w1.setCell ⟨RB, 0, none⟩ (.int .i64 gat)).setCell ⟨RB, 1, none⟩ (.int .i64 gei)).alloc (.cells #[.int .i64 gat, .int .i64 gei] 32)).drew = w9 at hz9 hb9 ⊢
      obtain ⟨p0, p1, _⟩ := two_cells hz9
      refine bodyPost_ret (v := .tuple #[.pointer none, faV gat gei]) (by simp [results, Tryz.results15, go_sem, p0, p1]) rfl ?_
      have hvv := HGe.out.2.2
      injection hvv with hv1 hv2
      have hv1 : vat = gat := hv1
      have hv2 : ve = ge := hv2
      exact ⟨.inr ⟨by show ve ≠ 0; rw [hv2]; exact HGe.out.2.1, by show _ = Ending.returned (.tuple #[.pointer none, faV vat (ve : Nat)]); rw [hv1, hv2, HGe.out.1]⟩, hb9⟩
end Go.Proofs.YtjadckhngalmlaaGreatDoor
