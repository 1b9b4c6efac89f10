/-
  The contract of the writer of declarations: a whole declaration, in the code.
-/
import Derived.Test.YtacbjhbiaaieoaaGreatDoorTyWl
namespace Go.Proofs.YtacbjhbiaaieoaaGreatDoor
set_option linter.unusedVariables false
set_option linter.unusedSimpArgs false
set_option maxRecDepth 100000
open Go.RowKit

/-- A row of nodes that the call owns, as it lies while the writer writes. -/
structure RoAt (b : Nat) (L : List (Ty × Value)) (g : Nat) (w : World) : Prop where
  blk : L ≠ [] → ∃ cur, w.heap[g]? = some (.cells cur 68 (0, 0)) ∧ g ≠ b
  cells : ∀ j u, (ndCs L)[j]? = some u → w.cell? ⟨g, j, none⟩ = some u
theorem RoAt.keep {B b g : Nat} {L : List (Ty × Value)} {w w' : World} (h : RoAt b L g w) (hf : FrB B b w w') : RoAt b L g w' := by
  by_cases hL : L = []
  · subst hL
    exact ⟨fun e => absurd rfl e, fun j u hu => by simp [ndCs] at hu⟩
  · obtain ⟨cur, h1, h2⟩ := h.blk hL
    have h3 := hf.keep h1 h2 (by decide)
    exact ⟨fun _ => ⟨cur, h3, h2⟩, fun j u hu => (cell_of_blk (h3.trans h1.symm) j).trans (h.cells j u hu)⟩
theorem RoAt.at {b g k : Nat} {L : List (Ty × Value)} {w : World} (h : RoAt b L g w) {S : Nat → Prop} {w0 : World} (hK : ∀ p ∈ L, Nd S w0 p.1 p.2) {u : Ty} (hk : (L.map Prod.fst)[k]? = some u) :
    ∃ a n c, Nd S w0 u (.slice a n c) ∧ g < w.heap.size ∧ w.cell? ⟨g, k * 5, none⟩ = some (.int .u8 u.letter.toNat) ∧ w.cell? ⟨g, k * 5 + 1, none⟩ = some (.string ⟨u.code.toArray⟩) ∧ w.cell? ⟨g, k * 5 + 2, none⟩ = some (.int .i64 u.count) ∧ w.cell? ⟨g, k * 5 + 3, none⟩ = some (.string ⟨u.tag.toArray⟩) ∧ w.cell? ⟨g, k * 5 + 4, none⟩ = some (.slice a n c) := by
  rw [List.getElem?_map] at hk
  obtain ⟨⟨u', v⟩, hp, hu⟩ := Option.map_eq_some_iff.1 hk
  have hu' : u' = u := hu
  subst hu'
  have hn := hK _ (List.mem_of_getElem? hp)
  obtain ⟨a, c, hv, _⟩ := hn.sl
  have hv' : v = .slice a u'.parts.length c := hv
  have hn' : Nd S w0 u' v := hn
  rw [hv'] at hn' hp
  have hx : ∀ i x, (ndC u' (.slice a u'.parts.length c))[i]? = some x → i < 5 → w.cell? ⟨g, k * 5 + i, none⟩ = some x := fun i x hx hi => h.cells _ _ ((ndCs_at L k u' _ hp i hi).trans hx)
  exact ⟨a, _, c, hn', World.block_lt_of_cell? w ⟨g, k * 5 + 0, none⟩ (hx 0 _ rfl (by decide)), hx 0 _ rfl (by decide), hx 1 _ rfl (by decide), hx 2 _ rfl (by decide), hx 3 _ rfl (by decide), hx 4 _ rfl (by decide)⟩
theorem ro_of {B b : Nat} {w : World} {L : List (Ty × Value)} {v : Value} (h : w.ownsRow B 68 5 v L.length (ndCs L)) (hb : b < B) : ∃ g c, (v = .slice (some ⟨g, 0, none⟩) L.length c ∨ (v = .slice none 0 0 ∧ L = [])) ∧ L.length ≤ c + L.length ∧ RoAt b L g w := by
  rcases h.2 with ⟨hv, hz⟩ | ⟨g, cap, cur, hv, hN, hg, h1, _⟩
  · have hL : L = [] := List.length_eq_zero_iff.1 hz
    subst hL
    exact ⟨0, 0, .inr ⟨hv, rfl⟩, by omega, ⟨fun e => absurd rfl e, fun j u hu => by simp [ndCs] at hu⟩⟩
  · refine ⟨g, cap, .inl hv, by omega, ⟨fun _ => ⟨cur, hg, by omega⟩, fun j u hu => ?_⟩⟩
    have e := h.cells (g := g) (by rw [hv]; rfl) j u hu
    have ea : (⟨g, 0, none⟩ : Addr).add j = ⟨g, j, none⟩ := by unfold Addr.add; split <;> simp_all
    rwa [ea] at e
theorem spn_code : ∀ (t u : Ty), u ∈ (spn t).1 → u.code.length ≤ t.code.length
  | .base c, u, h => by cases h
  | .str s, u, h => by cases h
  | .ptr t, u, h => by
    rcases List.mem_cons.1 h with rfl | h
    · exact Nat.le_refl _
    · have := spn_code t u h
      show _ ≤ (112 :: t.code).length
      rw [List.length_cons]
      omega
  | .arr n t, u, h => by
    rcases List.mem_cons.1 h with rfl | h
    · exact Nat.le_refl _
    · have := spn_code t u h
      have h2 : t.code.length ≤ (Ty.arr n t).code.length := by show _ ≤ (97 :: (Lib.decDigits n ++ 58 :: t.code)).length; simp; omega
      omega
  | .fn ps r, u, h => by
    rcases List.mem_cons.1 h with rfl | h
    · exact Nat.le_refl _
    · have := spn_code r u h
      have h2 : r.code.length ≤ (Ty.fn ps r).code.length := by
        cases ps with
        | nil => show _ ≤ (102 :: 40 :: 41 :: r.code).length; simp; omega
        | cons t ts => show _ ≤ (102 :: 40 :: (t.code ++ (ts.code ++ 41 :: r.code))).length; simp; omega
      omega
set_option maxHeartbeats 4000000 in
theorem declare_succ (n : Nat) (hD : DcC n) : DcC (n + 1) := fun B b S t a k c x l w hsz hwf hcl hln hE hS hN hW hB => by
  have hSw : ∀ j, S j → j < w.heap.size := fun j hj => Nat.lt_of_lt_of_le (hS j hj) hB
  have HA := Lib.hid (fun w' (hb : Below w.heap.size w w') => c_around S t (.slice a k c) w' (fun j hj => Nat.lt_of_lt_of_le (hSw j hj) hb.size) (Nd.mono hN (fun j hj => hj) (fun j hj => hb.block j (hSw j hj))) hcl)
  rw [nd_nV] at HA
  have hbB : b < w.heap.size := by rcases hW with h | h <;> exact h.lt
  have HDc := Lib.hid (dcl_w t x)
  have HLn := Lib.hid hln
  have HW := Lib.hid (fun w' (hb : Below w.heap.size w w') => hW.next hb)
  have HX := Lib.hid (And.intro hE (And.intro hS (And.intro hwf (And.intro hsz hcl))))
  obtain ⟨x0, hx0⟩ : ∃ x0 : Int, (t.letter.toNat : Int) = x0 := ⟨_, rfl⟩
  obtain ⟨x2, hx2⟩ : ∃ x2 : Int, (t.count : Int) = x2 := ⟨_, rfl⟩
  obtain ⟨s1, hs1⟩ : ∃ s1, (⟨t.code.toArray⟩ : ByteArray) = s1 := ⟨_, rfl⟩
  obtain ⟨s3, hs3⟩ : ∃ s3, (⟨t.tag.toArray⟩ : ByteArray) = s3 := ⟨_, rfl⟩
  rw [hx0, hx2, hs1, hs3] at HA ⊢
  have HDh := Lib.hid hD
  clear hwf hsz hcl hE hS hN hW hln hx0 hx2 hs1 hs3 hSw hD
  go_enter Tryz.func66, Tryz.ntmps66
  go_wp2_with fail
  refine (HA.out _ (below_a _ _)).mono ?_
  rintro e w1 ⟨L, v, a', n', c', rfl, hmap, hown, hkids, hbase, hb⟩
  have HB1 := Lib.hid (below_on (below_a w (.cells #[.int .u8 x0, .string s1, .int .i64 x2, .string s3, .slice a k c] 68)) hb (by simp))
  obtain ⟨ao, co, rfl, hco⟩ := slc_of hown
  have hro : ∃ g, (L ≠ [] → ao = some ⟨g, 0, none⟩) ∧ RoAt b L g w1 := by
    obtain ⟨g, cr, h1, _, h2⟩ := ro_of hown (show b < (w.alloc (.cells #[.int .u8 x0, .string s1, .int .i64 x2, .string s3, .slice a k c] 68)).heap.size by simp; omega)
    refine ⟨g, fun hL => ?_, h2⟩
    rcases h1 with h1 | ⟨_, h1⟩
    · cases h1; rfl
    · exact absurd h1 hL
  obtain ⟨g, hao, hra⟩ := hro
  have HR1 := Lib.hid hra
  have HK1 := Lib.hid (And.intro hmap (fun (p : Ty × Value) (hp : p ∈ L) => (Nd.mono (hkids p hp) (fun j hj => hj) (fun j hj => (Below.heap_alloc _ _ _ (Nat.lt_of_lt_of_le (HX.out.2.1 j hj) hB)).symm) : Nd S w p.1 p.2)))
  have hLl : L.length ≤ 65536 := by
    have h1 := congrArg List.length hmap
    rw [List.length_map] at h1
    have h2 := spn_len t
    have h3 := size_code t
    have h4 := HX.out.2.2.2.2
    omega
  have HBs := Lib.hid (fun w' (hb' : Below w.heap.size w w') => c_base B b l (spn t).2 (spn_base t) (spn_wf t HX.out.2.2.1) a' n' c' w' (HW.out w' hb') (Nat.le_trans hB hb'.size) (by have h := HLn.out; rw [HDc.out, List.length_append] at h; omega))
  rw [nd_nV]
  obtain ⟨y0, hy0⟩ : ∃ y : Int, ((spn t).2.letter.toNat : Int) = y := ⟨_, rfl⟩
  obtain ⟨y2, hy2⟩ : ∃ y : Int, ((spn t).2.count : Int) = y := ⟨_, rfl⟩
  obtain ⟨y1, hy1⟩ : ∃ y, (⟨(spn t).2.code.toArray⟩ : ByteArray) = y := ⟨_, rfl⟩
  obtain ⟨y3, hy3⟩ : ∃ y, (⟨(spn t).2.tag.toArray⟩ : ByteArray) = y := ⟨_, rfl⟩
  rw [hy0, hy1, hy2, hy3] at HBs ⊢
  clear hy0 hy1 hy2 hy3 hmap hown hkids hbase hb hra HA
  go_wp2_with fail
  refine (HBs.out _ (HB1.out.alloc HB1.out.size _)).mono ?_
  rintro e w3 ⟨rfl, h3, hb3⟩
  have HF3 := Lib.hid (frb_on (HB1.out.alloc HB1.out.size (.cells #[.int .u8 y0, .string y1, .int .i64 y2, .string y3, .slice a' n' c'] 68)) hb3 hB)
  have HW3 := Lib.hid h3
  have HR3 := Lib.hid ((HR1.out.keep (FrB.of (below_a w1 (.cells #[.int .u8 y0, .string y1, .int .i64 y2, .string y3, .slice a' n' c'] 68)) (Nat.le_trans hB HB1.out.size))).keep hb3)
  clear h3 hb3 HBs HR1 HB1
  have hwl : IntKind.i64.wrap ((L.length : Int) - 1) = (L.length : Int) - 1 := by rw [IntKind.wrap_i64]; omega
  by_cases hL : L = []
  · subst hL
    have hs0 : (spn t).1 = [] := by rw [← HK1.out.1]; rfl
    have HS0 := Lib.hid hs0
    by_cases hx : x = []
    · subst hx
      have HD0 : Hid (dcl t [] = bwT (spn t).2) := by show _ = _; rw [HDc.out, in_nil HS0.out, List.append_nil]
      go_wp2_with fail
      refine wp_loop_rounds 1 ?_
      rw [rounds_succ]
      go_wp2_with fail
      refine (c_WriteString B b _ [] w3 HW3.out (by have h := HLn.out; rw [HD0.out] at h; simp; omega) (frb_at HF3.out hB)).mono ?_
      rintro e w4 ⟨rfl, h4, hb4⟩
      go_wp2_with fail
      refine wp_loop_rounds 1 ?_
      rw [rounds_succ]
      go_wp2_with fail
      go_end0
      exact ⟨rfl, by rw [HD0.out]; simpa using h4, HF3.out.trans hb4⟩
    · have HD0 : Hid (dcl t x = bwT (spn t).2 ++ 32 :: x) := by
        show _ = _
        rw [HDc.out, in_ne (.inr hx)]
        unfold inD
        rw [HS0.out]
        simp [ahR, bhL]
      have hxb : (x == []) = false := by simp [hx]
      go_wp2_with fail
      refine (c_WriteString B b _ [32] w3 HW3.out (by have h := HLn.out; rw [HD0.out] at h; simp at h ⊢; omega) (frb_at HF3.out hB)).mono ?_
      rintro e w4 ⟨rfl, h4, hb4⟩
      have HF4 := Lib.hid (HF3.out.trans hb4)
      have HW4 := Lib.hid h4
      clear h4 hb4
      go_wp2_with fail
      refine wp_loop_rounds 1 ?_
      rw [rounds_succ]
      go_wp2_with fail
      refine (c_WriteString B b _ x w4 HW4.out (by have h := HLn.out; rw [HD0.out] at h; simp at h ⊢; omega) (frb_at HF4.out hB)).mono ?_
      rintro e w5 ⟨rfl, h5, hb5⟩
      go_wp2_with fail
      refine wp_loop_rounds 1 ?_
      rw [rounds_succ]
      go_wp2_with fail
      go_end0
      exact ⟨rfl, by rw [HD0.out]; simpa using h5, HF4.out.trans hb5⟩
  · have hao' := hao hL
    subst hao'
    have hLp : 0 < L.length := List.length_pos_iff.2 hL
    have hdl : decide ((0 : Int) < (L.length : Int)) = true := by simp; omega
    obtain ⟨Ls, hLs⟩ : ∃ Ls, (spn t).1 = Ls := ⟨_, rfl⟩
    have HD0 : Hid (dcl t x = bwT (spn t).2 ++ 32 :: (ahR Ls ++ (x ++ bhL Ls))) := by
      show _ = _
      rw [HDc.out, in_ne (.inl (by rw [← HK1.out.1]; simpa using hL))]
      unfold inD
      rw [hLs]
    have HLs : Hid (∀ u ∈ Ls, u.wf ∧ u.size ≤ n + 1 ∧ u.code.length ≤ 65536) := fun u hu => by
      rw [← hLs] at hu
      have h1 := spn_all t HX.out.2.2.1 u hu
      have h2 := spn_code t u hu
      have h3 := HX.out.2.2.2
      exact ⟨h1.1, by omega, by omega⟩
    have HK2 : Hid (L.map Prod.fst = Ls ∧ ∀ p ∈ L, Nd S w p.1 p.2) := by rw [← hLs]; exact HK1.out
    have HLen : Hid (Ls.length = L.length) := by show _ = _; rw [← HK2.out.1]; simp
    obtain ⟨pre, hpre⟩ : ∃ pre, l ++ bwT (spn t).2 ++ [32] = pre := ⟨_, rfl⟩
    have HFin : Hid (pre ++ ahR Ls ++ x ++ bhL Ls = l ++ dcl t x) := by show _ = _; rw [HD0.out, ← hpre]; simp
    have HT : Hid (pre.length + (ahR Ls).length + x.length + (bhL Ls).length ≤ 140737488355328) := by
      show _ ≤ _
      have h := HLn.out
      rw [← List.length_append, ← HFin.out] at h
      simp only [List.length_append] at h
      omega
    have HW1' : Hid (l.length + (bwT (spn t).2).length + 1 ≤ 140737488355328) := by
      show _ ≤ _
      have h := HLn.out
      rw [HD0.out] at h
      simp only [List.length_append, List.length_cons] at h
      omega
    clear hao hLs HK1 HD0
    go_wp2_with fail
    refine (c_WriteString B b _ [32] w3 HW3.out (by have := HW1'.out; simp; omega) (frb_at HF3.out hB)).mono ?_
    rintro e w4 ⟨rfl, h4, hb4⟩
    rw [hpre] at h4
    have HN4 : Hid (FrB B b w w4 ∧ RoAt b L g w4 ∧ WrAt B b pre w4) := ⟨HF3.out.trans hb4, HR3.out.keep hb4, h4⟩
    clear h4 hb4 hpre HF3 HR3 HW3
    go_wp2_with fail
    go_loopg [8] L.length (fun m v wr => m ≤ L.length ∧ ∃ i : Int, i + 1 = (m : Int) ∧ v = .int .i64 i ∧ Hid (FrB B b w wr ∧ RoAt b L g wr ∧ WrAt B b (pre ++ ahR (Ls.drop m)) wr))
    case atStart =>
      refine ⟨Nat.le_refl _, _, by omega, rfl, HN4.out.1, HN4.out.2.1, ?_⟩
      rw [List.drop_of_length_le (by rw [HLen.out]; exact Nat.le_refl _)]
      simpa [ahR] using HN4.out.2.2
    case round =>
      obtain ⟨hgm, i, hi, rfl, HR⟩ := hrel
      cases gk with
      | zero =>
        obtain rfl : i = -1 := by simp at hi; omega
        go_wp2_with fail
        refine (c_WriteString B b (pre ++ ahR Ls) x wr HR.out.2.2 (by have := HT.out; simp; omega) (frb_at HR.out.1 hB)).mono ?_
        rintro e w5 ⟨rfl, h5, hb5⟩
        have HN5 : Hid (FrB B b w w5 ∧ RoAt b L g w5 ∧ WrAt B b (pre ++ ahR Ls ++ x) w5) := ⟨HR.out.1.trans hb5, HR.out.2.1.keep hb5, h5⟩
        clear h5 hb5
        go_wp2_with fail
        go_loopg [50] L.length (fun m v wr => ∃ q : Nat, q + m = L.length ∧ v = .int .i64 (q : Int) ∧ Hid (FrB B b w wr ∧ RoAt b L g wr ∧ WrAt B b (pre ++ ahR Ls ++ x ++ bhL (Ls.take q)) wr))
        case atStart => exact ⟨0, by omega, rfl, HN5.out.1, HN5.out.2.1, by simpa [bhL] using HN5.out.2.2⟩
        case round =>
          obtain ⟨q, hq, rfl, HQ⟩ := hrel
          by_cases hlt : q < L.length
          · have hd : decide ((q : Int) < (L.length : Int)) = true := by simp; omega
            obtain ⟨u, hu⟩ : ∃ u, Ls[q]? = some u := ⟨_, List.getElem?_eq_getElem (by rw [HLen.out]; exact hlt)⟩
            have HU := Lib.hid (HLs.out u (List.mem_of_getElem? hu))
            have HA := Lib.hid (bhL_take Ls q u hu)
            have hu' : (L.map Prod.fst)[q]? = some u := by rw [HK2.out.1]; exact hu
            obtain ⟨a3, n3', c3, hn, hg, n0, n1, n2, n3, n4⟩ := HQ.out.2.1.at HK2.out.2 hu'
            have hLen2 : (pre ++ ahR Ls ++ x ++ bhL (Ls.take q)).length + (bhT u).length ≤ 140737488355328 := by
              have h1 := HT.out
              have h2 := bhL_le Ls (q + 1)
              rw [HA.out] at h2
              simp only [List.length_append] at h2 ⊢
              omega
            have HBh := Lib.hid (fun (w6 : World) (h1 : FrB B b wr w6) (h2 : WrAt B b (pre ++ ahR Ls ++ x ++ bhL (Ls.take q)) w6) => c_behind n HDh.out B b S (pre ++ ahR Ls ++ x ++ bhL (Ls.take q)) u HU.out.1 HU.out.2.1 HU.out.2.2 a3 n3' c3 w6 ((HQ.out.1.trans h1).env HX.out.1) HX.out.2.1 (Nd.mono hn (fun j hj => hj) (fun j hj => (HQ.out.1.trans h1).bel.block j (HX.out.2.1 j hj))) h2 (frb_at (HQ.out.1.trans h1) hB) hLen2)
            obtain ⟨z0, hz0⟩ : ∃ z : Int, (u.letter.toNat : Int) = z := ⟨_, rfl⟩
            obtain ⟨z2, hz2⟩ : ∃ z : Int, (u.count : Int) = z := ⟨_, rfl⟩
            rw [hz0] at n0 HBh
            rw [hz2] at n2 HBh
            have hwm : IntKind.i64.wrap ((q : Int) + 1) = ((q + 1 : Nat) : Int) := by rw [IntKind.wrap_i64]; omega
            have hq0 : (0 : Int) ≤ (q : Int) := by omega
            have HFa := Lib.hid ((FrB.refl B b wr).alloc (frb_at HQ.out.1 hB) (.cells #[.int .u8 z0, .string ⟨u.code.toArray⟩, .int .i64 z2, .string ⟨u.tag.toArray⟩, .slice a3 n3' c3] 68))
            have HWa := Lib.hid (HQ.out.2.2.next (below_a wr (.cells #[.int .u8 z0, .string ⟨u.code.toArray⟩, .int .i64 z2, .string ⟨u.tag.toArray⟩, .slice a3 n3' c3] 68)))
            clear hu hu' hn hz0 hz2 hLen2
            go_wp2_with fail
            refine (HBh.out _ HFa.out HWa.out).mono ?_
            rintro e w6 ⟨rfl, h6, hb6⟩
            have HN6 : Hid (FrB B b w w6 ∧ RoAt b L g w6 ∧ WrAt B b (pre ++ ahR Ls ++ x ++ bhL (Ls.take (q + 1))) w6) := ⟨(HQ.out.1.trans HFa.out).trans hb6, (HQ.out.2.1.keep HFa.out).keep hb6, by rw [HA.out, ← List.append_assoc]; exact h6⟩
            clear h6 hb6
            go_wp2_with fail
            go_roundg (L.length - (q + 1))
            case measure => omega
            case rel => exact ⟨q + 1, by omega, rfl, HN6⟩
          · have hd : decide ((q : Int) < (L.length : Int)) = false := by simp; omega
            have hql : Ls.length ≤ q := by rw [HLen.out]; omega
            have HE : Hid (FrB B b w wr ∧ WrAt B b (l ++ dcl t x) wr) := by
              have h := HQ.out
              rw [List.take_of_length_le hql, HFin.out] at h
              exact ⟨h.1, h.2.2⟩
            go_wp2_with fail
            go_end0
            exact ⟨rfl, HE.out.2, HE.out.1⟩
      | succ m =>
        obtain rfl : i = (m : Int) := by omega
        have hlt : m < Ls.length := by rw [HLen.out]; omega
        have hmL : (m : Int) < (L.length : Int) := by omega
        have hm0 : (0 : Int) ≤ (m : Int) := by omega
        obtain ⟨u, hu⟩ : ∃ u, Ls[m]? = some u := ⟨_, List.getElem?_eq_getElem hlt⟩
        have HU := Lib.hid (HLs.out u (List.mem_of_getElem? hu))
        have HA := Lib.hid (ahR_drop Ls m u hu)
        have hu' : (L.map Prod.fst)[m]? = some u := by rw [HK2.out.1]; exact hu
        obtain ⟨a3, n3', c3, hn, hg, n0, n1, n2, n3, n4⟩ := HR.out.2.1.at HK2.out.2 hu'
        have HN := Lib.hid hn
        have HAh := Lib.hid (c_ahead B b S (pre ++ ahR (Ls.drop (m + 1))) u HU.out.1 a3 n3' c3 wr (fun j hj => Nat.lt_of_lt_of_le (HX.out.2.1 j hj) (frb_at HR.out.1 hB)) (Nd.mono hn (fun j hj => hj) (fun j hj => HR.out.1.bel.block j (HX.out.2.1 j hj))) HR.out.2.2 (frb_at HR.out.1 hB) (by have h1 := HT.out; have h2 := ahR_le Ls m; rw [HA.out] at h2; simp only [List.length_append] at h2 ⊢; omega))
        obtain ⟨z0, hz0⟩ : ∃ z : Int, (u.letter.toNat : Int) = z := ⟨_, rfl⟩
        obtain ⟨z2, hz2⟩ : ∃ z : Int, (u.count : Int) = z := ⟨_, rfl⟩
        rw [hz0] at n0 HAh
        rw [hz2] at n2 HAh
        have hwm : IntKind.i64.wrap ((m : Int) - 1) = (m : Int) - 1 := by rw [IntKind.wrap_i64]; omega
        clear hu hu' hn hz0 hz2 hi
        go_wp2_with fail
        refine HAh.out.mono ?_
        rintro e w6 ⟨rfl, h6, hb6⟩
        have HN6 : Hid (FrB B b w w6 ∧ RoAt b L g w6 ∧ WrAt B b (pre ++ ahR (Ls.drop m)) w6) := ⟨HR.out.1.trans hb6, HR.out.2.1.keep hb6, by rw [HA.out, ← List.append_assoc]; exact h6⟩
        clear h6 hb6
        go_wp2_with fail
        go_roundg m
        case measure => omega
        case rel => exact ⟨by omega, _, by omega, rfl, HN6⟩
theorem declare_zero : DcC 0 := fun B b S t a k c x l w hsz => by
  have : 1 ≤ t.size := by cases t <;> (unfold Ty.size; omega)
  omega
theorem c_wdeclare : ∀ n, DcC n
  | 0 => declare_zero
  | n + 1 => declare_succ n (c_wdeclare n)
end Go.Proofs.YtacbjhbiaaieoaaGreatDoor
