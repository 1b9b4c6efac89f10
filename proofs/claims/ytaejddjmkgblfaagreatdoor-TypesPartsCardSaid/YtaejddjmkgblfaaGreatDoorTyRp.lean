/-
  The contract of the document's own look at a function's answer and parameters, in the code.
-/
import Derived.Test.YtaejddjmkgblfaaGreatDoorTyRo
import Derived.Test.YtaejddjmkgblfaaGreatDoorTySg
namespace Go.Proofs.YtaejddjmkgblfaaGreatDoor
set_option linter.unusedVariables false
set_option linter.unusedSimpArgs false
set_option maxRecDepth 100000
open Go.RowKit

def parsC : List Ty → List UInt8
  | [] => []
  | t :: ts => t.code ++ (Tys.of ts).code
theorem fn_parsC (ps : Tys) (r : Ty) : (Ty.fn ps r).code = 102 :: 40 :: (parsC ps.list ++ 41 :: r.code) := by
  cases ps with
  | nil => rfl
  | cons t ts =>
    show 102 :: 40 :: (t.code ++ (ts.code ++ 41 :: r.code)) = 102 :: 40 :: ((t.code ++ (Tys.of ts.list).code) ++ 41 :: r.code)
    rw [of_lst, List.append_assoc]
theorem rd_full (t : Ty) (y : List UInt8) (h : t.wf) : rd (t.code ++ y) = some (t, y) := by
  unfold rd
  exact one_full t _ y h (by have := size_code t; rw [List.length_append]; omega)
theorem of_code_cons (t : Ty) (ts : List Ty) : (Tys.of (t :: ts)).code = 44 :: parsC (t :: ts) := rfl
/-- While the parameters are read. -/
structure RsI (l : List UInt8) (A : List Ty) (r : Ty) (w : World) (q p : Nat) (v : Value) (wr : World) : Prop where
  rest : l.drop p = parsC (A.drop q) ++ 41 :: r.code
  pl : p < l.length
  ql : q ≤ A.length
  own : wr.ownsRow w.heap.size 22 1 v q (tyCs ((A.map Ty.code).take q))
  bel : Below w.heap.size w wr
theorem lt_of_drop {l : List UInt8} {p : Nat} {c : UInt8} {y : List UInt8} (h : l.drop p = c :: y) : p < l.length ∧ l[p]?.getD 0 = c ∧ l.drop (p + 1) = y := by
  have h1 : p < l.length := by
    apply Nat.lt_of_not_le
    intro h2
    rw [List.drop_of_length_le h2] at h
    cases h
  rw [drop_at h1] at h
  injection h with h3 h4
  exact ⟨h1, h3, h4⟩
set_option maxHeartbeats 8000000 in
theorem c_rsign (ps : Tys) (r : Ty) (hwf : (Ty.fn ps r).wf) (w : World) (hl : (Ty.fn ps r).code.length ≤ 65536) :
    Calls Tryz.prog 59 #[.string ⟨(Ty.fn ps r).code.toArray⟩] w fun e w' => (∃ a c, e = .returned (.tuple #[.string ⟨r.code.toArray⟩, .slice a ps.list.length c]) ∧ StrIn w' a (ps.list.map Ty.code)) ∧ Below w.heap.size w w' := by
  obtain ⟨l, hlc⟩ : ∃ l, (Ty.fn ps r).code = l := ⟨_, rfl⟩
  have hfc := fn_parsC ps r
  rw [hlc] at hl hfc ⊢
  obtain ⟨A, hA⟩ : ∃ A, ps.list = A := ⟨_, rfl⟩
  have hAw : ∀ u ∈ A, u.wf := fun u hu => lst_wf ps u hwf.1 (by rw [hA]; exact hu)
  rw [hA] at hfc ⊢
  have h2 : l.drop 2 = parsC A ++ 41 :: r.code := by rw [hfc]; rfl
  have h2l : 2 < l.length := by rw [hfc]; simp; omega
  have HI : Hid (RsI l A r w 0 2 (.slice (some ⟨w.heap.size, 0, none⟩) 0 0) (w.alloc (.cells #[] 22))) :=
    ⟨h2, h2l, Nat.zero_le _, ⟨rfl, .inr ⟨w.heap.size, 0, #[], rfl, Nat.le_refl _, heap_alloc_new w _, Nat.le_refl _, Nat.zero_le _, rfl, rfl⟩⟩, below_a _ _⟩
  have HW := Lib.hid (And.intro hl hAw)
  have hAl : A.length ≤ 65536 := by
    have h1 := parts_le (.fn ps r)
    have h3 := size_code (.fn ps r)
    have h4 : (ps.list ++ [r]).length ≤ (Ty.fn ps r).size := h1
    rw [hlc] at h3
    rw [hA] at h4
    simp at h4
    omega
  have HAl := Lib.hid hAl
  obtain ⟨i0, hi, hz0, hz1, hz2⟩ := info_parts infoType
  clear hwf hl hlc hfc hAw hA h2 h2l hAl
  go_enter Tryz.func59, Tryz.ntmps59
  go_wp2_with fail
  go_loopg [4, 5] (A.length + 1) (fun g v4 v5 wr => ∃ (q p : Nat) (ao : Option Addr) (co : Nat), A.length - q < g ∧ v5 = .int .i64 (p : Int) ∧ v4 = .slice ao q co ∧ Hid (RsI l A r w q p (.slice ao q co) wr))
  case atStart => exact ⟨0, 2, some ⟨w.heap.size, 0, none⟩, 0, by omega, rfl, rfl, HI.out⟩
  case round =>
    obtain ⟨q, p, ao, co, hg, rfl, rfl, HR⟩ := hrel
    have hp0 : (0 : Int) ≤ (p : Int) := by omega
    have hp1 : (p : Int) < (l.length : Int) := by have := HR.out.pl; omega
    by_cases hq : q = A.length
    · have hd : l.drop p = 41 :: r.code := by
        have h := HR.out.rest
        rw [hq, List.drop_length] at h
        exact h
      obtain ⟨_, hc, hdr⟩ := lt_of_drop hd
      have hby : ∀ h, (((ByteArray.mk l.toArray)[p]'h).toNat : Int) = 41 := fun h => (byte_at l p h).trans (by rw [hc]; rfl)
      have hex : (⟨l.toArray⟩ : ByteArray).extract (p + 1) l.length = ⟨r.code.toArray⟩ := by rw [ext_end, hdr]
      have hwp : IntKind.i64.wrap ((p : Int) + 1) = ((p + 1 : Nat) : Int) := by rw [IntKind.wrap_i64]; have := HW.out.1; omega
      have hp2 : (0 : Int) ≤ (p : Int) + 1 := by omega
      have hp3 : (p : Int) + 1 ≤ (l.length : Int) := by omega
      subst hq
      clear hd hc hdr hg
      go_wp2_with fail
      go_ret2
      refine ⟨⟨ao, co, rfl, ?_⟩, HR.out.bel⟩
      intro h0
      rw [List.length_map] at h0
      rcases HR.out.own.2 with ⟨_, hz⟩ | ⟨g9, cap9, cur9, hv9, hr9⟩
      · omega
      · cases hv9
        refine ⟨g9, 0, rfl, fun k s hs => ?_⟩
        have hx := HR.out.own.cells (g := g9) rfl k (.string ⟨s.toArray⟩) (by
          unfold tyCs
          rw [List.take_of_length_le (by simp), List.getElem?_map, hs]
          rfl)
        have ea : (⟨g9, 0, none⟩ : Addr).add k = ⟨g9, 0 + k, none⟩ := by unfold Addr.add; split <;> simp_all
        rw [ea] at hx
        exact hx
    · have hqA : q < A.length := by have := HR.out.ql; omega
      obtain ⟨u, hu⟩ : ∃ u, A[q]? = some u := ⟨_, List.getElem?_eq_getElem hqA⟩
      have hdq : A.drop q = u :: A.drop (q + 1) := by rw [List.drop_eq_getElem_cons hqA, (List.getElem?_eq_some_iff.1 hu).2]
      have huw := HW.out.2 u (List.mem_of_getElem? hu)
      obtain ⟨Y, hY⟩ : ∃ Y, (Tys.of (A.drop (q + 1))).code ++ 41 :: r.code = Y := ⟨_, rfl⟩
      have hrs : l.drop p = u.code ++ Y := by rw [HR.out.rest, hdq, ← hY]; show (u.code ++ _) ++ _ = _; rw [List.append_assoc]
      obtain ⟨c0, r0, hc0, hc41, _⟩ := code_head u huw
      obtain ⟨_, hcp, _⟩ := lt_of_drop (c := c0) (y := r0 ++ Y) (by rw [hrs, hc0]; rfl)
      obtain ⟨cI, hcI⟩ : ∃ cI : Int, ((l[p]?.getD 0).toNat : Int) = cI := ⟨_, rfl⟩
      have hby : ∀ h, (((ByteArray.mk l.toArray)[p]'h).toNat : Int) = cI := fun h => (byte_at l p h).trans hcI
      have hne : (cI != 41) = true := by
        rw [bne_iff_ne]
        intro e
        apply hc41
        rw [← hcp]
        apply UInt8.toNat_inj.1
        show _ = 41
        omega
      have hne2 : (cI == 41) = false := by simpa using hne
      have HN : Hid (Calls Tryz.prog 44 #[.string ⟨l.toArray⟩, .int .i64 (p : Int)] wr fun e w' => e = .returned (.tuple #[.int .i64 ((p + u.code.length : Nat) : Int), .bool true]) ∧ Below wr.heap.size wr w') := (c_rnext l.length l p wr (Nat.le_of_lt HR.out.pl) HW.out.1 (by omega)).mono fun e w' h => by
        obtain ⟨⟨j, qq, rfl, hq'⟩, hb⟩ := h
        have hrd : rd (l.drop p) = some (u, Y) := by rw [hrs]; exact rd_full u Y huw
        rcases hq' with ⟨t, y, h1, rfl, rfl⟩ | ⟨h1, _⟩
        · rw [hrd] at h1
          cases h1
          have hll := congrArg List.length hrs
          rw [List.length_drop, List.length_append] at hll
          have hpl := HR.out.pl
          have e : plc l Y = p + u.code.length := by unfold plc; omega
          exact ⟨by rw [e], hb⟩
        · rw [hrd] at h1; cases h1
      obtain ⟨P, hP⟩ : ∃ P, p + u.code.length = P := ⟨_, rfl⟩
      rw [hP] at HN
      have hPl : P ≤ l.length := by
        have hll := congrArg List.length hrs
        rw [List.length_drop, List.length_append] at hll
        have hpl := HR.out.pl
        omega
      have hex : (⟨l.toArray⟩ : ByteArray).extract p P = ⟨u.code.toArray⟩ := by rw [ext_sub, hrs, show P - p = u.code.length by omega, List.take_left]
      have hdP : l.drop P = Y := by
        have h := congrArg (List.drop u.code.length) hrs
        rw [List.drop_drop, List.drop_left, hP] at h
        exact h
      have hpP : (p : Int) ≤ (P : Int) := by omega
      have hpPn : p ≤ P := by omega
      have hP0 : (0 : Int) ≤ (P : Int) := by omega
      have hPl2 : (P : Int) ≤ (l.length : Int) := by omega
      have hT1 : tyCs ((A.map Ty.code).take (q + 1)) = tyCs ((A.map Ty.code).take q) ++ [.string ⟨u.code.toArray⟩] := by
        have hk : (A.map Ty.code)[q]? = some u.code := by rw [List.getElem?_map, hu]; rfl
        have hlk := (List.getElem?_eq_some_iff.1 hk).1
        rw [List.take_succ_eq_append_getElem hlk, (List.getElem?_eq_some_iff.1 hk).2]
        simp [tyCs]
      -- behind the type: the next one, or the end
      have hnx : ∃ c : Int, (∀ h, (((ByteArray.mk l.toArray)[P]'h).toNat : Int) = c) ∧ P < l.length ∧ ((c = 44 ∧ l.drop (P + 1) = parsC (A.drop (q + 1)) ++ 41 :: r.code ∧ P + 1 < l.length) ∨ (c = 41 ∧ l.drop P = parsC (A.drop (q + 1)) ++ 41 :: r.code)) := by
        cases hA1 : A.drop (q + 1) with
        | nil =>
          rw [hA1] at hY
          have h41 : l.drop P = 41 :: r.code := by rw [hdP, ← hY]; rfl
          obtain ⟨h1, h3, h4⟩ := lt_of_drop h41
          exact ⟨41, fun h => (byte_at l P h).trans (by rw [h3]; rfl), h1, .inr ⟨rfl, h41⟩⟩
        | cons t ts =>
          rw [hA1, of_code_cons] at hY
          have h44 : l.drop P = 44 :: (parsC (t :: ts) ++ 41 :: r.code) := by rw [hdP, ← hY]; rfl
          obtain ⟨h1, h3, h4⟩ := lt_of_drop h44
          refine ⟨44, fun h => (byte_at l P h).trans (by rw [h3]; rfl), h1, .inl ⟨rfl, h4, ?_⟩⟩
          have h5 := congrArg List.length h4
          rw [List.length_drop] at h5
          simp at h5
          omega
      obtain ⟨c3, hby3, hPlt, hcs⟩ := hnx
      have HCs := Lib.hid hcs
      have HT1 := Lib.hid hT1
      have HLt := Lib.hid (And.intro hqA hPlt)
      have hP1 : (P : Int) < (l.length : Int) := by omega
      have hwP : IntKind.i64.wrap ((P : Int) + 1) = ((P + 1 : Nat) : Int) := by rw [IntKind.wrap_i64]; have := HW.out.1; omega
      have hsz : w.heap.size ≤ wr.heap.size := HR.out.bel.size
      have hq65 : q ≤ 65536 := by have := HAl.out; omega
      have HG := Lib.hid hg
      clear hu hdq huw hY hrs hc0 hc41 hcp hcI hP hdP hT1 hcs hPlt hPl hq hqA hg
      go_wp2_with fail
      refine HN.out.mono ?_
      rintro e w4 ⟨rfl, hb⟩
      have HB4 := Lib.hid (below_on HR.out.bel hb hsz)
      have HO4 := Lib.hid (own_far HR.out.own (fun g hg _ => hb.block g (HR.out.own.lt g hg).2))
      have hs4 : w.heap.size ≤ w4.heap.size := HB4.out.size
      clear hb HN
      go_wp2_with (at_builtin; refine wpList_append_own _ rfl _ _ 44 rfl w.heap.size 22 i0 (.string ByteArray.empty) 1 16 Tryz.underlying44 hi hz0 hz1 hz2 rfl (by decide) (.slice ao q co) q (tyCs ((A.map Ty.code).take q)) rfl (HO4.out.alloc _) ⟨w4.heap.size, 0, none⟩ 1 1 [.string ⟨u.code.toArray⟩] rfl rfl ?cc1 ?cc2 ?cc3 ?cc4 ?cc5 ?_)
      case cc1 => exact World.news_of_block (heap_alloc_new w4 (.cells #[.string ⟨u.code.toArray⟩] 22))
      case cc2 =>
        intro x hx
        rw [List.mem_singleton] at hx
        subst hx
        rfl
      case cc3 => unfold maxLen; omega
      case cc4 => omega
      case cc5 => simp; omega
      intro v1 wd hown hgrow _
      obtain ⟨a9, c9, rfl, hc9⟩ := slc_of hown
      have HBd : Hid (Below w.heap.size w wd) := (HB4.out.alloc HB4.out.size _).grown hgrow (by simp; omega) (fun k hk => (HO4.out.lt k hk).1)
      have HOd : Hid (wd.ownsRow w.heap.size 22 1 (.slice a9 (q + 1) c9) (q + 1) (tyCs ((A.map Ty.code).take (q + 1)))) := by
        rw [HT1.out]
        exact hown
      clear hown hgrow
      rcases HCs.out with ⟨rfl, hr1, hr2⟩ | ⟨rfl, hr1⟩
      · have HNew : Hid (RsI l A r w (q + 1) (P + 1) (.slice a9 (q + 1) c9) wd) := ⟨hr1, hr2, HLt.out.1, HOd.out, HBd.out⟩
        clear hr1 hr2
        go_wp2_with fail
        go_roundg (A.length - q)
        case measure => exact HG.out
        case rel => exact ⟨q + 1, P + 1, a9, c9, by have := HLt.out.1; omega, rfl, rfl, HNew⟩
      · have HNew : Hid (RsI l A r w (q + 1) P (.slice a9 (q + 1) c9) wd) := ⟨hr1, HLt.out.2, HLt.out.1, HOd.out, HBd.out⟩
        clear hr1
        go_wp2_with fail
        go_roundg (A.length - q)
        case measure => exact HG.out
        case rel => exact ⟨q + 1, P, a9, c9, by have := HLt.out.1; omega, rfl, rfl, HNew⟩
end Go.Proofs.YtaejddjmkgblfaaGreatDoor
