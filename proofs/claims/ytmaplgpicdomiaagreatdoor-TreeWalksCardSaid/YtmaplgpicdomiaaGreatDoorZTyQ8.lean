/-
  The contracts of the check of a type, of a struct and of the structs, as the
  document has them, in the code.
-/
import Derived.Test.YtmaplgpicdomiaaGreatDoorZTyRv
import Derived.Test.YtmaplgpicdomiaaGreatDoorZTyPaW
import Derived.Test.YtmaplgpicdomiaaGreatDoorZTyK3
import Derived.Test.YtmaplgpicdomiaaGreatDoorZTyKf
namespace Go.Proofs.YtmaplgpicdomiaaGreatDoor
set_option linter.unusedVariables false
set_option linter.unusedSimpArgs false
set_option maxRecDepth 100000
open Go.RowKit

set_option maxHeartbeats 8000000 in
theorem c_rsignO (ps : Tys) (r : Ty) (hwf : (Ty.fn ps r).wf) (w : World) (hl : (Ty.fn ps r).code.length ≤ 65536) :
    Calls Tryz.prog 92 #[.string ⟨(Ty.fn ps r).code.toArray⟩] w fun e w' => (∃ a c, e = .returned (.tuple #[.string ⟨r.code.toArray⟩, .slice a ps.list.length c]) ∧ w'.ownsRow w.heap.size 34 1 (.slice a ps.list.length c) ps.list.length (tyCs (ps.list.map Ty.code))) ∧ Below w.heap.size w w' := by
  obtain ⟨l, hlc⟩ : ∃ l, (Ty.fn ps r).code = l := ⟨_, rfl⟩
  have hfc := fn_parsC ps r
  rw [hlc] at hl hfc ⊢
  obtain ⟨A, hA⟩ : ∃ A, ps.list = A := ⟨_, rfl⟩
  have hAw : ∀ u ∈ A, u.wf := fun u hu => lst_wf ps u hwf.1 (by rw [hA]; exact hu)
  rw [hA] at hfc ⊢
  have h2 : l.drop 2 = parsC A ++ 41 :: r.code := by rw [hfc]; rfl
  have h2l : 2 < l.length := by rw [hfc]; simp; omega
  have HI : Hid (RsI l A r w 0 2 (.slice (some ⟨w.heap.size, 0, none⟩) 0 0) (w.alloc (.cells #[] 34))) :=
    ⟨h2, h2l, Nat.zero_le _, ⟨rfl, .inr ⟨w.heap.size, 0, #[], rfl, Nat.le_refl _, heap_alloc_new w _, Nat.le_refl _, Nat.zero_le _, rfl, rfl⟩⟩, below_a _ _⟩
  have HW := Lib.hid (And.intro hl hAw)
  have hAl : A.length ≤ 65536 := by
    have h1 := parts_le (.fn ps r)
    have h3 := size_code (.fn ps r)
    have h4 : (ps.list ++ [r]).length ≤ (Ty.fn ps r).size := h1
    rw [hlc] at h3
    rw [hA] at h4
    simp at h4
    omega
  have HAl := Lib.hid hAl
  obtain ⟨i0, hi, hz0, hz1, hz2⟩ := info_parts infoType
  clear hwf hl hlc hfc hAw hA h2 h2l hAl
  go_enter Tryz.func92, Tryz.ntmps92
  go_wp2_with fail
  go_loopg [4, 5] (A.length + 1) (fun g v4 v5 wr => ∃ (q p : Nat) (ao : Option Addr) (co : Nat), A.length - q < g ∧ v5 = .int .i64 (p : Int) ∧ v4 = .slice ao q co ∧ Hid (RsI l A r w q p (.slice ao q co) wr))
  case atStart => exact ⟨0, 2, some ⟨w.heap.size, 0, none⟩, 0, by omega, rfl, rfl, HI.out⟩
  case round =>
    obtain ⟨q, p, ao, co, hg, rfl, rfl, HR⟩ := hrel
    have hp0 : (0 : Int) ≤ (p : Int) := by omega
    have hp1 : (p : Int) < (l.length : Int) := by have := HR.out.pl; omega
    by_cases hq : q = A.length
    · have hd : l.drop p = 41 :: r.code := by
        have h := HR.out.rest
        rw [hq, List.drop_length] at h
        exact h
      obtain ⟨_, hc, hdr⟩ := lt_of_drop hd
      have hby : ∀ h, (((ByteArray.mk l.toArray)[p]'h).toNat : Int) = 41 := fun h => (byte_at l p h).trans (by rw [hc]; rfl)
      have hex : (⟨l.toArray⟩ : ByteArray).extract (p + 1) l.length = ⟨r.code.toArray⟩ := by rw [ext_end, hdr]
      have hwp : IntKind.i64.wrap ((p : Int) + 1) = ((p + 1 : Nat) : Int) := by rw [IntKind.wrap_i64]; have := HW.out.1; omega
      have hp2 : (0 : Int) ≤ (p : Int) + 1 := by omega
      have hp3 : (p : Int) + 1 ≤ (l.length : Int) := by omega
      subst hq
      clear hd hc hdr hg
      go_wp2_with fail
      go_ret2
      refine ⟨⟨ao, co, rfl, ?_⟩, HR.out.bel⟩
      have h := HR.out.own
      rw [List.take_of_length_le (by simp)] at h
      exact h
    · have hqA : q < A.length := by have := HR.out.ql; omega
      obtain ⟨u, hu⟩ : ∃ u, A[q]? = some u := ⟨_, List.getElem?_eq_getElem hqA⟩
      have hdq : A.drop q = u :: A.drop (q + 1) := by rw [List.drop_eq_getElem_cons hqA, (List.getElem?_eq_some_iff.1 hu).2]
      have huw := HW.out.2 u (List.mem_of_getElem? hu)
      obtain ⟨Y, hY⟩ : ∃ Y, (Tys.of (A.drop (q + 1))).code ++ 41 :: r.code = Y := ⟨_, rfl⟩
      have hrs : l.drop p = u.code ++ Y := by rw [HR.out.rest, hdq, ← hY]; show (u.code ++ _) ++ _ = _; rw [List.append_assoc]
      obtain ⟨c0, r0, hc0, hc41, _⟩ := code_head u huw
      obtain ⟨_, hcp, _⟩ := lt_of_drop (c := c0) (y := r0 ++ Y) (by rw [hrs, hc0]; rfl)
      obtain ⟨cI, hcI⟩ : ∃ cI : Int, ((l[p]?.getD 0).toNat : Int) = cI := ⟨_, rfl⟩
      have hby : ∀ h, (((ByteArray.mk l.toArray)[p]'h).toNat : Int) = cI := fun h => (byte_at l p h).trans hcI
      have hne : (cI != 41) = true := by
        rw [bne_iff_ne]
        intro e
        apply hc41
        rw [← hcp]
        apply UInt8.toNat_inj.1
        show _ = 41
        omega
      have hne2 : (cI == 41) = false := by simpa using hne
      have HN : Hid (Calls Tryz.prog 88 #[.string ⟨l.toArray⟩, .int .i64 (p : Int)] wr fun e w' => e = .returned (.tuple #[.int .i64 ((p + u.code.length : Nat) : Int), .bool true]) ∧ Below wr.heap.size wr w') := (c_rnext l.length l p wr (Nat.le_of_lt HR.out.pl) HW.out.1 (by omega)).mono fun e w' h => by
        obtain ⟨⟨j, qq, rfl, hq'⟩, hb⟩ := h
        have hrd : rd (l.drop p) = some (u, Y) := by rw [hrs]; exact rd_full u Y huw
        rcases hq' with ⟨t, y, h1, rfl, rfl⟩ | ⟨h1, _⟩
        · rw [hrd] at h1
          cases h1
          have hll := congrArg List.length hrs
          rw [List.length_drop, List.length_append] at hll
          have hpl := HR.out.pl
          have e : plc l Y = p + u.code.length := by unfold plc; omega
          exact ⟨by rw [e], hb⟩
        · rw [hrd] at h1; cases h1
      obtain ⟨P, hP⟩ : ∃ P, p + u.code.length = P := ⟨_, rfl⟩
      rw [hP] at HN
      have hPl : P ≤ l.length := by
        have hll := congrArg List.length hrs
        rw [List.length_drop, List.length_append] at hll
        have hpl := HR.out.pl
        omega
      have hex : (⟨l.toArray⟩ : ByteArray).extract p P = ⟨u.code.toArray⟩ := by rw [ext_sub, hrs, show P - p = u.code.length by omega, List.take_left]
      have hdP : l.drop P = Y := by
        have h := congrArg (List.drop u.code.length) hrs
        rw [List.drop_drop, List.drop_left, hP] at h
        exact h
      have hpP : (p : Int) ≤ (P : Int) := by omega
      have hpPn : p ≤ P := by omega
      have hP0 : (0 : Int) ≤ (P : Int) := by omega
      have hPl2 : (P : Int) ≤ (l.length : Int) := by omega
      have hT1 : tyCs ((A.map Ty.code).take (q + 1)) = tyCs ((A.map Ty.code).take q) ++ [.string ⟨u.code.toArray⟩] := by
        have hk : (A.map Ty.code)[q]? = some u.code := by rw [List.getElem?_map, hu]; rfl
        have hlk := (List.getElem?_eq_some_iff.1 hk).1
        rw [List.take_succ_eq_append_getElem hlk, (List.getElem?_eq_some_iff.1 hk).2]
        simp [tyCs]
      -- behind the type: the next one, or the end
      have hnx : ∃ c : Int, (∀ h, (((ByteArray.mk l.toArray)[P]'h).toNat : Int) = c) ∧ P < l.length ∧ ((c = 44 ∧ l.drop (P + 1) = parsC (A.drop (q + 1)) ++ 41 :: r.code ∧ P + 1 < l.length) ∨ (c = 41 ∧ l.drop P = parsC (A.drop (q + 1)) ++ 41 :: r.code)) := by
        cases hA1 : A.drop (q + 1) with
        | nil =>
          rw [hA1] at hY
          have h41 : l.drop P = 41 :: r.code := by rw [hdP, ← hY]; rfl
          obtain ⟨h1, h3, h4⟩ := lt_of_drop h41
          exact ⟨41, fun h => (byte_at l P h).trans (by rw [h3]; rfl), h1, .inr ⟨rfl, h41⟩⟩
        | cons t ts =>
          rw [hA1, of_code_cons] at hY
          have h44 : l.drop P = 44 :: (parsC (t :: ts) ++ 41 :: r.code) := by rw [hdP, ← hY]; rfl
          obtain ⟨h1, h3, h4⟩ := lt_of_drop h44
          refine ⟨44, fun h => (byte_at l P h).trans (by rw [h3]; rfl), h1, .inl ⟨rfl, h4, ?_⟩⟩
          have h5 := congrArg List.length h4
          rw [List.length_drop] at h5
          simp at h5
          omega
      obtain ⟨c3, hby3, hPlt, hcs⟩ := hnx
      have HCs := Lib.hid hcs
      have HT1 := Lib.hid hT1
      have HLt := Lib.hid (And.intro hqA hPlt)
      have hP1 : (P : Int) < (l.length : Int) := by omega
      have hwP : IntKind.i64.wrap ((P : Int) + 1) = ((P + 1 : Nat) : Int) := by rw [IntKind.wrap_i64]; have := HW.out.1; omega
      have hsz : w.heap.size ≤ wr.heap.size := HR.out.bel.size
      have hq65 : q ≤ 65536 := by have := HAl.out; omega
      have HG := Lib.hid hg
      clear hu hdq huw hY hrs hc0 hc41 hcp hcI hP hdP hT1 hcs hPlt hPl hq hqA hg
      go_wp2_with fail
      refine HN.out.mono ?_
      rintro e w4 ⟨rfl, hb⟩
      have HB4 := Lib.hid (below_on HR.out.bel hb hsz)
      have HO4 := Lib.hid (own_far HR.out.own (fun g hg _ => hb.block g (HR.out.own.lt g hg).2))
      have hs4 : w.heap.size ≤ w4.heap.size := HB4.out.size
      clear hb HN
      go_wp2_with (at_builtin; refine wpList_append_own _ rfl _ _ 118 rfl w.heap.size 34 i0 (.string ByteArray.empty) 1 16 Tryz.underlying118 hi hz0 hz1 hz2 rfl (by decide) (.slice ao q co) q (tyCs ((A.map Ty.code).take q)) rfl (HO4.out.alloc _) ⟨w4.heap.size, 0, none⟩ 1 1 [.string ⟨u.code.toArray⟩] rfl rfl ?cc1 ?cc2 ?cc3 ?cc4 ?cc5 ?_)
      case cc1 => exact World.news_of_block (heap_alloc_new w4 (.cells #[.string ⟨u.code.toArray⟩] 34))
      case cc2 =>
        intro x hx
        rw [List.mem_singleton] at hx
        subst hx
        rfl
      case cc3 => unfold maxLen; omega
      case cc4 => omega
      case cc5 => simp; omega
      intro v1 wd hown hgrow _
      obtain ⟨a9, c9, rfl, hc9⟩ := slc_of hown
      have HBd : Hid (Below w.heap.size w wd) := (HB4.out.alloc HB4.out.size _).grown hgrow (by simp; omega) (fun k hk => (HO4.out.lt k hk).1)
      have HOd : Hid (wd.ownsRow w.heap.size 34 1 (.slice a9 (q + 1) c9) (q + 1) (tyCs ((A.map Ty.code).take (q + 1)))) := by
        rw [HT1.out]
        exact hown
      clear hown hgrow
      rcases HCs.out with ⟨rfl, hr1, hr2⟩ | ⟨rfl, hr1⟩
      · have HNew : Hid (RsI l A r w (q + 1) (P + 1) (.slice a9 (q + 1) c9) wd) := ⟨hr1, hr2, HLt.out.1, HOd.out, HBd.out⟩
        clear hr1 hr2
        go_wp2_with fail
        go_roundg (A.length - q)
        case measure => exact HG.out
        case rel => exact ⟨q + 1, P + 1, a9, c9, by have := HLt.out.1; omega, rfl, rfl, HNew⟩
      · have HNew : Hid (RsI l A r w (q + 1) P (.slice a9 (q + 1) c9) wd) := ⟨hr1, HLt.out.2, HLt.out.1, HOd.out, HBd.out⟩
        clear hr1
        go_wp2_with fail
        go_roundg (A.length - q)
        case measure => exact HG.out
        case rel => exact ⟨q + 1, P, a9, c9, by have := HLt.out.1; omega, rfl, rfl, HNew⟩
/-- What parts answers. -/
def RpR (t : Ty) (w : World) (e : Ending) (w' : World) : Prop := (∃ a c, e = .returned (.slice a t.parts.length c) ∧ t.parts.length ≤ c ∧ StrIn w' a (t.parts.map Ty.code)) ∧ Below w.heap.size w w'
set_option maxHeartbeats 4000000 in
theorem c_rparts (t : Ty) (hwf : t.wf) (w : World) (hl : t.code.length ≤ 65536) :
    Calls Tryz.prog 89 #[.string ⟨t.code.toArray⟩] w fun e w' => RpR t w e w' := by
  have HK := Lib.hid (c_rkind t)
  have one : ∀ (u : Ty) (xI : Int), (t.letter.toNat : Int) = xI → (xI = 112 ∨ xI = 97) → t.parts = [u] → (∀ w, ∃ n : Int, Calls Tryz.prog 91 #[.string ⟨t.code.toArray⟩] w fun e w' => e = .returned (.tuple #[.string ⟨u.code.toArray⟩, .int .i64 n]) ∧ Below w.heap.size w w') → Calls Tryz.prog 89 #[.string ⟨t.code.toArray⟩] w fun e w' => RpR t w e w' := fun u xI hxI hx hp hin => by
    obtain ⟨n, hin⟩ := hin w
    have HI := Lib.hid hin
    have HP := Lib.hid hp
    rw [hxI] at HK
    obtain ⟨l, hlc⟩ : ∃ l, t.code = l := ⟨_, rfl⟩
    rw [hlc] at HK HI ⊢
    clear hwf hl hxI hp hin hlc
    rcases hx with rfl | rfl
    all_goals
      go_enter Tryz.func89, Tryz.ntmps89
      go_wp2_with fail
      refine (HK.out _).mono ?_
      rintro e w2 ⟨rfl, rfl⟩
      go_wp2_with fail
      refine HI.out.mono ?_
      rintro e w3 ⟨rfl, hb⟩
      have HB := Lib.hid hb
      clear hb
      go_wp2_with fail
      go_ret
      refine ⟨⟨some ⟨w3.heap.size, 0, none⟩, 1, by rw [HP.out]; rfl, by rw [HP.out]; exact Nat.le_refl _, ?_⟩, HB.out.alloc HB.out.size _⟩
      rw [HP.out]
      intro _
      refine ⟨w3.heap.size, 0, rfl, fun k s hs => ?_⟩
      match k, hs with
      | 0, hs =>
        cases hs
        rw [Lib.cell_of_heap (heap_alloc_new w3 (.cells #[.string ⟨u.code.toArray⟩] 34))]
        rfl
  have no : ∀ (xI : Int), (t.letter.toNat : Int) = xI → (xI == 112) = false → (xI == 97) = false → (xI == 102) = false → t.parts = [] → Calls Tryz.prog 89 #[.string ⟨t.code.toArray⟩] w fun e w' => RpR t w e w' := fun xI hxI h1 h2 h3 hp => by
    have HP := Lib.hid hp
    rw [hxI] at HK
    obtain ⟨l, hlc⟩ : ∃ l, t.code = l := ⟨_, rfl⟩
    rw [hlc] at HK ⊢
    clear hwf hl hxI hp hlc one
    go_enter Tryz.func89, Tryz.ntmps89
    go_wp2_with fail
    refine (HK.out _).mono ?_
    rintro e w2 ⟨rfl, rfl⟩
    go_wp2_with fail
    go_ret
    exact ⟨⟨none, 0, by rw [HP.out]; rfl, by rw [HP.out]; exact Nat.le_refl _, fun h => by rw [HP.out] at h; simp at h⟩, Below.refl _ _⟩
  cases t with
  | ptr u => exact one u 112 rfl (.inl rfl) rfl (fun w => ⟨0, c_rinner_ptr u w hl⟩)
  | arr n u => exact one u 97 rfl (.inr rfl) rfl (fun w => ⟨n, c_rinner_arr n u w hwf.1 hl⟩)
  | str s => exact no 83 rfl rfl rfl rfl rfl
  | base c =>
    have hc : baseC c = true := hwf
    unfold baseC at hc
    simp at hc
    rcases hc with ((((hc | hc) | hc) | hc) | hc) | hc
    · subst hc; exact no 118 rfl rfl rfl rfl rfl
    · subst hc; exact no 99 rfl rfl rfl rfl rfl
    · subst hc; exact no 115 rfl rfl rfl rfl rfl
    · subst hc; exact no 105 rfl rfl rfl rfl rfl
    · subst hc; exact no 117 rfl rfl rfl rfl rfl
    · subst hc; exact no 106 rfl rfl rfl rfl rfl
  | fn ps r =>
    clear one no
    have HS := Lib.hid (c_rsignO ps r hwf w hl)
    have hk0 : (((Ty.fn ps r).letter.toNat : Int)) = 102 := rfl
    rw [hk0] at HK
    have hn : ps.list.length ≤ 65536 := by
      have h1 := parts_le (.fn ps r)
      have h2 := size_code (.fn ps r)
      have h3 : (ps.list ++ [r]).length ≤ (Ty.fn ps r).size := h1
      simp at h3
      omega
    have HN := Lib.hid hn
    obtain ⟨i0, hi, hz0, hz1, hz2⟩ := info_parts infoType
    obtain ⟨l, hlc⟩ : ∃ l, (Ty.fn ps r).code = l := ⟨_, rfl⟩
    rw [hlc] at HK HS ⊢
    clear hwf hl hk0 hn hlc
    go_enter Tryz.func89, Tryz.ntmps89
    go_wp2_with fail
    refine (HK.out _).mono ?_
    rintro e w2 ⟨rfl, rfl⟩
    go_wp2_with fail
    refine HS.out.mono ?_
    rintro e w3 ⟨⟨a, c, rfl, hown⟩, hb⟩
    have HB := Lib.hid hb
    have HO := Lib.hid hown
    clear hb hown
    go_wp2_with (at_builtin; refine wpList_append_own _ rfl _ _ 118 rfl w2.heap.size 34 i0 (.string ByteArray.empty) 1 16 Tryz.underlying118 hi hz0 hz1 hz2 rfl (by decide) (.slice a ps.list.length c) ps.list.length (tyCs (ps.list.map Ty.code)) rfl (HO.out.alloc _) ⟨w3.heap.size, 0, none⟩ 1 1 [.string ⟨r.code.toArray⟩] rfl rfl ?cc1 ?cc2 ?cc3 ?cc4 ?cc5 ?_)
    case cc1 => exact World.news_of_block (heap_alloc_new w3 (.cells #[.string ⟨r.code.toArray⟩] 34))
    case cc2 =>
      intro x hx
      rw [List.mem_singleton] at hx
      subst hx
      rfl
    case cc3 => have := HN.out; unfold maxLen; omega
    case cc4 => have := HN.out; omega
    case cc5 => have := HB.out.size; simp; omega
    intro v1 wd hown hgrow _
    have hrow : wd.ownsRow w2.heap.size 34 1 v1 ((ps.list.map Ty.code) ++ [r.code]).length (tyCs ((ps.list.map Ty.code) ++ [r.code])) := by
      rw [List.length_append, List.length_map, show tyCs ((ps.list.map Ty.code) ++ [r.code]) = tyCs (ps.list.map Ty.code) ++ [.string ⟨r.code.toArray⟩] by simp [tyCs]]
      exact hown
    obtain ⟨a9, c9, rfl, hc9, hst⟩ := str_of_row hrow
    have HBd : Hid (Below w2.heap.size w2 wd) := (HB.out.alloc HB.out.size _).grown hgrow (by have := HB.out.size; simp; omega) (fun k hk => (HO.out.lt k hk).1)
    have HR := Lib.hid (And.intro hc9 hst)
    clear hown hgrow hrow hc9 hst
    go_wp2_with fail
    go_ret
    have he : (Ty.fn ps r).parts = ps.list ++ [r] := rfl
    refine ⟨⟨a9, c9, ?_, ?_, ?_⟩, HBd.out⟩
    · rw [he]
      simp
    · rw [he, List.length_append]
      have := HR.out.1
      simp at this ⊢
      exact this
    · rw [he, List.map_append]
      exact HR.out.2
theorem len_code {t u : Ty} (h : u ∈ t.parts) : u.code.length ≤ t.code.length := by
  cases t with
  | base c => cases h
  | str s => cases h
  | ptr x =>
    have e : u = x := by simpa [Ty.parts] using h
    subst e
    show _ ≤ (112 :: u.code).length
    simp
  | arr n x =>
    have e : u = x := by simpa [Ty.parts] using h
    subst e
    have := arr_len n u
    omega
  | fn ps r =>
    rcases List.mem_append.1 (show u ∈ ps.list ++ [r] from h) with h | h
    · exact lst_code_le ps r u h
    · rw [List.mem_singleton] at h
      subst h
      have := fn_len ps u
      omega
def DrC (m : Nat) : Prop := ∀ (t : Ty) (w : World), t.wf → t.code.length ≤ 65536 →
  Calls Tryz.prog 75 #[.string ⟨t.code.toArray⟩, .int .i64 ((m : Int) - 1)] w fun e w' => e = .returned (.int .i64 ((min t.dep (m + 1) : Nat) : Int)) ∧ Below w.heap.size w w'
set_option maxHeartbeats 4000000 in
theorem dr_zero : DrC 0 := fun t w hwf hl => by
  have hd : min t.dep (0 + 1) = 1 := by
    have := dep_parts t
    omega
  rw [hd]
  obtain ⟨l, hlc⟩ : ∃ l, t.code = l := ⟨_, rfl⟩
  rw [hlc]
  clear hwf hl hd hlc
  go_enter Tryz.func75, Tryz.ntmps75
  go_wp2_with fail
  go_ret
  exact ⟨rfl, Below.refl _ _⟩
theorem depM_take {l : List Ty} {q m : Nat} {u : Ty} (h : l[q]? = some u) : min (depL (l.take (q + 1))) m = max (min (depL (l.take q)) m) (min u.dep m) := by
  rw [depL_take h]
  omega
set_option maxHeartbeats 4000000 in
theorem dr_succ (m : Nat) (hm : m ≤ 100) (IH : DrC m) : DrC (m + 1) := fun t w hwf hl => by
  have hd : min t.dep (m + 1 + 1) = min (depL t.parts) (m + 1) + 1 := by
    rw [dep_parts t]
    omega
  rw [hd]
  have HP := Lib.hid (c_rparts t hwf w hl)
  have HW := Lib.hid (And.intro hwf hl)
  have HI := Lib.hid (fun (u : Ty) (hu : u ∈ t.parts) (w' : World) => IH u w' (parts_wf t u hwf hu) (Nat.le_trans (len_code hu) hl))
  have hn : t.parts.length ≤ 65536 := Nat.le_trans (parts_le t) (Nat.le_trans (size_code t) hl)
  obtain ⟨M, hM⟩ : ∃ M : Int, (m : Int) - 1 = M := ⟨_, rfl⟩
  have e1 : (((m + 1 : Nat) : Int) - 1) = (m : Int) := by omega
  have hwM : IntKind.i64.wrap ((m : Int) - 1) = M := by rw [IntKind.wrap_i64]; omega
  have hwM2 : wrap64 ((m : Int) - 1) = M := by unfold wrap64; omega
  have hnn : decide ((m : Int) < 0) = false := by simp
  rw [hM] at HI
  rw [e1]
  obtain ⟨l, hlc⟩ : ∃ l, t.code = l := ⟨_, rfl⟩
  obtain ⟨A, hA⟩ : ∃ A, t.parts = A := ⟨_, rfl⟩
  rw [hlc] at HP ⊢
  rw [hA] at HI hn ⊢
  have HA := Lib.hid hA
  have HN := Lib.hid hn
  have HMm := Lib.hid hm
  clear hd hM hwf hl hlc hA IH hm e1 hn
  go_enter Tryz.func75, Tryz.ntmps75
  go_wp2_with fail
  refine HP.out.mono ?_
  rintro e w2 ⟨⟨a, c, rfl, hc, hst⟩, hb⟩
  rw [HA.out] at hc hst ⊢
  have HB := Lib.hid hb
  have HSt := Lib.hid hst
  clear hb hst HP
  go_wp2_with fail
  go_loopg [6, 7] A.length (fun g v6 v7 wr => ∃ (q d : Nat), q + g = A.length ∧ v7 = .int .i64 (q : Int) ∧ v6 = .int .i64 (d : Int) ∧ Hid (Below w.heap.size w wr ∧ StrIn wr a (A.map Ty.code) ∧ d = min (depL (A.take q)) (m + 1)))
  case atStart => exact ⟨0, 0, by omega, rfl, rfl, HB.out, HSt.out, by simp [depL]⟩
  case round =>
    obtain ⟨q, d, hq, rfl, rfl, HR⟩ := hrel
    by_cases hlt : q < A.length
    · have hd : decide ((q : Int) < (A.length : Int)) = true := by simp; omega
      obtain ⟨u, hu⟩ : ∃ u, A[q]? = some u := ⟨_, List.getElem?_eq_getElem hlt⟩
      obtain ⟨b1, o1, ha, hx1⟩ := HR.out.2.1 (by simp; omega)
      have y1 := hx1 q u.code (by rw [List.getElem?_map, hu]; rfl)
      have HIu := Lib.hid (HI.out u (List.mem_of_getElem? hu) wr)
      have HT := Lib.hid (depM_take (m := m + 1) hu)
      obtain ⟨ud, hud⟩ : ∃ d, min u.dep (m + 1) = d := ⟨_, rfl⟩
      rw [hud] at HIu HT
      have hmx : max (d : Int) (ud : Int) = ((max d ud : Nat) : Int) := by omega
      obtain ⟨c0, hc0⟩ : ∃ c0, u.code = c0 := ⟨_, rfl⟩
      rw [hc0] at HIu y1
      have hq0 : (0 : Int) ≤ (q : Int) := by omega
      have hql : (q : Int) < (A.length : Int) := by omega
      have hwm : IntKind.i64.wrap ((q : Int) + 1) = ((q + 1 : Nat) : Int) := by rw [IntKind.wrap_i64]; have := HN.out; omega
      have HM : Hid (A.length - (q + 1) < gk ∧ q + 1 + (A.length - (q + 1)) = A.length) := ⟨by omega, by omega⟩
      subst ha
      clear hx1 hu hud hc0
      go_wp2_with fail
      refine HIu.out.mono ?_
      rintro e w5 ⟨rfl, hb5⟩
      have HN5 : Hid (Below w.heap.size w w5 ∧ StrIn w5 (some ⟨b1, o1, none⟩) (A.map Ty.code) ∧ max d ud = min (depL (A.take (q + 1))) (m + 1)) := ⟨below_on HR.out.1 hb5 HR.out.1.size, HR.out.2.1.next hb5, by rw [HT.out, HR.out.2.2]⟩
      clear hb5 y1
      go_wp2_with fail
      go_roundg (A.length - (q + 1))
      case measure => exact HM.out.1
      case rel => exact ⟨q + 1, max d ud, HM.out.2, rfl, by first | rfl | rw [hmx], HN5⟩
    · have hd : decide ((q : Int) < (A.length : Int)) = false := by simp; omega
      have HD : Hid (d = min (depL A) (m + 1)) := by
        have h := HR.out.2.2
        rw [show q = A.length by omega, List.take_length] at h
        exact h
      have hwd : IntKind.i64.wrap ((d : Int) + 1) = ((d + 1 : Nat) : Int) := by rw [IntKind.wrap_i64]; have := HD.out; have := HMm.out; omega
      go_wp2_with fail
      go_ret
      exact ⟨by rw [← HD.out]; rfl, HR.out.1⟩
theorem c_deep : ∀ m, m ≤ 101 → DrC m
  | 0, _ => dr_zero
  | m + 1, h => dr_succ m (by omega) (c_deep m (by omega))
end Go.Proofs.YtmaplgpicdomiaaGreatDoor
namespace Go.Proofs.YtmaplgpicdomiaaGreatDoor
set_option linter.unusedVariables false
set_option linter.unusedSimpArgs false
set_option maxRecDepth 100000
open Go.RowKit

theorem c_robject (t : Ty) (w : World) :
    Calls Tryz.prog 86 #[.string ⟨t.code.toArray⟩] w fun e w' => e = .returned (.bool (objI t.letter.toNat)) ∧ w' = w := by
  have HK := Lib.hid (c_rkind t)
  obtain ⟨xI, hxI⟩ : ∃ xI : Int, (t.letter.toNat : Int) = xI := ⟨_, rfl⟩
  obtain ⟨l, hlc⟩ : ∃ l, t.code = l := ⟨_, rfl⟩
  rw [hxI, hlc] at HK
  rw [hxI, hlc]
  unfold objI
  clear hxI hlc
  cases h1 : (xI != 118)
  · go_enter Tryz.func86, Tryz.ntmps86
    go_wp2_with fail
    refine (HK.out _).mono ?_
    rintro e w2 ⟨rfl, rfl⟩
    go_wp2_with fail
    go_ret
    exact ⟨rfl, rfl⟩
  · cases h2 : (xI != 102)
    all_goals
      go_enter Tryz.func86, Tryz.ntmps86
      go_wp2_with fail
      refine (HK.out _).mono ?_
      rintro e w2 ⟨rfl, rfl⟩
      go_wp2_with fail
      refine (HK.out _).mono ?_
      rintro e w3 ⟨rfl, rfl⟩
      go_wp2_with fail
      go_ret
      exact ⟨rfl, rfl⟩
theorem rsc_code (t : Ty) (hwf : t.wf) (hl : t.code.length ≤ 65536) (w : World) :
    Calls Tryz.prog 93 #[.string ⟨t.code.toArray⟩] w fun e w' => e = .returned (.bool (scaI t.letter.toNat)) ∧ Below w.heap.size w w' :=
  (c_rIsScalar t.code w (by omega)).mono fun e w' h => ⟨by rw [h.1, tk_code hwf hl], h.2⟩
theorem v_code (t : Ty) (hwf : t.wf) : (t.code == [118]) = ((t.letter.toNat : Int) == 118) := by
  cases t with
  | base c =>
    have hc : baseC c = true := hwf
    unfold baseC at hc
    simp at hc
    rcases hc with ((((hc | hc) | hc) | hc) | hc) | hc <;> (subst hc; rfl)
  | ptr u => rfl
  | arr n u => rfl
  | str s => rfl
  | fn ps r => cases ps <;> rfl
theorem any_of_take' {l : List Ty} {f : Ty → Bool} {q : Nat} (h : (l.take (q + 1)).any f = ((l.take q).any f || true)) : l.any f = true := by
  rw [Bool.or_true, List.any_eq_true] at h
  obtain ⟨x, hx, hf⟩ := h
  exact List.any_eq_true.2 ⟨x, List.mem_of_mem_take hx, hf⟩
def SpC (m : Nat) : Prop := ∀ (t : Ty) (w : World), t.size ≤ m → t.wf → t.code.length ≤ 65536 →
  Calls Tryz.prog 76 #[.string ⟨t.code.toArray⟩] w fun e w' => e = .returned (.bool (!anyT badT t)) ∧ Below w.heap.size w w'
/-- Behind what a type is itself: its parts. -/
theorem sp_bad {t : Ty} (h : badT t = true) : (!anyT badT t) = false := by
  rw [anyT_eq, h]
  rfl
theorem sp_good {t : Ty} (h : badT t = false) : (!anyT badT t) = !(t.parts.any (anyT badT)) := by
  rw [anyT_eq, h]
  rfl
set_option maxHeartbeats 4000000 in
theorem sp_oth (m : Nat) (IH : SpC m) (t : Ty) (w : World) (hsz : t.size ≤ m + 1) (hwf : t.wf) (hl : t.code.length ≤ 65536) (xI : Int) (hxI : (t.letter.toNat : Int) = xI) (h1 : (xI == 97) = false) (h2 : (xI == 102) = false) (hb : badT t = false) :
    Calls Tryz.prog 76 #[.string ⟨t.code.toArray⟩] w fun e w' => e = .returned (.bool (!anyT badT t)) ∧ Below w.heap.size w w' := by
  rw [sp_good hb]
  have HK := Lib.hid (c_rkind t)
  have HP := Lib.hid (fun w => c_rparts t hwf w hl)
  have HI := Lib.hid (fun (u : Ty) (hu : u ∈ t.parts) (w' : World) => IH u w' (by have := parts_sub t u hu; omega) (parts_wf t u hwf hu) (Nat.le_trans (len_code hu) hl))
  have hn : t.parts.length ≤ 65536 := Nat.le_trans (parts_le t) (Nat.le_trans (size_code t) hl)
  obtain ⟨l, hlc⟩ : ∃ l, t.code = l := ⟨_, rfl⟩
  obtain ⟨A, hA⟩ : ∃ A, t.parts = A := ⟨_, rfl⟩
  rw [hlc] at HP HK ⊢
  rw [hxI] at HK
  rw [hA] at HI hn ⊢
  have HA := Lib.hid hA
  have HN := Lib.hid hn
  obtain ⟨R, hR⟩ : ∃ R, (!(A.any (anyT badT))) = R := ⟨_, rfl⟩
  rw [hR]
  have HR := Lib.hid hR
  clear hxI hwf hl hlc hA IH hn hsz hb hR
  go_enter Tryz.func76, Tryz.ntmps76
  go_wp2_with fail
  refine (HK.out _).mono ?_
  rintro e w2 ⟨rfl, rfl⟩
  go_wp2_with fail
  refine (HK.out _).mono ?_
  rintro e w3 ⟨rfl, rfl⟩
  go_wp2_with fail
  refine (HP.out _).mono ?_
  rintro e w4 ⟨⟨a, c, rfl, hc, hst⟩, hb⟩
  rw [HA.out] at hc hst ⊢
  have HB := Lib.hid hb
  have HSt := Lib.hid hst
  clear hb hst HP
  go_wp2_with fail
  go_loopg [9] A.length (fun g v9 wr => ∃ q : Nat, q + g = A.length ∧ v9 = .int .i64 (q : Int) ∧ Hid (Below w3.heap.size w3 wr ∧ StrIn wr a (A.map Ty.code) ∧ (A.take q).any (anyT badT) = false))
  case atStart => exact ⟨0, by omega, rfl, HB.out, HSt.out, rfl⟩
  case round =>
    obtain ⟨q, hq, rfl, HRl⟩ := hrel
    by_cases hlt : q < A.length
    · have hd : decide ((q : Int) < (A.length : Int)) = true := by simp; omega
      obtain ⟨u, hu⟩ : ∃ u, A[q]? = some u := ⟨_, List.getElem?_eq_getElem hlt⟩
      obtain ⟨b1, o1, ha, hx1⟩ := HRl.out.2.1 (by simp; omega)
      have y1 := hx1 q u.code (by rw [List.getElem?_map, hu]; rfl)
      have HIu := Lib.hid (HI.out u (List.mem_of_getElem? hu) wr)
      have HT := Lib.hid (any_take (f := anyT badT) hu)
      obtain ⟨ud, hud⟩ : ∃ d, anyT badT u = d := ⟨_, rfl⟩
      rw [hud] at HIu HT
      obtain ⟨c0, hc0⟩ : ∃ c0, u.code = c0 := ⟨_, rfl⟩
      rw [hc0] at HIu y1
      have hq0 : (0 : Int) ≤ (q : Int) := by omega
      have hql : (q : Int) < (A.length : Int) := by omega
      have hwm : IntKind.i64.wrap ((q : Int) + 1) = ((q + 1 : Nat) : Int) := by rw [IntKind.wrap_i64]; have := HN.out; omega
      have HM : Hid (A.length - (q + 1) < gk ∧ q + 1 + (A.length - (q + 1)) = A.length) := ⟨by omega, by omega⟩
      subst ha
      clear hx1 hu hud hc0
      go_wp2_with fail
      refine HIu.out.mono ?_
      rintro e w5 ⟨rfl, hb5⟩
      have HB5 := Lib.hid (below_on HRl.out.1 hb5 HRl.out.1.size)
      have HS5 := Lib.hid (HRl.out.2.1.next hb5)
      clear hb5 y1
      cases ud
      · have HN5 : Hid (Below w3.heap.size w3 w5 ∧ StrIn w5 (some ⟨b1, o1, none⟩) (A.map Ty.code) ∧ (A.take (q + 1)).any (anyT badT) = false) := ⟨HB5.out, HS5.out, by rw [HT.out, HRl.out.2.2]; rfl⟩
        go_wp2_with fail
        go_roundg (A.length - (q + 1))
        case measure => exact HM.out.1
        case rel => exact ⟨q + 1, HM.out.2, rfl, HN5⟩
      · have hRv : R = false := by
          rw [← HR.out, any_of_take' HT.out]
          rfl
        subst hRv
        go_wp2_with fail
        go_ret
        exact ⟨rfl, HB5.out⟩
    · have hd : decide ((q : Int) < (A.length : Int)) = false := by simp; omega
      have hRv : R = true := by
        have h := HRl.out.2.2
        rw [show q = A.length by omega, List.take_length] at h
        rw [← HR.out, h]
        rfl
      subst hRv
      go_wp2_with fail
      go_ret
      exact ⟨rfl, HRl.out.1⟩
set_option maxHeartbeats 8000000 in
theorem sp_arr (m : Nat) (IH : SpC m) (n : Nat) (u : Ty) (w : World) (hsz : (Ty.arr n u).size ≤ m + 1) (hwf : (Ty.arr n u).wf) (hl : (Ty.arr n u).code.length ≤ 65536) :
    Calls Tryz.prog 76 #[.string ⟨(Ty.arr n u).code.toArray⟩] w fun e w' => e = .returned (.bool (!anyT badT (.arr n u))) ∧ Below w.heap.size w w' := by
  have HK := Lib.hid (c_rkind (.arr n u))
  have hk0 : (((Ty.arr n u).letter.toNat : Int)) = 97 := rfl
  rw [hk0] at HK
  have HIn := Lib.hid (fun w => c_rinner_arr n u w hwf.1 hl)
  have HO := Lib.hid (c_robject u)
  have HP := Lib.hid (fun w => c_rparts (.arr n u) hwf w hl)
  have hsu : u.size ≤ m := by have h : u.size + 1 ≤ m + 1 := hsz; omega
  have hul : u.code.length ≤ 65536 := by have := arr_len n u; omega
  have HI := Lib.hid (fun (w' : World) => IH u w' hsu hwf.2 hul)
  have hRd : (!anyT badT (.arr n u)) = ((decide (1 ≤ (n : Int)) && decide ((n : Int) ≤ 65536) && objI u.letter.toNat) && !(anyT badT u)) := by
    rw [anyT_eq]
    have hb : badT (.arr n u) = !(decide (1 ≤ n) && decide (n ≤ 65536) && objI u.letter.toNat) := rfl
    have hp : (Ty.arr n u).parts.any (anyT badT) = anyT badT u := by show (anyT badT u || false) = _; simp
    rw [hb, hp, show decide (1 ≤ (n : Int)) = decide (1 ≤ n) from decide_eq_decide.2 (by omega), show decide ((n : Int) ≤ 65536) = decide (n ≤ 65536) from decide_eq_decide.2 (by omega)]
    cases decide (1 ≤ n) <;> cases decide (n ≤ 65536) <;> cases objI u.letter.toNat <;> cases anyT badT u <;> rfl
  rw [hRd]
  obtain ⟨qo, hqo⟩ : ∃ q, objI u.letter.toNat = q := ⟨_, rfl⟩
  obtain ⟨qu, hqu⟩ : ∃ q, anyT badT u = q := ⟨_, rfl⟩
  rw [hqo] at HO
  rw [hqu] at HI
  rw [hqo, hqu]
  obtain ⟨l, hlc⟩ : ∃ l, (Ty.arr n u).code = l := ⟨_, rfl⟩
  obtain ⟨lu, hlu⟩ : ∃ l, u.code = l := ⟨_, rfl⟩
  rw [hlc] at HK HIn HP ⊢
  rw [hlu] at HIn HO HI
  have HLu := Lib.hid hlu
  have hlt1 : decide ((n : Int) < 1) = !decide (1 ≤ (n : Int)) := by by_cases h : 1 ≤ (n : Int) <;> simp [h] <;> omega
  have hlt2 : decide ((65536 : Int) < (n : Int)) = !decide ((n : Int) ≤ 65536) := by by_cases h : (n : Int) ≤ 65536 <;> simp [h] <;> omega
  obtain ⟨xn, hxn⟩ : ∃ x : Int, (n : Int) = x := ⟨_, rfl⟩
  rw [hxn] at HIn hlt1 hlt2 ⊢
  clear hwf hl hlc hsz hk0 hsu hul hRd hqo hqu hlu hxn IH
  cases qo
  · go_enter Tryz.func76, Tryz.ntmps76
    go_wp2_with fail
    refine (HK.out _).mono ?_
    rintro e w2 ⟨rfl, rfl⟩
    go_wp2_with fail
    refine (HIn.out _).mono ?_
    rintro e w3 ⟨rfl, hb⟩
    have HB := Lib.hid hb
    clear hb
    go_wp2_with fail
    refine (HO.out _).mono ?_
    rintro e w4 ⟨rfl, rfl⟩
    go_wp2_with fail
    go_ret
    exact ⟨by simp, HB.out⟩
  · cases h1 : decide (1 ≤ xn)
    · rw [h1] at hlt1
      go_enter Tryz.func76, Tryz.ntmps76
      go_wp2_with fail
      refine (HK.out _).mono ?_
      rintro e w2 ⟨rfl, rfl⟩
      go_wp2_with fail
      refine (HIn.out _).mono ?_
      rintro e w3 ⟨rfl, hb⟩
      have HB := Lib.hid hb
      clear hb
      go_wp2_with fail
      refine (HO.out _).mono ?_
      rintro e w4 ⟨rfl, rfl⟩
      go_wp2_with fail
      go_ret
      exact ⟨by simp, HB.out⟩
    · cases h2 : decide (xn ≤ 65536)
      · rw [h1] at hlt1
        rw [h2] at hlt2
        go_enter Tryz.func76, Tryz.ntmps76
        go_wp2_with fail
        refine (HK.out _).mono ?_
        rintro e w2 ⟨rfl, rfl⟩
        go_wp2_with fail
        refine (HIn.out _).mono ?_
        rintro e w3 ⟨rfl, hb⟩
        have HB := Lib.hid hb
        clear hb
        go_wp2_with fail
        refine (HO.out _).mono ?_
        rintro e w4 ⟨rfl, rfl⟩
        go_wp2_with fail
        go_ret
        exact ⟨by simp, HB.out⟩
      · rw [h1] at hlt1
        rw [h2] at hlt2
        go_enter Tryz.func76, Tryz.ntmps76
        go_wp2_with fail
        refine (HK.out _).mono ?_
        rintro e w2 ⟨rfl, rfl⟩
        go_wp2_with fail
        refine (HIn.out _).mono ?_
        rintro e w3 ⟨rfl, hb⟩
        have HB := Lib.hid hb
        clear hb
        go_wp2_with fail
        refine (HO.out _).mono ?_
        rintro e w4 ⟨rfl, rfl⟩
        go_wp2_with fail
        refine (HK.out _).mono ?_
        rintro e w5 ⟨rfl, rfl⟩
        go_wp2_with fail
        refine (HP.out _).mono ?_
        rintro e w6 ⟨⟨a, c, rfl, hc, hst⟩, hb6⟩
        have HB6 := Lib.hid (below_on HB.out hb6 HB.out.size)
        obtain ⟨b1, o1, ha, hx1⟩ := hst (by show 0 < 1; decide)
        have y1 := hx1 0 u.code rfl
        rw [Nat.add_zero, HLu.out] at y1
        subst ha
        clear hb6 hst hx1
        have hc1 : (Ty.arr n u).parts.length = 1 := rfl
        rw [hc1]
        go_wp2_with fail
        refine wp_loop_rounds 2 ?_
        rw [rounds_succ]
        go_wp2_with fail
        refine (HI.out _).mono ?_
        rintro e w7 ⟨rfl, hb7⟩
        have HB7 := Lib.hid (below_on HB6.out hb7 HB6.out.size)
        clear hb7 y1
        cases qu
        · go_wp2_with fail
          rw [rounds_succ]
          go_wp2_with fail
          go_ret
          exact ⟨rfl, HB7.out⟩
        · go_wp2_with fail
          go_ret
          exact ⟨rfl, HB7.out⟩
set_option maxHeartbeats 8000000 in
theorem sp_fn (m : Nat) (IH : SpC m) (ps : Tys) (r : Ty) (w : World) (hsz : (Ty.fn ps r).size ≤ m + 1) (hwf : (Ty.fn ps r).wf) (hl : (Ty.fn ps r).code.length ≤ 65536) :
    Calls Tryz.prog 76 #[.string ⟨(Ty.fn ps r).code.toArray⟩] w fun e w' => e = .returned (.bool (!anyT badT (.fn ps r))) ∧ Below w.heap.size w w' := by
  have HK := Lib.hid (c_rkind (.fn ps r))
  have hk0 : (((Ty.fn ps r).letter.toNat : Int)) = 102 := rfl
  rw [hk0] at HK
  have HS := Lib.hid (fun w => c_rsign ps r hwf w hl)
  have hfl := fn_len ps r
  have HSr := Lib.hid (rsc_code r hwf.2 (by omega))
  have hv := v_code r hwf.2
  have HSu := Lib.hid (fun (u : Ty) (hu : u ∈ ps.list) => rsc_code u (lst_wf ps u hwf.1 hu) (by have := lst_code_le ps r u hu; omega))
  have HP := Lib.hid (fun w => c_rparts (.fn ps r) hwf w hl)
  have HI := Lib.hid (fun (u : Ty) (hu : u ∈ (Ty.fn ps r).parts) (w' : World) => IH u w' (by have := parts_sub (.fn ps r) u hu; omega) (parts_wf (.fn ps r) u hwf hu) (Nat.le_trans (len_code hu) hl))
  have hn : (Ty.fn ps r).parts.length ≤ 65536 := Nat.le_trans (parts_le _) (Nat.le_trans (size_code _) hl)
  have hRd : (!anyT badT (.fn ps r)) = ((ps.list.all (fun u => scaI u.letter.toNat) && decide (ps.list.length ≤ 8) && (scaI r.letter.toNat || (r.letter.toNat : Int) == 118)) && !((Ty.fn ps r).parts.any (anyT badT))) := by
    rw [anyT_eq]
    have hb : badT (.fn ps r) = !(ps.list.all (fun u => scaI u.letter.toNat) && decide (ps.list.length ≤ 8) && (scaI r.letter.toNat || (r.letter.toNat : Int) == 118)) := rfl
    rw [hb]
    cases (ps.list.all (fun u => scaI u.letter.toNat) && decide (ps.list.length ≤ 8) && (scaI r.letter.toNat || (r.letter.toNat : Int) == 118)) <;> cases (Ty.fn ps r).parts.any (anyT badT) <;> rfl
  obtain ⟨R, hR⟩ : ∃ R, (!anyT badT (.fn ps r)) = R := ⟨_, rfl⟩
  rw [hR]
  rw [hR] at hRd
  obtain ⟨l, hlc⟩ : ∃ l, (Ty.fn ps r).code = l := ⟨_, rfl⟩
  obtain ⟨lr, hlr⟩ : ∃ l, r.code = l := ⟨_, rfl⟩
  obtain ⟨A, hA⟩ : ∃ A, (Ty.fn ps r).parts = A := ⟨_, rfl⟩
  obtain ⟨F, hF⟩ : ∃ F, ps.list = F := ⟨_, rfl⟩
  obtain ⟨qs, hqs⟩ : ∃ q, scaI r.letter.toNat = q := ⟨_, rfl⟩
  obtain ⟨qv, hqv⟩ : ∃ q, ((r.letter.toNat : Int) == 118) = q := ⟨_, rfl⟩
  rw [hqs] at HSr hRd
  rw [hqv, hlr] at hv
  rw [hqv, hA, hF] at hRd
  rw [hlc] at HK HS HP ⊢
  rw [hlr] at HS HSr
  rw [hF] at HS HSu
  rw [hA] at HI hn
  have HA := Lib.hid hA
  have HN := Lib.hid hn
  have HRd := Lib.hid hRd
  have hFl : F.length ≤ 65536 := by
    have h : A.length = F.length + 1 := by rw [← hA, ← hF]; simp [Ty.parts]
    omega
  have HFl := Lib.hid hFl
  clear hwf hl hlc hsz hk0 hfl hn hRd hR hlr hA hF hqs hqv IH hFl
  by_cases h8 : F.length ≤ 8
  · have hd8 : decide ((8 : Int) < (F.length : Int)) = false := by simp; omega
    cases hqq : (qv || qs)
    · have hRv : R = false := by
        rw [HRd.out]
        cases qv <;> cases qs <;> simp_all
      subst hRv
      obtain ⟨rfl, rfl⟩ : qv = false ∧ qs = false := by cases qv <;> cases qs <;> simp_all
      have hv2 : (lr != [118]) = true := by simp [bne, hv]
      clear hqq h8
      go_enter Tryz.func76, Tryz.ntmps76
      go_wp2_with fail
      refine (HK.out _).mono ?_
      rintro e w2 ⟨rfl, rfl⟩
      go_wp2_with fail
      refine (HK.out _).mono ?_
      rintro e w3 ⟨rfl, rfl⟩
      go_wp2_with fail
      refine (HS.out _).mono ?_
      rintro e w4 ⟨⟨a, c, rfl, hst⟩, hb⟩
      have HB := Lib.hid hb
      clear hb hst
      go_wp2_with fail
      refine (HSr.out _).mono ?_
      rintro e w5 ⟨rfl, hb5⟩
      have HB5 := Lib.hid (below_on HB.out hb5 HB.out.size)
      clear hb5
      go_wp2_with fail
      go_ret
      exact ⟨rfl, HB5.out⟩
    · have hRv : R = (F.all (fun u => scaI u.letter.toNat) && !(A.any (anyT badT))) := by
        rw [HRd.out, show decide (F.length ≤ 8) = true by simp [h8], show (qs || qv) = true by cases qv <;> cases qs <;> simp_all]
        simp
      have HRv := Lib.hid hRv
      clear HRd hRv h8
      cases qv
      · obtain rfl : qs = true := by simpa using hqq
        have hv2 : (lr != [118]) = true := by simp [bne, hv]
        clear hqq
        go_enter Tryz.func76, Tryz.ntmps76
        go_wp2_with fail
        refine (HK.out _).mono ?_
        rintro e w2 ⟨rfl, rfl⟩
        go_wp2_with fail
        refine (HK.out _).mono ?_
        rintro e w3 ⟨rfl, rfl⟩
        go_wp2_with fail
        refine (HS.out _).mono ?_
        rintro e w4 ⟨⟨a, c, rfl, hst⟩, hb⟩
        have HB := Lib.hid hb
        clear hb
        go_wp2_with fail
        refine (HSr.out _).mono ?_
        rintro e w5 ⟨rfl, hb5⟩
        have HB5 := Lib.hid (below_on HB.out hb5 HB.out.size)
        have HSt := Lib.hid (hst.next hb5)
        clear hb5 hst
        go_wp2_with fail
        go_loopg [7] F.length (fun g v7 wr => ∃ q : Nat, q + g = F.length ∧ v7 = .int .i64 (q : Int) ∧ Hid (Below w3.heap.size w3 wr ∧ StrIn wr a (F.map Ty.code) ∧ ∀ j u, j < q → F[j]? = some u → scaI u.letter.toNat = true))
        case atStart => exact ⟨0, by omega, rfl, HB5.out, HSt.out, fun j u hj => by omega⟩
        case round =>
          obtain ⟨q, hq, rfl, HRl⟩ := hrel
          by_cases hlt : q < F.length
          · have hd : decide ((q : Int) < (F.length : Int)) = true := by simp; omega
            obtain ⟨u, hu⟩ : ∃ u, F[q]? = some u := ⟨_, List.getElem?_eq_getElem hlt⟩
            obtain ⟨b1, o1, ha, hx1⟩ := HRl.out.2.1 (by simp; omega)
            have y1 := hx1 q u.code (by rw [List.getElem?_map, hu]; rfl)
            have HIu := Lib.hid (HSu.out u (List.mem_of_getElem? hu) wr)
            have HU := Lib.hid hu
            obtain ⟨ud, hud⟩ : ∃ d, scaI u.letter.toNat = d := ⟨_, rfl⟩
            rw [hud] at HIu
            have HUd := Lib.hid hud
            obtain ⟨c0, hc0⟩ : ∃ c0, u.code = c0 := ⟨_, rfl⟩
            rw [hc0] at HIu y1
            have hq0 : (0 : Int) ≤ (q : Int) := by omega
            have hql : (q : Int) < (F.length : Int) := by omega
            have hwm : IntKind.i64.wrap ((q : Int) + 1) = ((q + 1 : Nat) : Int) := by rw [IntKind.wrap_i64]; have := HFl.out; omega
            have HM : Hid (F.length - (q + 1) < gk ∧ q + 1 + (F.length - (q + 1)) = F.length) := ⟨by omega, by omega⟩
            subst ha
            clear hx1 hu hud hc0
            go_wp2_with fail
            refine HIu.out.mono ?_
            rintro e w8 ⟨rfl, hb8⟩
            have HB8 := Lib.hid (below_on HRl.out.1 hb8 HRl.out.1.size)
            have HS8 := Lib.hid (HRl.out.2.1.next hb8)
            clear hb8 y1
            cases ud
            · have hRf : R = false := by
                rw [HRv.out]
                have h : F.all (fun u => scaI u.letter.toNat) = false := by
                  rw [List.all_eq_false]
                  exact ⟨u, List.mem_of_getElem? HU.out, by rw [HUd.out]; simp⟩
                rw [h]
                rfl
              subst hRf
              go_wp2_with fail
              go_ret
              exact ⟨rfl, HB8.out⟩
            · have HN5 : Hid (Below w3.heap.size w3 w8 ∧ StrIn w8 (some ⟨b1, o1, none⟩) (F.map Ty.code) ∧ ∀ j u, j < q + 1 → F[j]? = some u → scaI u.letter.toNat = true) := ⟨HB8.out, HS8.out, fun j u' hj hu' => by
                by_cases e : j = q
                · subst e
                  rw [HU.out] at hu'
                  cases hu'
                  exact HUd.out
                · exact HRl.out.2.2 j u' (by omega) hu'⟩
              go_wp2_with fail
              go_roundg (F.length - (q + 1))
              case measure => exact HM.out.1
              case rel => exact ⟨q + 1, HM.out.2, rfl, HN5⟩
          · have hd : decide ((q : Int) < (F.length : Int)) = false := by simp; omega
            have hAll : F.all (fun u => scaI u.letter.toNat) = true := List.all_eq_true.2 fun u hu => by
              obtain ⟨j, hj, e⟩ := List.getElem_of_mem hu
              exact HRl.out.2.2 j u (by omega) (by rw [List.getElem?_eq_getElem hj, e])
            have hR2 : (!(A.any (anyT badT))) = R := by rw [HRv.out, hAll]; rfl
            have HR := Lib.hid hR2
            have HBl := Lib.hid HRl.out.1
            have HPl := Lib.hid (HP.out wr)
            clear hAll hR2 HRl HRv HSu HSr HS HP
            go_wp2_with fail
            refine HPl.out.mono ?_
            rintro e w6 ⟨⟨a2, c2, rfl, hc, hst⟩, hb⟩
            rw [HA.out] at hc hst ⊢
            have HB6 := Lib.hid (below_on HBl.out hb HBl.out.size)
            have HSt6 := Lib.hid hst
            clear hb hst HPl
            go_wp2_with fail
            go_loopg [9] A.length (fun g v9 wr => ∃ q : Nat, q + g = A.length ∧ v9 = .int .i64 (q : Int) ∧ Hid (Below w3.heap.size w3 wr ∧ StrIn wr a2 (A.map Ty.code) ∧ (A.take q).any (anyT badT) = false))
            case atStart => exact ⟨0, by omega, rfl, HB6.out, HSt6.out, rfl⟩
            case round =>
              obtain ⟨q, hq, rfl, HRl⟩ := hrel
              by_cases hlt : q < A.length
              · have hd : decide ((q : Int) < (A.length : Int)) = true := by simp; omega
                obtain ⟨u, hu⟩ : ∃ u, A[q]? = some u := ⟨_, List.getElem?_eq_getElem hlt⟩
                obtain ⟨b1, o1, ha, hx1⟩ := HRl.out.2.1 (by simp; omega)
                have y1 := hx1 q u.code (by rw [List.getElem?_map, hu]; rfl)
                have HIu := Lib.hid (HI.out u (List.mem_of_getElem? hu) wr)
                have HT := Lib.hid (any_take (f := anyT badT) hu)
                obtain ⟨ud, hud⟩ : ∃ d, anyT badT u = d := ⟨_, rfl⟩
                rw [hud] at HIu HT
                obtain ⟨c0, hc0⟩ : ∃ c0, u.code = c0 := ⟨_, rfl⟩
                rw [hc0] at HIu y1
                have hq0 : (0 : Int) ≤ (q : Int) := by omega
                have hql : (q : Int) < (A.length : Int) := by omega
                have hwm : IntKind.i64.wrap ((q : Int) + 1) = ((q + 1 : Nat) : Int) := by rw [IntKind.wrap_i64]; have := HN.out; omega
                have HM : Hid (A.length - (q + 1) < gk ∧ q + 1 + (A.length - (q + 1)) = A.length) := ⟨by omega, by omega⟩
                subst ha
                clear hx1 hu hud hc0
                go_wp2_with fail
                refine HIu.out.mono ?_
                rintro e w5 ⟨rfl, hb5⟩
                have HB5 := Lib.hid (below_on HRl.out.1 hb5 HRl.out.1.size)
                have HS5 := Lib.hid (HRl.out.2.1.next hb5)
                clear hb5 y1
                cases ud
                · have HN5 : Hid (Below w3.heap.size w3 w5 ∧ StrIn w5 (some ⟨b1, o1, none⟩) (A.map Ty.code) ∧ (A.take (q + 1)).any (anyT badT) = false) := ⟨HB5.out, HS5.out, by rw [HT.out, HRl.out.2.2]; rfl⟩
                  go_wp2_with fail
                  go_roundg (A.length - (q + 1))
                  case measure => exact HM.out.1
                  case rel => exact ⟨q + 1, HM.out.2, rfl, HN5⟩
                · have hRv : R = false := by
                    rw [← HR.out, any_of_take' HT.out]
                    rfl
                  subst hRv
                  go_wp2_with fail
                  go_ret
                  exact ⟨rfl, HB5.out⟩
              · have hd : decide ((q : Int) < (A.length : Int)) = false := by simp; omega
                have hRv : R = true := by
                  have h := HRl.out.2.2
                  rw [show q = A.length by omega, List.take_length] at h
                  rw [← HR.out, h]
                  rfl
                subst hRv
                go_wp2_with fail
                go_ret
                exact ⟨rfl, HRl.out.1⟩
      · have hv2 : (lr != [118]) = false := by simp [bne, hv]
        clear hqq
        go_enter Tryz.func76, Tryz.ntmps76
        go_wp2_with fail
        refine (HK.out _).mono ?_
        rintro e w2 ⟨rfl, rfl⟩
        go_wp2_with fail
        refine (HK.out _).mono ?_
        rintro e w3 ⟨rfl, rfl⟩
        go_wp2_with fail
        refine (HS.out _).mono ?_
        rintro e w5 ⟨⟨a, c, rfl, hst⟩, hb⟩
        have HB5 := Lib.hid hb
        have HSt := Lib.hid hst
        clear hb hst
        go_wp2_with fail
        go_loopg [7] F.length (fun g v7 wr => ∃ q : Nat, q + g = F.length ∧ v7 = .int .i64 (q : Int) ∧ Hid (Below w3.heap.size w3 wr ∧ StrIn wr a (F.map Ty.code) ∧ ∀ j u, j < q → F[j]? = some u → scaI u.letter.toNat = true))
        case atStart => exact ⟨0, by omega, rfl, HB5.out, HSt.out, fun j u hj => by omega⟩
        case round =>
          obtain ⟨q, hq, rfl, HRl⟩ := hrel
          by_cases hlt : q < F.length
          · have hd : decide ((q : Int) < (F.length : Int)) = true := by simp; omega
            obtain ⟨u, hu⟩ : ∃ u, F[q]? = some u := ⟨_, List.getElem?_eq_getElem hlt⟩
            obtain ⟨b1, o1, ha, hx1⟩ := HRl.out.2.1 (by simp; omega)
            have y1 := hx1 q u.code (by rw [List.getElem?_map, hu]; rfl)
            have HIu := Lib.hid (HSu.out u (List.mem_of_getElem? hu) wr)
            have HU := Lib.hid hu
            obtain ⟨ud, hud⟩ : ∃ d, scaI u.letter.toNat = d := ⟨_, rfl⟩
            rw [hud] at HIu
            have HUd := Lib.hid hud
            obtain ⟨c0, hc0⟩ : ∃ c0, u.code = c0 := ⟨_, rfl⟩
            rw [hc0] at HIu y1
            have hq0 : (0 : Int) ≤ (q : Int) := by omega
            have hql : (q : Int) < (F.length : Int) := by omega
            have hwm : IntKind.i64.wrap ((q : Int) + 1) = ((q + 1 : Nat) : Int) := by rw [IntKind.wrap_i64]; have := HFl.out; omega
            have HM : Hid (F.length - (q + 1) < gk ∧ q + 1 + (F.length - (q + 1)) = F.length) := ⟨by omega, by omega⟩
            subst ha
            clear hx1 hu hud hc0
            go_wp2_with fail
            refine HIu.out.mono ?_
            rintro e w8 ⟨rfl, hb8⟩
            have HB8 := Lib.hid (below_on HRl.out.1 hb8 HRl.out.1.size)
            have HS8 := Lib.hid (HRl.out.2.1.next hb8)
            clear hb8 y1
            cases ud
            · have hRf : R = false := by
                rw [HRv.out]
                have h : F.all (fun u => scaI u.letter.toNat) = false := by
                  rw [List.all_eq_false]
                  exact ⟨u, List.mem_of_getElem? HU.out, by rw [HUd.out]; simp⟩
                rw [h]
                rfl
              subst hRf
              go_wp2_with fail
              go_ret
              exact ⟨rfl, HB8.out⟩
            · have HN5 : Hid (Below w3.heap.size w3 w8 ∧ StrIn w8 (some ⟨b1, o1, none⟩) (F.map Ty.code) ∧ ∀ j u, j < q + 1 → F[j]? = some u → scaI u.letter.toNat = true) := ⟨HB8.out, HS8.out, fun j u' hj hu' => by
                by_cases e : j = q
                · subst e
                  rw [HU.out] at hu'
                  cases hu'
                  exact HUd.out
                · exact HRl.out.2.2 j u' (by omega) hu'⟩
              go_wp2_with fail
              go_roundg (F.length - (q + 1))
              case measure => exact HM.out.1
              case rel => exact ⟨q + 1, HM.out.2, rfl, HN5⟩
          · have hd : decide ((q : Int) < (F.length : Int)) = false := by simp; omega
            have hAll : F.all (fun u => scaI u.letter.toNat) = true := List.all_eq_true.2 fun u hu => by
              obtain ⟨j, hj, e⟩ := List.getElem_of_mem hu
              exact HRl.out.2.2 j u (by omega) (by rw [List.getElem?_eq_getElem hj, e])
            have hR2 : (!(A.any (anyT badT))) = R := by rw [HRv.out, hAll]; rfl
            have HR := Lib.hid hR2
            have HBl := Lib.hid HRl.out.1
            have HPl := Lib.hid (HP.out wr)
            clear hAll hR2 HRl HRv HSu HSr HS HP
            go_wp2_with fail
            refine HPl.out.mono ?_
            rintro e w6 ⟨⟨a2, c2, rfl, hc, hst⟩, hb⟩
            rw [HA.out] at hc hst ⊢
            have HB6 := Lib.hid (below_on HBl.out hb HBl.out.size)
            have HSt6 := Lib.hid hst
            clear hb hst HPl
            go_wp2_with fail
            go_loopg [9] A.length (fun g v9 wr => ∃ q : Nat, q + g = A.length ∧ v9 = .int .i64 (q : Int) ∧ Hid (Below w3.heap.size w3 wr ∧ StrIn wr a2 (A.map Ty.code) ∧ (A.take q).any (anyT badT) = false))
            case atStart => exact ⟨0, by omega, rfl, HB6.out, HSt6.out, rfl⟩
            case round =>
              obtain ⟨q, hq, rfl, HRl⟩ := hrel
              by_cases hlt : q < A.length
              · have hd : decide ((q : Int) < (A.length : Int)) = true := by simp; omega
                obtain ⟨u, hu⟩ : ∃ u, A[q]? = some u := ⟨_, List.getElem?_eq_getElem hlt⟩
                obtain ⟨b1, o1, ha, hx1⟩ := HRl.out.2.1 (by simp; omega)
                have y1 := hx1 q u.code (by rw [List.getElem?_map, hu]; rfl)
                have HIu := Lib.hid (HI.out u (List.mem_of_getElem? hu) wr)
                have HT := Lib.hid (any_take (f := anyT badT) hu)
                obtain ⟨ud, hud⟩ : ∃ d, anyT badT u = d := ⟨_, rfl⟩
                rw [hud] at HIu HT
                obtain ⟨c0, hc0⟩ : ∃ c0, u.code = c0 := ⟨_, rfl⟩
                rw [hc0] at HIu y1
                have hq0 : (0 : Int) ≤ (q : Int) := by omega
                have hql : (q : Int) < (A.length : Int) := by omega
                have hwm : IntKind.i64.wrap ((q : Int) + 1) = ((q + 1 : Nat) : Int) := by rw [IntKind.wrap_i64]; have := HN.out; omega
                have HM : Hid (A.length - (q + 1) < gk ∧ q + 1 + (A.length - (q + 1)) = A.length) := ⟨by omega, by omega⟩
                subst ha
                clear hx1 hu hud hc0
                go_wp2_with fail
                refine HIu.out.mono ?_
                rintro e w5 ⟨rfl, hb5⟩
                have HB5 := Lib.hid (below_on HRl.out.1 hb5 HRl.out.1.size)
                have HS5 := Lib.hid (HRl.out.2.1.next hb5)
                clear hb5 y1
                cases ud
                · have HN5 : Hid (Below w3.heap.size w3 w5 ∧ StrIn w5 (some ⟨b1, o1, none⟩) (A.map Ty.code) ∧ (A.take (q + 1)).any (anyT badT) = false) := ⟨HB5.out, HS5.out, by rw [HT.out, HRl.out.2.2]; rfl⟩
                  go_wp2_with fail
                  go_roundg (A.length - (q + 1))
                  case measure => exact HM.out.1
                  case rel => exact ⟨q + 1, HM.out.2, rfl, HN5⟩
                · have hRv : R = false := by
                    rw [← HR.out, any_of_take' HT.out]
                    rfl
                  subst hRv
                  go_wp2_with fail
                  go_ret
                  exact ⟨rfl, HB5.out⟩
              · have hd : decide ((q : Int) < (A.length : Int)) = false := by simp; omega
                have hRv : R = true := by
                  have h := HRl.out.2.2
                  rw [show q = A.length by omega, List.take_length] at h
                  rw [← HR.out, h]
                  rfl
                subst hRv
                go_wp2_with fail
                go_ret
                exact ⟨rfl, HRl.out.1⟩
  · have hd8 : decide ((8 : Int) < (F.length : Int)) = true := by simp; omega
    have hRv : R = false := by rw [HRd.out, show decide (F.length ≤ 8) = false by simp; omega]; simp
    subst hRv
    clear h8
    go_enter Tryz.func76, Tryz.ntmps76
    go_wp2_with fail
    refine (HK.out _).mono ?_
    rintro e w2 ⟨rfl, rfl⟩
    go_wp2_with fail
    refine (HK.out _).mono ?_
    rintro e w3 ⟨rfl, rfl⟩
    go_wp2_with fail
    refine (HS.out _).mono ?_
    rintro e w4 ⟨⟨a, c, rfl, hst⟩, hb⟩
    have HB := Lib.hid hb
    clear hb hst
    go_wp2_with fail
    go_ret
    exact ⟨rfl, HB.out⟩
theorem c_shapeC : ∀ m, SpC m
  | 0 => fun t w h => by
    exfalso
    have : 1 ≤ t.size := by cases t <;> (unfold Ty.size; omega)
    omega
  | m + 1 => fun t w h hwf hl => by
    have IH := c_shapeC m
    match t, h, hwf, hl with
    | .arr n u, h, hwf, hl => exact sp_arr m IH n u w h hwf hl
    | .fn ps r, h, hwf, hl => exact sp_fn m IH ps r w h hwf hl
    | .ptr u, h, hwf, hl => exact sp_oth m IH (.ptr u) w h hwf hl 112 rfl rfl rfl rfl
    | .str s, h, hwf, hl => exact sp_oth m IH (.str s) w h hwf hl 83 rfl rfl rfl rfl
    | .base c, h, hwf, hl =>
      have hc : baseC c = true := hwf
      unfold baseC at hc
      simp at hc
      rcases hc with ((((hc | hc) | hc) | hc) | hc) | hc
      · subst hc; exact sp_oth m IH (.base 118) w h hwf hl 118 rfl rfl rfl rfl
      · subst hc; exact sp_oth m IH (.base 99) w h hwf hl 99 rfl rfl rfl rfl
      · subst hc; exact sp_oth m IH (.base 115) w h hwf hl 115 rfl rfl rfl rfl
      · subst hc; exact sp_oth m IH (.base 105) w h hwf hl 105 rfl rfl rfl rfl
      · subst hc; exact sp_oth m IH (.base 117) w h hwf hl 117 rfl rfl rfl rfl
      · subst hc; exact sp_oth m IH (.base 106) w h hwf hl 106 rfl rfl rfl rfl
/-- Whether a type's parts are such as may be, as the document has it. -/
theorem c_shape (t : Ty) (w : World) (hwf : t.wf) (hl : t.code.length ≤ 65536) :
    Calls Tryz.prog 76 #[.string ⟨t.code.toArray⟩] w fun e w' => e = .returned (.bool (!anyT badT t)) ∧ Below w.heap.size w w' := c_shapeC t.size t w (Nat.le_refl _) hwf hl
end Go.Proofs.YtmaplgpicdomiaaGreatDoor
namespace Go.Proofs.YtmaplgpicdomiaaGreatDoor
set_option linter.unusedVariables false
set_option linter.unusedSimpArgs false
set_option maxRecDepth 100000
open Go.RowKit

def idxS (S : List StP) (n : List UInt8) : Option Nat := S.findIdx? fun s => s.name == n
def idxI (S : List StP) (n : List UInt8) : Int := match idxS S n with
  | some i => (i : Int)
  | none => -1
theorem idx_at {S : List StP} {n : List UInt8} {q : Nat} {s : StP} (hs : S[q]? = some s) (hn : (s.name == n) = true) (ha : ∀ (j : Nat) (y : StP), j < q → S[j]? = some y → (y.name == n) = false) : idxS S n = some q := by
  induction q generalizing S with
  | zero =>
    cases S with
    | nil => cases hs
    | cons y S =>
      cases hs
      unfold idxS
      rw [List.findIdx?_cons, hn]
      rfl
  | succ q ih =>
    cases S with
    | nil => cases hs
    | cons y S =>
      have h0 := ha 0 y (by omega) rfl
      have h1 := ih (S := S) hs (fun j z hj hz => ha (j + 1) z (by omega) hz)
      unfold idxS at h1 ⊢
      rw [List.findIdx?_cons, h0, h1]
      rfl
theorem idx_no {S : List StP} {n : List UInt8} (ha : ∀ (j : Nat) (y : StP), S[j]? = some y → (y.name == n) = false) : idxS S n = none := by
  unfold idxS
  rw [List.findIdx?_eq_none_iff]
  intro x hx
  obtain ⟨j, hj⟩ := List.getElem?_of_mem hx
  exact ha j x hj
set_option maxHeartbeats 4000000 in
theorem c_rnamed (S : List StP) (a : Option Addr) (c : Nat) (n : List UInt8) (hn : n.length ≤ 65536) (w : World) (hI : StIn S a w) (hl : S.length ≤ 4503599627370496) :
    Calls Tryz.prog 94 #[.string ⟨(Ty.str n).code.toArray⟩, .slice a S.length c] w fun e w' => e = .returned (.int .i64 (idxI S n)) ∧ ∃ m, w' = w.drewN m := by
  have hlen : (Ty.str n).code.length = n.length + 2 := by
    show (83 :: (n ++ [59])).length = _
    simp
  have hex : (⟨(Ty.str n).code.toArray⟩ : ByteArray).extract 1 (n.length + 1) = ⟨n.toArray⟩ := by
    rw [ext_sub]
    show (⟨((List.take (n.length + 1 - 1) (n ++ [59]))).toArray⟩ : ByteArray) = _
    rw [show n.length + 1 - 1 = n.length by omega, List.take_left]
  obtain ⟨l, hlc⟩ : ∃ l, (Ty.str n).code = l := ⟨_, rfl⟩
  rw [hlc] at hex hlen ⊢
  obtain ⟨M, hM⟩ : ∃ M, n.length + 1 = M := ⟨_, rfl⟩
  rw [hM] at hex
  have hwM : IntKind.i64.wrap ((l.length : Int) - 1) = ((M : Nat) : Int) := by rw [IntKind.wrap_i64]; omega
  have hm1 : (1 : Int) ≤ (M : Int) := by omega
  have hm1n : 1 ≤ M := by omega
  have hm2 : (M : Int) ≤ (l.length : Int) := by omega
  have hm2n : M ≤ l.length := by omega
  have HSt := Lib.hid hI
  have HL := Lib.hid hl
  obtain ⟨N, hN⟩ : ∃ N, S.length = N := ⟨_, rfl⟩
  have HN := Lib.hid hN
  obtain ⟨R, hR⟩ : ∃ R, idxI S n = R := ⟨_, rfl⟩
  have HR := Lib.hid hR
  rw [hN] at HL ⊢
  rw [hR]
  clear hI hl hN hR hlen hlc hM hn
  go_enter Tryz.func94, Tryz.ntmps94
  go_wp2_with fail
  go_loopg [5] N (fun g v5 wr => ∃ q : Nat, q + g = N ∧ v5 = .int .i64 (q : Int) ∧ Hid (∀ (j : Nat) (y : StP), j < q → S[j]? = some y → (y.name == n) = false) ∧ ∃ k, wr = w.drewN k)
  case atStart => exact ⟨0, by omega, rfl, fun j y hj => by omega, 0, by simp [World.drewN_zero]⟩
  case round =>
    obtain ⟨q, hq, rfl, HRl, kk, rfl⟩ := hrel
    by_cases hlt : q < N
    · have hd : decide ((q : Int) < (N : Int)) = true := by simp; omega
      obtain ⟨s, hs⟩ : ∃ s, S[q]? = some s := ⟨_, List.getElem?_eq_getElem (by have := HN.out; omega)⟩
      obtain ⟨gb, gof, hgab, hgb, hrow⟩ := HSt.out (by have := HN.out; omega)
      obtain ⟨ma, mc, g0, g1, hmm⟩ := hrow q s hs
      have HS1 := Lib.hid hs
      obtain ⟨sn, hsn⟩ : ∃ x, s.name = x := ⟨_, rfl⟩
      rw [hsn] at g0
      have HSn := Lib.hid hsn
      have hq0 : (0 : Int) ≤ (q : Int) := by omega
      have hql : (q : Int) < (N : Int) := by omega
      have hwm : IntKind.i64.wrap ((q : Int) + 1) = ((q + 1 : Nat) : Int) := by rw [IntKind.wrap_i64]; have := HL.out; omega
      have HM : Hid (N - (q + 1) < gk ∧ q + 1 + (N - (q + 1)) = N) := ⟨by omega, by omega⟩
      subst hgab
      clear hrow hs hmm hsn g1
      cases hne : (sn == n)
      · have HN5 : Hid (∀ (j : Nat) (y : StP), j < q + 1 → S[j]? = some y → (y.name == n) = false) := fun j y hj hy => by
          by_cases e : j = q
          · subst e
            rw [HS1.out] at hy
            cases hy
            rw [HSn.out]
            exact hne
          · exact HRl.out j y (by omega) hy
        go_wp2_with fail
        go_quiet (fail)
        go_wp2_with fail
        go_roundg (N - (q + 1))
        case measure => exact HM.out.1
        case rel => exact ⟨q + 1, HM.out.2, rfl, HN5, _, rfl⟩
      · have hRv : R = (q : Int) := by
          rw [← HR.out]
          unfold idxI
          rw [idx_at HS1.out (by rw [HSn.out]; exact hne) HRl.out]
        subst hRv
        go_wp2_with fail
        go_quiet (fail)
        go_wp2_with fail
        go_ret
        exact ⟨rfl, _, World.drewN_drewN ..⟩
    · have hd : decide ((q : Int) < (N : Int)) = false := by simp; omega
      have hRv : R = -1 := by
        rw [← HR.out]
        unfold idxI
        rw [idx_no fun j y hy => HRl.out j y (by have := (List.getElem?_eq_some_iff.1 hy).1; have := HN.out; omega) hy]
      subst hRv
      go_wp2_with fail
      go_ret
      exact ⟨rfl, _, rfl⟩
theorem c_rup (n a : Nat) (hn : n ≤ 4503599627370496) (ha : 1 ≤ a) (ha4 : a ≤ 4) (w : World) :
    Calls Tryz.prog 101 #[.int .i64 n, .int .i64 a] w fun e w' => e = .returned (.int .i64 (upN n a)) ∧ w' = w := by
  have h5 : (n + a - 1) / a * a ≤ n + a - 1 := Nat.div_mul_le_self _ _
  have h8 : (n + a - 1) / a ≤ n + a - 1 := Nat.div_le_self _ _
  have e1 : wrap64 (wrap64 ((n : Int) + (a : Int)) - 1) = ((n + a - 1 : Nat) : Int) := by unfold wrap64; omega
  have e2 : ((n + a - 1 : Nat) : Int).tdiv (a : Int) = (((n + a - 1) / a : Nat) : Int) := rfl
  have key : wrap64 (wrap64 ((wrap64 (wrap64 ((n : Int) + (a : Int)) - 1)).tdiv (a : Int)) * (a : Int)) = ((upN n a : Nat) : Int) := by
    rw [e1, e2]
    unfold upN
    obtain ⟨Q, hQ⟩ : ∃ Q, (n + a - 1) / a = Q := ⟨_, rfl⟩
    rw [hQ] at h5 h8 ⊢
    obtain ⟨P, hP⟩ : ∃ P, Q * a = P := ⟨_, rfl⟩
    have hPI : (Q : Int) * (a : Int) = (P : Int) := by rw [← hP]; simp
    rw [hP] at h5 ⊢
    have e3 : wrap64 (Q : Int) = (Q : Int) := by clear e1 e2; unfold wrap64; omega
    rw [e3, hPI]
    clear e1 e2
    unfold wrap64
    omega
  rw [← key]
  have h6 : ¬ (a : Int) = 0 := by omega
  have h7 : ((a : Int) == 0) = false := by simp; omega
  have h9 : ((a : Int) == -1) = false := by simp
  clear hn ha ha4 h5 h8 e1 e2 key
  go_enter Tryz.func101, Tryz.ntmps101
  go_wp2_with fail
  go_ret
  exact ⟨rfl, rfl⟩
def lackS (S : List StP) : Ty → Bool
  | .str s => (idxS S s).isNone
  | .arr _ u => lackS S u
  | _ => false
def GvC (S : List StP) (m : Nat) : Prop := ∀ (t : Ty) (a : Option Addr) (c : Nat) (w : World), t.size ≤ m → t.wf → t.code.length ≤ 65536 → StIn S a w →
  Calls Tryz.prog 77 #[.string ⟨t.code.toArray⟩, .slice a S.length c] w fun e w' => e = .returned (.bool (!lackS S t)) ∧ Below w.heap.size w w'
set_option maxHeartbeats 4000000 in
theorem gv_oth (S : List StP) (t : Ty) (a : Option Addr) (c : Nat) (w : World) (xI : Int) (hxI : (t.letter.toNat : Int) = xI) (h1 : (xI == 97) = false) (h2 : (xI == 83) = false) (hb : lackS S t = false) :
    Calls Tryz.prog 77 #[.string ⟨t.code.toArray⟩, .slice a S.length c] w fun e w' => e = .returned (.bool (!lackS S t)) ∧ Below w.heap.size w w' := by
  have HK := Lib.hid (c_rkind t)
  rw [hxI] at HK
  rw [hb]
  obtain ⟨l, hlc⟩ : ∃ l, t.code = l := ⟨_, rfl⟩
  rw [hlc] at HK ⊢
  clear hxI hb hlc
  go_enter Tryz.func77, Tryz.ntmps77
  go_wp2_with fail
  refine (HK.out _).mono ?_
  rintro e w2 ⟨rfl, rfl⟩
  go_wp2_with fail
  go_ret
  exact ⟨rfl, Below.refl _ _⟩
set_option maxHeartbeats 4000000 in
theorem gv_str (S : List StP) (hSl : S.length ≤ 4503599627370496) (s : List UInt8) (hwf : (Ty.str s).wf) (a : Option Addr) (c : Nat) (w : World) (hI : StIn S a w) :
    Calls Tryz.prog 77 #[.string ⟨(Ty.str s).code.toArray⟩, .slice a S.length c] w fun e w' => e = .returned (.bool (!lackS S (.str s))) ∧ Below w.heap.size w w' := by
  have HK := Lib.hid (c_rkind (.str s))
  have hk0 : (((Ty.str s).letter.toNat : Int)) = 83 := rfl
  rw [hk0] at HK
  have hs31 : s.length ≤ 31 := (name_all hwf).2.2.2
  have HNm := Lib.hid (c_rnamed S a c s (by omega) w hI hSl)
  have hv : (!lackS S (.str s)) = decide (0 ≤ idxI S s) := by
    show (!(idxS S s).isNone) = _
    unfold idxI
    cases idxS S s <;> simp
  rw [hv]
  obtain ⟨I, hIe⟩ : ∃ I, idxI S s = I := ⟨_, rfl⟩
  rw [hIe] at HNm ⊢
  obtain ⟨l, hlc⟩ : ∃ l, (Ty.str s).code = l := ⟨_, rfl⟩
  rw [hlc] at HK HNm ⊢
  clear hk0 hs31 hv hIe hlc hI hwf hSl
  go_enter Tryz.func77, Tryz.ntmps77
  go_wp2_with fail
  refine (HK.out _).mono ?_
  rintro e w2 ⟨rfl, rfl⟩
  go_wp2_with fail
  refine HNm.out.mono ?_
  rintro e w3 ⟨rfl, mm, rfl⟩
  go_wp2_with fail
  go_ret
  exact ⟨rfl, below_drewN (Below.refl _ _) mm⟩
set_option maxHeartbeats 4000000 in
theorem gv_arr (S : List StP) (m : Nat) (IH : GvC S m) (n : Nat) (u : Ty) (a : Option Addr) (c : Nat) (w : World) (hsz : (Ty.arr n u).size ≤ m + 1) (hwf : (Ty.arr n u).wf) (hl : (Ty.arr n u).code.length ≤ 65536) (hI : StIn S a w) :
    Calls Tryz.prog 77 #[.string ⟨(Ty.arr n u).code.toArray⟩, .slice a S.length c] w fun e w' => e = .returned (.bool (!lackS S (.arr n u))) ∧ Below w.heap.size w w' := by
  have HK := Lib.hid (c_rkind (.arr n u))
  have hk0 : (((Ty.arr n u).letter.toNat : Int)) = 97 := rfl
  rw [hk0] at HK
  have HIn := Lib.hid (c_rinner_arr n u w hwf.1 hl)
  have HI := Lib.hid (fun (w' : World) (hb : Below w.heap.size w w') => IH u a c w' (by have h : u.size + 1 ≤ m + 1 := hsz; omega) hwf.2 (by have := arr_len n u; omega) (hI.next hb))
  show Calls _ _ _ w fun e w' => e = .returned (.bool (!lackS S u)) ∧ Below w.heap.size w w'
  obtain ⟨R, hR⟩ : ∃ R, (!lackS S u) = R := ⟨_, rfl⟩
  rw [hR] at HI ⊢
  obtain ⟨l, hlc⟩ : ∃ l, (Ty.arr n u).code = l := ⟨_, rfl⟩
  rw [hlc] at HK HIn ⊢
  clear hk0 hsz hwf hl hI hR hlc IH
  go_enter Tryz.func77, Tryz.ntmps77
  go_wp2_with fail
  refine (HK.out _).mono ?_
  rintro e w2 ⟨rfl, rfl⟩
  go_wp2_with fail
  refine HIn.out.mono ?_
  rintro e w3 ⟨rfl, hb⟩
  have HB := Lib.hid hb
  clear hb
  go_wp2_with fail
  refine (HI.out _ HB.out).mono ?_
  rintro e w4 ⟨rfl, hb4⟩
  have HB4 := Lib.hid (below_on HB.out hb4 HB.out.size)
  clear hb4
  go_wp2_with fail
  go_ret
  exact ⟨rfl, HB4.out⟩
theorem c_given (S : List StP) (hSl : S.length ≤ 4503599627370496) : ∀ m, GvC S m
  | 0 => fun t a c w h => by
    exfalso
    have : 1 ≤ t.size := by cases t <;> (unfold Ty.size; omega)
    omega
  | m + 1 => fun t a c w h hwf hl hI => by
    have IH := c_given S hSl m
    match t, h, hwf, hl with
    | .arr n u, h, hwf, hl => exact gv_arr S m IH n u a c w h hwf hl hI
    | .fn ps r, h, hwf, hl => exact gv_oth S (.fn ps r) a c w 102 rfl rfl rfl rfl
    | .ptr u, h, hwf, hl => exact gv_oth S (.ptr u) a c w 112 rfl rfl rfl rfl
    | .str s, h, hwf, hl => exact gv_str S hSl s hwf a c w hI
    | .base x, h, hwf, hl =>
      have hc : baseC x = true := hwf
      unfold baseC at hc
      simp at hc
      rcases hc with ((((hc | hc) | hc) | hc) | hc) | hc
      · subst hc; exact gv_oth S (.base 118) a c w 118 rfl rfl rfl rfl
      · subst hc; exact gv_oth S (.base 99) a c w 99 rfl rfl rfl rfl
      · subst hc; exact gv_oth S (.base 115) a c w 115 rfl rfl rfl rfl
      · subst hc; exact gv_oth S (.base 105) a c w 105 rfl rfl rfl rfl
      · subst hc; exact gv_oth S (.base 117) a c w 117 rfl rfl rfl rfl
      · subst hc; exact gv_oth S (.base 106) a c w 106 rfl rfl rfl rfl
end Go.Proofs.YtmaplgpicdomiaaGreatDoor
namespace Go.Proofs.YtmaplgpicdomiaaGreatDoor
set_option linter.unusedVariables false
set_option linter.unusedSimpArgs false

/-- Structs and what is laid out of the first of them. -/
def MtL (L : List LayP) (S : List StP) : Prop := ∀ (i : Nat) (x : LayP), L[i]? = some x → ∃ s, S[i]? = some s ∧ nxE (L.take i) s = 0 ∧ x = nxL (L.take i) s
theorem nxL_name (L : List LayP) (s : StP) : (nxL L s).name = s.name := rfl
theorem mt_name {L : List LayP} {S : List StP} (h : MtL L S) {i : Nat} {x : LayP} (hx : L[i]? = some x) : ∃ s, S[i]? = some s ∧ s.name = x.name := by
  obtain ⟨s, h1, h2, h3⟩ := h i x hx
  exact ⟨s, h1, by rw [h3]; rfl⟩
theorem mt_take {L : List LayP} {S : List StP} (h : MtL L S) (k : Nat) : MtL (L.take k) S := fun i x hx => by
  have hik : i < k := by
    have := (List.getElem?_eq_some_iff.1 hx).1
    rw [List.length_take] at this
    omega
  rw [List.getElem?_take_of_lt hik] at hx
  obtain ⟨s, h1, h2, h3⟩ := h i x hx
  have e : (L.take k).take i = L.take i := by rw [List.take_take, Nat.min_eq_left (Nat.le_of_lt hik)]
  exact ⟨s, h1, by rw [e]; exact h2, by rw [e]; exact h3⟩
theorem find_idx {L : List LayP} {n : List UInt8} {x : LayP} (h : findL L n = some x) : ∃ i : Nat, L[i]? = some x ∧ x.name = n ∧ ∀ (j : Nat) (y : LayP), j < i → L[j]? = some y → (y.name == n) = false := by
  induction L with
  | nil => cases h
  | cons y L ih =>
    unfold findL at h
    rw [List.find?_cons] at h
    cases hy : (y.name == n) with
    | true =>
      rw [hy] at h
      cases h
      exact ⟨0, rfl, by simpa using hy, fun j z hj => by omega⟩
    | false =>
      rw [hy] at h
      obtain ⟨i, h1, h2, h3⟩ := ih h
      refine ⟨i + 1, h1, h2, fun j z hj hz => ?_⟩
      cases j with
      | zero => cases hz; exact hy
      | succ j => exact h3 j z (by omega) hz
/-- A struct that is laid out is found at the same place among those that came in. -/
theorem mt_find {L : List LayP} {S : List StP} (h : MtL L S) {n : List UInt8} {x : LayP} (hf : findL L n = some x) : ∃ (i : Nat) (s : StP), L[i]? = some x ∧ S[i]? = some s ∧ idxS S n = some i ∧ nxE (L.take i) s = 0 ∧ x = nxL (L.take i) s := by
  obtain ⟨i, h1, h2, h3⟩ := find_idx hf
  obtain ⟨s, g1, g2, g3⟩ := h i x h1
  refine ⟨i, s, h1, g1, ?_, g2, g3⟩
  refine idx_at g1 (by rw [← h2, g3]; simp [nxL, layM]) fun j y hj hy => ?_
  have hjL : j < L.length := Nat.lt_trans hj (List.getElem?_eq_some_iff.1 h1).1
  obtain ⟨s', e1, e2⟩ := mt_name h (List.getElem?_eq_getElem hjL)
  rw [hy] at e1
  cases e1
  rw [e2]
  exact h3 j _ hj (List.getElem?_eq_getElem hjL)
theorem mt_none {L : List LayP} {S : List StP} (h : MtL L S) (hl : L.length = S.length) {n : List UInt8} (hf : findL L n = none) : idxS S n = none := by
  refine idx_no fun j y hy => ?_
  have hj : j < L.length := by rw [hl]; exact (List.getElem?_eq_some_iff.1 hy).1
  obtain ⟨s', e1, e2⟩ := mt_name h (List.getElem?_eq_getElem hj)
  rw [hy] at e1
  cases e1
  rw [e2]
  unfold findL at hf
  have := List.find?_eq_none.1 hf _ (List.getElem_mem hj)
  simpa using this
theorem lack_tie {L : List LayP} {S : List StP} (h : MtL L S) (hl : L.length = S.length) : ∀ (t : Ty), lackS S t = lackT L t
  | .base _ => rfl
  | .ptr _ => rfl
  | .fn _ _ => rfl
  | .arr _ u => lack_tie h hl u
  | .str s => by
    show (idxS S s).isNone = (findL L s).isNone
    cases hf : findL L s with
    | none =>
      rw [mt_none h hl hf]
      rfl
    | some x =>
      obtain ⟨i, _, _, _, h1, _⟩ := mt_find h hf
      rw [h1]
      rfl
/-- More structs change nothing of what is given already. -/
theorem find_take {L : List LayP} {k : Nat} {n : List UInt8} {x : LayP} (h : findL (L.take k) n = some x) : findL L n = some x := by
  obtain ⟨i, h1, h2, h3⟩ := find_idx h
  have hik : i < k := by
    have := (List.getElem?_eq_some_iff.1 h1).1
    rw [List.length_take] at this
    omega
  rw [List.getElem?_take_of_lt hik] at h1
  exact find_at h1 h2 fun j y hj hy => h3 j y hj (by rw [List.getElem?_take_of_lt (by omega)]; exact hy)
theorem ext_take {L : List LayP} {k : Nat} : ∀ (t : Ty), lackT (L.take k) t = false → extT L t = extT (L.take k) t
  | .base _, _ => rfl
  | .ptr _, _ => rfl
  | .fn _ _, _ => rfl
  | .arr n u, h => by
    have := ext_take (k := k) (L := L) u h
    show (min ((extT L u).1 * n) 65537, _, _, _) = (min ((extT (L.take k) u).1 * n) 65537, _, _, _)
    rw [this]
  | .str s, h => by
    have h1 : (findL (L.take k) s).isNone = false := h
    cases hf : findL (L.take k) s with
    | none => rw [hf] at h1; cases h1
    | some x =>
      unfold extT
      rw [hf, find_take hf]
/-- The document's reckoning of a struct's bytes, a member more. -/
def rzM (L : List LayP) : Nat × Nat → List (List UInt8 × List UInt8) → Nat × Nat
  | p, [] => p
  | p, m :: ms => rzM L (min (upN p.1 (extT L (tkD m.2)).2.1 + (extT L (tkD m.2)).1) 65537, max p.2 (extT L (tkD m.2)).2.1) ms
theorem up_mono (a b n : Nat) (h : a ≤ b) : upN a n ≤ upN b n := by
  unfold upN
  exact Nat.mul_le_mul_right n (Nat.div_le_div_right (by omega))
theorem up_cap (b n e : Nat) (hn : 1 ≤ n) (h4 : n ≤ 4) : min (upN (min b 65537) n + e) 65537 = min (upN b n + e) 65537 := by
  by_cases h : b ≤ 65537
  · rw [Nat.min_eq_left h]
  · have h1 : min b 65537 = 65537 := by omega
    have h2 := (up_bd 65537 n hn h4).1
    have h3 := (up_bd b n hn h4).1
    rw [h1]
    omega
/-- It is the same, but that what is too great counts as one more than the greatest. -/
theorem rz_tie {L : List LayP} (hL : GdL L) : ∀ (ms : List (List UInt8 × List UInt8)) (x : AcP) (p : Nat × Nat), p = (min x.b 65537, max 1 x.a) → (goM L x ms).1 = 0 → rzM L p ms = (min (goM L x ms).2.b 65537, max 1 (goM L x ms).2.a)
  | [], x, p, hp, _ => hp
  | m :: ms, x, p, hp, h => by
    unfold goM at h ⊢
    split at h
    · rename_i h1
      rw [if_pos h1]
      obtain ⟨t, _, _, _, _, _, h2, h3, h4⟩ := mem_ok hL h1
      have hb := (ext_bd hL t).2.1
      unfold rzM
      refine rz_tie hL ms (addM L x m) _ ?_ h
      rw [hp, h4]
      have h5 := up_cap x.b (extT L t).2.1 (extT L t).1 h2 hb
      show (min (upN (min x.b 65537) (extT L t).2.1 + (extT L t).1) 65537, max (max 1 x.a) (extT L t).2.1) = (min (addM L x m).b 65537, max 1 (addM L x m).a)
      rw [h5]
      unfold addM
      rw [h4]
      show (_, _) = (min (upN x.b (extT L t).2.1 + (extT L t).1) 65537, max 1 (max x.a (extT L t).2.1))
      congr 1
      omega
    · exact absurd h (by assumption)
/-- Going on from what is reckoned of the first members. -/
theorem rz_bd {L : List LayP} (hL : GdL L) : ∀ (ms : List (List UInt8 × List UInt8)) (p : Nat × Nat), p.1 ≤ 65537 → p.2 ≤ 4 → (rzM L p ms).1 ≤ 65537 ∧ (rzM L p ms).2 ≤ 4
  | [], p, h1, h2 => ⟨h1, h2⟩
  | m :: ms, p, h1, h2 => by
    unfold rzM
    have := (ext_bd hL (tkD m.2)).2.1
    exact rz_bd hL ms _ (by show min _ 65537 ≤ 65537; omega) (by show max _ _ ≤ 4; omega)
theorem goM_mem {L : List LayP} (hL : GdL L) : ∀ (ms : List (List UInt8 × List UInt8)) (x : AcP), (goM L x ms).1 = 0 → ∀ m ∈ ms, ∃ t, tk m.2 = some t ∧ t.wf ∧ ojT L t = 0 ∧ tkD m.2 = t ∧ 1 ≤ (extT L t).2.1 ∧ (extT L t).1 ≤ 65536
  | [], x, _, m, hm => by cases hm
  | m0 :: ms, x, h, m, hm => by
    unfold goM at h
    split at h
    · rename_i h1
      rcases List.mem_cons.1 hm with rfl | hm
      · obtain ⟨t, g1, g2, _, _, g3, g4, g5, g6⟩ := mem_ok hL h1
        exact ⟨t, g1, g2, g3, g6, g4, g5⟩
      · exact goM_mem hL ms _ h m hm
    · exact absurd h (by assumption)
theorem gd_take {L : List LayP} (h : GdL L) (k : Nat) : GdL (L.take k) := fun x hx => h x (List.mem_of_mem_take hx)
end Go.Proofs.YtmaplgpicdomiaaGreatDoor
namespace Go.Proofs.YtmaplgpicdomiaaGreatDoor
set_option linter.unusedVariables false
set_option linter.unusedSimpArgs false
set_option maxRecDepth 100000
open Go.RowKit

theorem wrap_sum (x y : Nat) (h : x + y ≤ 1000000) : wrap64 ((x : Int) + (y : Int)) = ((x + y : Nat) : Int) := by
  unfold wrap64
  omega
theorem min_cast (x y : Nat) (h : min x 65537 = y) : min (x : Int) 65537 = (y : Int) := by omega
theorem max_cast (x y z : Nat) (h : max x y = z) : max (x : Int) (y : Int) = (z : Int) := by omega
theorem vsum_le (p v e : Nat) (h1 : p ≤ v ∧ v ≤ p + 3) (h2 : p ≤ 65537) (h3 : e ≤ 65536) : v + e ≤ 1000000 := by omega
theorem idx_wrap (q n : Nat) (h : q < n) (hn : n ≤ 4503599627370496) : IntKind.i64.wrap ((q : Int) + 1) = ((q + 1 : Nat) : Int) := by
  rw [IntKind.wrap_i64]
  omega
theorem cap12 (A1 A2 P2 E2 x : Nat) (h1 : min x 65537 = A1) (h2 : max P2 E2 = A2) (h3 : P2 ≤ 4 ∧ 1 ≤ P2) (h4 : E2 ≤ 4) : A1 ≤ 65537 ∧ A2 ≤ 4 ∧ 1 ≤ A2 := by omega
/-- What size answers of types of which nothing is lacking. -/
def RzT (L : List LayP) (S : List StP) (t : Ty) : Prop := ∀ (a : Option Addr) (c : Nat) (w : World), StIn S a w →
  Calls Tryz.prog 87 #[.string ⟨t.code.toArray⟩, .slice a S.length c] w fun e w' => e = .returned (.tuple #[.int .i64 (extT L t).1, .int .i64 (extT L t).2.1]) ∧ Below w.heap.size w w'
set_option maxHeartbeats 4000000 in
theorem sz_leaf (S : List StP) (t : Ty) (xI : Int) (hxI : (t.letter.toNat : Int) = xI) (b al : Int) (hx : (xI = 99 ∧ b = 1 ∧ al = 1) ∨ (xI = 115 ∧ b = 2 ∧ al = 2) ∨ (xI = 106 ∧ b = 64 ∧ al = 4) ∨ (xI = 105 ∧ b = 4 ∧ al = 4) ∨ (xI = 117 ∧ b = 4 ∧ al = 4) ∨ (xI = 112 ∧ b = 4 ∧ al = 4)) (a : Option Addr) (c : Nat) (w : World) :
    Calls Tryz.prog 87 #[.string ⟨t.code.toArray⟩, .slice a S.length c] w fun e w' => e = .returned (.tuple #[.int .i64 b, .int .i64 al]) ∧ Below w.heap.size w w' := by
  have HK := Lib.hid (c_rkind t)
  rw [hxI] at HK
  obtain ⟨l, hlc⟩ : ∃ l, t.code = l := ⟨_, rfl⟩
  rw [hlc] at HK ⊢
  clear hxI hlc
  rcases hx with ⟨rfl, rfl, rfl⟩ | ⟨rfl, rfl, rfl⟩ | ⟨rfl, rfl, rfl⟩ | ⟨rfl, rfl, rfl⟩ | ⟨rfl, rfl, rfl⟩ | ⟨rfl, rfl, rfl⟩
  all_goals
    go_enter Tryz.func87, Tryz.ntmps87
    go_wp2_with fail
    refine (HK.out _).mono ?_
    rintro e w2 ⟨rfl, rfl⟩
    go_wp2_with fail
    go_ret2
    exact ⟨rfl, Below.refl _ _⟩
set_option maxHeartbeats 4000000 in
theorem sz_arr (L : List LayP) (hL : GdL L) (S : List StP) (n : Nat) (u : Ty) (hwf : (Ty.arr n u).wf) (hl : (Ty.arr n u).code.length ≤ 65536) (IH : RzT L S u) : RzT L S (.arr n u) := fun a c w hI => by
  have HK := Lib.hid (c_rkind (.arr n u))
  have hk0 : (((Ty.arr n u).letter.toNat : Int)) = 97 := rfl
  rw [hk0] at HK
  have HIn := Lib.hid (c_rinner_arr n u w hwf.1 hl)
  have HI := Lib.hid (fun (w' : World) (hb : Below w.heap.size w w') => IH a c w' (hI.next hb))
  have hbd := ext_bd hL u
  have hn := hwf.1
  have he : extT L (.arr n u) = (min ((extT L u).1 * n) 65537, (extT L u).2.1, min ((extT L u).2.2.1 * n) 65537, (extT L u).2.2.2) := rfl
  rw [he]
  obtain ⟨⟨b, al, s, q⟩, hE⟩ : ∃ E, extT L u = E := ⟨_, rfl⟩
  rw [hE] at HI hbd ⊢
  have hw := wrap_mul b n hbd.1 hn
  have m1 : min ((b * n : Nat) : Int) 65537 = ((min (b * n) 65537 : Nat) : Int) := by omega
  show Calls _ _ _ w fun e w' => e = .returned (.tuple #[.int .i64 ((min (b * n) 65537 : Nat) : Int), .int .i64 al]) ∧ Below w.heap.size w w'
  rw [← m1, ← hw]
  obtain ⟨xb, hxb⟩ : ∃ x : Int, (b : Int) = x := ⟨_, rfl⟩
  obtain ⟨xa, hxa⟩ : ∃ x : Int, (al : Int) = x := ⟨_, rfl⟩
  obtain ⟨xn, hxn⟩ : ∃ x : Int, (n : Int) = x := ⟨_, rfl⟩
  have HI' : Hid (∀ w', Below w.heap.size w w' → Calls Tryz.prog 87 #[.string ⟨u.code.toArray⟩, .slice a S.length c] w' fun e w'' => e = .returned (.tuple #[.int .i64 xb, .int .i64 xa]) ∧ Below w'.heap.size w' w'') := fun w' hb => by
    have h := HI.out w' hb
    rw [← hxb, ← hxa]
    exact h
  rw [hxb, hxa, hxn]
  rw [hxn] at HIn
  obtain ⟨l, hlc⟩ : ∃ l, (Ty.arr n u).code = l := ⟨_, rfl⟩
  rw [hlc] at HK HIn ⊢
  clear hk0 hwf hl hI hlc IH hbd hn he hE hw m1 hxb hxa hxn HI hL
  go_enter Tryz.func87, Tryz.ntmps87
  go_wp2_with fail
  refine (HK.out _).mono ?_
  rintro e w2 ⟨rfl, rfl⟩
  go_wp2_with fail
  refine HIn.out.mono ?_
  rintro e w3 ⟨rfl, hb⟩
  have HB := Lib.hid hb
  clear hb
  go_wp2_with fail
  refine (HI'.out _ HB.out).mono ?_
  rintro e w4 ⟨rfl, hb4⟩
  have HB4 := Lib.hid (below_on HB.out hb4 HB.out.size)
  clear hb4
  go_wp2_with fail
  go_ret2
  exact ⟨rfl, HB4.out⟩
theorem rz_drop (L : List LayP) : ∀ (ms : List (List UInt8 × List UInt8)) (q : Nat) (m : List UInt8 × List UInt8) (p : Nat × Nat), ms[q]? = some m → rzM L p (ms.drop q) = rzM L (min (upN p.1 (extT L (tkD m.2)).2.1 + (extT L (tkD m.2)).1) 65537, max p.2 (extT L (tkD m.2)).2.1) (ms.drop (q + 1)) := fun ms q m p h => by
  rw [List.drop_eq_getElem_cons (List.getElem?_eq_some_iff.1 h).1, (List.getElem?_eq_some_iff.1 h).2]
  show rzM L p (m :: ms.drop (q + 1)) = _
  conv => lhs; unfold rzM
set_option maxHeartbeats 8000000 in
/-- A struct whose members are right. -/
theorem sz_str (L : List LayP) (hL : GdL L) (S : List StP) (hS : SzS S) (hSl : S.length ≤ 4503599627370496) (n : List UInt8) (hwf : (Ty.str n).wf) (i : Nat) (st : StP) (hi : S[i]? = some st) (hix : idxS S n = some i) (hgo : (goM L ac0 st.mems).1 = 0) (hne : st.mems ≠ [])
    (IH : ∀ t : Ty, t.wf → t.code.length ≤ 65536 → ojT L t = 0 → RzT L S t) (a : Option Addr) (c : Nat) (w : World) (hI : StIn S a w) :
    Calls Tryz.prog 87 #[.string ⟨(Ty.str n).code.toArray⟩, .slice a S.length c] w fun e w' => e = .returned (.tuple #[.int .i64 ((min (upN (goM L ac0 st.mems).2.b (goM L ac0 st.mems).2.a) 65537 : Nat) : Int), .int .i64 (goM L ac0 st.mems).2.a]) ∧ Below w.heap.size w w' := by
  have hs31 : n.length ≤ 31 := (name_all hwf).2.2.2
  have HK := Lib.hid (c_rkind (.str n))
  have hk0 : (((Ty.str n).letter.toNat : Int)) = 83 := rfl
  rw [hk0] at HK
  have hnm := c_rnamed S a c n (by omega) w hI hSl
  have hix2 : idxI S n = (i : Int) := by unfold idxI; rw [hix]
  rw [hix2] at hnm
  have HNm := Lib.hid hnm
  have HSt := Lib.hid (fun w' (hb : Below w.heap.size w w') => hI.next hb)
  have hiS : i < S.length := (List.getElem?_eq_some_iff.1 hi).1
  have HMs := Lib.hid (fun m hm => goM_mem hL st.mems ac0 hgo m hm)
  have HIH := Lib.hid (fun (t : Ty) (h1 : t.wf) (h2 : t.code.length ≤ 65536) (h3 : ojT L t = 0) (w' : World) (hb : Below w.heap.size w w') => IH t h1 h2 h3 a c w' (hI.next hb))
  have hacb := goM_b hL st.mems ac0 acb0
  have hlen := goM_all st.mems ac0 hgo
  have h00 : ac0.mems.length = 0 := rfl
  have hpos : 0 < st.mems.length := List.length_pos_iff.2 hne
  have ha1 := hacb.a1 (by omega)
  have ha4 := hacb.a
  have hrz : rzM L (0, 1) st.mems = (min (goM L ac0 st.mems).2.b 65537, (goM L ac0 st.mems).2.a) := by
    rw [rz_tie hL st.mems ac0 (0, 1) rfl hgo]
    congr 1
    omega
  obtain ⟨Rb, hRb⟩ : ∃ b, (goM L ac0 st.mems).2.b = b := ⟨_, rfl⟩
  obtain ⟨Ra, hRa⟩ : ∃ b, (goM L ac0 st.mems).2.a = b := ⟨_, rfl⟩
  rw [hRa] at ha1 ha4
  rw [hRb, hRa] at hrz ⊢
  have hcap := up_cap Rb Ra 0 ha1 ha4
  rw [Nat.add_zero, Nat.add_zero] at hcap
  have hup := Lib.hid (c_rup (min Rb 65537) Ra (by omega) ha1 ha4)
  rw [← hcap]
  obtain ⟨U, hU⟩ : ∃ U, upN (min Rb 65537) Ra = U := ⟨_, rfl⟩
  rw [hU] at hup ⊢
  have hmU : min (U : Int) 65537 = ((min U 65537 : Nat) : Int) := by omega
  rw [← hmU]
  have HRz := Lib.hid (And.intro hrz (And.intro ha1 ha4))
  have HSi := Lib.hid (And.intro hi (And.intro hL (hS st (List.mem_of_getElem? hi))))
  obtain ⟨N, hN⟩ : ∃ N, S.length = N := ⟨_, rfl⟩
  have HNl := Lib.hid hN
  rw [hN] at HNm HIH hiS ⊢
  obtain ⟨l, hlc⟩ : ∃ l, (Ty.str n).code = l := ⟨_, rfl⟩
  rw [hlc] at HK HNm ⊢
  have hi0 : (0 : Int) ≤ (i : Int) := by omega
  have hi1 : (i : Int) < (N : Int) := by omega
  clear hs31 hk0 hnm hix2 hacb hlen h00 hpos hRb hRa hcap hU hN hlc hI IH hi hix hgo hne hS hSl hwf hL hrz ha1 ha4 hmU
  go_enter Tryz.func87, Tryz.ntmps87
  go_wp2_with fail
  refine (HK.out _).mono ?_
  rintro e w2 ⟨rfl, rfl⟩
  go_wp2_with fail
  refine HNm.out.mono ?_
  rintro e w3 ⟨rfl, mm, hw3⟩
  have HB3 : Hid (Below w2.heap.size w2 w3) := by rw [hw3]; exact below_drewN (Below.refl w2.heap.size w2) mm
  clear hw3
  obtain ⟨gb, gof, hgab, hgb, hrow⟩ := HSt.out _ HB3.out (by have := HNl.out; omega)
  obtain ⟨ma, mc, g0, g1, hmm⟩ := hrow i st HSi.out.1
  obtain ⟨sn, hsn⟩ : ∃ x, st.name = x := ⟨_, rfl⟩
  obtain ⟨ML, hML⟩ : ∃ x, st.mems.length = x := ⟨_, rfl⟩
  rw [hsn] at g0
  rw [hML] at g1
  have HML := Lib.hid hML
  have HMm := Lib.hid (fun w' (hb : Below w3.heap.size w3 w') => hmm.next hb)
  subst hgab
  clear hrow hsn hML hmm
  go_wp2_with fail
  have HXb := Lib.hid (heap_alloc_new w3 (.cells #[.string ⟨sn.toArray⟩, .slice ma ML mc] 99))
  have HXa := Lib.hid (below_a w3 (.cells #[.string ⟨sn.toArray⟩, .slice ma ML mc] 99))
  have HXc := Lib.hid (HB3.out.alloc HB3.out.size (.cells #[.string ⟨sn.toArray⟩, .slice ma ML mc] 99))
  clear g0 g1
  go_loopg [10, 11, 13] ML (fun g v10 v11 v13 wr => ∃ (q P1 P2 : Nat), q + g = ML ∧ v13 = .int .i64 (q : Int) ∧ v10 = .int .i64 (P1 : Int) ∧ v11 = .int .i64 (P2 : Int) ∧ Hid (Below w2.heap.size w2 wr ∧ Below w3.heap.size w3 wr ∧ wr.heap[w3.heap.size]? = some (.cells #[.string ⟨sn.toArray⟩, .slice ma ML mc] 99) ∧ rzM L (0, 1) st.mems = rzM L (P1, P2) (st.mems.drop q) ∧ P1 ≤ 65537 ∧ P2 ≤ 4 ∧ 1 ≤ P2))
  case atStart => exact ⟨0, 0, 1, by omega, rfl, rfl, rfl, HXc.out, HXa.out, HXb.out, rfl, by omega, by omega, by omega⟩
  case round =>
    obtain ⟨q, P1, P2, hq, rfl, rfl, rfl, HR⟩ := hrel
    have hXl : w3.heap.size < wr.heap.size := (Array.getElem?_eq_some_iff.1 HR.out.2.2.1).1
    have x0 : wr.cell? ⟨w3.heap.size, 0, none⟩ = some (.string ⟨sn.toArray⟩) := by rw [Lib.cell_of_heap HR.out.2.2.1]; rfl
    have x1 : wr.cell? ⟨w3.heap.size, 1, none⟩ = some (.slice ma ML mc) := by rw [Lib.cell_of_heap HR.out.2.2.1]; rfl
    by_cases hlt : q < ML
    · have hd : decide ((q : Int) < (ML : Int)) = true := by simp; omega
      obtain ⟨m, hm⟩ : ∃ m, st.mems[q]? = some m := ⟨_, List.getElem?_eq_getElem (by have := HML.out; omega)⟩
      obtain ⟨gm, gmo, hma, hgm, hrow⟩ := HMm.out wr HR.out.2.1 (by have := HML.out; omega)
      obtain ⟨c0, c1⟩ := hrow q m hm
      obtain ⟨tt, htk, hwf, hoj, htd, hal, hsm⟩ := HMs.out m (List.mem_of_getElem? hm)
      obtain ⟨_, hcode, hlen⟩ := tk_some htk
      have hsz := HIH.out tt hwf (by rw [← hcode]; exact hlen) hoj wr HR.out.1
      rw [← hcode] at hsz
      have hbd := ext_bd HSi.out.2.1 tt
      have hdr := rz_drop L st.mems q m (P1, P2) hm
      rw [htd] at hdr
      obtain ⟨⟨E1, E2, E3, E4⟩, hE⟩ : ∃ E, extT L tt = E := ⟨_, rfl⟩
      rw [hE] at hsz hbd hal hsm hdr
      have hE1 : E1 ≤ 65536 := hsm
      have hE2 : 1 ≤ E2 := hal
      have hE4 : E2 ≤ 4 := hbd.2.1
      have hup2 := up_bd P1 E2 hE2 hE4
      have hP1 := HR.out.2.2.2.2.1
      have hru := c_rup P1 E2 (Nat.le_trans hP1 (by decide)) hE2 hE4
      have hdr2 : rzM L (0, 1) st.mems = rzM L (min (upN P1 E2 + E1) 65537, max P2 E2) (st.mems.drop (q + 1)) := HR.out.2.2.2.1.trans hdr
      obtain ⟨V, hV⟩ : ∃ V, upN P1 E2 = V := ⟨_, rfl⟩
      rw [hV] at hup2 hru hdr2
      have hw1 := wrap_sum V E1 (vsum_le P1 V E1 hup2 hP1 hE1)
      obtain ⟨A1, hA1⟩ : ∃ A, min (V + E1) 65537 = A := ⟨_, rfl⟩
      obtain ⟨A2, hA2⟩ : ∃ A, max P2 E2 = A := ⟨_, rfl⟩
      rw [hA1, hA2] at hdr2
      have hmn := min_cast (V + E1) A1 hA1
      have hmx := max_cast P2 E2 A2 hA2
      have hA12 := cap12 A1 A2 P2 E2 (V + E1) hA1 hA2 HR.out.2.2.2.2.2 hE4
      have HRu := Lib.hid hru
      have HSz := Lib.hid hsz
      have HD2 := Lib.hid (And.intro hdr2 hA12)
      obtain ⟨VE, hVE⟩ : ∃ x, V + E1 = x := ⟨_, rfl⟩
      rw [hVE] at hw1 hmn
      obtain ⟨m1, m2⟩ := m
      simp only at c0 c1
      have hq0 : (0 : Int) ≤ (q : Int) := by omega
      have hql : (q : Int) < (ML : Int) := by omega
      have hwm := idx_wrap q ML hlt (by rw [← HML.out]; exact HSi.out.2.2.2.2)
      have HM : Hid (ML - (q + 1) < gk ∧ q + 1 + (ML - (q + 1)) = ML) := ⟨by omega, by omega⟩
      subst hma
      clear hrow hm htk hwf hoj htd hal hsm hcode hlen hsz hbd hdr hE hE1 hE2 hE4 hup2 hP1 hru hdr2 hV hA1 hA2 hA12 hVE
      go_wp2_with fail
      refine HSz.out.mono ?_
      rintro e w5 ⟨rfl, hb5⟩
      have HB5 := Lib.hid (And.intro (below_on HR.out.1 hb5 HR.out.1.size) (And.intro (below_on HR.out.2.1 hb5 HR.out.2.1.size) (blk_next HR.out.2.2.1 hb5)))
      clear hb5 x0 x1 c0 c1 hXl
      go_wp2_with fail
      refine (HRu.out _).mono ?_
      rintro e w6 ⟨rfl, rfl⟩
      go_wp2_with fail
      go_roundg (ML - (q + 1))
      case measure => exact HM.out.1
      case rel => exact ⟨q + 1, A1, A2, HM.out.2, rfl, by first | rfl | rw [hw1, hmn], by first | rfl | rw [hmx], HB5.out.1, HB5.out.2.1, HB5.out.2.2, HD2.out.1, HD2.out.2.1, HD2.out.2.2.1, HD2.out.2.2.2⟩
    · have hd : decide ((q : Int) < (ML : Int)) = false := by simp; omega
      have hpe : P1 = min Rb 65537 ∧ P2 = Ra := by
        have h := HR.out.2.2.2.1
        rw [show q = st.mems.length by have := HML.out; omega, List.drop_length] at h
        have h2 : ((P1, P2) : Nat × Nat) = (min Rb 65537, Ra) := (show rzM L (P1, P2) [] = (P1, P2) from rfl).symm.trans (h.symm.trans HRz.out.1)
        exact ⟨(Prod.mk.inj h2).1, (Prod.mk.inj h2).2⟩
      obtain ⟨h1, h2⟩ := hpe
      rw [← h1, ← h2] at hup
      have HBl := Lib.hid HR.out.1
      have HH2 := Lib.hid h2
      clear h1 h2
      go_wp2_with fail
      refine (hup.out _).mono ?_
      rintro e w6 ⟨rfl, rfl⟩
      go_wp2_with fail
      go_ret2
      exact ⟨by rw [← HH2.out]; rfl, HBl.out⟩
end Go.Proofs.YtmaplgpicdomiaaGreatDoor
namespace Go.Proofs.YtmaplgpicdomiaaGreatDoor
set_option linter.unusedVariables false
set_option linter.unusedSimpArgs false
set_option maxRecDepth 100000
open Go.RowKit

theorem rz_str (L : List LayP) (hL : GdL L) (S : List StP) (hS : SzS S) (hSl : S.length ≤ 4503599627370496) (hm : MtL L S) (k : Nat) (IH : ∀ i, i < k → ∀ t : Ty, t.wf → t.code.length ≤ 65536 → lackT (L.take i) t = false → objI t.letter.toNat = true → anyT badT t = false → RzT L S t)
    (s : List UInt8) (hwf : (Ty.str s).wf) (hl : lackT (L.take k) (.str s) = false) : RzT L S (.str s) := fun a c w hI => by
  have h1 : (findL (L.take k) s).isNone = false := hl
  obtain ⟨x, hx⟩ : ∃ x, findL (L.take k) s = some x := by
    cases hf : findL (L.take k) s with
    | none => rw [hf] at h1; cases h1
    | some x => exact ⟨x, rfl⟩
  obtain ⟨i, st, g1, g2, g3, g4, g5⟩ := mt_find (mt_take hm k) hx
  have hik : i < k := by
    have := (List.getElem?_eq_some_iff.1 g1).1
    rw [List.length_take] at this
    omega
  have e : (L.take k).take i = L.take i := by rw [List.take_take, Nat.min_eq_left (Nat.le_of_lt hik)]
  rw [e] at g4 g5
  obtain ⟨_, _, _, n4, n5, n6⟩ := nx_ok g4
  have hz := sz_str (L.take i) (gd_take hL i) S hS hSl s hwf i st g2 g3 n5 n4 (fun t h1 h2 h3 => by
    obtain ⟨r1, r2⟩ := oj_obj h3
    obtain ⟨q1, q2, q3, q4⟩ := rg_ok r1
    have h := IH i hik t h1 h2 q3 r2 q2
    intro a c w hI
    rw [← ext_take (L := L) (k := i) t q3]
    exact h a c w hI) a c w hI
  have hE : extT L (.str s) = (x.bytes, x.align, x.scal, true) := by
    unfold extT
    rw [find_take hx]
  rw [hE]
  refine hz.mono fun e w' h => ⟨?_, h.2⟩
  rw [h.1, g5, Nat.min_eq_left (by omega)]
  rfl
theorem bad_arr {n : Nat} {u : Ty} (h : anyT badT (.arr n u) = false) : badT (.arr n u) = false ∧ anyT badT u = false ∧ objI u.letter.toNat = true := by
  rw [anyT_eq] at h
  have hb1 : badT (.arr n u) = false := by cases hb : badT (.arr n u); rfl; rw [hb] at h; cases h
  have hb2 : anyT badT u = false := by
    rw [hb1] at h
    have : (false || ([u] : List Ty).any (anyT badT)) = false := h
    simpa using this
  refine ⟨hb1, hb2, ?_⟩
  have : (!(decide (1 ≤ n) && decide (n ≤ 65536) && objI u.letter.toNat)) = false := hb1
  simp only [Bool.not_eq_false', Bool.and_eq_true] at this
  exact this.2
theorem rz_all (L : List LayP) (hL : GdL L) (S : List StP) (hS : SzS S) (hSl : S.length ≤ 4503599627370496) (hm : MtL L S) (k : Nat) (IH : ∀ i, i < k → ∀ t : Ty, t.wf → t.code.length ≤ 65536 → lackT (L.take i) t = false → objI t.letter.toNat = true → anyT badT t = false → RzT L S t) : ∀ t : Ty, t.wf → t.code.length ≤ 65536 → lackT (L.take k) t = false → objI t.letter.toNat = true → anyT badT t = false → RzT L S t
  | .str s, hwf, hl, hk, ho, hb => rz_str L hL S hS hSl hm k IH s hwf hk
  | .arr n u, hwf, hl, hk, ho, hb => by
    obtain ⟨_, b2, b3⟩ := bad_arr hb
    exact sz_arr L hL S n u hwf hl (rz_all L hL S hS hSl hm k IH u hwf.2 (by have := arr_len n u; omega) hk b3 b2)
  | .ptr u, hwf, hl, hk, ho, hb => fun a c w hI => sz_leaf S (.ptr u) 112 rfl 4 4 (by simp) a c w
  | .fn ps r, hwf, hl, hk, ho, hb => absurd ho (by show ¬ objI (102 : Int) = true; decide)
  | .base x, hwf, hl, hk, ho, hb => by
    have hc : baseC x = true := hwf
    unfold baseC at hc
    simp at hc
    intro a c w hI
    rcases hc with ((((hc | hc) | hc) | hc) | hc) | hc
    · subst hc; exact absurd ho (by show ¬ objI (118 : Int) = true; decide)
    · subst hc; exact sz_leaf S (.base 99) 99 rfl 1 1 (by simp) a c w
    · subst hc; exact sz_leaf S (.base 115) 115 rfl 2 2 (by simp) a c w
    · subst hc; exact sz_leaf S (.base 105) 105 rfl 4 4 (by simp) a c w
    · subst hc; exact sz_leaf S (.base 117) 117 rfl 4 4 (by simp) a c w
    · subst hc; exact sz_leaf S (.base 106) 106 rfl 64 4 (by simp) a c w
theorem c_rsizeK (L : List LayP) (hL : GdL L) (S : List StP) (hS : SzS S) (hSl : S.length ≤ 4503599627370496) (hm : MtL L S) (k : Nat) : ∀ t : Ty, t.wf → t.code.length ≤ 65536 → lackT (L.take k) t = false → objI t.letter.toNat = true → anyT badT t = false → RzT L S t := by
  induction k using Nat.strongRecOn with
  | ind k ih => exact rz_all L hL S hS hSl hm k ih
/-- What a type takes, as the document reckons it. -/
theorem c_rsize (L : List LayP) (hL : GdL L) (S : List StP) (hS : SzS S) (hSl : S.length ≤ 4503599627370496) (hm : MtL L S) (t : Ty) (hwf : t.wf) (hl : t.code.length ≤ 65536) (hk : lackT L t = false) (ho : objI t.letter.toNat = true) (hb : anyT badT t = false) : RzT L S t :=
  c_rsizeK L hL S hS hSl hm L.length t hwf hl (by rw [List.take_length]; exact hk) ho hb
end Go.Proofs.YtmaplgpicdomiaaGreatDoor
namespace Go.Proofs.YtmaplgpicdomiaaGreatDoor
set_option linter.unusedVariables false
set_option linter.unusedSimpArgs false
set_option maxRecDepth 100000
open Go.RowKit

theorem ext_flag (L : List LayP) : ∀ (t : Ty), t.wf → anyT badT t = false → (extT L t).2.2.2 = (objI t.letter.toNat && !lackT L t)
  | .base c, hw, hb => by
    have hc : baseC c = true := hw
    unfold baseC at hc
    simp at hc
    rcases hc with ((((hc | hc) | hc) | hc) | hc) | hc <;> (subst hc; rfl)
  | .ptr _, _, _ => rfl
  | .str s, _, _ => by
    show (extT L (.str s)).2.2.2 = !(findL L s).isNone
    unfold extT
    cases findL L s <;> rfl
  | .arr n u, hw, hb => by
    obtain ⟨_, b2, b3⟩ := bad_arr hb
    have := ext_flag L u hw.2 b2
    show (extT L u).2.2.2 = !lackT L u
    rw [this, b3]
    rfl
  | .fn _ _, _, _ => rfl
theorem bad_part {t u : Ty} (h : anyT badT t = false) (hu : u ∈ t.parts) : anyT badT u = false := by
  rw [anyT_eq] at h
  cases hb : anyT badT u with
  | false => rfl
  | true =>
    have : t.parts.any (anyT badT) = true := List.any_eq_true.2 ⟨u, hu, hb⟩
    rw [this, Bool.or_true] at h
    cases h
def GtC (L : List LayP) (S : List StP) (m : Nat) : Prop := ∀ (t : Ty) (a : Option Addr) (c : Nat) (w : World), t.size ≤ m → t.wf → t.code.length ≤ 65536 → anyT badT t = false → StIn S a w →
  Calls Tryz.prog 78 #[.string ⟨t.code.toArray⟩, .slice a S.length c] w fun e w' => e = .returned (.bool (anyT (grE L) t)) ∧ Below w.heap.size w w'
set_option maxHeartbeats 8000000 in
theorem gt_succ (L : List LayP) (hL : GdL L) (S : List StP) (hS : SzS S) (hSl : S.length ≤ 4503599627370496) (hm : MtL L S) (hLS : L.length = S.length) (m : Nat) (IH : GtC L S m) : GtC L S (m + 1) := fun t a c w hsz hwf hl hb hI => by
  have hR0 : anyT (grE L) t = (((objI t.letter.toNat && !lackT L t) && decide (65536 < (extT L t).1)) || t.parts.any (anyT (grE L))) := by
    rw [anyT_eq, ← ext_flag L t hwf hb]
    rfl
  have HO := Lib.hid (c_robject t)
  have HG := Lib.hid (fun (w' : World) (hb : Below w.heap.size w w') => c_given S hSl t.size t a c w' (Nat.le_refl _) hwf hl (hI.next hb))
  rw [lack_tie hm hLS t] at HG
  have HP := Lib.hid (fun w => c_rparts t hwf w hl)
  have HI := Lib.hid (fun (u : Ty) (hu : u ∈ t.parts) (w' : World) (hb' : Below w.heap.size w w') => IH u a c w' (by have := parts_sub t u hu; omega) (parts_wf t u hwf hu) (Nat.le_trans (len_code hu) hl) (bad_part hb hu) (hI.next hb'))
  have hn : t.parts.length ≤ 65536 := Nat.le_trans (parts_le t) (Nat.le_trans (size_code t) hl)
  have HSz := Lib.hid (fun (h1 : lackT L t = false) (h2 : objI t.letter.toNat = true) (w' : World) (hb' : Below w.heap.size w w') => c_rsize L hL S hS hSl hm t hwf hl h1 h2 hb a c w' (hI.next hb'))
  obtain ⟨R, hR⟩ : ∃ R, anyT (grE L) t = R := ⟨_, rfl⟩
  rw [hR]
  rw [hR] at hR0
  obtain ⟨qo, hqo⟩ : ∃ q, objI t.letter.toNat = q := ⟨_, rfl⟩
  obtain ⟨qk, hqk⟩ : ∃ q, lackT L t = q := ⟨_, rfl⟩
  obtain ⟨⟨E1, E2, E3, E4⟩, hE⟩ : ∃ E, extT L t = E := ⟨_, rfl⟩
  rw [hqo, hqk, hE] at hR0
  rw [hqo] at HO
  rw [hqk] at HG
  rw [hqo, hqk, hE] at HSz
  obtain ⟨N, hN⟩ : ∃ N, S.length = N := ⟨_, rfl⟩
  rw [hN] at HG HSz HI ⊢
  obtain ⟨l, hlc⟩ : ∃ l, t.code = l := ⟨_, rfl⟩
  obtain ⟨A, hA⟩ : ∃ A, t.parts = A := ⟨_, rfl⟩
  rw [hlc] at HO HG HP HSz ⊢
  rw [hA] at HI hn hR0
  have HA := Lib.hid hA
  have HN := Lib.hid hn
  have HR0 := Lib.hid hR0
  clear hR0 hR hqo hqk hE hN hlc hA hn IH hsz hwf hl hb hI hm hS hSl hL hLS
  cases qo
  · have HR : Hid (A.any (anyT (grE L)) = R) := by rw [HR0.out]; exact Lib.hid (by simp)
    go_enter Tryz.func78, Tryz.ntmps78
    go_wp2_with fail
    refine (HO.out _).mono ?_
    rintro e w3 ⟨rfl, rfl⟩
    have HBs := Lib.hid (Below.refl w3.heap.size w3)
    go_wp2_with fail
    refine (HP.out _).mono ?_
    rintro e w4 ⟨⟨a2, c2, rfl, hc, hst⟩, hb⟩
    rw [HA.out] at hc hst ⊢
    have HB := Lib.hid (below_on HBs.out hb HBs.out.size)
    have HSt := Lib.hid hst
    clear hb hst HP
    go_wp2_with fail
    go_outline
    go_loopg [8] A.length (fun g v9 wr => ∃ q : Nat, q + g = A.length ∧ v9 = .int .i64 (q : Int) ∧ Hid (Below w3.heap.size w3 wr ∧ StrIn wr a2 (A.map Ty.code) ∧ (A.take q).any (anyT (grE L)) = false))
    case atStart => exact ⟨0, by omega, rfl, HB.out, HSt.out, rfl⟩
    case round =>
      obtain ⟨q, hq, rfl, HRl⟩ := hrel
      by_cases hlt : q < A.length
      · have hd : decide ((q : Int) < (A.length : Int)) = true := by simp; omega
        obtain ⟨u, hu⟩ : ∃ u, A[q]? = some u := ⟨_, List.getElem?_eq_getElem hlt⟩
        obtain ⟨b1, o1, ha, hx1⟩ := HRl.out.2.1 (by simp; omega)
        have y1 := hx1 q u.code (by rw [List.getElem?_map, hu]; rfl)
        have HIu := Lib.hid (HI.out u (List.mem_of_getElem? hu) wr HRl.out.1)
        have HT := Lib.hid (any_take (f := anyT (grE L)) hu)
        obtain ⟨ud, hud⟩ : ∃ d, anyT (grE L) u = d := ⟨_, rfl⟩
        rw [hud] at HIu HT
        obtain ⟨c0, hc0⟩ : ∃ c0, u.code = c0 := ⟨_, rfl⟩
        rw [hc0] at HIu y1
        have hq0 : (0 : Int) ≤ (q : Int) := by omega
        have hql : (q : Int) < (A.length : Int) := by omega
        have hwm : IntKind.i64.wrap ((q : Int) + 1) = ((q + 1 : Nat) : Int) := by rw [IntKind.wrap_i64]; have := HN.out; omega
        have HM : Hid (A.length - (q + 1) < gk ∧ q + 1 + (A.length - (q + 1)) = A.length) := ⟨by omega, by omega⟩
        subst ha
        clear hx1 hu hud hc0
        go_wp2_with fail
        refine HIu.out.mono ?_
        rintro e w5 ⟨rfl, hb5⟩
        have HB5 := Lib.hid (below_on HRl.out.1 hb5 HRl.out.1.size)
        have HS5 := Lib.hid (HRl.out.2.1.next hb5)
        clear hb5 y1
        cases ud
        · have HN5 : Hid (Below w3.heap.size w3 w5 ∧ StrIn w5 (some ⟨b1, o1, none⟩) (A.map Ty.code) ∧ (A.take (q + 1)).any (anyT (grE L)) = false) := ⟨HB5.out, HS5.out, by rw [HT.out, HRl.out.2.2]; rfl⟩
          go_wp2_with fail
          go_roundg (A.length - (q + 1))
          case measure => exact HM.out.1
          case rel => exact ⟨q + 1, HM.out.2, rfl, HN5⟩
        · have hRv : R = true := by rw [← HR.out, any_of_take' HT.out]
          subst hRv
          go_wp2_with fail
          go_ret
          exact ⟨rfl, HB5.out⟩
      · have hd : decide ((q : Int) < (A.length : Int)) = false := by simp; omega
        have hRv : R = false := by
          have h := HRl.out.2.2
          rw [show q = A.length by omega, List.take_length] at h
          rw [← HR.out, h]
        subst hRv
        go_wp2_with fail
        go_ret
        exact ⟨rfl, HRl.out.1⟩
  · cases qk
    · go_enter Tryz.func78, Tryz.ntmps78
      go_wp2_with fail
      refine (HO.out _).mono ?_
      rintro e w3 ⟨rfl, rfl⟩
      have HBs := Lib.hid (Below.refl w3.heap.size w3)
      go_wp2_with fail
      refine (HG.out _ HBs.out).mono ?_
      rintro e w5 ⟨rfl, hb5⟩
      have HB5 := Lib.hid (below_on HBs.out hb5 HBs.out.size)
      clear hb5
      go_wp2_with fail
      refine (HSz.out (by trivial) (by trivial) _ HB5.out).mono ?_
      rintro e w6 ⟨rfl, hb6⟩
      have HB6 := Lib.hid (below_on HB5.out hb6 HB5.out.size)
      clear hb6
      by_cases hgr : 65536 < E1
      · have hd1 : decide ((65536 : Int) < (E1 : Int)) = true := by simp; omega
        have hRv : R = true := by rw [HR0.out, show decide (65536 < E1) = true by simp [hgr]]; rfl
        subst hRv
        go_wp2_with fail
        go_ret
        exact ⟨rfl, HB6.out⟩
      · have hd1 : decide ((65536 : Int) < (E1 : Int)) = false := by simp; omega
        have HR : Hid (A.any (anyT (grE L)) = R) := by
          rw [HR0.out, show decide (65536 < E1) = false by simp; omega]
          exact Lib.hid (by simp)
        clear hgr
        go_wp2_with fail
        refine (HP.out _).mono ?_
        rintro e w4 ⟨⟨a2, c2, rfl, hc, hst⟩, hb⟩
        rw [HA.out] at hc hst ⊢
        have HB := Lib.hid (below_on HB6.out hb HB6.out.size)
        have HSt := Lib.hid hst
        clear hb hst HP
        go_wp2_with fail
        go_outline
        go_loopg [8] A.length (fun g v9 wr => ∃ q : Nat, q + g = A.length ∧ v9 = .int .i64 (q : Int) ∧ Hid (Below w3.heap.size w3 wr ∧ StrIn wr a2 (A.map Ty.code) ∧ (A.take q).any (anyT (grE L)) = false))
        case atStart => exact ⟨0, by omega, rfl, HB.out, HSt.out, rfl⟩
        case round =>
          obtain ⟨q, hq, rfl, HRl⟩ := hrel
          by_cases hlt : q < A.length
          · have hd : decide ((q : Int) < (A.length : Int)) = true := by simp; omega
            obtain ⟨u, hu⟩ : ∃ u, A[q]? = some u := ⟨_, List.getElem?_eq_getElem hlt⟩
            obtain ⟨b1, o1, ha, hx1⟩ := HRl.out.2.1 (by simp; omega)
            have y1 := hx1 q u.code (by rw [List.getElem?_map, hu]; rfl)
            have HIu := Lib.hid (HI.out u (List.mem_of_getElem? hu) wr HRl.out.1)
            have HT := Lib.hid (any_take (f := anyT (grE L)) hu)
            obtain ⟨ud, hud⟩ : ∃ d, anyT (grE L) u = d := ⟨_, rfl⟩
            rw [hud] at HIu HT
            obtain ⟨c0, hc0⟩ : ∃ c0, u.code = c0 := ⟨_, rfl⟩
            rw [hc0] at HIu y1
            have hq0 : (0 : Int) ≤ (q : Int) := by omega
            have hql : (q : Int) < (A.length : Int) := by omega
            have hwm : IntKind.i64.wrap ((q : Int) + 1) = ((q + 1 : Nat) : Int) := by rw [IntKind.wrap_i64]; have := HN.out; omega
            have HM : Hid (A.length - (q + 1) < gk ∧ q + 1 + (A.length - (q + 1)) = A.length) := ⟨by omega, by omega⟩
            subst ha
            clear hx1 hu hud hc0
            go_wp2_with fail
            refine HIu.out.mono ?_
            rintro e w5 ⟨rfl, hb5⟩
            have HB5 := Lib.hid (below_on HRl.out.1 hb5 HRl.out.1.size)
            have HS5 := Lib.hid (HRl.out.2.1.next hb5)
            clear hb5 y1
            cases ud
            · have HN5 : Hid (Below w3.heap.size w3 w5 ∧ StrIn w5 (some ⟨b1, o1, none⟩) (A.map Ty.code) ∧ (A.take (q + 1)).any (anyT (grE L)) = false) := ⟨HB5.out, HS5.out, by rw [HT.out, HRl.out.2.2]; rfl⟩
              go_wp2_with fail
              go_roundg (A.length - (q + 1))
              case measure => exact HM.out.1
              case rel => exact ⟨q + 1, HM.out.2, rfl, HN5⟩
            · have hRv : R = true := by rw [← HR.out, any_of_take' HT.out]
              subst hRv
              go_wp2_with fail
              go_ret
              exact ⟨rfl, HB5.out⟩
          · have hd : decide ((q : Int) < (A.length : Int)) = false := by simp; omega
            have hRv : R = false := by
              have h := HRl.out.2.2
              rw [show q = A.length by omega, List.take_length] at h
              rw [← HR.out, h]
            subst hRv
            go_wp2_with fail
            go_ret
            exact ⟨rfl, HRl.out.1⟩
    · have HR : Hid (A.any (anyT (grE L)) = R) := by rw [HR0.out]; exact Lib.hid (by simp)
      go_enter Tryz.func78, Tryz.ntmps78
      go_wp2_with fail
      refine (HO.out _).mono ?_
      rintro e w3 ⟨rfl, rfl⟩
      have HBs := Lib.hid (Below.refl w3.heap.size w3)
      go_wp2_with fail
      refine (HG.out _ HBs.out).mono ?_
      rintro e w5 ⟨rfl, hb5⟩
      have HB5 := Lib.hid (below_on HBs.out hb5 HBs.out.size)
      clear hb5
      go_wp2_with fail
      refine (HP.out _).mono ?_
      rintro e w4 ⟨⟨a2, c2, rfl, hc, hst⟩, hb⟩
      rw [HA.out] at hc hst ⊢
      have HB := Lib.hid (below_on HB5.out hb HB5.out.size)
      have HSt := Lib.hid hst
      clear hb hst HP
      go_wp2_with fail
      go_outline
      go_loopg [8] A.length (fun g v9 wr => ∃ q : Nat, q + g = A.length ∧ v9 = .int .i64 (q : Int) ∧ Hid (Below w3.heap.size w3 wr ∧ StrIn wr a2 (A.map Ty.code) ∧ (A.take q).any (anyT (grE L)) = false))
      case atStart => exact ⟨0, by omega, rfl, HB.out, HSt.out, rfl⟩
      case round =>
        obtain ⟨q, hq, rfl, HRl⟩ := hrel
        by_cases hlt : q < A.length
        · have hd : decide ((q : Int) < (A.length : Int)) = true := by simp; omega
          obtain ⟨u, hu⟩ : ∃ u, A[q]? = some u := ⟨_, List.getElem?_eq_getElem hlt⟩
          obtain ⟨b1, o1, ha, hx1⟩ := HRl.out.2.1 (by simp; omega)
          have y1 := hx1 q u.code (by rw [List.getElem?_map, hu]; rfl)
          have HIu := Lib.hid (HI.out u (List.mem_of_getElem? hu) wr HRl.out.1)
          have HT := Lib.hid (any_take (f := anyT (grE L)) hu)
          obtain ⟨ud, hud⟩ : ∃ d, anyT (grE L) u = d := ⟨_, rfl⟩
          rw [hud] at HIu HT
          obtain ⟨c0, hc0⟩ : ∃ c0, u.code = c0 := ⟨_, rfl⟩
          rw [hc0] at HIu y1
          have hq0 : (0 : Int) ≤ (q : Int) := by omega
          have hql : (q : Int) < (A.length : Int) := by omega
          have hwm : IntKind.i64.wrap ((q : Int) + 1) = ((q + 1 : Nat) : Int) := by rw [IntKind.wrap_i64]; have := HN.out; omega
          have HM : Hid (A.length - (q + 1) < gk ∧ q + 1 + (A.length - (q + 1)) = A.length) := ⟨by omega, by omega⟩
          subst ha
          clear hx1 hu hud hc0
          go_wp2_with fail
          refine HIu.out.mono ?_
          rintro e w5 ⟨rfl, hb5⟩
          have HB5 := Lib.hid (below_on HRl.out.1 hb5 HRl.out.1.size)
          have HS5 := Lib.hid (HRl.out.2.1.next hb5)
          clear hb5 y1
          cases ud
          · have HN5 : Hid (Below w3.heap.size w3 w5 ∧ StrIn w5 (some ⟨b1, o1, none⟩) (A.map Ty.code) ∧ (A.take (q + 1)).any (anyT (grE L)) = false) := ⟨HB5.out, HS5.out, by rw [HT.out, HRl.out.2.2]; rfl⟩
            go_wp2_with fail
            go_roundg (A.length - (q + 1))
            case measure => exact HM.out.1
            case rel => exact ⟨q + 1, HM.out.2, rfl, HN5⟩
          · have hRv : R = true := by rw [← HR.out, any_of_take' HT.out]
            subst hRv
            go_wp2_with fail
            go_ret
            exact ⟨rfl, HB5.out⟩
        · have hd : decide ((q : Int) < (A.length : Int)) = false := by simp; omega
          have hRv : R = false := by
            have h := HRl.out.2.2
            rw [show q = A.length by omega, List.take_length] at h
            rw [← HR.out, h]
          subst hRv
          go_wp2_with fail
          go_ret
          exact ⟨rfl, HRl.out.1⟩
theorem c_greatC (L : List LayP) (hL : GdL L) (S : List StP) (hS : SzS S) (hSl : S.length ≤ 4503599627370496) (hm : MtL L S) (hLS : L.length = S.length) : ∀ m, GtC L S m
  | 0 => fun t a c w h => by
    exfalso
    have : 1 ≤ t.size := by cases t <;> (unfold Ty.size; omega)
    omega
  | m + 1 => gt_succ L hL S hS hSl hm hLS m (c_greatC L hL S hS hSl hm hLS m)
/-- What is too great, as the document has it. -/
theorem c_great (L : List LayP) (hL : GdL L) (S : List StP) (hS : SzS S) (hSl : S.length ≤ 4503599627370496) (hm : MtL L S) (hLS : L.length = S.length) (t : Ty) (a : Option Addr) (c : Nat) (w : World) (hwf : t.wf) (hl : t.code.length ≤ 65536) (hb : anyT badT t = false) (hI : StIn S a w) :
    Calls Tryz.prog 78 #[.string ⟨t.code.toArray⟩, .slice a S.length c] w fun e w' => e = .returned (.bool (anyT (grE L) t)) ∧ Below w.heap.size w w' :=
  c_greatC L hL S hS hSl hm hLS t.size t a c w (Nat.le_refl _) hwf hl hb hI
end Go.Proofs.YtmaplgpicdomiaaGreatDoor
namespace Go.Proofs.YtmaplgpicdomiaaGreatDoor
set_option linter.unusedVariables false
set_option linter.unusedSimpArgs false
set_option maxRecDepth 100000
open Go.RowKit

set_option maxHeartbeats 8000000 in
/-- The check of a type, as the document has it. -/
theorem c_rcheck (L : List LayP) (hL : GdL L) (S : List StP) (hS : SzS S) (hSl : S.length ≤ 4503599627370496) (hm : MtL L S) (hLS : L.length = S.length) (l : List UInt8) (hlm : l.length ≤ 9223372036854775807) (a : Option Addr) (c : Nat) (w : World) (hI : StIn S a w) :
    Calls Tryz.prog 68 #[.string ⟨l.toArray⟩, .slice a S.length c] w fun e w' => e = .returned (.int .i64 (rgA L l : Nat)) ∧ Below w.heap.size w w' := by
  have HF := Lib.hid (c_rForm l w hlm)
  rcases ho : tk l with _ | t
  · have HR0 : Hid (rgA L l = 2) := by show _ = _; unfold rgA; rw [ho]
    rw [ho] at HF
    obtain ⟨N, hN⟩ : ∃ N, S.length = N := ⟨_, rfl⟩
    rw [HR0.out, hN]
    clear ho hI hLS hm hS hL hSl hlm hN
    go_enter Tryz.func68, Tryz.ntmps68
    go_wp2_with fail
    refine HF.out.mono ?_
    rintro e w3 ⟨rfl, hb⟩
    have HB := Lib.hid hb
    clear hb HF
    go_wp2_with fail
    go_ret
    exact ⟨rfl, HB.out⟩
  · obtain ⟨hwf, hlc, hlen⟩ := tk_some ho
    have hcl : t.code.length ≤ 65536 := by rw [← hlc]; exact hlen
    have HR0 : Hid (rgA L l = if 48 < t.dep then 3 else if anyT badT t = true then 5 else if lackT L t = true then 4 else if anyT (grE L) t = true then 3 else 0) := by show _ = _; unfold rgA; rw [ho]; rfl
    have HD := Lib.hid (fun w' => c_deep 49 (by omega) t w' hwf hcl)
    have HP := Lib.hid (fun w' => c_shape t w' hwf hcl)
    have HG := Lib.hid (fun w' (hb : Below w.heap.size w w') => c_given S hSl t.size t a c w' (Nat.le_refl _) hwf hcl (hI.next hb))
    have HX := Lib.hid (fun (h : anyT badT t = false) w' (hb : Below w.heap.size w w') => c_great L hL S hS hSl hm hLS t a c w' hwf hcl h (hI.next hb))
    rw [ho] at HF
    rw [lack_tie hm hLS t] at HG
    rw [← hlc] at HD HP HG HX
    obtain ⟨N, hN⟩ : ∃ N, S.length = N := ⟨_, rfl⟩
    obtain ⟨D, hD⟩ : ∃ D, t.dep = D := ⟨_, rfl⟩
    obtain ⟨q1, hq1⟩ : ∃ q, anyT badT t = q := ⟨_, rfl⟩
    obtain ⟨q2, hq2⟩ : ∃ q, lackT L t = q := ⟨_, rfl⟩
    obtain ⟨q3, hq3⟩ : ∃ q, anyT (grE L) t = q := ⟨_, rfl⟩
    rw [hD, hq1, hq2, hq3] at HR0
    rw [hD] at HD
    rw [hq1] at HP
    rw [hq1, hq3] at HX
    rw [hq2] at HG
    rw [hN] at HG HX ⊢
    obtain ⟨R, hR⟩ : ∃ R, rgA L l = R := ⟨_, rfl⟩
    rw [hR] at HR0 ⊢
    clear ho hI hLS hm hS hL hSl hlm hN hD hq1 hq2 hq3 hwf hlc hlen hcl hR
    go_enter Tryz.func68, Tryz.ntmps68
    go_wp2_with fail
    refine HF.out.mono ?_
    rintro e w3 ⟨rfl, hb⟩
    have HB := Lib.hid hb
    clear hb HF
    go_wp2_with fail
    refine (HD.out _).mono ?_
    rintro e w4 ⟨rfl, hb⟩
    have HB4 := Lib.hid (below_on HB.out hb HB.out.size)
    clear hb HD HB
    have hde : decide ((48 : Int) < ((min D (49 + 1) : Nat) : Int)) = decide (48 < D) := decide_eq_decide.2 (by omega)
    cases hd : decide (48 < D)
    · rw [hd] at hde
      have h48 : ¬ 48 < D := by simpa using hd
      have HR1 : Hid (R = if q1 = true then 5 else if q2 = true then 4 else if q3 = true then 3 else 0) := HR0.out.trans (if_neg h48)
      clear h48 hd
      go_wp2_with fail
      refine (HP.out _).mono ?_
      rintro e w5 ⟨rfl, hb⟩
      have HB5 := Lib.hid (below_on HB4.out hb HB4.out.size)
      clear hb HP HB4
      cases q1
      · go_wp2_with fail
        refine (HG.out _ HB5.out).mono ?_
        rintro e w6 ⟨rfl, hb⟩
        have HB6 := Lib.hid (below_on HB5.out hb HB5.out.size)
        clear hb HG HB5
        cases q2
        · go_wp2_with fail
          refine (HX.out (by trivial) _ HB6.out).mono ?_
          rintro e w7 ⟨rfl, hb⟩
          have HB7 := Lib.hid (below_on HB6.out hb HB6.out.size)
          clear hb HX HB6
          cases q3
          · have hRv : R = 0 := HR1.out
            clear HR1 HR0
            subst hRv
            go_wp2_with fail
            go_ret
            exact ⟨rfl, HB7.out⟩
          · have hRv : R = 3 := HR1.out
            clear HR1 HR0
            subst hRv
            go_wp2_with fail
            go_ret
            exact ⟨rfl, HB7.out⟩
        · have hRv : R = 4 := HR1.out
          clear HR1 HR0
          subst hRv
          go_wp2_with fail
          go_ret
          exact ⟨rfl, HB6.out⟩
      · have hRv : R = 5 := HR1.out
        clear HR1 HR0
        subst hRv
        go_wp2_with fail
        go_ret
        exact ⟨rfl, HB5.out⟩
    · rw [hd] at hde
      have h48 : 48 < D := by simpa using hd
      have hRv : R = 3 := HR0.out.trans (if_pos h48)
      clear h48 hd HR0
      subst hRv
      go_wp2_with fail
      go_ret
      exact ⟨rfl, HB4.out⟩
end Go.Proofs.YtmaplgpicdomiaaGreatDoor
