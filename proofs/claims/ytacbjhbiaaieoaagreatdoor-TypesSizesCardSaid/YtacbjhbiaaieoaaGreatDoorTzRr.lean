/-
  The contracts of the document's own declaration of a pointer, an array, a function, in the code.
-/
import Derived.Test.YtacbjhbiaaieoaaGreatDoorTyRo
import Derived.Test.YtacbjhbiaaieoaaGreatDoorTySg
import Derived.Test.YtacbjhbiaaieoaaGreatDoorTyDc
namespace Go.Proofs.YtacbjhbiaaieoaaGreatDoor
set_option linter.unusedVariables false
set_option linter.unusedSimpArgs false
set_option maxRecDepth 100000
open Go.RowKit

def parsC : List Ty → List UInt8
  | [] => []
  | t :: ts => t.code ++ (Tys.of ts).code
theorem fn_parsC (ps : Tys) (r : Ty) : (Ty.fn ps r).code = 102 :: 40 :: (parsC ps.list ++ 41 :: r.code) := by
  cases ps with
  | nil => rfl
  | cons t ts =>
    show 102 :: 40 :: (t.code ++ (ts.code ++ 41 :: r.code)) = 102 :: 40 :: ((t.code ++ (Tys.of ts.list).code) ++ 41 :: r.code)
    rw [of_lst, List.append_assoc]
theorem rd_full (t : Ty) (y : List UInt8) (h : t.wf) : rd (t.code ++ y) = some (t, y) := by
  unfold rd
  exact one_full t _ y h (by have := size_code t; rw [List.length_append]; omega)
theorem of_code_cons (t : Ty) (ts : List Ty) : (Tys.of (t :: ts)).code = 44 :: parsC (t :: ts) := rfl
/-- While the parameters are read. -/
structure RsI (l : List UInt8) (A : List Ty) (r : Ty) (w : World) (q p : Nat) (v : Value) (wr : World) : Prop where
  rest : l.drop p = parsC (A.drop q) ++ 41 :: r.code
  pl : p < l.length
  ql : q ≤ A.length
  own : wr.ownsRow w.heap.size 22 1 v q (tyCs ((A.map Ty.code).take q))
  bel : Below w.heap.size w wr
theorem lt_of_drop {l : List UInt8} {p : Nat} {c : UInt8} {y : List UInt8} (h : l.drop p = c :: y) : p < l.length ∧ l[p]?.getD 0 = c ∧ l.drop (p + 1) = y := by
  have h1 : p < l.length := by
    apply Nat.lt_of_not_le
    intro h2
    rw [List.drop_of_length_le h2] at h
    cases h
  rw [drop_at h1] at h
  injection h with h3 h4
  exact ⟨h1, h3, h4⟩
set_option maxHeartbeats 8000000 in
theorem c_rsign (ps : Tys) (r : Ty) (hwf : (Ty.fn ps r).wf) (w : World) (hl : (Ty.fn ps r).code.length ≤ 65536) :
    Calls Tryz.prog 59 #[.string ⟨(Ty.fn ps r).code.toArray⟩] w fun e w' => (∃ a c, e = .returned (.tuple #[.string ⟨r.code.toArray⟩, .slice a ps.list.length c]) ∧ StrIn w' a (ps.list.map Ty.code)) ∧ Below w.heap.size w w' := by
  obtain ⟨l, hlc⟩ : ∃ l, (Ty.fn ps r).code = l := ⟨_, rfl⟩
  have hfc := fn_parsC ps r
  rw [hlc] at hl hfc ⊢
  obtain ⟨A, hA⟩ : ∃ A, ps.list = A := ⟨_, rfl⟩
  have hAw : ∀ u ∈ A, u.wf := fun u hu => lst_wf ps u hwf.1 (by rw [hA]; exact hu)
  rw [hA] at hfc ⊢
  have h2 : l.drop 2 = parsC A ++ 41 :: r.code := by rw [hfc]; rfl
  have h2l : 2 < l.length := by rw [hfc]; simp; omega
  have HI : Hid (RsI l A r w 0 2 (.slice (some ⟨w.heap.size, 0, none⟩) 0 0) (w.alloc (.cells #[] 22))) :=
    ⟨h2, h2l, Nat.zero_le _, ⟨rfl, .inr ⟨w.heap.size, 0, #[], rfl, Nat.le_refl _, heap_alloc_new w _, Nat.le_refl _, Nat.zero_le _, rfl, rfl⟩⟩, below_a _ _⟩
  have HW := Lib.hid (And.intro hl hAw)
  have hAl : A.length ≤ 65536 := by
    have h1 := parts_le (.fn ps r)
    have h3 := size_code (.fn ps r)
    have h4 : (ps.list ++ [r]).length ≤ (Ty.fn ps r).size := h1
    rw [hlc] at h3
    rw [hA] at h4
    simp at h4
    omega
  have HAl := Lib.hid hAl
  obtain ⟨i0, hi, hz0, hz1, hz2⟩ := info_parts infoType
  clear hwf hl hlc hfc hAw hA h2 h2l hAl
  go_enter Tryz.func59, Tryz.ntmps59
  go_wp2_with fail
  go_loopg [4, 5] (A.length + 1) (fun g v4 v5 wr => ∃ (q p : Nat) (ao : Option Addr) (co : Nat), A.length - q < g ∧ v5 = .int .i64 (p : Int) ∧ v4 = .slice ao q co ∧ Hid (RsI l A r w q p (.slice ao q co) wr))
  case atStart => exact ⟨0, 2, some ⟨w.heap.size, 0, none⟩, 0, by omega, rfl, rfl, HI.out⟩
  case round =>
    obtain ⟨q, p, ao, co, hg, rfl, rfl, HR⟩ := hrel
    have hp0 : (0 : Int) ≤ (p : Int) := by omega
    have hp1 : (p : Int) < (l.length : Int) := by have := HR.out.pl; omega
    by_cases hq : q = A.length
    · have hd : l.drop p = 41 :: r.code := by
        have h := HR.out.rest
        rw [hq, List.drop_length] at h
        exact h
      obtain ⟨_, hc, hdr⟩ := lt_of_drop hd
      have hby : ∀ h, (((ByteArray.mk l.toArray)[p]'h).toNat : Int) = 41 := fun h => (byte_at l p h).trans (by rw [hc]; rfl)
      have hex : (⟨l.toArray⟩ : ByteArray).extract (p + 1) l.length = ⟨r.code.toArray⟩ := by rw [ext_end, hdr]
      have hwp : IntKind.i64.wrap ((p : Int) + 1) = ((p + 1 : Nat) : Int) := by rw [IntKind.wrap_i64]; have := HW.out.1; omega
      have hp2 : (0 : Int) ≤ (p : Int) + 1 := by omega
      have hp3 : (p : Int) + 1 ≤ (l.length : Int) := by omega
      subst hq
      clear hd hc hdr hg
      go_wp2_with fail
      go_ret2
      refine ⟨⟨ao, co, rfl, ?_⟩, HR.out.bel⟩
      intro h0
      rw [List.length_map] at h0
      rcases HR.out.own.2 with ⟨_, hz⟩ | ⟨g9, cap9, cur9, hv9, hr9⟩
      · omega
      · cases hv9
        refine ⟨g9, 0, rfl, fun k s hs => ?_⟩
        have hx := HR.out.own.cells (g := g9) rfl k (.string ⟨s.toArray⟩) (by
          unfold tyCs
          rw [List.take_of_length_le (by simp), List.getElem?_map, hs]
          rfl)
        have ea : (⟨g9, 0, none⟩ : Addr).add k = ⟨g9, 0 + k, none⟩ := by unfold Addr.add; split <;> simp_all
        rw [ea] at hx
        exact hx
    · have hqA : q < A.length := by have := HR.out.ql; omega
      obtain ⟨u, hu⟩ : ∃ u, A[q]? = some u := ⟨_, List.getElem?_eq_getElem hqA⟩
      have hdq : A.drop q = u :: A.drop (q + 1) := by rw [List.drop_eq_getElem_cons hqA, (List.getElem?_eq_some_iff.1 hu).2]
      have huw := HW.out.2 u (List.mem_of_getElem? hu)
      obtain ⟨Y, hY⟩ : ∃ Y, (Tys.of (A.drop (q + 1))).code ++ 41 :: r.code = Y := ⟨_, rfl⟩
      have hrs : l.drop p = u.code ++ Y := by rw [HR.out.rest, hdq, ← hY]; show (u.code ++ _) ++ _ = _; rw [List.append_assoc]
      obtain ⟨c0, r0, hc0, hc41, _⟩ := code_head u huw
      obtain ⟨_, hcp, _⟩ := lt_of_drop (c := c0) (y := r0 ++ Y) (by rw [hrs, hc0]; rfl)
      obtain ⟨cI, hcI⟩ : ∃ cI : Int, ((l[p]?.getD 0).toNat : Int) = cI := ⟨_, rfl⟩
      have hby : ∀ h, (((ByteArray.mk l.toArray)[p]'h).toNat : Int) = cI := fun h => (byte_at l p h).trans hcI
      have hne : (cI != 41) = true := by
        rw [bne_iff_ne]
        intro e
        apply hc41
        rw [← hcp]
        apply UInt8.toNat_inj.1
        show _ = 41
        omega
      have hne2 : (cI == 41) = false := by simpa using hne
      have HN : Hid (Calls Tryz.prog 44 #[.string ⟨l.toArray⟩, .int .i64 (p : Int)] wr fun e w' => e = .returned (.tuple #[.int .i64 ((p + u.code.length : Nat) : Int), .bool true]) ∧ Below wr.heap.size wr w') := (c_rnext l.length l p wr (Nat.le_of_lt HR.out.pl) HW.out.1 (by omega)).mono fun e w' h => by
        obtain ⟨⟨j, qq, rfl, hq'⟩, hb⟩ := h
        have hrd : rd (l.drop p) = some (u, Y) := by rw [hrs]; exact rd_full u Y huw
        rcases hq' with ⟨t, y, h1, rfl, rfl⟩ | ⟨h1, _⟩
        · rw [hrd] at h1
          cases h1
          have hll := congrArg List.length hrs
          rw [List.length_drop, List.length_append] at hll
          have hpl := HR.out.pl
          have e : plc l Y = p + u.code.length := by unfold plc; omega
          exact ⟨by rw [e], hb⟩
        · rw [hrd] at h1; cases h1
      obtain ⟨P, hP⟩ : ∃ P, p + u.code.length = P := ⟨_, rfl⟩
      rw [hP] at HN
      have hPl : P ≤ l.length := by
        have hll := congrArg List.length hrs
        rw [List.length_drop, List.length_append] at hll
        have hpl := HR.out.pl
        omega
      have hex : (⟨l.toArray⟩ : ByteArray).extract p P = ⟨u.code.toArray⟩ := by rw [ext_sub, hrs, show P - p = u.code.length by omega, List.take_left]
      have hdP : l.drop P = Y := by
        have h := congrArg (List.drop u.code.length) hrs
        rw [List.drop_drop, List.drop_left, hP] at h
        exact h
      have hpP : (p : Int) ≤ (P : Int) := by omega
      have hpPn : p ≤ P := by omega
      have hP0 : (0 : Int) ≤ (P : Int) := by omega
      have hPl2 : (P : Int) ≤ (l.length : Int) := by omega
      have hT1 : tyCs ((A.map Ty.code).take (q + 1)) = tyCs ((A.map Ty.code).take q) ++ [.string ⟨u.code.toArray⟩] := by
        have hk : (A.map Ty.code)[q]? = some u.code := by rw [List.getElem?_map, hu]; rfl
        have hlk := (List.getElem?_eq_some_iff.1 hk).1
        rw [List.take_succ_eq_append_getElem hlk, (List.getElem?_eq_some_iff.1 hk).2]
        simp [tyCs]
      -- behind the type: the next one, or the end
      have hnx : ∃ c : Int, (∀ h, (((ByteArray.mk l.toArray)[P]'h).toNat : Int) = c) ∧ P < l.length ∧ ((c = 44 ∧ l.drop (P + 1) = parsC (A.drop (q + 1)) ++ 41 :: r.code ∧ P + 1 < l.length) ∨ (c = 41 ∧ l.drop P = parsC (A.drop (q + 1)) ++ 41 :: r.code)) := by
        cases hA1 : A.drop (q + 1) with
        | nil =>
          rw [hA1] at hY
          have h41 : l.drop P = 41 :: r.code := by rw [hdP, ← hY]; rfl
          obtain ⟨h1, h3, h4⟩ := lt_of_drop h41
          exact ⟨41, fun h => (byte_at l P h).trans (by rw [h3]; rfl), h1, .inr ⟨rfl, h41⟩⟩
        | cons t ts =>
          rw [hA1, of_code_cons] at hY
          have h44 : l.drop P = 44 :: (parsC (t :: ts) ++ 41 :: r.code) := by rw [hdP, ← hY]; rfl
          obtain ⟨h1, h3, h4⟩ := lt_of_drop h44
          refine ⟨44, fun h => (byte_at l P h).trans (by rw [h3]; rfl), h1, .inl ⟨rfl, h4, ?_⟩⟩
          have h5 := congrArg List.length h4
          rw [List.length_drop] at h5
          simp at h5
          omega
      obtain ⟨c3, hby3, hPlt, hcs⟩ := hnx
      have HCs := Lib.hid hcs
      have HT1 := Lib.hid hT1
      have HLt := Lib.hid (And.intro hqA hPlt)
      have hP1 : (P : Int) < (l.length : Int) := by omega
      have hwP : IntKind.i64.wrap ((P : Int) + 1) = ((P + 1 : Nat) : Int) := by rw [IntKind.wrap_i64]; have := HW.out.1; omega
      have hsz : w.heap.size ≤ wr.heap.size := HR.out.bel.size
      have hq65 : q ≤ 65536 := by have := HAl.out; omega
      have HG := Lib.hid hg
      clear hu hdq huw hY hrs hc0 hc41 hcp hcI hP hdP hT1 hcs hPlt hPl hq hqA hg
      go_wp2_with fail
      refine HN.out.mono ?_
      rintro e w4 ⟨rfl, hb⟩
      have HB4 := Lib.hid (below_on HR.out.bel hb hsz)
      have HO4 := Lib.hid (own_far HR.out.own (fun g hg _ => hb.block g (HR.out.own.lt g hg).2))
      have hs4 : w.heap.size ≤ w4.heap.size := HB4.out.size
      clear hb HN
      go_wp2_with (at_builtin; refine wpList_append_own _ rfl _ _ 44 rfl w.heap.size 22 i0 (.string ByteArray.empty) 1 16 Tryz.underlying44 hi hz0 hz1 hz2 rfl (by decide) (.slice ao q co) q (tyCs ((A.map Ty.code).take q)) rfl (HO4.out.alloc _) ⟨w4.heap.size, 0, none⟩ 1 1 [.string ⟨u.code.toArray⟩] rfl rfl ?cc1 ?cc2 ?cc3 ?cc4 ?cc5 ?_)
      case cc1 => exact World.news_of_block (heap_alloc_new w4 (.cells #[.string ⟨u.code.toArray⟩] 22))
      case cc2 =>
        intro x hx
        rw [List.mem_singleton] at hx
        subst hx
        rfl
      case cc3 => unfold maxLen; omega
      case cc4 => omega
      case cc5 => simp; omega
      intro v1 wd hown hgrow _
      obtain ⟨a9, c9, rfl, hc9⟩ := slc_of hown
      have HBd : Hid (Below w.heap.size w wd) := (HB4.out.alloc HB4.out.size _).grown hgrow (by simp; omega) (fun k hk => (HO4.out.lt k hk).1)
      have HOd : Hid (wd.ownsRow w.heap.size 22 1 (.slice a9 (q + 1) c9) (q + 1) (tyCs ((A.map Ty.code).take (q + 1)))) := by
        rw [HT1.out]
        exact hown
      clear hown hgrow
      rcases HCs.out with ⟨rfl, hr1, hr2⟩ | ⟨rfl, hr1⟩
      · have HNew : Hid (RsI l A r w (q + 1) (P + 1) (.slice a9 (q + 1) c9) wd) := ⟨hr1, hr2, HLt.out.1, HOd.out, HBd.out⟩
        clear hr1 hr2
        go_wp2_with fail
        go_roundg (A.length - q)
        case measure => exact HG.out
        case rel => exact ⟨q + 1, P + 1, a9, c9, by have := HLt.out.1; omega, rfl, rfl, HNew⟩
      · have HNew : Hid (RsI l A r w (q + 1) P (.slice a9 (q + 1) c9) wd) := ⟨hr1, HLt.out.2, HLt.out.1, HOd.out, HBd.out⟩
        clear hr1
        go_wp2_with fail
        go_roundg (A.length - q)
        case measure => exact HG.out
        case rel => exact ⟨q + 1, P, a9, c9, by have := HLt.out.1; omega, rfl, rfl, HNew⟩
end Go.Proofs.YtacbjhbiaaieoaaGreatDoor
namespace Go.Proofs.YtacbjhbiaaieoaaGreatDoor
set_option linter.unusedVariables false
set_option linter.unusedSimpArgs false
set_option maxRecDepth 100000
open Go.RowKit

theorem b_app' (x y : List UInt8) : (⟨x.toArray⟩ : ByteArray) ++ ⟨y.toArray⟩ = ⟨(x ++ y).toArray⟩ := by
  apply ByteArray.ext
  simp [ByteArray.data_append]
set_option maxHeartbeats 4000000 in
theorem c_rword_base (c : UInt8) (hc : baseC c = true) (w : World) :
    Calls Tryz.prog 94 #[.string ⟨(Ty.base c).code.toArray⟩] w fun e w' => e = .returned (.string ⟨(wordC c).toArray⟩) ∧ w' = w := by
  have HK := Lib.hid (c_rkind (.base c))
  obtain ⟨l, hl⟩ : ∃ l, (Ty.base c).code = l := ⟨_, rfl⟩
  rw [hl] at HK ⊢
  have hlt : ((Ty.base c).letter) = c := rfl
  rw [hlt] at HK
  clear hl hlt
  unfold baseC at hc
  simp at hc
  rcases hc with ((((hc | hc) | hc) | hc) | hc) | hc
  all_goals
    subst hc
    go_enter Tryz.func94, Tryz.ntmps94
    go_wp2_with fail
    refine (HK.out _).mono ?_
    rintro e w2 ⟨rfl, rfl⟩
    go_wp2_with fail
    go_ret
    exact ⟨rfl, rfl⟩
set_option maxHeartbeats 4000000 in
theorem c_rword_str (s : List UInt8) (hs : s.length ≤ 65536) (w : World) :
    Calls Tryz.prog 94 #[.string ⟨(Ty.str s).code.toArray⟩] w fun e w' => e = .returned (.string ⟨(bwT (.str s)).toArray⟩) ∧ w' = w := by
  have HK := Lib.hid (c_rkind (.str s))
  have hk0 : (((Ty.str s).letter.toNat : Int)) = 83 := rfl
  rw [hk0] at HK
  have hlen : (Ty.str s).code.length = s.length + 2 := by
    show (83 :: (s ++ [59])).length = _
    simp
  have hex : (⟨(Ty.str s).code.toArray⟩ : ByteArray).extract 1 (s.length + 1) = ⟨s.toArray⟩ := by
    rw [ext_sub]
    show (⟨((List.take (s.length + 1 - 1) (s ++ [59]))).toArray⟩ : ByteArray) = _
    rw [show s.length + 1 - 1 = s.length by omega, List.take_left]
  have hres : (bwT (.str s)) = [115, 116, 114, 117, 99, 116, 32] ++ s := by
    show [115, 116, 114, 117, 99, 116] ++ 32 :: s = _
    simp
  obtain ⟨l, hl⟩ : ∃ l, (Ty.str s).code = l := ⟨_, rfl⟩
  rw [hl] at HK hex hlen ⊢
  rw [hres]
  obtain ⟨m, hm⟩ : ∃ m, s.length + 1 = m := ⟨_, rfl⟩
  rw [hm] at hex
  have hwm : IntKind.i64.wrap ((l.length : Int) - 1) = ((m : Nat) : Int) := by rw [IntKind.wrap_i64]; omega
  have hm1 : (1 : Int) ≤ (m : Int) := by omega
  have hm1n : 1 ≤ m := by omega
  have hm2 : (m : Int) ≤ (l.length : Int) := by omega
  have hm2n : m ≤ l.length := by omega
  have ap := b_app' [115, 116, 114, 117, 99, 116, 32] s
  have hsum : ¬ 9223372036854775807 < 7 + s.length := by omega
  have hadd := add_s [115, 116, 114, 117, 99, 116, 32] s (by simp; omega)
  clear hl hlen hk0 hres hm hs
  go_enter Tryz.func94, Tryz.ntmps94
  go_wp2_with fail
  refine (HK.out _).mono ?_
  rintro e w2 ⟨rfl, rfl⟩
  go_wp2_with fail
  go_ret
  exact ⟨rfl, rfl⟩
/-- The document's own declaration: of types up to a size. -/
def WtC (m : Nat) : Prop := ∀ (t : Ty) (x : List UInt8) (w : World), t.size ≤ m → t.wf → t.code.length ≤ 65536 → x.length + 20 * t.code.length ≤ 4000000 →
  Calls Tryz.prog 68 #[.string ⟨t.code.toArray⟩, .string ⟨x.toArray⟩] w fun e w' => e = .returned (.string ⟨(dcl t x).toArray⟩) ∧ Below w.heap.size w w'
set_option maxHeartbeats 4000000 in
theorem wt_leaf (t : Ty) (xI : Int) (hxI : (t.letter.toNat : Int) = xI) (W : List UInt8) (hW : W.length ≤ 65536) (x : List UInt8) (hx : x.length ≤ 4000000) (h1 : (xI == 112) = false) (h2 : (xI == 97) = false) (h3 : (xI == 102) = false)
    (HWd : ∀ w, Calls Tryz.prog 94 #[.string ⟨t.code.toArray⟩] w fun e w' => e = .returned (.string ⟨W.toArray⟩) ∧ w' = w) (w : World) :
    Calls Tryz.prog 68 #[.string ⟨t.code.toArray⟩, .string ⟨x.toArray⟩] w fun e w' => e = .returned (.string ⟨(W ++ tailD x).toArray⟩) ∧ Below w.heap.size w w' := by
  have HK := Lib.hid (c_rkind t)
  have HWd' := Lib.hid HWd
  obtain ⟨l, hl⟩ : ∃ l, t.code = l := ⟨_, rfl⟩
  rw [hl] at HK HWd' ⊢
  rw [hxI] at HK
  clear hl hxI HWd
  by_cases hxe : x = []
  · subst hxe
    have ht : W ++ tailD [] = W := by simp [tailD]
    rw [ht]
    clear ht
    go_enter Tryz.func68, Tryz.ntmps68
    go_wp2_with fail
    refine (HK.out _).mono ?_
    rintro e w2 ⟨rfl, rfl⟩
    go_wp2_with fail
    refine (HWd'.out _).mono ?_
    rintro e w3 ⟨rfl, rfl⟩
    go_wp2_with fail
    go_ret
    exact ⟨rfl, Below.refl _ _⟩
  · have ht : W ++ tailD x = W ++ 32 :: x := by unfold tailD; rw [if_neg hxe]
    rw [ht]
    have hxb : (x == []) = false := by simp [hxe]
    have ap1 := b_app' W [32]
    have ap2 := b_app' (W ++ [32]) x
    have hs1 : ¬ 9223372036854775807 < W.length + 1 := by omega
    have hs2 : ¬ 9223372036854775807 < W.length + 1 + x.length := by omega
    have ha1 := add_s W [32] (by simp; omega)
    have ha2 := add_s (W ++ [32]) x (by simp; omega)
    clear ht hxe hx hW
    go_enter Tryz.func68, Tryz.ntmps68
    go_wp2_with fail
    refine (HK.out _).mono ?_
    rintro e w2 ⟨rfl, rfl⟩
    go_wp2_with fail
    refine (HWd'.out _).mono ?_
    rintro e w3 ⟨rfl, rfl⟩
    go_wp2_with fail
    go_ret
    exact ⟨rfl, Below.refl _ _⟩
end Go.Proofs.YtacbjhbiaaieoaaGreatDoor
namespace Go.Proofs.YtacbjhbiaaieoaaGreatDoor
set_option linter.unusedVariables false
set_option linter.unusedSimpArgs false
set_option maxRecDepth 100000
open Go.RowKit

theorem tight_let (u : Ty) (h : u.wf) : u.tight = (((u.letter.toNat : Int) == 97) || ((u.letter.toNat : Int) == 102)) := by
  cases u with
  | base c =>
    have hc : baseC c = true := h
    unfold baseC at hc
    simp at hc
    rcases hc with ((((hc | hc) | hc) | hc) | hc) | hc <;> (subst hc; rfl)
  | ptr t => rfl
  | arr n t => rfl
  | str s => rfl
  | fn ps r => rfl
set_option maxHeartbeats 4000000 in
theorem wt_ptr (m : Nat) (IH : WtC m) (u : Ty) (x : List UInt8) (w : World) (hm : u.size ≤ m) (hwf : u.wf) (hl : (Ty.ptr u).code.length ≤ 65536) (hx : x.length + 20 * (Ty.ptr u).code.length ≤ 4000000) :
    Calls Tryz.prog 68 #[.string ⟨(Ty.ptr u).code.toArray⟩, .string ⟨x.toArray⟩] w fun e w' => e = .returned (.string ⟨(dcl (.ptr u) x).toArray⟩) ∧ Below w.heap.size w w' := by
  have hlen : (Ty.ptr u).code.length = u.code.length + 1 := by show (112 :: u.code).length = _; simp
  have HK := Lib.hid (c_rkind (.ptr u))
  have hk0 : (((Ty.ptr u).letter.toNat : Int)) = 112 := rfl
  rw [hk0] at HK
  have HKu := Lib.hid (c_rkind u)
  have HIn := Lib.hid (c_rinner_ptr u w hl)
  have HIH := Lib.hid (fun (y : List UInt8) (w' : World) (hy : y.length ≤ x.length + 3) => IH u y w' hm hwf (by omega) (by omega))
  have HD : Hid (dcl (.ptr u) x = dcl u (app (if u.tight then .b else .p) x)) := rfl
  have htl := tight_let u hwf
  obtain ⟨yI, hyI⟩ : ∃ yI : Int, (u.letter.toNat : Int) = yI := ⟨_, rfl⟩
  rw [hyI] at HKu htl
  obtain ⟨l, hlc⟩ : ∃ l, (Ty.ptr u).code = l := ⟨_, rfl⟩
  obtain ⟨lu, hlu⟩ : ∃ l, u.code = l := ⟨_, rfl⟩
  rw [hlc] at HK HIn ⊢
  rw [hlu] at HKu HIn HIH
  have hxl : x.length ≤ 4000000 := by omega
  clear hlen hm hwf hl hx hlc hlu hk0 hyI
  cases h1 : (yI == 97)
  · cases h2 : (yI == 102)
    · -- a star alone
      rw [h1, h2] at htl
      rw [HD.out, show u.tight = false from htl]
      have ap1 := b_app' [42] x
      have ha1 := add_s [42] x (by simp; omega)
      have hs1 : ¬ 9223372036854775807 < 1 + x.length := by omega
      have HI := Lib.hid (fun w' => HIH.out (42 :: x) w' (by simp))
      clear htl HIH
      show Calls _ _ _ w fun e w' => e = .returned (.string ⟨(dcl u (42 :: x)).toArray⟩) ∧ Below w.heap.size w w'
      go_enter Tryz.func68, Tryz.ntmps68
      go_wp2_with fail
      refine (HK.out _).mono ?_
      rintro e w2 ⟨rfl, rfl⟩
      go_wp2_with fail
      refine HIn.out.mono ?_
      rintro e w3 ⟨rfl, hb⟩
      have HB := Lib.hid hb
      clear hb
      go_wp2_with fail
      refine (HKu.out _).mono ?_
      rintro e w4 ⟨rfl, rfl⟩
      go_wp2_with fail
      refine (HKu.out _).mono ?_
      rintro e w5 ⟨rfl, rfl⟩
      go_wp2_with fail
      refine (HI.out _).mono ?_
      rintro e w6 ⟨rfl, hb6⟩
      have HB6 := Lib.hid (below_on HB.out hb6 HB.out.size)
      clear hb6
      go_wp2_with fail
      go_ret
      exact ⟨rfl, HB6.out⟩
    · rw [h1, h2] at htl
      rw [HD.out, show u.tight = true from htl]
      have ap1 := b_app' [42] x
      have ap2 := b_app' [40] ([42] ++ x)
      have ap3 := b_app' ([40] ++ ([42] ++ x)) [41]
      have ha1 := add_s [42] x (by simp; omega)
      have ha2 := add_s [40] ([42] ++ x) (by simp; omega)
      have ha3 := add_s ([40] ++ ([42] ++ x)) [41] (by simp; omega)
      have HI := Lib.hid (fun w' => HIH.out (40 :: 42 :: (x ++ [41])) w' (by simp))
      clear htl HIH
      show Calls _ _ _ w fun e w' => e = .returned (.string ⟨(dcl u (40 :: 42 :: (x ++ [41]))).toArray⟩) ∧ Below w.heap.size w w'
      go_enter Tryz.func68, Tryz.ntmps68
      go_wp2_with fail
      refine (HK.out _).mono ?_
      rintro e w2 ⟨rfl, rfl⟩
      go_wp2_with fail
      refine HIn.out.mono ?_
      rintro e w3 ⟨rfl, hb⟩
      have HB := Lib.hid hb
      clear hb
      go_wp2_with fail
      refine (HKu.out _).mono ?_
      rintro e w4 ⟨rfl, rfl⟩
      go_wp2_with fail
      refine (HKu.out _).mono ?_
      rintro e w5 ⟨rfl, rfl⟩
      go_wp2_with fail
      refine (HI.out _).mono ?_
      rintro e w6 ⟨rfl, hb6⟩
      have HB6 := Lib.hid (below_on HB.out hb6 HB.out.size)
      clear hb6
      go_wp2_with fail
      go_ret
      exact ⟨rfl, HB6.out⟩
  · rw [h1] at htl
    rw [HD.out, show u.tight = true from htl]
    have ap1 := b_app' [42] x
    have ap2 := b_app' [40] ([42] ++ x)
    have ap3 := b_app' ([40] ++ ([42] ++ x)) [41]
    have ha1 := add_s [42] x (by simp; omega)
    have ha2 := add_s [40] ([42] ++ x) (by simp; omega)
    have ha3 := add_s ([40] ++ ([42] ++ x)) [41] (by simp; omega)
    have HI := Lib.hid (fun w' => HIH.out (40 :: 42 :: (x ++ [41])) w' (by simp))
    clear htl HIH
    show Calls _ _ _ w fun e w' => e = .returned (.string ⟨(dcl u (40 :: 42 :: (x ++ [41]))).toArray⟩) ∧ Below w.heap.size w w'
    go_enter Tryz.func68, Tryz.ntmps68
    go_wp2_with fail
    refine (HK.out _).mono ?_
    rintro e w2 ⟨rfl, rfl⟩
    go_wp2_with fail
    refine HIn.out.mono ?_
    rintro e w3 ⟨rfl, hb⟩
    have HB := Lib.hid hb
    clear hb
    go_wp2_with fail
    refine (HKu.out _).mono ?_
    rintro e w4 ⟨rfl, rfl⟩
    go_wp2_with fail
    refine (HI.out _).mono ?_
    rintro e w6 ⟨rfl, hb6⟩
    have HB6 := Lib.hid (below_on HB.out hb6 HB.out.size)
    clear hb6
    go_wp2_with fail
    go_ret
    exact ⟨rfl, HB6.out⟩
set_option maxHeartbeats 4000000 in
theorem wt_arr (m : Nat) (IH : WtC m) (n : Nat) (u : Ty) (x : List UInt8) (w : World) (hm : u.size ≤ m) (hn : n ≤ 1099511627776) (hwf : u.wf) (hl : (Ty.arr n u).code.length ≤ 65536) (hx : x.length + 20 * (Ty.arr n u).code.length ≤ 4000000) :
    Calls Tryz.prog 68 #[.string ⟨(Ty.arr n u).code.toArray⟩, .string ⟨x.toArray⟩] w fun e w' => e = .returned (.string ⟨(dcl (.arr n u) x).toArray⟩) ∧ Below w.heap.size w w' := by
  have hcode : (Ty.arr n u).code = 97 :: (Lib.decDigits n ++ 58 :: u.code) := rfl
  have hlen : (Ty.arr n u).code.length = 1 + (Lib.decDigits n).length + 1 + u.code.length := by
    rw [hcode]
    simp only [List.length_cons, List.length_append]
    omega
  have hd1 : (Ty.arr n u).code.drop 1 = Lib.decDigits n ++ 58 :: u.code := rfl
  have htw : twD (Ty.arr n u).code 1 = (Lib.decDigits n).length := by
    unfold twD
    rw [hd1, tw_dec]
  obtain ⟨D, hD⟩ : ∃ D, 1 + (Lib.decDigits n).length = D := ⟨_, rfl⟩
  have HDg := Lib.hid (fun w => c_rdigits (Ty.arr n u).code 1 w (by omega) hl)
  rw [htw, hD] at HDg
  have hex1 : (⟨(Ty.arr n u).code.toArray⟩ : ByteArray).extract 1 D = ⟨(Lib.decDigits n).toArray⟩ := by
    rw [ext_sub, hd1, show D - 1 = (Lib.decDigits n).length by omega, List.take_left]
  have HK := Lib.hid (c_rkind (.arr n u))
  have hk0 : (((Ty.arr n u).letter.toNat : Int)) = 97 := rfl
  rw [hk0] at HK
  have HIn := Lib.hid (c_rinner_arr n u w hn hl)
  have HI := Lib.hid (fun (w' : World) => IH u (x ++ 91 :: (Lib.decDigits n ++ [93])) w' hm hwf (by omega) (by simp only [List.length_append, List.length_cons, List.length_nil]; omega))
  have hdc : dcl (.arr n u) x = dcl u (x ++ 91 :: (Lib.decDigits n ++ [93])) := rfl
  rw [hdc]
  obtain ⟨ds, hds⟩ : ∃ ds, Lib.decDigits n = ds := ⟨_, rfl⟩
  obtain ⟨l, hlc⟩ : ∃ l, (Ty.arr n u).code = l := ⟨_, rfl⟩
  rw [hlc] at HK HIn HDg hex1 hlen hl hx ⊢
  rw [hds] at hex1 hlen HI hD ⊢
  have hdl : ds.length ≤ 65536 := by omega
  have ap1 := b_app' x [91]
  have ap2 := b_app' (x ++ [91]) ds
  have ap3 := b_app' (x ++ 91 :: ds) [93]
  have ha1 := add_s x [91] (by simp; omega)
  have ha2 := add_s (x ++ [91]) ds (by simp; omega)
  have ha3 := add_s (x ++ 91 :: ds) [93] (by simp; omega)
  have hD1 : (1 : Int) ≤ (D : Int) := by omega
  have hD1n : 1 ≤ D := by omega
  have hD3 : (D : Int) ≤ (l.length : Int) := by omega
  have hD3n : D ≤ l.length := by omega
  have hD4 : (0 : Int) ≤ (D : Int) := by omega
  clear hl hlc hk0 hcode hlen hd1 htw hD hds hn hdc hwf hm hx hdl
  go_enter Tryz.func68, Tryz.ntmps68
  go_wp2_with fail
  refine (HK.out _).mono ?_
  rintro e w2 ⟨rfl, rfl⟩
  go_wp2_with fail
  refine HIn.out.mono ?_
  rintro e w3 ⟨rfl, hb⟩
  have HB := Lib.hid hb
  clear hb
  go_wp2_with fail
  refine (HDg.out _).mono ?_
  rintro e w4 ⟨rfl, q, rfl⟩
  have HB4 := Lib.hid (below_drewN HB.out q)
  go_wp2_with fail
  refine (HI.out _).mono ?_
  rintro e w6 ⟨rfl, hb6⟩
  have HB6 := Lib.hid (below_on HB4.out hb6 HB4.out.size)
  clear hb6
  go_wp2_with fail
  go_ret
  exact ⟨rfl, HB6.out⟩
/-- What is written of the first parameters. -/
def pqW (A : List Ty) (q : Nat) : List UInt8 := if q = 0 then [118, 111, 105, 100] else parsF (A.take q)
theorem pq_end (ps : Tys) : pqW ps.list ps.list.length = pars ps := by
  unfold pqW
  cases ps with
  | nil => rfl
  | cons t ts =>
    rw [if_neg (by show ¬ (t :: ts.list).length = 0; simp), List.take_length]
    exact (parsF_pars (.cons t ts) (by simp)).symm
theorem lsts_code : ∀ (ts : Tys) (u : Ty), u ∈ ts.list → u.code.length + 1 ≤ ts.code.length
  | .nil, u, h => by cases h
  | .cons t ts, u, h => by
    rcases List.mem_cons.1 h with rfl | h
    · show _ ≤ (44 :: (u.code ++ ts.code)).length
      simp only [List.length_cons, List.length_append]
      omega
    · have := lsts_code ts u h
      show _ ≤ (44 :: (t.code ++ ts.code)).length
      simp only [List.length_cons, List.length_append]
      omega
theorem fn_len (ps : Tys) (r : Ty) : ps.code.length + r.code.length + 2 ≤ (Ty.fn ps r).code.length := by
  cases ps with
  | nil =>
    show (0 : Nat) + _ + 2 ≤ (102 :: 40 :: 41 :: r.code).length
    simp only [List.length_cons]
    omega
  | cons t ts =>
    show (44 :: (t.code ++ ts.code)).length + _ + 2 ≤ (102 :: 40 :: (t.code ++ (ts.code ++ 41 :: r.code))).length
    simp only [List.length_cons, List.length_append]
    omega
theorem pars_len (ps : Tys) : (pars ps).length ≤ 10 * ps.code.length + 4 := by
  cases ps with
  | nil => show 4 ≤ _; omega
  | cons t ts =>
    have h1 := dcl_len t []
    have h2 := parsT_len ts
    show (dcl t [] ++ parsT ts).length ≤ 10 * (44 :: (t.code ++ ts.code)).length + 4
    simp only [List.length_cons, List.length_append, List.length_nil] at h1 ⊢
    omega
theorem pq_le (ps : Tys) (q : Nat) : (pqW ps.list q).length ≤ 10 * ps.code.length + 4 := by
  unfold pqW
  split
  · show 4 ≤ _; omega
  · have h1 := parsF_take_le ps.list q
    have h2 := pars_len ps
    by_cases hp : ps = .nil
    · subst hp
      show (parsF (List.take q [])).length ≤ _
      simp [parsF]
    · rw [parsF_pars ps hp] at h2
      omega
theorem pq_step {A : List Ty} {q : Nat} {u : Ty} (h : A[q]? = some u) : pqW A (q + 1) = (if q = 0 then [] else pqW A q ++ [44, 32]) ++ dcl u [] := by
  have h1 := parsF_take h
  unfold pqW
  rw [if_neg (by omega), h1]
  by_cases hq : q = 0
  · subst hq
    simp [parsF]
  · rw [if_neg hq, if_neg hq, if_neg hq]
    simp
set_option maxHeartbeats 8000000 in
theorem wt_fn (m : Nat) (IH : WtC m) (ps : Tys) (r : Ty) (x : List UInt8) (w : World) (hm : (Ty.fn ps r).size ≤ m + 1) (hwf : (Ty.fn ps r).wf) (hl : (Ty.fn ps r).code.length ≤ 65536) (hx : x.length + 20 * (Ty.fn ps r).code.length ≤ 4000000) :
    Calls Tryz.prog 68 #[.string ⟨(Ty.fn ps r).code.toArray⟩, .string ⟨x.toArray⟩] w fun e w' => e = .returned (.string ⟨(dcl (.fn ps r) x).toArray⟩) ∧ Below w.heap.size w w' := by
  have hsz : ps.size + r.size + 2 ≤ m + 1 := hm
  have hfl := fn_len ps r
  have hpl := pars_len ps
  have hpq := pq_le ps
  have HK := Lib.hid (c_rkind (.fn ps r))
  have hk0 : (((Ty.fn ps r).letter.toNat : Int)) = 102 := rfl
  rw [hk0] at HK
  have HSg := Lib.hid (c_rsign ps r hwf w hl)
  have hxl : x.length ≤ 4000000 := by omega
  have hpl2 : (pars ps).length ≤ 700000 := by omega
  have HI := Lib.hid (fun (w' : World) => IH r (x ++ 40 :: (pars ps ++ [41])) w' (by omega) hwf.2 (by omega) (by simp only [List.length_append, List.length_cons, List.length_nil]; omega))
  have HIu := Lib.hid (fun (u : Ty) (hu : u ∈ ps.list) (w' : World) => IH u [] w' (by have := lst_size_le ps u hu; omega) (lst_wf ps u hwf.1 hu) (by have := lsts_code ps u hu; omega) (by have := lsts_code ps u hu; simp only [List.length_nil]; omega))
  have HQl : Hid (∀ q, (pqW ps.list q).length ≤ 700000) := fun q => by have := hpq q; omega
  have HUl : Hid (∀ u ∈ ps.list, (dcl u []).length ≤ 700000) := fun u hu => by
    have h1 := dcl_len u []
    have h2 := lsts_code ps u hu
    simp only [List.length_nil] at h1
    omega
  have hn : ps.list.length ≤ 65536 := by
    have h1 := parts_le (.fn ps r)
    have h2 := size_code (.fn ps r)
    have h3 : (ps.list ++ [r]).length ≤ (Ty.fn ps r).size := h1
    simp at h3
    omega
  have HN := Lib.hid hn
  have hdc : dcl (.fn ps r) x = dcl r (x ++ 40 :: (pars ps ++ [41])) := by
    rw [dcl_fn]
    rfl
  have HPe := Lib.hid (pq_end ps)
  rw [hdc]
  obtain ⟨l, hlc⟩ : ∃ l, (Ty.fn ps r).code = l := ⟨_, rfl⟩
  obtain ⟨A, hA⟩ : ∃ A, ps.list = A := ⟨_, rfl⟩
  obtain ⟨P, hP⟩ : ∃ P, pars ps = P := ⟨_, rfl⟩
  rw [hlc] at HK HSg ⊢
  rw [hA] at HSg HIu HQl HUl HN HPe
  rw [hP] at hpl2 HI HPe ⊢
  have ap1 := b_app' x [40]
  have ap2 := b_app' (x ++ [40]) P
  have ap3 := b_app' (x ++ 40 :: P) [41]
  have ha1 := add_s x [40] (by simp; omega)
  have ha2 := add_s (x ++ [40]) P (by simp; omega)
  have ha3 := add_s (x ++ 40 :: P) [41] (by simp; omega)
  have HAd := Lib.hid (And.intro (And.intro ap1 (And.intro ap2 ap3)) (And.intro ha1 (And.intro ha2 ha3)))
  clear ap1 ap2 ap3 ha1 ha2 ha3 hsz hfl hpl hpq hk0 hm hwf hl hx hlc hA hP hdc hn hxl hpl2
  go_enter Tryz.func68, Tryz.ntmps68
  go_wp2_with fail
  refine (HK.out _).mono ?_
  rintro e w2 ⟨rfl, rfl⟩
  go_wp2_with fail
  refine HSg.out.mono ?_
  rintro e w3 ⟨⟨a, c, rfl, hst⟩, hb⟩
  have HB := Lib.hid hb
  have HSt := Lib.hid (show StrIn w3 a (A.map Ty.code) from hst)
  clear hb hst HSg
  go_wp2_with fail
  go_loopg [11, 12] A.length (fun g v11 v12 wr => ∃ q : Nat, q + g = A.length ∧ v12 = .int .i64 (q : Int) ∧ v11 = .string ⟨(pqW A q).toArray⟩ ∧ Hid (Below w2.heap.size w2 wr ∧ StrIn wr a (A.map Ty.code)))
  case atStart => exact ⟨0, by omega, rfl, rfl, HB.out, HSt.out⟩
  case round =>
    obtain ⟨q, hq, rfl, rfl, HR⟩ := hrel
    by_cases hlt : q < A.length
    · have hd : decide ((q : Int) < (A.length : Int)) = true := by simp; omega
      obtain ⟨u, hu⟩ : ∃ u, A[q]? = some u := ⟨_, List.getElem?_eq_getElem hlt⟩
      obtain ⟨b1, o1, ha, hx1⟩ := HR.out.2 (by simp; omega)
      have y1 := hx1 q u.code (by rw [List.getElem?_map, hu]; rfl)
      have hst := pq_step hu
      have HIq := Lib.hid (HIu.out u (List.mem_of_getElem? hu))
      have hul := HUl.out u (List.mem_of_getElem? hu)
      have hql := HQl.out q
      obtain ⟨D, hD⟩ : ∃ D, dcl u [] = D := ⟨_, rfl⟩
      obtain ⟨c0, hc0⟩ : ∃ c0, u.code = c0 := ⟨_, rfl⟩
      obtain ⟨W0, hW0⟩ : ∃ W0, pqW A q = W0 := ⟨_, rfl⟩
      rw [hD] at hst HIq hul
      rw [hc0] at HIq y1
      rw [hW0] at hst hql ⊢
      have hq0 : (0 : Int) ≤ (q : Int) := by omega
      have hqi : (q : Int) < (A.length : Int) := by omega
      have hwm : IntKind.i64.wrap ((q : Int) + 1) = ((q + 1 : Nat) : Int) := by rw [IntKind.wrap_i64]; have := HN.out; omega
      have HM : Hid (A.length - (q + 1) < gk ∧ q + 1 + (A.length - (q + 1)) = A.length) := ⟨by omega, by omega⟩
      have HSt1 := Lib.hid hst
      subst ha
      clear hx1 hu hD hc0 hW0 hst
      by_cases hqz : q = 0
      · have hz : ((q : Int) == 0) = true := by simp [hqz]
        have hzn : (q == 0) = true := by simp [hqz]
        have HSt2 : Hid (pqW A (q + 1) = D) := by show _ = _; rw [HSt1.out, if_pos hqz]; rfl
        have ha1 := add_s [] D (by simp; omega)
        have ap1 := b_app' [] D
        clear hqz
        go_wp2_with fail
        refine (HIq.out _).mono ?_
        rintro e w5 ⟨rfl, hb5⟩
        have HN5 : Hid (Below w2.heap.size w2 w5 ∧ StrIn w5 (some ⟨b1, o1, none⟩) (A.map Ty.code)) := ⟨below_on HR.out.1 hb5 HR.out.1.size, HR.out.2.next hb5⟩
        clear hb5 y1
        go_wp2_with fail
        go_roundg (A.length - (q + 1))
        case measure => exact HM.out.1
        case rel => exact ⟨q + 1, HM.out.2, rfl, by rw [HSt2.out], HN5⟩
      · have hz : ((q : Int) == 0) = false := by simp; exact hqz
        have hzn : (q == 0) = false := by simp; exact hqz
        have HSt2 : Hid (pqW A (q + 1) = W0 ++ 44 :: 32 :: D) := by show _ = _; rw [HSt1.out, if_neg hqz]; simp
        have ha1 := add_s W0 [44, 32] (by simp; omega)
        have ha2 := add_s (W0 ++ [44, 32]) D (by simp; omega)
        have ap1 := b_app' W0 [44, 32]
        have ap2 := b_app' (W0 ++ [44, 32]) D
        clear hqz
        go_wp2_with fail
        refine (HIq.out _).mono ?_
        rintro e w5 ⟨rfl, hb5⟩
        have HN5 : Hid (Below w2.heap.size w2 w5 ∧ StrIn w5 (some ⟨b1, o1, none⟩) (A.map Ty.code)) := ⟨below_on HR.out.1 hb5 HR.out.1.size, HR.out.2.next hb5⟩
        clear hb5 y1
        go_wp2_with fail
        go_roundg (A.length - (q + 1))
        case measure => exact HM.out.1
        case rel => exact ⟨q + 1, HM.out.2, rfl, by rw [HSt2.out], HN5⟩
    · have hd : decide ((q : Int) < (A.length : Int)) = false := by simp; omega
      obtain rfl : q = A.length := by omega
      rw [HPe.out]
      obtain ⟨⟨ap1, ap2, ap3⟩, ha1, ha2, ha3⟩ := HAd.out
      have HIr := Lib.hid (HI.out wr)
      go_wp2_with fail
      refine HIr.out.mono ?_
      rintro e w6 ⟨rfl, hb6⟩
      have HB6 := Lib.hid (below_on HR.out.1 hb6 HR.out.1.size)
      clear hb6
      go_wp2_with fail
      go_ret
      exact ⟨rfl, HB6.out⟩
theorem wt_zero : WtC 0 := fun t x w h => by
  exfalso
  cases t <;> simp [Ty.size] at h
theorem wt_succ (m : Nat) (IH : WtC m) : WtC (m + 1) := fun t x w h hwf hl hx => by
  match t, h, hwf, hl, hx with
  | .base c, h, hwf, hl, hx =>
    have hc : baseC c = true := hwf
    have hw := c_rword_base c hc
    unfold baseC at hc
    simp at hc
    have hlx : x.length ≤ 4000000 := by omega
    have hwl : (wordC c).length ≤ 65536 := by have := word_le c; omega
    rcases hc with ((((hc | hc) | hc) | hc) | hc) | hc
    all_goals subst hc
    · exact wt_leaf (.base 118) 118 rfl _ hwl x hlx rfl rfl rfl hw w
    · exact wt_leaf (.base 99) 99 rfl _ hwl x hlx rfl rfl rfl hw w
    · exact wt_leaf (.base 115) 115 rfl _ hwl x hlx rfl rfl rfl hw w
    · exact wt_leaf (.base 105) 105 rfl _ hwl x hlx rfl rfl rfl hw w
    · exact wt_leaf (.base 117) 117 rfl _ hwl x hlx rfl rfl rfl hw w
    · exact wt_leaf (.base 106) 106 rfl _ hwl x hlx rfl rfl rfl hw w
  | .str s, h, hwf, hl, hx =>
    have hs : s.length ≤ 31 := (name_all hwf).2.2.2
    have h2 := wt_leaf (.str s) 83 rfl (bwT (.str s)) (by show (([115, 116, 114, 117, 99, 116] ++ 32 :: s : List UInt8)).length ≤ _; simp; omega) x (by omega) rfl rfl rfl (c_rword_str s (by omega)) w
    refine h2.mono fun e w' h => ⟨?_, h.2⟩
    rw [h.1]
    show _ = Ending.returned (.string ⟨([115, 116, 114, 117, 99, 116, 32] ++ (s ++ tailD x)).toArray⟩)
    simp [bwT]
  | .ptr u, h, hwf, hl, hx => exact wt_ptr m IH u x w (by have h' : u.size + 1 ≤ m + 1 := h; omega) hwf hl hx
  | .arr n u, h, hwf, hl, hx => exact wt_arr m IH n u x w (by have h' : u.size + 1 ≤ m + 1 := h; omega) hwf.1 hwf.2 hl hx
  | .fn ps r, h, hwf, hl, hx => exact wt_fn m IH ps r x w h hwf hl hx
theorem c_wtC : ∀ m, WtC m
  | 0 => wt_zero
  | m + 1 => wt_succ m (c_wtC m)
/-- A type around what stands already, as the document writes it. -/
theorem c_written (m : Nat) (t : Ty) (x : List UInt8) (w : World) (h : t.size ≤ m) (hwf : t.wf) (hl : t.code.length ≤ 65536) (hx : x.length + 20 * t.code.length ≤ 4000000) :
    Calls Tryz.prog 68 #[.string ⟨t.code.toArray⟩, .string ⟨x.toArray⟩] w fun e w' => e = .returned (.string ⟨(dcl t x).toArray⟩) ∧ Below w.heap.size w w' := c_wtC m t x w h hwf hl hx
end Go.Proofs.YtacbjhbiaaieoaaGreatDoor
