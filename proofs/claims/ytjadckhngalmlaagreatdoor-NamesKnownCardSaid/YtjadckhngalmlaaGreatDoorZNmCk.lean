/-
  What is wrong with a unit, in the code: trees of certain kinds, globals, functions, the whole.
-/
import Derived.Test.YtjadckhngalmlaaGreatDoorZNmOp
import Derived.Test.YtjadckhngalmlaaGreatDoorZNmBt
import Derived.Test.YtjadckhngalmlaaGreatDoorZTrPa
namespace Go.Proofs.YtjadckhngalmlaaGreatDoor
set_option linter.unusedVariables false
set_option linter.unusedSimpArgs false
set_option maxRecDepth 100000
open Go.RowKit

/-- A function as a value. -/
abbrev fnV (at' : Int) (s t : ByteArray) (pa : Option Addr) (pl pc : Nat) (ba : Option Addr) (bl bc : Nat) : Value := .agg #[.int .i64 at', .string s, .string t, .slice pa pl pc, .slice ba bl bc]
theorem c_isProto (at' : Int) (s t : ByteArray) (pa : Option Addr) (pl pc : Nat) (ba : Option Addr) (bl bc : Nat) (w : World) :
    Calls Tryz.prog 69 #[fnV at' s t pa pl pc ba bl bc] w fun e w' => e = .returned (.bool (bl == 0)) ∧ Below w.heap.size w w' := by
  obtain ⟨r, hr⟩ : ∃ r, (bl == 0) = r := ⟨_, rfl⟩
  have hq : ((bl : Int) == 0) = r := by rw [← hr, Bool.eq_iff_iff]; simp
  rw [hr]
  clear hr
  go_enter Tryz.func69, Tryz.ntmps69
  go_wp2_with fail
  go_ret
  exact ⟨rfl, below_o _ _⟩
set_option maxHeartbeats 4000000 in
theorem c_rpOne (F : Nat) (at' : Int) (s t : ByteArray) (pa : Option Addr) (pl pc : Nat) (ba : Option Addr) (bl bc : Nat) (v : VarP) (hv : v.name.length ≤ 9223372036854775807) (ty : List UInt8) (w : World)
    (hFl : F < w.heap.size) (h0 : w.cell? ⟨F, 0, none⟩ = some (.int .i64 at')) (h1 : w.cell? ⟨F, 1, none⟩ = some (.string s)) (h2 : w.cell? ⟨F, 2, none⟩ = some (.string t)) (h3 : w.cell? ⟨F, 3, none⟩ = some (.slice pa pl pc)) (h4 : w.cell? ⟨F, 4, none⟩ = some (.slice ba bl bc)) :
    Calls Tryz.prog 89 #[.agg (vrC v).toArray, nmS ty, .pointer (some ⟨F, 0, none⟩)] w fun e w' => e = .returned (.bool (prB (bl == 0) v ty)) ∧ Below w.heap.size w w' := by
  have HFc : Hid (∀ W, Below w.heap.size w W → W.cell? ⟨F, 0, none⟩ = some (.int .i64 at') ∧ W.cell? ⟨F, 1, none⟩ = some (.string s) ∧ W.cell? ⟨F, 2, none⟩ = some (.string t) ∧ W.cell? ⟨F, 3, none⟩ = some (.slice pa pl pc) ∧ W.cell? ⟨F, 4, none⟩ = some (.slice ba bl bc) ∧ F < W.heap.size) := fun W hb => by
    have e := hb.block F hFl
    exact ⟨(blk_cell e _).trans h0, (blk_cell e _).trans h1, (blk_cell e _).trans h2, (blk_cell e _).trans h3, (blk_cell e _).trans h4, Nat.lt_of_lt_of_le hFl hb.size⟩
  have HP := Lib.hid (fun w' => c_isProto at' s t pa pl pc ba bl bc w')
  have HN := Lib.hid (fun w' => c_IsName v.name w' hv)
  obtain ⟨vn, vt, vv⟩ := v
  show Calls Tryz.prog _ #[.agg #[nmS vn, nmS vt, .bool vv], nmS ty, _] w _
  simp only at HN hv
  obtain ⟨p, hp⟩ : ∃ p, (bl == 0) = p := ⟨_, rfl⟩
  obtain ⟨r, hr⟩ : ∃ r, prB p ⟨vn, vt, vv⟩ ty = r := ⟨_, rfl⟩
  rw [hp] at HP ⊢
  rw [hr]
  have HR := Lib.hid hr
  clear hp hr hv
  obtain ⟨te, hte⟩ : ∃ te, (vt == ty) = te := ⟨_, rfl⟩
  obtain ⟨nb, hnb⟩ : ∃ nb, nameB vn = nb := ⟨_, rfl⟩
  rw [hnb] at HN
  have HT := Lib.hid (And.intro hte hnb)
  clear hnb
  rcases vn with _ | ⟨v0, vr⟩
  all_goals cases p <;> cases te <;> cases vv <;> cases nb
  all_goals
    obtain rfl := HR.out
    unfold prB
    simp only [HT.out.1, HT.out.2]
    go_enter Tryz.func89, Tryz.ntmps89
    go_wp2_with fail
    refine (HP.out _).mono ?_
    rintro e w1 ⟨rfl, hb⟩
    have HB1 := Lib.hid (below_t (below_o w _) hb (below_o w _).size)
    have HZ1 := Lib.hid (blk_on (heap_alloc_at (w := w) _ _ rfl) hb)
    obtain ⟨y0, y1, y2, _⟩ := cells3 HZ1.out
    clear hb h0 h1 h2 h3 h4 hFl
    obtain ⟨h0, h1, h2, h3, h4, hFl⟩ := HFc.out w1 HB1.out
    go_wp2_with fail
    first
      | (go_ret; exact ⟨rfl, HB1.out⟩)
      | (refine (HN.out _).mono ?_
         rintro e w2 ⟨rfl, hb⟩
         have HB2 := Lib.hid (below_t HB1.out hb HB1.out.size)
         have HZ2 := Lib.hid (blk_on HZ1.out hb)
         clear y0 y1 y2 h0 h1 h2 h3 h4 hFl
         obtain ⟨y0, y1, y2, _⟩ := cells3 HZ2.out
         obtain ⟨h0, h1, h2, h3, h4, hFl⟩ := HFc.out w2 HB2.out
         clear hb
         go_wp2_with fail
         first
           | (go_ret; exact ⟨rfl, HB2.out⟩)
           | (refine (HP.out _).mono ?_
              rintro e w3 ⟨rfl, hb⟩
              have HB3 := Lib.hid (below_t HB2.out hb HB2.out.size)
              clear hb
              go_wp2_with fail
              go_ret
              exact ⟨rfl, HB3.out⟩))
end Go.Proofs.YtjadckhngalmlaaGreatDoor
namespace Go.Proofs.YtjadckhngalmlaaGreatDoor
set_option linter.unusedVariables false
set_option linter.unusedSimpArgs false
set_option maxRecDepth 100000
open Go.RowKit

theorem all2_drop {α β : Type} (f : α → β → Bool) {l : List α} {m : List β} {q : Nat} {x : α} {y : β} (hx : l[q]? = some x) (hy : m[q]? = some y) : all2 f (l.drop q) (m.drop q) = (f x y && all2 f (l.drop (q + 1)) (m.drop (q + 1))) := by
  obtain ⟨h1, e1⟩ := List.getElem?_eq_some_iff.1 hx
  obtain ⟨h2, e2⟩ := List.getElem?_eq_some_iff.1 hy
  rw [List.drop_eq_getElem_cons h1, List.drop_eq_getElem_cons h2, e1, e2]
  rfl
theorem StrIn.lt {w : World} {a : Option Addr} {L : List (List UInt8)} (h : StrIn w a L) (h0 : 0 < L.length) : ∃ b off, a = some ⟨b, off, none⟩ ∧ b < w.heap.size ∧ ∀ (k : Nat) s, L[k]? = some s → w.cell? ⟨b, off + k, none⟩ = some (.string ⟨s.toArray⟩) := by
  obtain ⟨b, off, h1, h2⟩ := h h0
  obtain ⟨s0, hs⟩ : ∃ s, L[0]? = some s := ⟨_, List.getElem?_eq_getElem h0⟩
  exact ⟨b, off, h1, cell_blt (h2 0 s0 hs), h2⟩
set_option maxHeartbeats 4000000 in
theorem c_eqFn (F : Nat) (at' : Int) (s t : ByteArray) (pa : Option Addr) (pl pc : Nat) (ba : Option Addr) (bl bc : Nat) (ps : List VarP) (va : Option Addr) (vc : Nat) (ts : List (List UInt8)) (ta : Option Addr) (tc : Nat) (w : World) (hv : ∀ v ∈ ps, VrOk v) (hp : ps.length ≤ 4503599627370496) (hV : VrIn ps va w) (hT : StrIn w ta ts) (hFl : F < w.heap.size)
    (h0 : w.cell? ⟨F, 0, none⟩ = some (.int .i64 at')) (h1 : w.cell? ⟨F, 1, none⟩ = some (.string s)) (h2 : w.cell? ⟨F, 2, none⟩ = some (.string t)) (h3 : w.cell? ⟨F, 3, none⟩ = some (.slice pa pl pc)) (h4 : w.cell? ⟨F, 4, none⟩ = some (.slice ba bl bc)) :
    Calls Tryz.prog 88 #[.slice va ps.length vc, .slice ta ts.length tc, .func (.func 89) #[] #[.pointer (some ⟨F, 0, none⟩)]] w fun e w' => e = .returned (.bool (all2 (prB (bl == 0)) ps ts)) ∧ Below w.heap.size w w' := by
  have HFc : Hid (∀ W, Below w.heap.size w W → W.cell? ⟨F, 0, none⟩ = some (.int .i64 at') ∧ W.cell? ⟨F, 1, none⟩ = some (.string s) ∧ W.cell? ⟨F, 2, none⟩ = some (.string t) ∧ W.cell? ⟨F, 3, none⟩ = some (.slice pa pl pc) ∧ W.cell? ⟨F, 4, none⟩ = some (.slice ba bl bc) ∧ F < W.heap.size) := fun W hb => by
    have e := hb.block F hFl
    exact ⟨(blk_cell e _).trans h0, (blk_cell e _).trans h1, (blk_cell e _).trans h2, (blk_cell e _).trans h3, (blk_cell e _).trans h4, Nat.lt_of_lt_of_le hFl hb.size⟩
  have HC : Hid (∀ v ty W, v ∈ ps → Below w.heap.size w W → Calls Tryz.prog 89 #[.agg (vrC v).toArray, nmS ty, .pointer (some ⟨F, 0, none⟩)] W fun e w' => e = .returned (.bool (prB (bl == 0) v ty)) ∧ Below W.heap.size W w') := fun v ty W hm hb => by
    obtain ⟨g0, g1, g2, g3, g4, g5⟩ := HFc.out W hb
    exact c_rpOne F at' s t pa pl pc ba bl bc v (hv v hm).1 ty W g5 g0 g1 g2 g3 g4
  obtain ⟨N, hN⟩ : ∃ N, ps.length = N := ⟨_, rfl⟩
  obtain ⟨m, hm⟩ : ∃ m, ts.length = m := ⟨_, rfl⟩
  obtain ⟨f, hf⟩ : ∃ f, prB (bl == 0) = f := ⟨_, rfl⟩
  rw [hf] at HC ⊢
  have HN := Lib.hid (And.intro hN (And.intro hm hp))
  have HV := Lib.hid hV
  have HT := Lib.hid hT
  rw [hN, hm]
  clear h0 h1 h2 h3 h4 hV hT hf HFc hFl hv hp
  by_cases hNm : N = m
  · subst hNm
    obtain ⟨rv, hrv⟩ : ∃ rv, all2 f ps ts = rv := ⟨_, rfl⟩
    have HRV := Lib.hid hrv
    rw [hrv]
    clear hN hm hrv
    go_enter Tryz.func88, Tryz.ntmps88
    go_wp2_with fail
    go_loopg [17] N (fun g v17 wr => ∃ q : Nat, q + g = N ∧ v17 = .int .i64 (q : Int) ∧ Hid (Below w.heap.size w wr ∧ all2 f (ps.drop q) (ts.drop q) = rv))
    case atStart => exact ⟨0, by omega, rfl, Below.refl _ _, HRV.out⟩
    case round =>
      obtain ⟨q, hq, rfl, HRl⟩ := hrel
      by_cases hlt : q < N
      · have hd : decide ((q : Int) < (N : Int)) = true := by simp; omega
        obtain ⟨v, hv⟩ : ∃ v, ps[q]? = some v := ⟨_, List.getElem?_eq_getElem (by have := HN.out; omega)⟩
        obtain ⟨ty, hty⟩ : ∃ v, ts[q]? = some v := ⟨_, List.getElem?_eq_getElem (by have := HN.out; omega)⟩
        obtain ⟨vb, vo, hva, hvb, hvr⟩ := HV.out (by have := HN.out; omega)
        obtain ⟨tb, to, hta, htb, htr⟩ := HT.out.lt (by have := HN.out; omega)
        obtain ⟨cs, rfl, hcs⟩ := hvr q v hv
        have e := HRl.out.1.block vb hvb
        have c0 := (blk_cell e _).trans (hcs 0 _ rfl)
        have c1 := (blk_cell e _).trans (hcs 1 _ rfl)
        have c2 := (blk_cell e _).trans (hcs 2 _ rfl)
        rw [Nat.add_zero] at c0
        have HB1 := Lib.hid (below_t HRl.out.1 (below_o wr (.cells #[nmS v.name, nmS v.type, .bool v.vol] 58)) HRl.out.1.size)
        have d0 := (blk_cell (HB1.out.block tb htb) _).trans (htr q ty hty)
        have hvl : vb < wr.heap.size := Nat.lt_of_lt_of_le hvb HRl.out.1.size
        have htl : tb < wr.heap.size + 1 := Nat.lt_succ_of_le (Nat.le_of_lt (Nat.lt_of_lt_of_le htb HRl.out.1.size))
        have HST := Lib.hid (all2_drop f hv hty)
        have HCc := Lib.hid (HC.out v ty (wr.alloc (.cells #[nmS v.name, nmS v.type, .bool v.vol] 58)) (List.mem_of_getElem? hv) HB1.out)
        have hq0 : (0 : Int) ≤ (q : Int) := by omega
        have hql : (q : Int) < (N : Int) := by omega
        have hwm : IntKind.i64.wrap ((q : Int) + 1) = ((q + 1 : Nat) : Int) := by rw [IntKind.wrap_i64]; have := HN.out; omega
        have HM : Hid (N - (q + 1) < gk ∧ q + 1 + (N - (q + 1)) = N) := ⟨by omega, by omega⟩
        obtain ⟨fv, hfv⟩ : ∃ fv, f v ty = fv := ⟨_, rfl⟩
        rw [hfv] at HCc HST
        subst hva hta
        clear hv hty hvb htb hvr htr hcs e hlt hq hfv
        cases fv
        · have hrv : rv = false := by rw [← HRl.out.2, HST.out]; rfl
          subst hrv
          go_wp2_with fail
          refine HCc.out.mono ?_
          rintro e w' ⟨rfl, hb⟩
          have HB2 := Lib.hid (below_t HB1.out hb HB1.out.size)
          clear hb
          go_wp2_with fail
          go_ret
          exact ⟨rfl, HB2.out⟩
        · go_wp2_with fail
          refine HCc.out.mono ?_
          rintro e w' ⟨rfl, hb⟩
          have HB2 := Lib.hid (And.intro (below_t HB1.out hb HB1.out.size) (show all2 f (ps.drop (q + 1)) (ts.drop (q + 1)) = rv by rw [← HRl.out.2, HST.out]; rfl))
          clear hb c0 c1 c2 d0
          go_wp2_with fail
          go_roundg (N - (q + 1))
          case measure => exact HM.out.1
          case rel => exact ⟨q + 1, HM.out.2, rfl, HB2.out⟩
      · have hd : decide ((q : Int) < (N : Int)) = false := by simp; omega
        have hrv : rv = true := by
          rw [← HRl.out.2, List.drop_eq_nil_of_le (by have := HN.out; omega), List.drop_eq_nil_of_le (by have := HN.out; omega)]
          rfl
        subst hrv
        go_wp2_with fail
        go_ret
        exact ⟨rfl, HRl.out.1⟩
  · have hd : ((N : Int) != (m : Int)) = true := by simp; omega
    have hrv : all2 f ps ts = false := by
      cases h : all2 f ps ts with
      | false => rfl
      | true =>
        have := all2_len f ps ts h
        omega
    rw [hrv]
    clear hN hm hrv hNm
    go_enter Tryz.func88, Tryz.ntmps88
    go_wp2_with fail
    go_ret
    exact ⟨rfl, Below.refl _ _⟩
set_option maxHeartbeats 4000000 in
theorem c_hasRightParams (B : Nat) (f : FnP) (pa : Option Addr) (pc : Nat) (ba : Option Addr) (bc : Nat) (hf : FnOk f) (w : World) (hE : Env B w) (hB : B ≤ w.heap.size) (hV : VrIn f.params pa w) :
    Calls Tryz.prog 68 #[fnV f.at' ⟨f.name.toArray⟩ ⟨f.type.toArray⟩ pa f.params.length pc ba f.body.length bc] w fun e w' => e = .returned (.bool (paB f)) ∧ Below w.heap.size w w' := by
  have HS : Hid (∀ W, Below w.heap.size w W → Calls Tryz.prog 87 #[.string ⟨f.type.toArray⟩] W fun e w' => SgR (sgA f.type) W e w') := fun W hb => c_SignA B f.type W (hE.next (hb.mono hB)) (Nat.le_trans hB hb.size) hf.2.1
  obtain ⟨rv, hrv⟩ : ∃ rv, paB f = rv := ⟨_, rfl⟩
  rw [hrv]
  have HRV : Hid (((sgA f.type).2.2 == 0 && all2 (prB (f.body.length == 0)) f.params (sgA f.type).2.1) = rv) := hrv
  have HV := Lib.hid hV
  have HOk := Lib.hid hf
  obtain ⟨fa, fn, ft, fp, fb⟩ := f
  simp only at HS HRV HV ⊢
  obtain ⟨pl, hpl⟩ : ∃ pl, fp.length = pl := ⟨_, rfl⟩
  obtain ⟨bl, hbl⟩ : ∃ bl, fb.length = bl := ⟨_, rfl⟩
  rw [hbl] at HRV
  have HPl := Lib.hid hpl
  rw [hpl, hbl]
  clear hrv hE hB hV hf hpl hbl
  go_enter Tryz.func68, Tryz.ntmps68
  go_wp2_with fail
  refine (HS.out _ (below_o _ _)).mono ?_
  rintro e w1 ⟨⟨ta, tc, rfl, hSt⟩, hb⟩
  have HB1 := Lib.hid (below_t (below_o w _) hb (below_o w _).size)
  have HZ1 := Lib.hid (blk_on (heap_alloc_at (w := w) _ _ rfl) hb)
  have HSt := Lib.hid hSt
  clear hb hSt
  obtain ⟨E, hE⟩ : ∃ E : Int, (sgA ft).2.2 = E := ⟨_, rfl⟩
  rw [hE] at HRV ⊢
  obtain ⟨A1, hA1⟩ : ∃ A1 : ByteArray, ⟨(sgA ft).1.toArray⟩ = A1 := ⟨_, rfl⟩
  rw [hA1]
  obtain ⟨T, hT⟩ : ∃ T, (sgA ft).2.1 = T := ⟨_, rfl⟩
  rw [hT] at HRV HSt ⊢
  obtain ⟨m, hm⟩ : ∃ m, T.length = m := ⟨_, rfl⟩
  have HTm := Lib.hid hm
  rw [hm]
  clear hE hA1 hT hm
  by_cases hE0 : E = 0
  · subst hE0
    have HRV' : Hid (all2 (prB (bl == 0)) fp T = rv) := by show _ = _; rw [← HRV.out]; rfl
    obtain ⟨y0, y1, y2, y3, y4, _⟩ := five_cells HZ1.out
    have hl1 : w.heap.size < w1.heap.size := (Array.getElem?_eq_some_iff.1 HZ1.out).1
    have HQ := Lib.hid (c_eqFn w.heap.size fa ⟨fn.toArray⟩ ⟨ft.toArray⟩ pa pl pc ba bl bc fp pa pc T ta tc w1 HOk.out.2.2.1 HOk.out.2.2.2.1 (RwIn.next HV.out (fun _ _ h => h) HB1.out) HSt.out hl1 y0 y1 y2 y3 y4)
    rw [HPl.out, HTm.out, HRV'.out] at HQ
    go_wp2_with fail
    refine HQ.out.mono ?_
    rintro e w2 ⟨rfl, hb⟩
    have HB2 := Lib.hid (below_t HB1.out hb HB1.out.size)
    clear hb y0 y1 y2 y3 y4
    go_wp2_with fail
    go_ret
    exact ⟨rfl, HB2.out⟩
  · have hne : (E != 0) = true := by simpa using hE0
    have hrv : rv = false := by rw [← HRV.out]; simp [hE0]
    subst hrv
    go_wp2_with fail
    go_ret
    exact ⟨rfl, HB1.out⟩
end Go.Proofs.YtjadckhngalmlaaGreatDoor
namespace Go.Proofs.YtjadckhngalmlaaGreatDoor
set_option linter.unusedVariables false
set_option linter.unusedSimpArgs false
set_option maxRecDepth 100000
open Go.RowKit

theorem ck_pos {t : List NdT} (h : ckA wlB t = 0) : 0 < t.length := by
  cases t with
  | nil => exact absurd h (by decide)
  | cons x r => simp
theorem wh_last {t : List NdT} {n : Nat} {x : NdT} (hn : t.length = n + 1) (hx : t[n]? = some x) : whK t = x.kind := by
  unfold whK
  rw [List.getLast?_eq_getElem?, hn, Nat.add_sub_cancel, hx]
  rfl
set_option maxHeartbeats 2000000 in
theorem c_whole (t : List NdT) (a : Option Addr) (c N n : Nat) (x : NdT) (hN : t.length = N) (hn : N = n + 1) (hx : t[n]? = some x) (hl : N ≤ 4503599627370496) (w : World) (hT : TrIn t a w) :
    Calls Tryz.prog 86 #[.slice a N c] w fun e w' => e = .returned (noX x) ∧ Below w.heap.size w w' := by
  obtain ⟨b, off, rfl, hb, hr⟩ := hT (by omega)
  have z0 := hr n x hx 0 _ rfl
  have z1 := hr n x hx 1 _ rfl
  have z2 := hr n x hx 2 _ rfl
  have z3 := hr n x hx 3 _ rfl
  have z4 := hr n x hx 4 _ rfl
  have z5 := hr n x hx 5 _ rfl
  rw [Nat.add_zero] at z0
  have hwm : IntKind.i64.wrap ((N : Int) - 1) = (n : Int) := by rw [IntKind.wrap_i64]; omega
  have hn0 : (0 : Int) ≤ (n : Int) := by omega
  have hn1 : (n : Int) < (N : Int) := by omega
  obtain ⟨xk, xn, xa, xi, xs, xt⟩ := x
  clear hr hx hT hn hl hN
  go_enter Tryz.func86, Tryz.ntmps86
  go_wp2_with fail
  refine bodyPost_ret (v := noX ⟨xk, xn, xa, xi, xs, xt⟩) (by simp [results, Tryz.results86, go_sem]) rfl ?_
  exact ⟨rfl, below_o _ _⟩
set_option maxHeartbeats 4000000 in
/-- checkAs, with a function value that tells of each kind of nodes whether it may be. -/
theorem c_checkAs (p : Int → Bool) (g : Nat) (eg : ∀ args w, (callFunc g args).run Tryz.prog w = .ok (.enter g args) w) (hg : ∀ (k : Int) (W : World), Calls Tryz.prog g #[.int .i64 k] W fun e w' => e = .returned (.bool (p k)) ∧ Below W.heap.size W w')
    (B : Nat) (t : List NdT) (a : Option Addr) (c : Nat) (ho : TrOk t) (w : World) (hE : Env B w) (hB : B ≤ w.heap.size) (hT : TrIn t a w) :
    Calls Tryz.prog 66 #[.slice a t.length c, .func (.func g) #[] #[]] w fun e w' => e = .returned (.int .i64 (asA p t : Nat)) ∧ Below w.heap.size w w' := by
  have HC := Lib.hid (c_tCheck B t a c w hE hB ho.1 hT)
  have HTw := Lib.hid (fun w' (hb : Below w.heap.size w w') => hT.next hb)
  have HG := Lib.hid hg
  have HO := Lib.hid ho
  obtain ⟨N, hN⟩ : ∃ N, t.length = N := ⟨_, rfl⟩
  obtain ⟨ck, hck⟩ : ∃ ck : Int, ((ckA wlB t : Nat) : Int) = ck := ⟨_, rfl⟩
  obtain ⟨rv, hrv⟩ : ∃ rv : Int, ((asA p t : Nat) : Int) = rv := ⟨_, rfl⟩
  rw [hck, hN] at HC
  rw [hN, hrv]
  have HH := Lib.hid (And.intro hN (And.intro hck hrv))
  clear hE hB hT ho hg hN hck hrv
  by_cases h0 : ckA wlB t = 0
  · obtain ⟨n, hn⟩ : ∃ n, N = n + 1 := ⟨N - 1, by have := ck_pos h0; have := HH.out.1; omega⟩
    obtain ⟨x, hx⟩ : ∃ x, t[n]? = some x := ⟨_, List.getElem?_eq_getElem (by have := HH.out.1; omega)⟩
    have hc0 : ck = 0 := by rw [← HH.out.2.1, h0]; rfl
    have hv : rv = if p x.kind then 0 else 90 := by
      rw [← HH.out.2.2]
      unfold asA
      rw [if_pos h0, wh_last (HH.out.1.trans hn) hx]
      cases p x.kind <;> rfl
    have HW := Lib.hid (fun w' hb => c_whole t a c N n x HH.out.1 hn hx (by have := HO.out.2; have := HH.out.1; omega) w' (HTw.out w' hb))
    obtain ⟨xk, xn, xa, xi, xs, xt⟩ := x
    simp only at hv
    obtain ⟨pv, hpv⟩ : ∃ pv, p xk = pv := ⟨_, rfl⟩
    have HGx := Lib.hid (HG.out xk)
    rw [hpv] at hv HGx
    have HV := Lib.hid hv
    subst hc0
    clear hv hx hn h0 hpv HG
    go_enter Tryz.func66, Tryz.ntmps66
    go_wp2_with fail
    refine HC.out.mono ?_
    rintro e w1 ⟨rfl, hb⟩
    have HB1 := Lib.hid hb
    clear hb HC
    go_wp2_with fail
    refine (HW.out w1 HB1.out).mono ?_
    rintro e w2 ⟨rfl, hb⟩
    have HB2 := Lib.hid (below_t HB1.out hb HB1.out.size)
    clear hb HW
    have hf : ∀ W, (Instr.field 47 (noX ⟨xk, xn, xa, xi, xs, xt⟩) 0).run Tryz.prog W = .ok (.int .i64 xk) W := fun W => by kernel_rfl
    cases pv
    all_goals
      obtain rfl := HV.out
      go_wp2_with (go_at_fn g; refine (HGx.out _).mono ?_; rintro e w3 ⟨rfl, hb⟩; have HB3 := Lib.hid (below_t HB2.out hb HB2.out.size); clear hb)
      go_ret
      exact ⟨rfl, HB3.out⟩
  · have hv : rv = ck := by rw [← HH.out.2.1, ← HH.out.2.2]; unfold asA; rw [if_neg h0]
    have hne : (ck != 0) = true := by rw [← HH.out.2.1]; simpa using h0
    subst hv
    clear h0
    go_enter Tryz.func66, Tryz.ntmps66
    go_wp2_with fail
    refine HC.out.mono ?_
    rintro e w1 ⟨rfl, hb⟩
    have HB1 := Lib.hid hb
    clear hb HC
    go_wp2_with fail
    go_ret
    exact ⟨rfl, HB1.out⟩
theorem c_exprP (k : Int) (W : World) : Calls Tryz.prog 67 #[.int .i64 k] W fun e w' => e = .returned (.bool (exB k)) ∧ Below W.heap.size W w' := (c_isExpr k W).mono fun e w' ⟨h1, h2⟩ => ⟨h1, by rw [h2]; exact Below.refl _ _⟩
theorem c_blockP (k : Int) (W : World) : Calls Tryz.prog 70 #[.int .i64 k] W fun e w' => e = .returned (.bool (k == 21)) ∧ Below W.heap.size W w' := by
  go_enter Tryz.func70, Tryz.ntmps70
  go_wp2_with fail
  go_ret
  exact ⟨rfl, Below.refl _ _⟩
end Go.Proofs.YtjadckhngalmlaaGreatDoor
