/-
  The contracts of the document's own declaration of a name, and of its function put together, in the code.
-/
import Derived.Test.YtacbjhbiaaieoaaGreatDoorTyEl
import Derived.Test.YtacbjhbiaaieoaaGreatDoorTyBu2
import Derived.Test.YtacbjhbiaaieoaaGreatDoorTzRr
namespace Go.Proofs.YtacbjhbiaaieoaaGreatDoor
set_option linter.unusedVariables false
set_option linter.unusedSimpArgs false
set_option maxRecDepth 100000
open Go.RowKit

def fcA (r : List UInt8) (L : List (List UInt8)) : List UInt8 × Int :=
  if (tk r).isSome = true then if L.all (fun s => (tk s).isSome) = true then if L.length ≤ 8 then if (fnCode L r).length ≤ 65536 then (fnCode L r, 0) else ([], 3) else ([], 3) else ([], 2) else ([], 2)
theorem all_codes : ∀ (L : List (List UInt8)), L.all (fun s => (tk s).isSome) = true → ∃ ts : List Ty, L = ts.map Ty.code ∧ ∀ t ∈ ts, t.wf
  | [], _ => ⟨[], rfl, fun t h => by cases h⟩
  | s :: L, h => by
    rw [List.all_cons, Bool.and_eq_true] at h
    obtain ⟨t, ht⟩ := Option.isSome_iff_exists.1 h.1
    obtain ⟨ts, h1, h2⟩ := all_codes L h.2
    obtain ⟨hw, hc, _⟩ := tk_some ht
    exact ⟨t :: ts, by rw [List.map_cons, ← h1, ← hc], fun u hu => by
      rcases List.mem_cons.1 hu with rfl | hu
      · exact hw
      · exact h2 u hu⟩
theorem fc_ok {r x : List UInt8} {L : List (List UInt8)} (h : fcA r L = (x, 0)) : ∃ (ts : List Ty) (t : Ty), L = ts.map Ty.code ∧ r = t.code ∧ tk x = some (.fn (Tys.of ts) t) ∧ L.length ≤ 8 := by
  unfold fcA at h
  split at h
  · rename_i h1
    split at h
    · rename_i h2
      split at h
      · rename_i h3
        split at h
        · rename_i h4
          obtain ⟨t, ht⟩ := Option.isSome_iff_exists.1 h1
          obtain ⟨hw, hc, _⟩ := tk_some ht
          obtain ⟨ts, e1, e2⟩ := all_codes L h2
          have hx : fnCode L r = x := (Prod.mk.inj h).1
          have e3 : fnCode L r = (Ty.fn (Tys.of ts) t).code := by rw [e1, hc, fn_code]
          refine ⟨ts, t, e1, hc, ?_, h3⟩
          rw [← hx, e3]
          exact tk_code (t := .fn (Tys.of ts) t) ⟨of_wf ts e2, hw⟩ (by rw [← e3]; exact h4)
        · cases h
      · cases h
    · cases h
  · cases h
theorem fc_err {r : List UInt8} {L : List (List UInt8)} (h : (fcA r L).2 ≠ 0) : (fcA r L).1 = [] := by
  unfold fcA at h ⊢
  split
  · rename_i h1
    rw [if_pos h1] at h
    split
    · rename_i h2
      rw [if_pos h2] at h
      split
      · rename_i h3
        rw [if_pos h3] at h
        split
        · rename_i h4
          rw [if_pos h4] at h
          exact absurd rfl h
        · rfl
      · rfl
    · rfl
  · rfl
theorem inter_snoc (x : List UInt8) : ∀ (l : List (List UInt8)), List.intercalate [44] (l ++ [x]) = List.intercalate [44] l ++ ((if l = [] then [] else [44]) ++ x)
  | [] => by simp [List.intercalate]
  | [a] => by simp [List.intercalate]
  | a :: b :: l => by
    have ih := inter_snoc x (b :: l)
    have e : ∀ m : List (List UInt8), List.intercalate [44] (a :: b :: m) = a ++ (44 :: List.intercalate [44] (b :: m)) := fun m => by simp [List.intercalate]
    rw [List.cons_append, List.cons_append, e, e, ← List.cons_append, ih]
    simp
theorem inter_take {L : List (List UInt8)} {k : Nat} {s : List UInt8} (h : L[k]? = some s) : List.intercalate [44] (L.take (k + 1)) = List.intercalate [44] (L.take k) ++ ((if k = 0 then [] else [44]) ++ s) := by
  have hk := (List.getElem?_eq_some_iff.1 h).1
  rw [List.take_succ_eq_append_getElem hk, (List.getElem?_eq_some_iff.1 h).2, inter_snoc]
  have hz : (L.take k = []) = (k = 0) := by
    apply propext
    constructor
    · intro e
      have := congrArg List.length e
      rw [List.length_take, List.length_nil] at this
      omega
    · rintro rfl
      rfl
  simp only [hz]
theorem inter_len {L : List (List UInt8)} (hL : ∀ s ∈ L, s.length ≤ 65536) : ∀ k, k ≤ L.length → (List.intercalate [44] (L.take k)).length ≤ k * 65537
  | 0, _ => by simp [List.intercalate]
  | k + 1, h => by
    have ih := inter_len hL k (by omega)
    have hk : L[k]? = some (L[k]'(by omega)) := List.getElem?_eq_getElem (by omega)
    rw [inter_take hk]
    have h1 := hL (L[k]'(by omega)) (List.getElem_mem ..)
    have h2 : (if k = 0 then [] else [44] : List UInt8).length ≤ 1 := by split <;> simp
    simp only [List.length_append]
    omega
set_option maxHeartbeats 8000000 in
theorem c_Func (B : Nat) (r : List UInt8) (a : Option Addr) (c : Nat) (L : List (List UInt8)) (w : World) (hE : Env B w) (hB : B ≤ w.heap.size) (hr : r.length ≤ 9223372036854775807) (hL : ∀ s ∈ L, s.length ≤ 9223372036854775807) (hn : L.length ≤ 9223372036854775807) (hS : StrIn w a L)
    (hF : ∀ (l : List UInt8) (w : World), Env B w → B ≤ w.heap.size → l.length ≤ 9223372036854775807 → Calls Tryz.prog 10 #[.string ⟨l.toArray⟩] w fun e w' => e = .returned (.bool (tk l).isSome) ∧ Below w.heap.size w w') :
    Calls Tryz.prog 27 #[.string ⟨r.toArray⟩, .slice a L.length c] w fun e w' => e = .returned (.tuple #[.string ⟨(fcA r L).1.toArray⟩, .int .i64 (fcA r L).2]) ∧ Below w.heap.size w w' := by
  have HF := Lib.hid (fun (l : List UInt8) w' (h : Below w.heap.size w w') (hl : l.length ≤ 9223372036854775807) => hF l w' (hE.next (h.mono hB)) (Nat.le_trans hB h.size) hl)
  have HS := Lib.hid (fun w' (h : Below w.heap.size w w') => hS.next h)
  have HL := Lib.hid hL
  obtain ⟨x, e, hx⟩ : ∃ x e, fcA r L = (x, e) := ⟨_, _, rfl⟩
  rw [hx]
  have HX := Lib.hid hx
  have HFr := Lib.hid (HF.out r w (Below.refl _ _) hr)
  have HLr := Lib.hid hr
  clear hF hE hS hL hx
  cases hrs : (tk r).isSome
  · rw [hrs] at HFr
    have h2 : fcA r L = ([], 2) := by unfold fcA; rw [hrs]; rfl
    obtain ⟨rfl, rfl⟩ := Prod.mk.inj (HX.out.symm.trans h2)
    clear hrs h2
    go_enter Tryz.func27, Tryz.ntmps27
    go_wp2_with fail
    refine HFr.out.mono ?_
    rintro e w1 ⟨rfl, hb⟩
    have HB := Lib.hid hb
    clear hb
    go_wp2_with fail
    go_ret2
    exact ⟨rfl, HB.out⟩
  · rw [hrs] at HFr
    have HRs := Lib.hid hrs
    clear hrs
    go_enter Tryz.func27, Tryz.ntmps27
    go_wp2_with fail
    refine HFr.out.mono ?_
    rintro e9 w1 ⟨rfl, hb⟩
    have HB := Lib.hid hb
    clear hb
    go_wp2_with fail
    go_loopg [16] L.length (fun m v16 wr => ∃ q : Nat, q + m = L.length ∧ v16 = .int .i64 (q : Int) ∧ Hid (Below w.heap.size w wr ∧ ∀ j s, j < q → L[j]? = some s → (tk s).isSome = true))
    case atStart => exact ⟨0, by omega, rfl, HB.out, fun j s hj => by omega⟩
    case round =>
      obtain ⟨q, hq, rfl, HR⟩ := hrel
      by_cases hlt : q < L.length
      · have hd : decide ((q : Int) < (L.length : Int)) = true := by simp; omega
        obtain ⟨s, hs⟩ : ∃ s, L[q]? = some s := ⟨_, List.getElem?_eq_getElem hlt⟩
        obtain ⟨b1, o1, ha, hx1⟩ := HS.out wr HR.out.1 (by omega)
        have y1 := hx1 q s hs
        have HFs := Lib.hid (HF.out s wr HR.out.1 (HL.out s (List.mem_of_getElem? hs)))
        have HSq := Lib.hid hs
        have hq0 : (0 : Int) ≤ (q : Int) := by omega
        have hql : (q : Int) < (L.length : Int) := by omega
        have hwm : IntKind.i64.wrap ((q : Int) + 1) = ((q + 1 : Nat) : Int) := by rw [IntKind.wrap_i64]; omega
        have HM : Hid (L.length - (q + 1) < gk ∧ q + 1 + (L.length - (q + 1)) = L.length) := ⟨by omega, by omega⟩
        subst ha
        clear hx1 hs
        cases hts : (tk s).isSome
        · rw [hts] at HFs
          have h2 : fcA r L = ([], 2) := by
            unfold fcA
            rw [if_pos HRs.out, if_neg]
            intro h
            have := List.all_eq_true.1 h s (List.mem_of_getElem? HSq.out)
            rw [hts] at this
            cases this
          obtain ⟨rfl, rfl⟩ := Prod.mk.inj (HX.out.symm.trans h2)
          clear h2 hts
          go_wp2_with fail
          refine HFs.out.mono ?_
          rintro e9 w2 ⟨rfl, hb⟩
          have HB2 := Lib.hid (below_on HR.out.1 hb HR.out.1.size)
          clear hb
          go_wp2_with fail
          go_ret2
          exact ⟨rfl, HB2.out⟩
        · rw [hts] at HFs
          have HTs := Lib.hid hts
          clear hts
          go_wp2_with fail
          refine HFs.out.mono ?_
          rintro e9 w2 ⟨rfl, hb⟩
          have HN : Hid (Below w.heap.size w w2 ∧ ∀ j s', j < q + 1 → L[j]? = some s' → (tk s').isSome = true) := ⟨below_on HR.out.1 hb HR.out.1.size, fun j s' hj hs' => by
            by_cases e : j = q
            · subst e
              rw [HSq.out] at hs'
              cases hs'
              exact HTs.out
            · exact HR.out.2 j s' (by omega) hs'⟩
          clear hb
          go_wp2_with fail
          go_roundg (L.length - (q + 1))
          case measure => exact HM.out.1
          case rel => exact ⟨q + 1, HM.out.2, rfl, HN⟩
      · have hd : decide ((q : Int) < (L.length : Int)) = false := by simp; omega
        have HAll : Hid (L.all (fun s => (tk s).isSome) = true) := List.all_eq_true.2 fun s hs => by
          obtain ⟨j, hj, e⟩ := List.getElem_of_mem hs
          exact HR.out.2 j s (by omega) (by rw [List.getElem?_eq_getElem hj, e])
        by_cases h8 : L.length ≤ 8
        · have hd8 : decide ((8 : Int) < (L.length : Int)) = false := by simp; omega
          have H8 := Lib.hid h8
          clear h8
          go_wp2_with fail
          have HW0 := Lib.hid (Lib.fresh_isBuilder 105 5 wr)
          have HBa := Lib.hid (below_a wr (.cells #[.pointer none, .slice none 0 0] 105))
          refine (c_WriteStringB wr.heap.size wr.heap.size [] [102, 40] _ HW0.out (by decide) (by simp)).mono ?_
          rintro e9 w2 ⟨rfl, h2, hb2⟩
          have HB2 := Lib.hid (HBa.out.trans hb2.bel)
          have HW2 := Lib.hid h2
          clear h2 hb2 HW0 HBa
          go_wp2_with fail
          have hwn : w.heap.size ≤ wr.heap.size := HR.out.1.size
          have HBw : Hid (Below w.heap.size w w2) := HR.out.1.trans (HB2.out.mono hwn)
          have hN2 : wr.heap.size ≤ w2.heap.size := HB2.out.size
          clear HB2 HR HFr
          obtain ⟨N, hN⟩ : ∃ N, wr.heap.size = N := ⟨_, rfl⟩
          rw [hN] at HW2 hwn hN2 ⊢
          clear hN
          have HSm : Hid (∀ s ∈ L, s.length ≤ 65536) := fun s hs => by
            obtain ⟨t, ht⟩ := Option.isSome_iff_exists.1 (List.all_eq_true.1 HAll.out s hs)
            exact (tk_some ht).2.2
          have hrl : r.length ≤ 65536 := by
            obtain ⟨t, ht⟩ := Option.isSome_iff_exists.1 HRs.out
            exact (tk_some ht).2.2
          have HIl := Lib.hid (inter_len HSm.out)
          have HRl := Lib.hid hrl
          have HN2 := Lib.hid hN2
          have HWn := Lib.hid hwn
          clear hrl hN2 hwn
          go_loopg [30] L.length (fun m v30 w3 => ∃ q : Nat, q + m = L.length ∧ v30 = .int .i64 (q : Int) ∧ Hid (Below w.heap.size w w3 ∧ N ≤ w3.heap.size ∧ BuAt N N ([102, 40] ++ List.intercalate [44] (L.take q)) w3))
          case atStart => exact ⟨0, by omega, rfl, HBw.out, HN2.out, by simpa [List.intercalate] using HW2.out⟩
          case round =>
            obtain ⟨q, hq, rfl, HR⟩ := hrel
            by_cases hlt : q < L.length
            · have hd : decide ((q : Int) < (L.length : Int)) = true := by simp; omega
              obtain ⟨s, hs⟩ : ∃ s, L[q]? = some s := ⟨_, List.getElem?_eq_getElem hlt⟩
              obtain ⟨b1, o1, ha, hx1⟩ := HS.out _ HR.out.1 (by omega)
              have y1 := hx1 q s hs
              have HT := Lib.hid (inter_take hs)
              have hsl := HSm.out s (List.mem_of_getElem? hs)
              have hil := HIl.out q (by omega)
              have h8 := H8.out
              have hil2 : (List.intercalate [44] (L.take q)).length ≤ 524296 := by omega
              have HLn := Lib.hid (And.intro hsl hil2)
              have hq0 : (0 : Int) ≤ (q : Int) := by omega
              have hql : (q : Int) < (L.length : Int) := by omega
              have hwm : IntKind.i64.wrap ((q : Int) + 1) = ((q + 1 : Nat) : Int) := by rw [IntKind.wrap_i64]; omega
              have HM : Hid (L.length - (q + 1) < gk ∧ q + 1 + (L.length - (q + 1)) = L.length) := ⟨by omega, by omega⟩
              subst ha
              clear hx1 hs hsl hil hil2 h8
              go_wp2_with fail
              · have hkz : q ≠ 0 := by omega
                refine (c_WriteStringB N N _ [44] _ HR.out.2.2 (by have := HLn.out; simp; omega) HR.out.2.1).mono ?_
                rintro e9 w5 ⟨rfl, h5, hb5⟩
                have HB5 := Lib.hid (HR.out.1.trans (hb5.bel.mono HWn.out))
                have hN5 : N ≤ w5.heap.size := Nat.le_trans HR.out.2.1 hb5.bel.size
                have HW5 := Lib.hid h5
                clear h5 hb5 y1
                go_wp2_with fail
                refine (c_WriteStringB N N _ s _ HW5.out (by have := HLn.out; simp; omega) hN5).mono ?_
                rintro e9 w6 ⟨rfl, h6, hb6⟩
                have HN6 : Hid (Below w.heap.size w w6 ∧ N ≤ w6.heap.size ∧ BuAt N N ([102, 40] ++ List.intercalate [44] (L.take (q + 1))) w6) := ⟨HB5.out.trans (hb6.bel.mono HWn.out), Nat.le_trans hN5 hb6.bel.size, by rw [HT.out, if_neg hkz]; simpa using h6⟩
                clear h6 hb6
                go_wp2_with fail
                go_roundg (L.length - (q + 1))
                case measure => exact HM.out.1
                case rel => exact ⟨q + 1, HM.out.2, rfl, HN6⟩
              · have hkz : q = 0 := by omega
                refine (c_WriteStringB N N _ s _ HR.out.2.2 (by have := HLn.out; simp; omega) HR.out.2.1).mono ?_
                rintro e9 w6 ⟨rfl, h6, hb6⟩
                have HN6 : Hid (Below w.heap.size w w6 ∧ N ≤ w6.heap.size ∧ BuAt N N ([102, 40] ++ List.intercalate [44] (L.take (q + 1))) w6) := ⟨HR.out.1.trans (hb6.bel.mono HWn.out), Nat.le_trans HR.out.2.1 hb6.bel.size, by rw [HT.out, if_pos hkz]; simpa using h6⟩
                clear h6 hb6
                go_wp2_with fail
                go_roundg (L.length - (q + 1))
                case measure => exact HM.out.1
                case rel => exact ⟨q + 1, HM.out.2, by first | rfl | (rw [hkz]; rfl), HN6⟩
            · have hd : decide ((q : Int) < (L.length : Int)) = false := by simp; omega
              obtain rfl : q = L.length := by omega
              have hil := HIl.out L.length (Nat.le_refl _)
              have h8 := H8.out
              have hWr := HR.out.2.2
              rw [List.take_length] at hWr hil
              have HWr := Lib.hid hWr
              have hil2 : (List.intercalate [44] L).length ≤ 524296 := by omega
              have hrl := HRl.out
              have hap := add_s [41] r (by simp; omega)
              have HL4 : Hid (([102, 40] ++ List.intercalate [44] L).length + ([41] ++ r).length ≤ 140737488355328) := by
                show _ ≤ _
                simp
                omega
              have HBo := Lib.hid (c_bounded (fnCode L r))
              have HE : Hid ((⟨(if (fnCode L r).length ≤ 65536 then fnCode L r else []).toArray⟩ : ByteArray) = ⟨x.toArray⟩ ∧ (if (fnCode L r).length ≤ 65536 then 0 else 3 : Int) = e) := by
                by_cases hh : (fnCode L r).length ≤ 65536
                · have h2 : fcA r L = (fnCode L r, 0) := by
                    unfold fcA
                    rw [if_pos HRs.out, if_pos HAll.out, if_pos h8, if_pos hh]
                  obtain ⟨h3, h4⟩ := Prod.mk.inj (HX.out.symm.trans h2)
                  rw [if_pos hh, if_pos hh, h3, h4]
                  exact ⟨rfl, rfl⟩
                · have h2 : fcA r L = ([], 3) := by
                    unfold fcA
                    rw [if_pos HRs.out, if_pos HAll.out, if_pos h8, if_neg hh]
                  obtain ⟨h3, h4⟩ := Prod.mk.inj (HX.out.symm.trans h2)
                  rw [if_neg hh, if_neg hh, h3, h4]
                  exact ⟨rfl, rfl⟩
              have HBs := Lib.hid (fun w' (h : BuAt N N (fnCode L r) w') => c_BStringB N N (fnCode L r) w' h (by simp [fnCode]))
              have HNw := Lib.hid HR.out.2.1
              clear hWr h8 hil hil2 hrl
              go_wp2_with fail
              refine (c_WriteStringB N N _ ([41] ++ r) _ HWr.out HL4.out HNw.out).mono ?_
              rintro e9 w5 ⟨rfl, h5, hb5⟩
              have HB5 := Lib.hid (HR.out.1.trans (hb5.bel.mono HWn.out))
              have HW5 : Hid (BuAt N N (fnCode L r) w5) := by
                show BuAt _ _ _ _
                have e2 : fnCode L r = [102, 40] ++ List.intercalate [44] L ++ ([41] ++ r) := by simp [fnCode]
                rw [e2]
                exact h5
              clear h5 hb5
              go_wp2_with fail
              refine (HBs.out _ HW5.out).mono ?_
              rintro e9 w6 ⟨rfl, hb6⟩
              have HB6 := Lib.hid (HB5.out.trans (hb6.mono HWn.out))
              clear hb6
              go_wp2_with fail
              refine (HBo.out _).mono ?_
              rintro e9 w7 ⟨rfl, rfl⟩
              rw [HE.out.1, HE.out.2]
              go_wp2_with fail
              go_ret2
              exact ⟨rfl, HB6.out⟩
        · have hd8 : decide ((8 : Int) < (L.length : Int)) = true := by simp; omega
          have h2 : fcA r L = ([], 3) := by
            unfold fcA
            rw [if_pos HRs.out, if_pos HAll.out, if_neg h8]
          obtain ⟨rfl, rfl⟩ := Prod.mk.inj (HX.out.symm.trans h2)
          clear h2
          go_wp2_with fail
          go_ret2
          exact ⟨rfl, HR.out.1⟩
end Go.Proofs.YtacbjhbiaaieoaaGreatDoor
namespace Go.Proofs.YtacbjhbiaaieoaaGreatDoor
set_option linter.unusedVariables false
set_option linter.unusedSimpArgs false
set_option maxRecDepth 100000
open Go.RowKit

set_option maxHeartbeats 4000000 in
theorem c_rDeclare (l x : List UInt8) (w : World) (hm : l.length ≤ 9223372036854775807) (hx : x.length ≤ 9223372036854775807) :
    Calls Tryz.prog 36 #[.string ⟨l.toArray⟩, .string ⟨x.toArray⟩] w fun e w' => e = .returned (.tuple #[.string ⟨(dA l x).1.toArray⟩, .int .i64 (dA l x).2]) ∧ Below w.heap.size w w' := by
  have HF := Lib.hid (c_rForm l w hm)
  rcases ho : tk l with _ | t
  · rw [ho] at HF
    have hd : dA l x = ([], 2) := by unfold dA; rw [ho]
    rw [hd]
    clear ho hd
    go_enter Tryz.func36, Tryz.ntmps36
    go_wp2_with fail
    refine HF.out.mono ?_
    rintro e w2 ⟨rfl, hb⟩
    have HB := Lib.hid hb
    clear hb
    rw [show (none : Option Ty).isSome = false from rfl]
    go_wp2_with fail
    go_ret2
    exact ⟨rfl, HB.out⟩
  · rw [ho] at HF
    obtain ⟨hwf, hlc, hln⟩ := tk_some ho
    have hd : dA l x = if x = [] ∨ nameB x = true then (dcl t x, 0) else ([], 2) := by unfold dA; rw [ho]
    rw [hd]
    have HN := Lib.hid (fun w => c_bName x w hx)
    by_cases hz : x = []
    · subst hz
      rw [if_pos (.inl rfl)]
      have HW := Lib.hid (fun w => c_written t.size t [] w (Nat.le_refl _) hwf (by rw [← hlc]; exact hln) (by rw [← hlc]; simp only [List.length_nil]; omega))
      rw [← hlc] at HW
      clear ho hwf hlc hln hd
      go_enter Tryz.func36, Tryz.ntmps36
      go_wp2_with fail
      refine HF.out.mono ?_
      rintro e w2 ⟨rfl, hb⟩
      have HB := Lib.hid hb
      clear hb
      rw [show (some t).isSome = true from rfl]
      go_wp2_with fail
      refine (HW.out _).mono ?_
      rintro e w3 ⟨rfl, hb3⟩
      have HB3 := Lib.hid (below_on HB.out hb3 HB.out.size)
      clear hb3
      go_wp2_with fail
      go_ret2
      exact ⟨rfl, HB3.out⟩
    · have hxb : (x == []) = false := by simp [hz]
      cases hnm : nameB x
      · rw [hnm] at HN
        rw [if_neg (fun h => h.elim hz (fun h => by cases h))]
        clear ho hwf hlc hln hd hnm
        go_enter Tryz.func36, Tryz.ntmps36
        go_wp2_with fail
        refine HF.out.mono ?_
        rintro e w2 ⟨rfl, hb⟩
        have HB := Lib.hid hb
        clear hb
        rw [show (some t).isSome = true from rfl]
        go_wp2_with fail
        refine (HN.out _).mono ?_
        rintro e w3 ⟨rfl, hb3⟩
        have HB3 := Lib.hid (below_on HB.out hb3 HB.out.size)
        clear hb3
        go_wp2_with fail
        go_ret2
        exact ⟨rfl, HB3.out⟩
      · rw [hnm] at HN
        rw [if_pos (.inr rfl)]
        have hxl : x.length ≤ 31 := (name_all hnm).2.2.2
        have HW := Lib.hid (fun w => c_written t.size t x w (Nat.le_refl _) hwf (by rw [← hlc]; exact hln) (by rw [← hlc]; omega))
        rw [← hlc] at HW
        clear ho hwf hlc hln hd hnm
        go_enter Tryz.func36, Tryz.ntmps36
        go_wp2_with fail
        refine HF.out.mono ?_
        rintro e w2 ⟨rfl, hb⟩
        have HB := Lib.hid hb
        clear hb
        rw [show (some t).isSome = true from rfl]
        go_wp2_with fail
        refine (HN.out _).mono ?_
        rintro e w3 ⟨rfl, hb3⟩
        have HB3 := Lib.hid (below_on HB.out hb3 HB.out.size)
        clear hb3
        go_wp2_with fail
        refine (HW.out _).mono ?_
        rintro e w4 ⟨rfl, hb4⟩
        have HB4 := Lib.hid (below_on HB3.out hb4 HB3.out.size)
        clear hb4
        go_wp2_with fail
        go_ret2
        exact ⟨rfl, HB4.out⟩
theorem fc_form {r : List UInt8} {L : List (List UInt8)} (hr : (tk r).isSome = true) (hL : L.all (fun s => (tk s).isSome) = true) : (tk (fnCode L r)).isSome = decide ((fnCode L r).length ≤ 65536) := by
  obtain ⟨t, ht⟩ := Option.isSome_iff_exists.1 hr
  obtain ⟨hw, hc, _⟩ := tk_some ht
  obtain ⟨ts, e1, e2⟩ := all_codes L hL
  have e3 : fnCode L r = (Ty.fn (Tys.of ts) t).code := by rw [e1, hc, fn_code]
  by_cases h : (fnCode L r).length ≤ 65536
  · rw [e3] at h ⊢
    rw [tk_code (t := .fn (Tys.of ts) t) ⟨of_wf ts e2, hw⟩ h]
    simp [h]
  · unfold tk
    rw [if_neg h]
    simp [h]
set_option maxHeartbeats 8000000 in
theorem c_rFunc (r : List UInt8) (a : Option Addr) (c : Nat) (L : List (List UInt8)) (w : World) (hr : r.length ≤ 9223372036854775807) (hL : ∀ s ∈ L, s.length ≤ 9223372036854775807) (hn : L.length ≤ 9223372036854775807) (hS : StrIn w a L) :
    Calls Tryz.prog 28 #[.string ⟨r.toArray⟩, .slice a L.length c] w fun e w' => e = .returned (.tuple #[.string ⟨(fcA r L).1.toArray⟩, .int .i64 (fcA r L).2]) ∧ Below w.heap.size w w' := by
  have HF := Lib.hid (fun (l : List UInt8) w' (hl : l.length ≤ 9223372036854775807) => c_rForm l w' hl)
  have HS := Lib.hid (fun w' (h : Below w.heap.size w w') => hS.next h)
  have HL := Lib.hid hL
  obtain ⟨x, e, hx⟩ : ∃ x e, fcA r L = (x, e) := ⟨_, _, rfl⟩
  rw [hx]
  have HX := Lib.hid hx
  have HFr := Lib.hid (HF.out r w hr)
  have HLr := Lib.hid hr
  clear hS hL hx
  cases hrs : (tk r).isSome
  · rw [hrs] at HFr
    have h2 : fcA r L = ([], 2) := by unfold fcA; rw [hrs]; rfl
    obtain ⟨rfl, rfl⟩ := Prod.mk.inj (HX.out.symm.trans h2)
    clear hrs h2
    go_enter Tryz.func28, Tryz.ntmps28
    go_wp2_with fail
    refine HFr.out.mono ?_
    rintro e w1 ⟨rfl, hb⟩
    have HB := Lib.hid hb
    clear hb
    go_wp2_with fail
    go_ret2
    exact ⟨rfl, HB.out⟩
  · rw [hrs] at HFr
    have HRs := Lib.hid hrs
    clear hrs
    go_enter Tryz.func28, Tryz.ntmps28
    go_wp2_with fail
    refine HFr.out.mono ?_
    rintro e9 w1 ⟨rfl, hb⟩
    have HB := Lib.hid hb
    clear hb
    go_wp2_with fail
    go_loopg [7] L.length (fun m v7 wr => ∃ q : Nat, q + m = L.length ∧ v7 = .int .i64 (q : Int) ∧ Hid (Below w.heap.size w wr ∧ ∀ j s, j < q → L[j]? = some s → (tk s).isSome = true))
    case atStart => exact ⟨0, by omega, rfl, HB.out, fun j s hj => by omega⟩
    case round =>
      obtain ⟨q, hq, rfl, HR⟩ := hrel
      by_cases hlt : q < L.length
      · have hd : decide ((q : Int) < (L.length : Int)) = true := by simp; omega
        obtain ⟨s, hs⟩ : ∃ s, L[q]? = some s := ⟨_, List.getElem?_eq_getElem hlt⟩
        obtain ⟨b1, o1, ha, hx1⟩ := HS.out wr HR.out.1 (by omega)
        have y1 := hx1 q s hs
        have HFs := Lib.hid (HF.out s wr (HL.out s (List.mem_of_getElem? hs)))
        have HSq := Lib.hid hs
        have hq0 : (0 : Int) ≤ (q : Int) := by omega
        have hql : (q : Int) < (L.length : Int) := by omega
        have hwm : IntKind.i64.wrap ((q : Int) + 1) = ((q + 1 : Nat) : Int) := by rw [IntKind.wrap_i64]; omega
        have HM : Hid (L.length - (q + 1) < gk ∧ q + 1 + (L.length - (q + 1)) = L.length) := ⟨by omega, by omega⟩
        subst ha
        clear hx1 hs
        cases hts : (tk s).isSome
        · rw [hts] at HFs
          have h2 : fcA r L = ([], 2) := by
            unfold fcA
            rw [if_pos HRs.out, if_neg]
            intro h
            have := List.all_eq_true.1 h s (List.mem_of_getElem? HSq.out)
            rw [hts] at this
            cases this
          obtain ⟨rfl, rfl⟩ := Prod.mk.inj (HX.out.symm.trans h2)
          clear h2 hts
          go_wp2_with fail
          refine HFs.out.mono ?_
          rintro e9 w2 ⟨rfl, hb⟩
          have HB2 := Lib.hid (below_on HR.out.1 hb HR.out.1.size)
          clear hb
          go_wp2_with fail
          go_ret2
          exact ⟨rfl, HB2.out⟩
        · rw [hts] at HFs
          have HTs := Lib.hid hts
          clear hts
          go_wp2_with fail
          refine HFs.out.mono ?_
          rintro e9 w2 ⟨rfl, hb⟩
          have HN : Hid (Below w.heap.size w w2 ∧ ∀ j s', j < q + 1 → L[j]? = some s' → (tk s').isSome = true) := ⟨below_on HR.out.1 hb HR.out.1.size, fun j s' hj hs' => by
            by_cases e : j = q
            · subst e
              rw [HSq.out] at hs'
              cases hs'
              exact HTs.out
            · exact HR.out.2 j s' (by omega) hs'⟩
          clear hb
          go_wp2_with fail
          go_roundg (L.length - (q + 1))
          case measure => exact HM.out.1
          case rel => exact ⟨q + 1, HM.out.2, rfl, HN⟩
      · have hd : decide ((q : Int) < (L.length : Int)) = false := by simp; omega
        have HAll : Hid (L.all (fun s => (tk s).isSome) = true) := List.all_eq_true.2 fun s hs => by
          obtain ⟨j, hj, e⟩ := List.getElem_of_mem hs
          exact HR.out.2 j s (by omega) (by rw [List.getElem?_eq_getElem hj, e])
        by_cases h8 : L.length ≤ 8
        · have hd8 : decide ((8 : Int) < (L.length : Int)) = false := by simp; omega
          have H8 := Lib.hid h8
          have HFm := Lib.hid (fc_form HRs.out HAll.out)
          have HFc := Lib.hid (fun w' (hl : (fnCode L r).length ≤ 9223372036854775807) => HF.out (fnCode L r) w' hl)
          rw [HFm.out] at HFc
          have HSm : Hid (∀ s ∈ L, s.length ≤ 65536) := fun s hs => by
            obtain ⟨t, ht⟩ := Option.isSome_iff_exists.1 (List.all_eq_true.1 HAll.out s hs)
            exact (tk_some ht).2.2
          have hrl : r.length ≤ 65536 := by
            obtain ⟨t, ht⟩ := Option.isSome_iff_exists.1 HRs.out
            exact (tk_some ht).2.2
          have HIl := Lib.hid (inter_len HSm.out)
          have HRl := Lib.hid hrl
          clear h8 hrl
          have HBr := Lib.hid HR.out.1
          clear HR HFr
          go_wp2_with fail
          go_loopg [6, 8] L.length (fun m v6 v8 w3 => ∃ q : Nat, q + m = L.length ∧ v8 = .int .i64 (q : Int) ∧ v6 = .string ⟨(102 :: 40 :: List.intercalate [44] (L.take q)).toArray⟩ ∧ Hid (Below w.heap.size w w3))
          case atStart => exact ⟨0, by omega, rfl, by simp [List.intercalate], HBr.out⟩
          case round =>
            obtain ⟨q, hq, rfl, rfl, HR⟩ := hrel
            by_cases hlt : q < L.length
            · have hd : decide ((q : Int) < (L.length : Int)) = true := by simp; omega
              obtain ⟨s, hs⟩ : ∃ s, L[q]? = some s := ⟨_, List.getElem?_eq_getElem hlt⟩
              obtain ⟨b1, o1, ha, hx1⟩ := HS.out _ HR.out (by omega)
              have y1 := hx1 q s hs
              have hT := inter_take hs
              have hsl := HSm.out s (List.mem_of_getElem? hs)
              have hil := HIl.out q (by omega)
              have h8 := H8.out
              have hil2 : (List.intercalate [44] (L.take q)).length ≤ 524296 := by omega
              obtain ⟨I, hI⟩ : ∃ I, List.intercalate [44] (L.take q) = I := ⟨_, rfl⟩
              rw [hI] at hT hil2 ⊢
              have HT := Lib.hid hT
              have hq0 : (0 : Int) ≤ (q : Int) := by omega
              have hql : (q : Int) < (L.length : Int) := by omega
              have hwm : IntKind.i64.wrap ((q : Int) + 1) = ((q + 1 : Nat) : Int) := by rw [IntKind.wrap_i64]; omega
              have HM : Hid (L.length - (q + 1) < gk ∧ q + 1 + (L.length - (q + 1)) = L.length) := ⟨by omega, by omega⟩
              subst ha
              by_cases hqz : q = 0
              · have hz : decide ((0 : Int) < (q : Int)) = false := by simp; omega
                have hzn : decide (0 < q) = false := by simp; omega
                have ha1 := add_s (102 :: 40 :: I) s (by simp; omega)
                have HT2 : Hid (List.intercalate [44] (L.take (q + 1)) = I ++ s) := by show _ = _; rw [HT.out, if_pos hqz]; rfl
                clear hx1 hs hsl hil hil2 h8 hT hI hqz
                go_wp2_with fail
                go_roundg (L.length - (q + 1))
                case measure => exact HM.out.1
                case rel => exact ⟨q + 1, HM.out.2, rfl, by rw [HT2.out], HR⟩
              · have hz : decide ((0 : Int) < (q : Int)) = true := by simp; omega
                have hzn : decide (0 < q) = true := by simp; omega
                have ha1 := add_s (102 :: 40 :: I) [44] (by simp; omega)
                have ha2 := add_s (102 :: 40 :: (I ++ [44])) s (by simp; omega)
                have HT2 : Hid (List.intercalate [44] (L.take (q + 1)) = I ++ 44 :: s) := by show _ = _; rw [HT.out, if_neg hqz]; rfl
                clear hx1 hs hsl hil hil2 h8 hT hI hqz
                go_wp2_with fail
                go_roundg (L.length - (q + 1))
                case measure => exact HM.out.1
                case rel => exact ⟨q + 1, HM.out.2, rfl, by rw [HT2.out], HR⟩
            · have hd : decide ((q : Int) < (L.length : Int)) = false := by simp; omega
              have hqe : q = L.length := by omega
              rw [hqe, List.take_length]
              have hil := HIl.out L.length (Nat.le_refl _)
              rw [List.take_length] at hil
              have h8 := H8.out
              have hrl := HRl.out
              have hfc : fnCode L r = 102 :: 40 :: (List.intercalate [44] L ++ 41 :: r) := rfl
              rw [hfc] at HFc
              have HX2 : Hid (x = (if (102 :: 40 :: (List.intercalate [44] L ++ 41 :: r)).length ≤ 65536 then 102 :: 40 :: (List.intercalate [44] L ++ 41 :: r) else []) ∧ e = (if (102 :: 40 :: (List.intercalate [44] L ++ 41 :: r)).length ≤ 65536 then 0 else 3)) := by
                have h := HX.out
                unfold fcA at h
                rw [if_pos HRs.out, if_pos HAll.out, if_pos H8.out, hfc] at h
                split at h
                · rename_i h1
                  rw [if_pos h1, if_pos h1]
                  exact ⟨(Prod.mk.inj h).1.symm, (Prod.mk.inj h).2.symm⟩
                · rename_i h1
                  rw [if_neg h1, if_neg h1]
                  exact ⟨(Prod.mk.inj h).1.symm, (Prod.mk.inj h).2.symm⟩
              obtain ⟨I, hI⟩ : ∃ I, List.intercalate [44] L = I := ⟨_, rfl⟩
              rw [hI] at hil HFc HX2 ⊢
              have hil2 : I.length ≤ 524296 := by omega
              have ha1 := add_s (102 :: 40 :: I) [41] (by simp; omega)
              have ha2 := add_s (102 :: 40 :: (I ++ [41])) r (by simp; omega)
              have HFc2 := Lib.hid (HFc.out wr (by simp; omega))
              obtain ⟨Y, hY⟩ : ∃ Y, I ++ 41 :: r = Y := ⟨_, rfl⟩
              rw [hY] at HFc2 HX2
              by_cases hle : (102 :: 40 :: Y).length ≤ 65536
              · have hdl : decide ((102 :: 40 :: Y).length ≤ 65536) = true := by simpa using hle
                rw [hdl] at HFc2
                have hx2 := HX2.out
                rw [if_pos hle, if_pos hle] at hx2
                obtain ⟨rfl, rfl⟩ := hx2
                clear HX HX2 hfc HFc HFm hI hil hil2 hrl h8 hqe hle hdl
                go_wp2_with fail
                refine HFc2.out.mono ?_
                rintro e9 w5 ⟨rfl, hb5⟩
                have HB5 := Lib.hid (below_on HR.out hb5 HR.out.size)
                clear hb5
                go_wp2_with fail
                go_ret2
                exact ⟨rfl, HB5.out⟩
              · have hdl : decide ((102 :: 40 :: Y).length ≤ 65536) = false := by simpa using hle
                rw [hdl] at HFc2
                have hx2 := HX2.out
                rw [if_neg hle, if_neg hle] at hx2
                obtain ⟨rfl, rfl⟩ := hx2
                clear HX HX2 hfc HFc HFm hI hil hil2 hrl h8 hqe hle hdl
                go_wp2_with fail
                refine HFc2.out.mono ?_
                rintro e9 w5 ⟨rfl, hb5⟩
                have HB5 := Lib.hid (below_on HR.out hb5 HR.out.size)
                clear hb5
                go_wp2_with fail
                go_ret2
                exact ⟨rfl, HB5.out⟩
        · have hd8 : decide ((8 : Int) < (L.length : Int)) = true := by simp; omega
          have h2 : fcA r L = ([], 3) := by
            unfold fcA
            rw [if_pos HRs.out, if_pos HAll.out, if_neg h8]
          obtain ⟨rfl, rfl⟩ := Prod.mk.inj (HX.out.symm.trans h2)
          clear h2 h8
          go_wp2_with fail
          go_ret2
          exact ⟨rfl, HR.out.1⟩
end Go.Proofs.YtacbjhbiaaieoaaGreatDoor
