/-
  The walk of the law: what a type is taken apart into, and put together of, is as the document says.
-/
import Derived.Test.YtacbjhbiaaieoaaGreatDoorTyLz
import Derived.Test.YtacbjhbiaaieoaaGreatDoorTyDc
import Derived.Test.YtacbjhbiaaieoaaGreatDoorTzRu
import Derived.Test.YtacbjhbiaaieoaaGreatDoorTzRv
import Derived.Laws.AppendOwnNone
namespace Go.Proofs.YtacbjhbiaaieoaaGreatDoor
set_option linter.unusedVariables false
set_option linter.unusedSimpArgs false
set_option maxRecDepth 100000
open Go.RowKit

def exT : Ty := .ptr (.fn (.cons (.base 105) (.cons (.ptr (.base 99)) .nil)) (.base 105))
theorem ex_d : dA [112, 102, 40, 105, 44, 112, 99, 41, 105] [103] = ([105, 110, 116, 32, 40, 42, 103, 41, 40, 105, 110, 116, 44, 32, 99, 104, 97, 114, 32, 42, 41], 0) := by
  have hw : exT.wf := ⟨⟨rfl, rfl, trivial⟩, rfl⟩
  have hk : tk [112, 102, 40, 105, 44, 112, 99, 41, 105] = some exT := tk_code (t := exT) hw (by decide)
  have hn : nameB [103] = true := by unfold nameB wordB keyB; decide +kernel
  unfold dA
  rw [hk]
  simp only
  rw [if_pos (.inr hn)]
  rfl
set_option maxHeartbeats 4000000 in
theorem c_works (B : Nat) (w : World) (hE : Env B w) (hB : B ≤ w.heap.size) :
    Calls Tryz.prog 15 #[] w fun e w' => e = .returned (.bool true) ∧ Below w.heap.size w w' := by
  have HS := Lib.hid (fun w' (hb : Below w.heap.size w w') gs gm cs hcs hX => c_Size B gs gm cs hcs w' (hE.next (hb.mono hB)) (Nat.le_trans hB hb.size) hX)
  have HM := Lib.hid (fun w' (hb : Below w.heap.size w w') gs gm cs hcs hX => c_Member B gs gm cs hcs w' (hE.next (hb.mono hB)) (Nat.le_trans hB hb.size) hX)
  have HD := Lib.hid (fun w' (hb : Below w.heap.size w w') => c_Declare B [112, 102, 40, 105, 44, 112, 99, 41, 105] [103] w' (hE.next (hb.mono hB)) (Nat.le_trans hB hb.size) (by decide) (by decide))
  rw [ex_d] at HD
  clear hE
  go_enter Tryz.func15, Tryz.ntmps15
  go_wp2_with fail
  have HX : Hid (ExAt (w.heap.size + 1) w.heap.size ((w.alloc (.cells #[.string sT1, .string ⟨#[99]⟩, .string sT2, .string ⟨#[105]⟩] 77)).alloc (.cells #[.string sTt, .slice (some ⟨w.heap.size, 0, none⟩) 2 2] 61))) := by
    have h1 : ((w.alloc (.cells #[.string sT1, .string ⟨#[99]⟩, .string sT2, .string ⟨#[105]⟩] 77)).alloc (.cells #[.string sTt, .slice (some ⟨w.heap.size, 0, none⟩) 2 2] 61)).heap[w.heap.size]? = some (.cells #[.string sT1, .string ⟨#[99]⟩, .string sT2, .string ⟨#[105]⟩] 77) := (Below.heap_alloc _ _ _ (by simp)).trans (heap_alloc_new w _)
    have h2 := new2 w (.cells #[.string sT1, .string ⟨#[99]⟩, .string sT2, .string ⟨#[105]⟩] 77) (.cells #[.string sTt, .slice (some ⟨w.heap.size, 0, none⟩) 2 2] 61)
    exact ⟨by rw [Lib.cell_of_heap h2]; rfl, by rw [Lib.cell_of_heap h2]; rfl, by rw [Lib.cell_of_heap h1]; rfl, by rw [Lib.cell_of_heap h1]; rfl, by rw [Lib.cell_of_heap h1]; rfl, by rw [Lib.cell_of_heap h1]; rfl⟩
  have HB2 := Lib.hid ((below_a w (.cells #[.string sT1, .string ⟨#[99]⟩, .string sT2, .string ⟨#[105]⟩] 77)).alloc (by simp) (.cells #[.string sTt, .slice (some ⟨w.heap.size, 0, none⟩) 2 2] 61))
  refine (HS.out _ HB2.out _ _ 1 (Nat.le_refl _) HX.out).mono ?_
  rintro e w3 ⟨rfl, hb⟩
  have HB3 := Lib.hid (below_on HB2.out hb HB2.out.size)
  have HX3 := Lib.hid (HX.out.next hb)
  clear hb HB2 HX HS
  go_wp2_with fail
  refine (HM.out _ HB3.out _ _ 1 (Nat.le_refl _) HX3.out).mono ?_
  rintro e w4 ⟨rfl, hb⟩
  have HB4 := Lib.hid (below_on HB3.out hb HB3.out.size)
  clear hb HB3 HX3 HM
  go_wp2_with fail
  refine (HD.out _ HB4.out).mono ?_
  rintro e w5 ⟨rfl, hb⟩
  have HB5 := Lib.hid (below_on HB4.out hb HB4.out.size)
  clear hb HB4 HD
  go_wp2_with fail
  go_ret
  exact ⟨rfl, HB5.out⟩
end Go.Proofs.YtacbjhbiaaieoaaGreatDoor
namespace Go.Proofs.YtacbjhbiaaieoaaGreatDoor
set_option linter.unusedVariables false
set_option linter.unusedSimpArgs false
set_option maxRecDepth 100000
open Go.RowKit

set_option maxHeartbeats 4000000 in
theorem c_sameL (a1 : Option Addr) (c1 : Nat) (a2 : Option Addr) (c2 : Nat) (L : List (List UInt8)) (w : World) (h1 : StrIn w a1 L) (h2 : StrIn w a2 L) (hl : L.length ≤ 140737488355328) :
    Calls Tryz.prog 26 #[.slice a1 L.length c1, .slice a2 L.length c2] w fun e w' => e = .returned (.bool true) ∧ ∃ n, w' = w.drewN n := by
  have H1 := Lib.hid h1
  have H2 := Lib.hid h2
  obtain ⟨N, hN⟩ : ∃ N, L.length = N := ⟨_, rfl⟩
  have HL := Lib.hid hl
  have HNl := Lib.hid hN
  rw [hN] at HL ⊢
  clear h1 h2 hl hN
  go_enter Tryz.func26, Tryz.ntmps26
  go_wp2_with fail
  go_loopg [13] N (fun m v13 wr => ∃ q : Nat, q + m = N ∧ v13 = .int .i64 (q : Int) ∧ ∃ n, wr = w.drewN n)
  case atStart => exact ⟨0, by omega, rfl, 0, by simp [World.drewN_zero]⟩
  case round =>
    obtain ⟨q, hq, rfl, n, rfl⟩ := hrel
    by_cases hlt : q < N
    · have hd : decide ((q : Int) < (N : Int)) = true := by simp; omega
      obtain ⟨s, hs⟩ : ∃ s, L[q]? = some s := ⟨_, List.getElem?_eq_getElem (by have := HNl.out; omega)⟩
      obtain ⟨b1, o1, hb1, hx1⟩ := H1.out (by have := HNl.out; omega)
      obtain ⟨b2, o2, hb2, hx2⟩ := H2.out (by have := HNl.out; omega)
      subst hb1 hb2
      have y1 := hx1 q s hs
      have y2 := hx2 q s hs
      have hq0 : (0 : Int) ≤ (q : Int) := by omega
      have hql : (q : Int) < (N : Int) := by omega
      have hwm : IntKind.i64.wrap ((q : Int) + 1) = ((q + 1 : Nat) : Int) := by rw [IntKind.wrap_i64]; have := HL.out; omega
      have HM : Hid (N - (q + 1) < gk ∧ q + 1 + (N - (q + 1)) = N) := ⟨by omega, by omega⟩
      clear hs hx1 hx2
      go_wp2_with fail
      go_quiet (fail)
      go_wp2_with fail
      go_roundg (N - (q + 1))
      case measure => exact HM.out.1
      case rel => exact ⟨q + 1, HM.out.2, rfl, _, rfl⟩
    · have hd : decide ((q : Int) < (N : Int)) = false := by simp; omega
      go_wp2_with fail
      go_ret
      exact ⟨rfl, _, rfl⟩
theorem str_of_row {w : World} {base : Nat} {v : Value} {L : List (List UInt8)} (h : w.ownsRow base 22 1 v L.length (tyCs L)) : ∃ a cap, v = .slice a L.length cap ∧ L.length ≤ cap ∧ StrIn w a L := by
  rcases h.2 with ⟨hv, hz⟩ | ⟨g9, cap9, cur9, hv9, hr9⟩
  · subst hv
    exact ⟨none, 0, by rw [hz], by omega, fun h => by omega⟩
  · subst hv9
    refine ⟨_, cap9, rfl, hr9.2.2.1, fun _ => ⟨g9, 0, rfl, fun k s hs => ?_⟩⟩
    have hx := h.cells (g := g9) rfl k (.string ⟨s.toArray⟩) (by
      unfold tyCs
      rw [List.getElem?_map, hs]
      rfl)
    have ea : (⟨g9, 0, none⟩ : Addr).add k = ⟨g9, 0 + k, none⟩ := by unfold Addr.add; split <;> simp_all
    rw [ea] at hx
    exact hx
theorem wp_copyS {w : World} {ops : Array Oper} {rest : List Oper} {o : Oper} {ac : Act} {Q : Exit → Act → World → Prop} (hgd : o.guard = none) (s x : Operand)
    (ho : o.op = .call { callee := .builtin .append, args := #[s, x], argTypes := #[44, 44] })
    (base : Nat) (v : Value) (hs : ac.eval s = v) (hown : w.ownsRow base 22 1 v 0 [])
    (a : Option Addr) (n c : Nat) (L : List (List UInt8)) (hn : L.length = n) (hx : ac.eval x = .slice a n c) (hX : StrIn w a L) (hnil : a = none → n = 0 ∧ c = 0) (hr : n * 16 ≤ 140737488355328) (hbase : base ≤ w.heap.size)
    (h : ∀ a' cap' w', n ≤ cap' → StrIn w' a' L → w.grownBy w' v.ownBlock → wpList Tryz.prog ops Q rest (ac.put o.dst (.slice a' n cap')) w') : wpList Tryz.prog ops Q (o :: rest) ac w := by
  obtain ⟨i0, hi, hz0, hz1, hz2⟩ := info_parts infoType
  subst hn
  cases a with
  | none =>
    obtain ⟨h0, rfl⟩ := hnil rfl
    obtain rfl : L = [] := List.eq_nil_of_length_eq_zero h0
    obtain ⟨a', cap', hv, hc, hI⟩ := str_of_row (L := []) (v := v) (by rw [show tyCs [] = [] from rfl]; exact hown)
    subst hv
    exact wpList_append_own_none hgd s x 44 ho base 22 i0 1 Tryz.underlying44 hi _ 0 [] hs hown hx (h _ _ _ hc hI (World.grownBy.refl _ _))
  | some ad =>
    refine wpList_append_own w hgd s x 44 ho base 22 i0 _ 1 16 Tryz.underlying44 hi hz0 hz1 hz2 rfl (by decide) v 0 [] hs hown ad L.length c (tyCs L) hx (by simp [tyCs]) ?_ (fun u hu => ?_) (by unfold maxLen; omega) (by omega) hbase ?_
    · intro j u hu
      have hj : j < L.length := by
        have := (List.getElem?_eq_some_iff.1 hu).1
        simpa [tyCs] using this
      obtain ⟨b, off, he, hX2⟩ := hX (by omega)
      cases he
      unfold tyCs at hu
      rw [List.getElem?_map] at hu
      obtain ⟨s, hs1, hs2⟩ := Option.map_eq_some_iff.1 hu
      subst hs2
      have ea : (⟨b, off, none⟩ : Addr).add j = ⟨b, off + j, none⟩ := by unfold Addr.add; split <;> simp_all
      rw [ea]
      exact hX2 j s hs1
    · unfold tyCs at hu
      obtain ⟨s, _, rfl⟩ := List.mem_map.1 hu
      rfl
    · intro v' w' hown' hg _
      rw [Nat.zero_add, List.nil_append] at hown'
      obtain ⟨a', cap', hv, hc, hI⟩ := str_of_row hown'
      subst hv
      exact h _ _ _ hc hI hg
set_option maxHeartbeats 8000000 in
theorem c_Parts (B : Nat) (l : List UInt8) (a : Option Addr) (c : Nat) (L : List (List UInt8)) (w : World) (hE : Env B w) (hB : B ≤ w.heap.size) (hl : l.length ≤ 9223372036854775807) (hL : ∀ s ∈ L, s.length ≤ 9223372036854775807) (hnil : a = none → L.length = 0 ∧ c = 0) (hr : L.length * 16 ≤ 140737488355328) (hS : StrIn w a L) :
    Calls Tryz.prog 5 #[.string ⟨l.toArray⟩, .slice a L.length c] w fun e w' => e = .returned (.bool true) ∧ Below w.heap.size w w' := by
  have up : ∀ w', Below w.heap.size w w' → Env B w' ∧ B ≤ w'.heap.size := fun w' h => ⟨hE.next (h.mono hB), Nat.le_trans hB h.size⟩
  obtain ⟨ex, en, ee, he⟩ : ∃ x n e, elA l = (x, n, e) := ⟨_, _, _, rfl⟩
  obtain ⟨sx, sl, se, hs⟩ : ∃ x n e, sgA l = (x, n, e) := ⟨_, _, _, rfl⟩
  obtain ⟨fx, fe, hf⟩ : ∃ x e, fcA l L = (x, e) := ⟨_, _, rfl⟩
  have hsl : sl.length ≤ 65536 := by
    unfold sgA at hs
    cases ho : tk l with
    | none => rw [ho] at hs; cases hs; simp
    | some t =>
      rw [ho] at hs
      obtain ⟨_, hlc, hln⟩ := tk_some ho
      cases t with
      | fn ps r =>
        cases hs
        have h1 := parts_le (.fn ps r)
        have h2 := size_code (.fn ps r)
        have h3 : (ps.list ++ [r]).length ≤ (Ty.fn ps r).size := h1
        rw [← hlc] at h2
        simp at h3 ⊢
        omega
      | base _ => cases hs; simp
      | ptr _ => cases hs; simp
      | arr _ _ => cases hs; simp
      | str _ => cases hs; simp
  have HSl := Lib.hid hsl
  have H1 : Hid (∀ w', Below w.heap.size w w' → Calls Tryz.prog 22 #[.string ⟨l.toArray⟩] w' fun e w'' => e = .returned (.tuple #[.string ⟨ex.toArray⟩, .int .i64 en, .int .i64 ee]) ∧ Below w'.heap.size w' w'') := fun w' h => by
    have h1 := c_ElemA B l w' (up w' h).1 (up w' h).2 hl
    rw [he] at h1; exact h1
  have H2 : Hid (∀ w', Below w.heap.size w w' → Calls Tryz.prog 23 #[.string ⟨l.toArray⟩] w' fun e w'' => e = .returned (.tuple #[.string ⟨ex.toArray⟩, .int .i64 en, .int .i64 ee]) ∧ Below w'.heap.size w' w'') := fun w' h => by
    have h1 := c_rElem l w' hl
    rw [he] at h1; exact h1
  have H3 : Hid (∀ w', Below w.heap.size w w' → Calls Tryz.prog 24 #[.string ⟨l.toArray⟩] w' fun e w'' => (∃ a c, e = .returned (.tuple #[.string ⟨sx.toArray⟩, .slice a sl.length c, .int .i64 se]) ∧ StrIn w'' a sl) ∧ Below w'.heap.size w' w'') := fun w' h => by
    have h1 := c_SignA B l w' (up w' h).1 (up w' h).2 hl
    rw [hs] at h1; exact h1
  have H4 : Hid (∀ w', Below w.heap.size w w' → Calls Tryz.prog 25 #[.string ⟨l.toArray⟩] w' fun e w'' => (∃ a c, e = .returned (.tuple #[.string ⟨sx.toArray⟩, .slice a sl.length c, .int .i64 se]) ∧ StrIn w'' a sl) ∧ Below w'.heap.size w' w'') := fun w' h => by
    have h1 := c_rSign l w' hl
    rw [hs] at h1; exact h1
  have H5 : Hid (∀ w', Below w.heap.size w w' → ∀ a c, StrIn w' a L → Calls Tryz.prog 27 #[.string ⟨l.toArray⟩, .slice a L.length c] w' fun e w'' => e = .returned (.tuple #[.string ⟨fx.toArray⟩, .int .i64 fe]) ∧ Below w'.heap.size w' w'') := fun w' h a c hS' => by
    have h1 := c_Func B l a c L w' (up w' h).1 (up w' h).2 hl hL (by omega) hS' (fun l' w hE hB h => c_Form B l' w hE hB h)
    rw [hf] at h1; exact h1
  have H6 : Hid (∀ w', Below w.heap.size w w' → ∀ a c, StrIn w' a L → Calls Tryz.prog 28 #[.string ⟨l.toArray⟩, .slice a L.length c] w' fun e w'' => e = .returned (.tuple #[.string ⟨fx.toArray⟩, .int .i64 fe]) ∧ Below w'.heap.size w' w'') := fun w' h a c hS' => by
    have h1 := c_rFunc l a c L w' hl hL (by omega) hS'
    rw [hf] at h1; exact h1
  have HW : Hid (∀ w', Below w.heap.size w w' → Calls Tryz.prog 15 #[] w' fun e w'' => e = .returned (.bool true) ∧ Below w'.heap.size w' w'') := fun w' h => c_works B w' (up w' h).1 (up w' h).2
  have HSt := Lib.hid (fun w' (h : Below w.heap.size w w') => hS.next h)
  have HNl := Lib.hid (And.intro hnil hr)
  clear up hE he hs hf hl hL hsl hnil hr hS
  go_enter Tryz.func5, Tryz.ntmps5
  go_wp2_with (at_builtin; refine wp_copyS rfl _ _ rfl w.heap.size (.slice (some ⟨w.heap.size, 0, none⟩) 0 0) rfl ?row a L.length c L rfl rfl ?cs ?cn ?cr ?cb ?_)
  case row => exact ⟨rfl, .inr ⟨w.heap.size, 0, #[], rfl, Nat.le_refl _, heap_alloc_new w _, Nat.le_refl _, Nat.zero_le _, rfl, rfl⟩⟩
  case cs => exact HSt.out _ (below_a _ _)
  case cn => exact HNl.out.1
  case cr => exact HNl.out.2
  case cb => simp
  intro a' cap' w1 hcap hI hg
  have HB1 : Hid (Below w.heap.size w w1) := (below_a w (.cells #[] 22)).grown hg (by simp) (fun k hk => by cases hk; exact Nat.le_refl _)
  have HSk := Lib.hid (fun w' (h : Below w1.heap.size w1 w') => hI.next h)
  clear hI hg
  go_wp2_with fail
  refine (H1.out _ HB1.out).mono ?_
  rintro e w2 ⟨rfl, hb⟩
  have HK2 := Lib.hid hb
  have HB2 := Lib.hid (below_on HB1.out hb HB1.out.size)
  clear hb
  go_wp2_with fail
  refine (H2.out _ HB2.out).mono ?_
  rintro e w3 ⟨rfl, hb⟩
  have HK3 := Lib.hid (below_on HK2.out hb HK2.out.size)
  have HB3 := Lib.hid (below_on HB2.out hb HB2.out.size)
  clear hb
  go_wp2_with fail
  refine (H3.out _ HB3.out).mono ?_
  rintro e w4 ⟨⟨a1, c1, rfl, hst⟩, hb⟩
  have HK4 := Lib.hid (below_on HK3.out hb HK3.out.size)
  have HB4 := Lib.hid (below_on HB3.out hb HB3.out.size)
  have HP := Lib.hid (fun w' (h : Below w4.heap.size w4 w') => hst.next h)
  clear hb hst
  go_wp2_with fail
  refine (H4.out _ HB4.out).mono ?_
  rintro e w5 ⟨⟨a2, c2, rfl, hst⟩, hb⟩
  have HK5 := Lib.hid (below_on HK4.out hb HK4.out.size)
  have HB5 := Lib.hid (below_on HB4.out hb HB4.out.size)
  have HSa := Lib.hid (c_sameL a1 c1 a2 c2 sl w5 (HP.out _ hb) hst (by have := HSl.out; omega))
  clear hb hst
  go_wp2_with fail
  refine HSa.out.mono ?_
  rintro e w6 ⟨rfl, nn, rfl⟩
  have HK6 := Lib.hid (below_drewN HK5.out nn)
  have HB6 := Lib.hid (below_drewN HB5.out nn)
  go_wp2_with fail
  refine (H5.out _ HB6.out _ _ (HSk.out _ HK6.out)).mono ?_
  rintro e w7 ⟨rfl, hb⟩
  have HK7 := Lib.hid (below_on HK6.out hb HK6.out.size)
  have HB7 := Lib.hid (below_on HB6.out hb HB6.out.size)
  clear hb
  go_wp2_with fail
  refine (H6.out _ HB7.out _ _ (HSt.out _ HB7.out)).mono ?_
  rintro e w8 ⟨rfl, hb⟩
  have HK8 := Lib.hid (below_on HK7.out hb HK7.out.size)
  have HB8 := Lib.hid (below_on HB7.out hb HB7.out.size)
  clear hb
  go_wp2_with fail
  refine (c_sameL a' cap' a c L w8 (HSk.out _ HK8.out) (HSt.out _ HB8.out) (by have := HNl.out.2; omega)).mono ?_
  rintro e w9 ⟨rfl, n2, rfl⟩
  have HB9 := Lib.hid (below_drewN HB8.out n2)
  go_wp2_with fail
  refine (HW.out _ HB9.out).mono ?_
  rintro e wa ⟨rfl, hb⟩
  have HBa := Lib.hid (below_on HB9.out hb HB9.out.size)
  clear hb
  go_wp2_with fail
  go_ret
  exact ⟨rfl, HBa.out⟩
end Go.Proofs.YtacbjhbiaaieoaaGreatDoor
