/-
  The walk of the law: what a type is taken apart into, and put together of, is as the document says.
-/
import Derived.Test.YtiodghbhllfhlaaGreatDoorZTyLz
import Derived.Test.YtiodghbhllfhlaaGreatDoorZTyRv
import Derived.Test.YtiodghbhllfhlaaGreatDoorZTyK1
import Derived.Laws.AppendOwnNone
namespace Go.Proofs.YtiodghbhllfhlaaGreatDoor
set_option linter.unusedVariables false
set_option linter.unusedSimpArgs false
set_option maxRecDepth 100000
open Go.RowKit

def exT : Ty := .ptr (.fn (.cons (.base 105) (.cons (.ptr (.base 99)) .nil)) (.base 105))
theorem ex_d : dA [112, 102, 40, 105, 44, 112, 99, 41, 105] [103] = ([105, 110, 116, 32, 40, 42, 103, 41, 40, 105, 110, 116, 44, 32, 99, 104, 97, 114, 32, 42, 41], 0) := by
  have hw : exT.wf := ⟨⟨rfl, rfl, trivial⟩, rfl⟩
  have hk : tk [112, 102, 40, 105, 44, 112, 99, 41, 105] = some exT := tk_code (t := exT) hw (by decide)
  have hn : nameB [103] = true := by unfold nameB wordB keyB; decide +kernel
  unfold dA
  rw [hk]
  simp only
  rw [if_pos (.inr hn)]
  rfl
end Go.Proofs.YtiodghbhllfhlaaGreatDoor
namespace Go.Proofs.YtiodghbhllfhlaaGreatDoor
set_option linter.unusedVariables false
set_option linter.unusedSimpArgs false
set_option maxRecDepth 100000
open Go.RowKit

theorem liesBuilder : liesAt Tryz.prog Tryz.prog.depth 64 (2 / Tryz.prog.cellsOf 64) 0 64 1 = true := by kernel_rfl
abbrev BuAt (B b : Nat) (l : List UInt8) (w : World) : Prop := Lib.IsBuilder 64 5 B b (Lib.byteCells l) w
theorem BuAt.used {B b : Nat} {l : List UInt8} {w : World} (h : Lib.BuilderAt 64 5 B b (.pointer (some ⟨b, 0, none⟩)) (Lib.byteCells l) w) : BuAt B b l w := Or.inr h
set_option maxHeartbeats 1000000 in
theorem c_copyCheckB (B b : Nat) (bs : List Value) (w : World) (h : Lib.IsBuilder 64 5 B b bs w) :
    Calls Tryz.prog 79 #[.pointer (some ⟨b, 0, none⟩)] w fun e w' => e = .returned (.tuple #[]) ∧ (Lib.BuilderAt 64 5 B b (.pointer (some ⟨b, 0, none⟩)) bs w' ∧ FrB B b w w') := by
  obtain ⟨j, hj, hjs⟩ := Option.map_eq_some_iff.1 sizeBuilder
  rcases h with h | h
  · have h0 := h.cell0
    have hsh := h.shape
    have hfz := h.frozen0
    have HH := Lib.hid h
    clear h
    go_enter Tryz.func79, Tryz.ntmps79
    go_wp2
    rw [Lib.run_to_unsafe w ⟨b, 0, none⟩ Tryz.underlying61 Tryz.underlying148 hj (by rw [hjs]; decide) hsh (Nat.zero_lt_succ 1)]
    simp only [Result.andThen]
    rw [Oper.upon_value]
    go_wp2
    rw [run_callFunc_extern Tryz.func89 (by kernel_rfl) (by kernel_rfl) (by kernel_rfl) (e := Extern.AbiNoEscape.same) (by kernel_rfl)]
    rw [Lib.run_noEscape]
    simp only [Result.andThen]
    rw [Oper.upon_value]
    go_wp2
    rw [Lib.run_from_unsafe w ⟨b, 0, none⟩ Tryz.underlying148 Tryz.underlying61 hj hsh liesBuilder]
    simp only [Result.andThen]
    rw [Oper.upon_value]
    go_wp2
    go_end0
    exact ⟨rfl, HH.out.used _, (Below.refl B w).setCell (p := ⟨b, 0, none⟩) HH.out.1 _, (Lib.OthersKept.refl _ _ w).setCell ⟨b, 0, none⟩ rfl _⟩
  · have h0 := h.cell0
    have HH := Lib.hid h
    clear h
    go_enter Tryz.func79, Tryz.ntmps79
    go_wp2
    rw [Lib.run_neq_ptr_same w _ Tryz.underlying61 hj]
    go_wp2
    go_end0
    exact ⟨rfl, HH.out, FrB.refl _ _ _⟩

set_option maxHeartbeats 2000000 in
theorem c_WriteStringB (B b : Nat) (l s : List UInt8) (w : World) (h : BuAt B b l w) (hlen : l.length + s.length ≤ 140737488355328) (hBw : B ≤ w.heap.size) :
    Calls Tryz.prog 70 #[.pointer (some ⟨b, 0, none⟩), .string ⟨s.toArray⟩] w fun e w' => e = .returned (.tuple #[.int .i64 s.length, .nilIface]) ∧ BuAt B b (l ++ s) w' ∧ FrB B b w w' := by
  obtain ⟨i0, hi, hz0, hz1, hz2⟩ := info_parts infoByte
  have HL : Hid ((Lib.byteCells l).length = l.length) := Lib.byteCells_length l
  go_enter Tryz.func70, Tryz.ntmps70
  go_wp2_with (go_at_call 79; refine (c_copyCheckB B b _ _ h).mono ?_)
  rintro e w1 ⟨rfl, h1, hfr⟩
  obtain ⟨hb1, hk1⟩ := hfr
  obtain ⟨hB, v, hbk, hown, hne⟩ := h1
  have c0 : w1.cell? ⟨b, 0, none⟩ = some (.pointer (some ⟨b, 0, none⟩)) := by rw [Lib.cell_of_heap hbk]; rfl
  have c1 : w1.cell? ⟨b, 1, none⟩ = some v := by rw [Lib.cell_of_heap hbk]; rfl
  have HS : Hid ((⟨s.toArray⟩ : ByteArray).size = s.length) := by show s.toArray.size = _; simp
  go_wp2_with (at_builtin; refine Lib.wpList_append_own_string _ rfl _ _ 62 9 rfl B 5 i0 Tryz.underlying62 Tryz.underlying9 hi hz0 hz1 hz2 _ _ _ rfl hown ⟨s.toArray⟩ rfl ?c3 ?c4 ?c5 ?_)
  case c3 => rw [HL.out, HS.out]; unfold maxLen; omega
  case c4 => rw [HL.out, HS.out]; omega
  case c5 => have := hb1.size; omega
  intro v' w2 hown' hgrow _
  have hlt : b < w1.heap.size := by
    rcases Nat.lt_or_ge b w1.heap.size with h' | h'
    · exact h'
    · simp [Array.getElem?_eq_none h'] at hbk
  have hb2 : w2.heap[b]? = some (.cells #[.pointer (some ⟨b, 0, none⟩), v] 64 (0, 0)) := by
    rw [hgrow.block b hlt (fun e => hne e.symm)]
    exact hbk
  have d0 : w2.cell? ⟨b, 0, none⟩ = some (.pointer (some ⟨b, 0, none⟩)) := by rw [Lib.cell_of_heap hb2]; rfl
  have d1 : w2.cell? ⟨b, 1, none⟩ = some v := by rw [Lib.cell_of_heap hb2]; rfl
  have f1 : w2.frozen? ⟨b, 1, none⟩ = false := Lib.frozen_of_heap hb2 1
  obtain ⟨ao, n', cap, rfl⟩ : ∃ ao n' cap, v' = .slice ao n' cap := by
    rcases hown'.2 with ⟨hv, _⟩ | ⟨g, cap, cur, hv, _⟩
    · exact ⟨_, _, _, hv⟩
    · exact ⟨_, _, _, hv⟩
  go_wp2
  go_ret2
  refine ⟨rfl, BuAt.used ?_, ?_, (hk1.grown hgrow (Lib.ownsRow_kind hown)).setCell ⟨b, 1, none⟩ rfl _⟩
  · refine Lib.BuilderAt.put (T := 64) (e := 5) hB hb2 (bs' := Lib.byteCells (l ++ s)) ?_ (by decide)
    have e : Lib.byteCells (l ++ s) = Lib.byteCells l ++ Lib.strCells ⟨s.toArray⟩ := by rw [Lib.byteCells_append]; rfl
    rw [e]
    have e2 : (Lib.byteCells l ++ Lib.strCells ⟨s.toArray⟩).length = (Lib.byteCells l).length + (⟨s.toArray⟩ : ByteArray).size := by rw [List.length_append, Lib.strCells_length]
    rw [e2]
    exact hown'
  · exact (hb1.grown hgrow (by have := hb1.size; omega) (fun k hk => (hown.lt k hk).1)).setCell (p := ⟨b, 1, none⟩) hB _

set_option maxHeartbeats 1000000 in
theorem c_BStringB (B b : Nat) (l : List UInt8) (w : World) (h : BuAt B b l w) (h0 : l ≠ []) :
    Calls Tryz.prog 26 #[.pointer (some ⟨b, 0, none⟩)] w fun e w' => e = .returned (.string ⟨l.toArray⟩) ∧ Below B w w' := by
  obtain ⟨p, hB, v, hbk, hown, hne⟩ : ∃ p, Lib.BuilderAt 64 5 B b p (Lib.byteCells l) w := by
    rcases h with h | h
    · exact ⟨_, h⟩
    · exact ⟨_, h⟩
  have hl0 : l.length ≠ 0 := by simpa using h0
  rw [Lib.byteCells_length] at hown
  obtain ⟨g, cap, cur, rfl, hbg, hg, hnc, hcm, hcs, htake⟩ : ∃ g cap cur, v = .slice (some ⟨g, 0, none⟩) l.length cap ∧ B ≤ g ∧ w.heap[g]? = some (.cells cur 5 (0, 0)) ∧ l.length ≤ cap ∧ cap ≤ maxLen ∧ cur.size = cap * 1 ∧ cur.toList.take (l.length * 1) = Lib.byteCells l := by
    rcases hown.2 with ⟨_, hz⟩ | ⟨g, cap, cur, hv, r⟩
    · exact absurd hz hl0
    · exact ⟨g, cap, cur, hv, r⟩
  have c1 : w.drew.cell? ⟨b, 1, none⟩ = some (.slice (some ⟨g, 0, none⟩) l.length cap) := by
    have : w.drew.heap[b]? = some (.cells #[p, .slice (some ⟨g, 0, none⟩) l.length cap] 64 (0, 0)) := hbk
    rw [Lib.cell_of_heap this]; rfl
  have hSD : (Builtin.unsafeSliceData_ #[62] 84 #[.slice (some ⟨g, 0, none⟩) l.length cap]).run Tryz.prog w.drew = .ok (.pointer (some ⟨g, 0, none⟩)) w.drew :=
    Lib.run_unsafeSliceData_row _ _ _ _ _ _ (by omega)
  have hUS : (Builtin.unsafeString_ #[84, 3] 9 #[.pointer (some ⟨g, 0, none⟩), .int .i64 l.length]).run Tryz.prog w.drew = .ok (.string ⟨l.toArray⟩) (w.drew.freeze ⟨g, 0, none⟩ l.length) := by
    refine Lib.run_unsafeString_row w.drew 84 3 9 5 Tryz.underlying84 cellsByte g cur.size (by have hg' : w.drew.heap[g]? = some (.cells cur 5 (0, 0)) := hg; simp [World.shape?, hg']) l h0 (by omega) (by unfold maxLen at hcm; omega) ?_
    intro j x hx
    have := hown.cells (g := g) rfl j (.int .u8 x.toNat) (by simp [Lib.byteCells, hx])
    exact this
  have HBg := Lib.hid hbg
  clear hne hown hg hnc hcm hcs htake hbg h h0 hl0 hbk
  go_enter Tryz.func26, Tryz.ntmps26
  go_wp2
  go_region
  all_goals (go_wp2; go_ret; exact ⟨rfl, Lib.below_freeze (Below.drew (Below.refl B w)) (p := ⟨g, 0, none⟩) HBg.out _⟩)
end Go.Proofs.YtiodghbhllfhlaaGreatDoor
namespace Go.Proofs.YtiodghbhllfhlaaGreatDoor
set_option linter.unusedVariables false
set_option linter.unusedSimpArgs false
set_option maxRecDepth 100000
open Go.RowKit

def fcA (r : List UInt8) (L : List (List UInt8)) : List UInt8 × Int :=
  if (tk r).isSome = true then if L.all (fun s => (tk s).isSome) = true then if L.length ≤ 8 then if (fnCode L r).length ≤ 65536 then (fnCode L r, 0) else ([], 3) else ([], 3) else ([], 2) else ([], 2)
theorem all_codes : ∀ (L : List (List UInt8)), L.all (fun s => (tk s).isSome) = true → ∃ ts : List Ty, L = ts.map Ty.code ∧ ∀ t ∈ ts, t.wf
  | [], _ => ⟨[], rfl, fun t h => by cases h⟩
  | s :: L, h => by
    rw [List.all_cons, Bool.and_eq_true] at h
    obtain ⟨t, ht⟩ := Option.isSome_iff_exists.1 h.1
    obtain ⟨ts, h1, h2⟩ := all_codes L h.2
    obtain ⟨hw, hc, _⟩ := tk_some ht
    exact ⟨t :: ts, by rw [List.map_cons, ← h1, ← hc], fun u hu => by
      rcases List.mem_cons.1 hu with rfl | hu
      · exact hw
      · exact h2 u hu⟩
theorem fc_ok {r x : List UInt8} {L : List (List UInt8)} (h : fcA r L = (x, 0)) : ∃ (ts : List Ty) (t : Ty), L = ts.map Ty.code ∧ r = t.code ∧ tk x = some (.fn (Tys.of ts) t) ∧ L.length ≤ 8 := by
  unfold fcA at h
  split at h
  · rename_i h1
    split at h
    · rename_i h2
      split at h
      · rename_i h3
        split at h
        · rename_i h4
          obtain ⟨t, ht⟩ := Option.isSome_iff_exists.1 h1
          obtain ⟨hw, hc, _⟩ := tk_some ht
          obtain ⟨ts, e1, e2⟩ := all_codes L h2
          have hx : fnCode L r = x := (Prod.mk.inj h).1
          have e3 : fnCode L r = (Ty.fn (Tys.of ts) t).code := by rw [e1, hc, fn_code]
          refine ⟨ts, t, e1, hc, ?_, h3⟩
          rw [← hx, e3]
          exact tk_code (t := .fn (Tys.of ts) t) ⟨of_wf ts e2, hw⟩ (by rw [← e3]; exact h4)
        · cases h
      · cases h
    · cases h
  · cases h
theorem fc_err {r : List UInt8} {L : List (List UInt8)} (h : (fcA r L).2 ≠ 0) : (fcA r L).1 = [] := by
  unfold fcA at h ⊢
  split
  · rename_i h1
    rw [if_pos h1] at h
    split
    · rename_i h2
      rw [if_pos h2] at h
      split
      · rename_i h3
        rw [if_pos h3] at h
        split
        · rename_i h4
          rw [if_pos h4] at h
          exact absurd rfl h
        · rfl
      · rfl
    · rfl
  · rfl
theorem inter_snoc (x : List UInt8) : ∀ (l : List (List UInt8)), List.intercalate [44] (l ++ [x]) = List.intercalate [44] l ++ ((if l = [] then [] else [44]) ++ x)
  | [] => by simp [List.intercalate]
  | [a] => by simp [List.intercalate]
  | a :: b :: l => by
    have ih := inter_snoc x (b :: l)
    have e : ∀ m : List (List UInt8), List.intercalate [44] (a :: b :: m) = a ++ (44 :: List.intercalate [44] (b :: m)) := fun m => by simp [List.intercalate]
    rw [List.cons_append, List.cons_append, e, e, ← List.cons_append, ih]
    simp
theorem inter_take {L : List (List UInt8)} {k : Nat} {s : List UInt8} (h : L[k]? = some s) : List.intercalate [44] (L.take (k + 1)) = List.intercalate [44] (L.take k) ++ ((if k = 0 then [] else [44]) ++ s) := by
  have hk := (List.getElem?_eq_some_iff.1 h).1
  rw [List.take_succ_eq_append_getElem hk, (List.getElem?_eq_some_iff.1 h).2, inter_snoc]
  have hz : (L.take k = []) = (k = 0) := by
    apply propext
    constructor
    · intro e
      have := congrArg List.length e
      rw [List.length_take, List.length_nil] at this
      omega
    · rintro rfl
      rfl
  simp only [hz]
theorem inter_len {L : List (List UInt8)} (hL : ∀ s ∈ L, s.length ≤ 65536) : ∀ k, k ≤ L.length → (List.intercalate [44] (L.take k)).length ≤ k * 65537
  | 0, _ => by simp [List.intercalate]
  | k + 1, h => by
    have ih := inter_len hL k (by omega)
    have hk : L[k]? = some (L[k]'(by omega)) := List.getElem?_eq_getElem (by omega)
    rw [inter_take hk]
    have h1 := hL (L[k]'(by omega)) (List.getElem_mem ..)
    have h2 : (if k = 0 then [] else [44] : List UInt8).length ≤ 1 := by split <;> simp
    simp only [List.length_append]
    omega
end Go.Proofs.YtiodghbhllfhlaaGreatDoor
namespace Go.Proofs.YtiodghbhllfhlaaGreatDoor
set_option linter.unusedVariables false
set_option linter.unusedSimpArgs false
set_option maxRecDepth 100000
open Go.RowKit

theorem fc_form {r : List UInt8} {L : List (List UInt8)} (hr : (tk r).isSome = true) (hL : L.all (fun s => (tk s).isSome) = true) : (tk (fnCode L r)).isSome = decide ((fnCode L r).length ≤ 65536) := by
  obtain ⟨t, ht⟩ := Option.isSome_iff_exists.1 hr
  obtain ⟨hw, hc, _⟩ := tk_some ht
  obtain ⟨ts, e1, e2⟩ := all_codes L hL
  have e3 : fnCode L r = (Ty.fn (Tys.of ts) t).code := by rw [e1, hc, fn_code]
  by_cases h : (fnCode L r).length ≤ 65536
  · rw [e3] at h ⊢
    rw [tk_code (t := .fn (Tys.of ts) t) ⟨of_wf ts e2, hw⟩ h]
    simp [h]
  · unfold tk
    rw [if_neg h]
    simp [h]
end Go.Proofs.YtiodghbhllfhlaaGreatDoor
namespace Go.Proofs.YtiodghbhllfhlaaGreatDoor
set_option linter.unusedVariables false
set_option linter.unusedSimpArgs false
set_option maxRecDepth 100000
open Go.RowKit

theorem str_of_row {w : World} {base : Nat} {v : Value} {L : List (List UInt8)} (h : w.ownsRow base 39 1 v L.length (tyCs L)) : ∃ a cap, v = .slice a L.length cap ∧ L.length ≤ cap ∧ StrIn w a L := by
  rcases h.2 with ⟨hv, hz⟩ | ⟨g9, cap9, cur9, hv9, hr9⟩
  · subst hv
    exact ⟨none, 0, by rw [hz], by omega, fun h => by omega⟩
  · subst hv9
    refine ⟨_, cap9, rfl, hr9.2.2.1, fun _ => ⟨g9, 0, rfl, fun k s hs => ?_⟩⟩
    have hx := h.cells (g := g9) rfl k (.string ⟨s.toArray⟩) (by
      unfold tyCs
      rw [List.getElem?_map, hs]
      rfl)
    have ea : (⟨g9, 0, none⟩ : Addr).add k = ⟨g9, 0 + k, none⟩ := by unfold Addr.add; split <;> simp_all
    rw [ea] at hx
    exact hx
theorem wp_copyS {w : World} {ops : Array Oper} {rest : List Oper} {o : Oper} {ac : Act} {Q : Exit → Act → World → Prop} (hgd : o.guard = none) (s x : Operand)
    (ho : o.op = .call { callee := .builtin .append, args := #[s, x], argTypes := #[145, 145] })
    (base : Nat) (v : Value) (hs : ac.eval s = v) (hown : w.ownsRow base 39 1 v 0 [])
    (a : Option Addr) (n c : Nat) (L : List (List UInt8)) (hn : L.length = n) (hx : ac.eval x = .slice a n c) (hX : StrIn w a L) (hnil : a = none → n = 0 ∧ c = 0) (hr : n * 16 ≤ 140737488355328) (hbase : base ≤ w.heap.size)
    (h : ∀ a' cap' w', n ≤ cap' → StrIn w' a' L → w.grownBy w' v.ownBlock → wpList Tryz.prog ops Q rest (ac.put o.dst (.slice a' n cap')) w') : wpList Tryz.prog ops Q (o :: rest) ac w := by
  obtain ⟨i0, hi, hz0, hz1, hz2⟩ := info_parts infoType
  subst hn
  cases a with
  | none =>
    obtain ⟨h0, rfl⟩ := hnil rfl
    obtain rfl : L = [] := List.eq_nil_of_length_eq_zero h0
    obtain ⟨a', cap', hv, hc, hI⟩ := str_of_row (L := []) (v := v) (by rw [show tyCs [] = [] from rfl]; exact hown)
    subst hv
    exact wpList_append_own_none hgd s x 145 ho base 39 i0 1 Tryz.underlying145 hi _ 0 [] hs hown hx (h _ _ _ hc hI (World.grownBy.refl _ _))
  | some ad =>
    refine wpList_append_own w hgd s x 145 ho base 39 i0 _ 1 16 Tryz.underlying145 hi hz0 hz1 hz2 rfl (by decide) v 0 [] hs hown ad L.length c (tyCs L) hx (by simp [tyCs]) ?_ (fun u hu => ?_) (by unfold maxLen; omega) (by omega) hbase ?_
    · intro j u hu
      have hj : j < L.length := by
        have := (List.getElem?_eq_some_iff.1 hu).1
        simpa [tyCs] using this
      obtain ⟨b, off, he, hX2⟩ := hX (by omega)
      cases he
      unfold tyCs at hu
      rw [List.getElem?_map] at hu
      obtain ⟨s, hs1, hs2⟩ := Option.map_eq_some_iff.1 hu
      subst hs2
      have ea : (⟨b, off, none⟩ : Addr).add j = ⟨b, off + j, none⟩ := by unfold Addr.add; split <;> simp_all
      rw [ea]
      exact hX2 j s hs1
    · unfold tyCs at hu
      obtain ⟨s, _, rfl⟩ := List.mem_map.1 hu
      rfl
    · intro v' w' hown' hg _
      rw [Nat.zero_add, List.nil_append] at hown'
      obtain ⟨a', cap', hv, hc, hI⟩ := str_of_row hown'
      subst hv
      exact h _ _ _ hc hI hg
end Go.Proofs.YtiodghbhllfhlaaGreatDoor
