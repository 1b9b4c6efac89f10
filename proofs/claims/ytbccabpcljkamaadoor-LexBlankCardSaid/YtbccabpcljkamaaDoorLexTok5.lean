/-
  The contracts of Itoa, and of a number and a token that are put, in the code.
-/
import Derived.Test.YtbccabpcljkamaaDoorLexTok4
import Derived.Shelf.Strconv.Itoa3
import Derived.Lib.SmallJoins
namespace Go.Proofs.YtbccabpcljkamaaDoor
set_option linter.unusedVariables false
set_option linter.unusedSimpArgs false
set_option maxRecDepth 100000
open Go.RowKit

/-- The library's table of powers of ten holds them. -/
def PwH (w : World) : Prop := ∃ T fr, w.heap[2]? = some (.cells (Lib.pow10Tab.map fun z => Value.int .u64 z).toArray T fr)
theorem PwH.next {N : Nat} {w w' : World} (h : PwH w) (hb : Below N w w') (hN : N = w.heap.size) : PwH w' := by
  subst hN
  obtain ⟨T, fr, h1⟩ := h
  exact ⟨T, fr, (hb.block _ (Array.getElem?_eq_some_iff.1 h1).1).trans h1⟩
theorem below_grow {B : Nat} {w w' : World} (h : Below B w w') (os : Array Obj) (hB : B ≤ w'.heap.size) : Below B w (Go.Sort.grow w' os) :=
  h.trans ⟨rfl, rfl, rfl, by simp [Go.Sort.grow], fun j hj => by
    show (w'.heap ++ os)[j]? = w'.heap[j]?
    rw [Array.getElem?_append_left (by omega)]⟩
theorem tab_of {w : World} (h : PwH w) : ∀ nm, Tryd.prog.globalNamed nm = some 2 → Lib.TabIs Tryd.prog w nm .u64 Lib.pow10Tab := by
  intro nm hn
  obtain ⟨T, fr, h1⟩ := h
  unfold Lib.TabIs World.var?
  rw [hn]
  simp only [Option.bind_some]
  rw [h1]
theorem c_Itoa (n : Int) (w : World) (h0 : -9223372036854775808 ≤ n) (h1 : n ≤ 9223372036854775807) (ht : PwH w) :
    Calls Tryd.prog 39 #[.int .i64 n] w fun e w' => e = .returned (.string ⟨(Lib.itoa n).toArray⟩) ∧ Below w.heap.size w w' :=
  (Any.strconv_Itoa Tryd.laysM171 n h0 h1 w (tab_of ht _ (by kernel_rfl))).mono fun e w' ⟨he, k, os, hw⟩ => ⟨he, by
    rw [hw]
    have hb := below_drewN (Below.refl w.heap.size w) k
    exact below_grow hb os hb.size⟩
theorem bAt_next {T e : TypeId} {B b : Nat} {p : Value} {bs : List Value} {w w' : World} (h : Lib.BuilderAt T e B b p bs w) (hb : Below w.heap.size w w') : Lib.BuilderAt T e B b p bs w' := by
  have hlt := h.lt
  obtain ⟨hB, v, hbk, hown, hne⟩ := h
  exact ⟨hB, v, (hb.block b hlt).trans hbk, own_below hown hb, hne⟩
theorem WrAt.next {B b : Nat} {l : List UInt8} {w w' : World} (h : WrAt B b l w) (hb : Below w.heap.size w w') : WrAt B b l w' := by
  rcases h with h | h
  · exact .inl (bAt_next h hb)
  · exact .inr (bAt_next h hb)
theorem dec_len : ∀ (d m : Nat), m < 10 ^ (d + 1) → (Lib.decDigits m).length ≤ d + 1
  | 0, m, h => by
    rw [Lib.decDigits, dif_pos (by simpa using h)]
    simp
  | d + 1, m, h => by
    by_cases h10 : m < 10
    · rw [Lib.decDigits, dif_pos h10]; simp
    · rw [Lib.decDigits, dif_neg h10]
      have := dec_len d (m / 10) (by rw [Nat.pow_succ] at h; omega)
      simp
      omega
theorem itoa_len (n : Int) (h0 : 0 ≤ n) (h1 : n ≤ 4294967295) : (Lib.itoa n).length ≤ 10 := by
  unfold Lib.itoa
  rw [if_neg (by omega)]
  exact dec_len 9 n.toNat (by omega)
theorem wrd_neg (n : Int) (l : List UInt8) (h : n < 0) : wrdL 3 n l = quoL 39 [UInt8.ofNat (n % 256).toNat] := by unfold wrdL; rw [if_pos rfl, if_pos h]
theorem wrd_u (n : Int) (l : List UInt8) (h : ¬ n < 0) (h2 : l = [117] ∧ n < 2147483648) : wrdL 3 n l = Lib.itoa n ++ [117] := by unfold wrdL; rw [if_pos rfl, if_neg h, if_pos h2]
theorem wrd_i (n : Int) (l : List UInt8) (h : ¬ n < 0) (h2 : ¬ (l = [117] ∧ n < 2147483648)) : wrdL 3 n l = Lib.itoa n := by unfold wrdL; rw [if_pos rfl, if_neg h, if_neg h2]
theorem wrd_s (n : Int) (l : List UInt8) : wrdL 4 n l = quoL 34 l := by unfold wrdL; rw [if_neg (by decide), if_pos rfl]
theorem wrd_o (k n : Int) (l : List UInt8) (h3 : k ≠ 3) (h4 : k ≠ 4) : wrdL k n l = l := by unfold wrdL; rw [if_neg h3, if_neg h4]
set_option maxHeartbeats 2000000 in
theorem c_number (B b : Nat) (x : List UInt8) (k a n : Int) (l : List UInt8) (w : World) (hP : PwH w) (h : WrAt B b x w) (hlen : x.length + 20 ≤ 140737488355328) (hBw : B ≤ w.heap.size) (h0 : -128 ≤ n) (h1 : n ≤ 4294967295) :
    Calls Tryd.prog 25 #[.pointer (some ⟨b, 0, none⟩), .agg #[.int .i64 k, .int .i64 a, .int .i64 n, .string ⟨l.toArray⟩]] w fun e w' => e = .returned (.tuple #[]) ∧ WrAt B b (x ++ wrdL 3 n l) w' ∧ FrB B b w w' := by
  have HW := Lib.hid h
  have HP := Lib.hid hP
  have HB := Lib.hid hBw
  clear h hP
  by_cases hn : n < 0
  · have HV : Hid (wrdL 3 n l = quoL 39 [UInt8.ofNat (n % 256).toNat]) := wrd_neg n l hn
    obtain ⟨c, hc⟩ : ∃ c, UInt8.ofNat (n % 256).toNat = c := ⟨_, rfl⟩
    have hcI : (c.toNat : Int) = n % 256 := by rw [← hc, UInt8.toNat_ofNat']; omega
    obtain ⟨cI, hcI2⟩ : ∃ cI : Int, n % 256 = cI := ⟨_, rfl⟩
    rw [hcI2] at hcI
    have HC := Lib.hid hcI
    have hql := quoL_len 39 [c]
    rw [hc] at HV
    obtain ⟨q, hq⟩ : ∃ q, quoL 39 [c] = q := ⟨_, rfl⟩
    have HCh : Hid (∀ w, Calls Tryd.prog 38 #[.int .u8 cI] w fun e w' => e = .returned (.string ⟨q.toArray⟩) ∧ Below w.heap.size w w') := fun w => by rw [← hq]; exact c_Char c cI HC.out w
    rw [hq] at HV hql
    have hwr : IntKind.u8.wrap n = cI := by rw [← hcI2]; simp [IntKind.wrap, IntKind.signed, IntKind.bits]
    simp only [List.length_cons, List.length_nil] at hql
    clear hc hcI hq
    go_enter Tryd.func25, Tryd.ntmps25
    go_wp2_with fail
    have HN : Hid (∀ o w3, Below ((w.alloc o).drew).heap.size ((w.alloc o).drew) w3 → WrAt B b x w3 ∧ B ≤ w3.heap.size ∧ FrB B b w w3) := fun o w3 hb => by
      have h2 : WrAt B b x (w.alloc o).drew := HW.out.alloc o
      have hb0 : FrB B b w (w.alloc o).drew := ((FrB.refl B b w).alloc HB.out o).drew
      have hs : B ≤ ((w.alloc o).drew).heap.size := Nat.le_trans HB.out hb0.size
      exact ⟨h2.next hb, Nat.le_trans hs hb.size, hb0.trans (FrB.of hb hs)⟩
    go_region_with (first
      | (go_at_call 38; refine (HCh.out _).mono ?_; rintro e w3 ⟨rfl, hb3⟩; have H3 := Lib.hid (HN.out _ _ hb3); clear hb3)
      | (go_at_call 27; refine (c_WriteString B b x q _ H3.out.1 (by omega) H3.out.2.1).mono ?_; rintro e w4 ⟨rfl, h4, hb4⟩))
    all_goals
      go_wp2_with fail
      refine bodyPost_ret (results_none rfl _ _ _) rfl ?_
      exact ⟨rfl, by rw [HV.out]; exact h4, H3.out.2.2.trans hb4⟩
  · have hn0 : 0 ≤ n := by omega
    have hil := itoa_len n hn0 h1
    obtain ⟨q, hq⟩ : ∃ q, Lib.itoa n = q := ⟨_, rfl⟩
    rw [hq] at hil
    have HIt : Hid (∀ w, PwH w → Calls Tryd.prog 39 #[.int .i64 n] w fun e w' => e = .returned (.string ⟨q.toArray⟩) ∧ Below w.heap.size w w') := fun w hw => by rw [← hq]; exact c_Itoa n w (by omega) (by omega) hw
    have HN : Hid (∀ o w3, Below ((w.alloc o).drew).heap.size ((w.alloc o).drew) w3 → WrAt B b x w3 ∧ B ≤ w3.heap.size ∧ FrB B b w w3 ∧ w3.heap[w.heap.size]? = some o) := fun o w3 hb => by
      have h2 : WrAt B b x (w.alloc o).drew := HW.out.alloc o
      have hb0 : FrB B b w (w.alloc o).drew := ((FrB.refl B b w).alloc HB.out o).drew
      have hs : B ≤ ((w.alloc o).drew).heap.size := Nat.le_trans HB.out hb0.size
      exact ⟨h2.next hb, Nat.le_trans hs hb.size, hb0.trans (FrB.of hb hs), (hb.block w.heap.size (by show w.heap.size < (w.alloc o).heap.size; simp)).trans (heap_alloc_new w o)⟩
    have HP2 : Hid (∀ o, PwH ((w.alloc o).drew)) := fun o => HP.out.next ((bel_new w o).drew) rfl
    have HV1 : Hid (l = [117] ∧ n < 2147483648 → wrdL 3 n l = q ++ [117]) := fun h => by rw [wrd_u n l hn h, hq]
    have HV2 : Hid (¬ (l = [117] ∧ n < 2147483648) → wrdL 3 n l = q) := fun h => by rw [wrd_i n l hn h, hq]
    clear hq
    go_enter Tryd.func25, Tryd.ntmps25
    go_wp2_with fail
    go_region_with (first
      | (go_at_call 39; refine (HIt.out _ (HP2.out _)).mono ?_; rintro e w3 ⟨rfl, hb3⟩; have H3 := Lib.hid (HN.out _ _ hb3); clear hb3)
      | (go_at_call 27; refine (c_WriteString B b x q _ H3.out.1 (by omega) H3.out.2.1).mono ?_; rintro e w4 ⟨rfl, h4, hb4⟩))
    all_goals
      have hne : w.heap.size ≠ b := by have := HW.out; rcases this with h | h <;> (have := h.lt; omega)
      have hx4 := hb4.keep H3.out.2.2.2 hne (by decide)
      have hc2 : w4.cell? ⟨w.heap.size, 2, none⟩ = some (.int .i64 n) := by rw [Lib.cell_of_heap hx4]; rfl
      have hc3 : w4.cell? ⟨w.heap.size, 3, none⟩ = some (.string ⟨l.toArray⟩) := by rw [Lib.cell_of_heap hx4]; rfl
      have HF4 := Lib.hid (H3.out.2.2.1.trans hb4)
      have H4 := Lib.hid h4
      have hB4 : B ≤ w4.heap.size := Nat.le_trans H3.out.2.1 hb4.size
      clear hx4 h4 hb4
      by_cases hu : l = [117] ∧ n < 2147483648
      · have k1 : (l == [117]) = true := by simp [hu.1]
        have k2 : decide (n < 2147483648) = true := by simp [hu.2]
        have HV := Lib.hid (HV1.out hu)
        clear hu
        go_wp2_with fail
        refine (c_WriteString B b (x ++ q) [117] _ H4.out (by simp; omega) hB4).mono ?_
        rintro e w5 ⟨rfl, h5, hb5⟩
        go_wp2_with fail
        go_end0
        exact ⟨rfl, by rw [HV.out]; simpa using h5, HF4.out.trans hb5⟩
      · have HV := Lib.hid (HV2.out hu)
        have k1 : (l == [117]) = false ∨ (l == [117]) = true ∧ decide (n < 2147483648) = false := by
          cases h1 : l == [117]
          · exact .inl rfl
          · right
            rw [beq_iff_eq] at h1
            exact ⟨rfl, by simp; simp [h1] at hu; omega⟩
        clear hu
        rcases k1 with k1 | ⟨k1, k2⟩
        · go_wp2_with fail
          go_end0
          exact ⟨rfl, by rw [HV.out]; exact H4.out, HF4.out⟩
        · go_wp2_with fail
          go_end0
          exact ⟨rfl, by rw [HV.out]; exact H4.out, HF4.out⟩
end Go.Proofs.YtbccabpcljkamaaDoor
