
/-
  The contract of Print, in the code: the walk.
-/
import Derived.Test.YthekokjmdjokgaaDoorIsaPrint
import Derived.Test.YthekokjmdjokgaaDoorIsaDec
namespace Go.Proofs.YthekokjmdjokgaaDoor
set_option linter.unusedVariables false
open Go.ChangeShapes Go.WideShapes Go.ChangeAt Go.RowKit

theorem PwH.alloc {w : World} (h : PwH w) (o : Obj) : PwH (w.alloc o) := h.next (below_new w o) rfl
theorem dec_len : ∀ (k u : Nat), u < 10 ^ (k + 1) → (Lib.decDigits u).length ≤ k + 1
  | 0, u, h => by
    rw [Lib.decDigits, dif_pos (by simpa using h)]
    simp
  | k + 1, u, h => by
    rw [Lib.decDigits]
    split
    · simp
    · have := dec_len k (u / 10) (by rw [Nat.pow_succ] at h; omega)
      simp
      omega
theorem itoa_len (n : Int) (h0 : -10000000 < n) (h1 : n < 10000000) : (Lib.itoa n).length ≤ 8 := by
  unfold Lib.itoa
  split
  · have := dec_len 6 n.natAbs (by omega)
    simp
    omega
  · have := dec_len 6 n.toNat (by omega)
    omega
theorem nm_len (op : Int) : (nm op).length ≤ 5 := by
  unfold nm
  by_cases h : op.toNat < 43
  · have : ∀ k : Fin 43, ((nmTab[k.val]?).getD []).length ≤ 5 := by decide +kernel
    exact this ⟨op.toNat, h⟩
  · rw [List.getElem?_eq_none (by show nmTab.length ≤ _; show 43 ≤ _; omega)]
    simp
theorem pr_eq (op d a b i : Int) : prL op d a b i = nm op ++ (if lD (formI op) then [32, 114] ++ Lib.itoa d else []) ++ (if lA (formI op) then [32, 114] ++ Lib.itoa a else []) ++ (if lB (formI op) then [32, 114] ++ Lib.itoa b else []) ++ (if lBits (formI op) > 0 then [32] ++ Lib.itoa i else []) := by unfold prL; rfl
theorem ret_se {a b : ByteArray} {c d : Int} (h : a = b) (g : c = d) : Ending.returned (.tuple #[.string a, .int .i64 c]) = .returned (.tuple #[.string b, .int .i64 d]) := by rw [h, g]
theorem nm_cell (op : Int) (w : World) (h : NmH w) (h0 : 0 ≤ op) (h1 : op ≤ 42) : w.cell? ⟨0, op.toNat, none⟩ = some (.string ⟨(nm op).toArray⟩) := by
  have hl : op.toNat < nmTab.length := by
    show op.toNat < 43
    omega
  have e : nmTab[op.toNat]? = some (nm op) := by
    unfold nm
    rw [List.getElem?_eq_getElem hl]
    rfl
  exact h _ _ e
theorem c_Print_no (op d a b i : Int) (w : World) (p1 : -9223372036854775808 ≤ op ∧ op ≤ 9223372036854775807) (p2 : -9223372036854775808 ≤ d ∧ d ≤ 9223372036854775807) (p3 : -9223372036854775808 ≤ a ∧ a ≤ 9223372036854775807)
    (p4 : -9223372036854775808 ≤ b ∧ b ≤ 9223372036854775807) (p5 : -9223372036854775808 ≤ i ∧ i ≤ 9223372036854775807) (hc : chkB op d a b i = false) :
    Calls Tryd.prog 42 #[.agg #[.int .i64 op, .int .i64 d, .int .i64 a, .int .i64 b, .int .i64 i]] w fun e w' => e = .returned (.tuple #[.string ⟨#[]⟩, .int .i64 20]) ∧ Below w.heap.size w w' := by
  have HC := Lib.hid (c_Check op d a b i)
  have HE := Lib.hid (show errI (chkB op d a b i) = 20 by rw [hc]; exact errI_no)
  clear hc
  go_enter Tryd.func42, Tryd.ntmps42
  go_wp2_with (go_at_call 12; refine (HC.out _ p1 p2 p3 p4 p5).mono ?_; rw [HE.out]; rintro e w2 ⟨rfl, hb2⟩)
  go_returns
  exact ⟨rfl, below_on (below_new w _) hb2 (by simp)⟩
set_option maxHeartbeats 4000000 in
theorem c_Print_yes (op d a b i : Int) (w : World) (p1 : 0 ≤ op ∧ op ≤ 42) (p2 : 0 ≤ d ∧ d ≤ 15) (p3 : 0 ≤ a ∧ a ≤ 15)
    (p4 : 0 ≤ b ∧ b ≤ 15) (p5 : -8388608 ≤ i ∧ i ≤ 8388607) (hc : chkB op d a b i = true) (hn : NmH w) (hp : PwH w) :
    Calls Tryd.prog 42 #[.agg #[.int .i64 op, .int .i64 d, .int .i64 a, .int .i64 b, .int .i64 i]] w fun e w' => e = .returned (.tuple #[.string ⟨(prL op d a b i).toArray⟩, .int .i64 0]) ∧ Below w.heap.size w w' := by
  have HC := Lib.hid (c_Check op d a b i)
  have HE := Lib.hid (show errI (chkB op d a b i) = 0 by rw [hc]; exact errI_yes)
  have ⟨f0, f1⟩ := formI_bd op
  have HT := Lib.hid (pr_eq op d a b i)
  have n0 := nm_len op
  have n1 := itoa_len d (by omega) (by omega)
  have n2 := itoa_len a (by omega) (by omega)
  have n3 := itoa_len b (by omega) (by omega)
  have n4 := itoa_len i (by omega) (by omega)
  clear hc
  obtain ⟨g1, g2⟩ := p1
  obtain ⟨g3, g4⟩ := p2
  obtain ⟨g5, g6⟩ := p3
  obtain ⟨g7, g8⟩ := p4
  obtain ⟨g9, g10⟩ := p5
  have HN := Lib.hid hn
  have HP := Lib.hid hp
  clear hn hp
  go_enter Tryd.func42, Tryd.ntmps42
  go_wp2_with fail
  refine (HC.out _ ⟨by omega, by omega⟩ ⟨by omega, by omega⟩ ⟨by omega, by omega⟩ ⟨by omega, by omega⟩ ⟨by omega, by omega⟩).mono ?_
  rw [HE.out]
  rintro e w2 ⟨rfl, hb2⟩
  have hB2 : Below w.heap.size w w2 := below_on (below_new w _) hb2 (by simp)
  obtain ⟨hx0, hx1, hx2, hx3, hx4, -⟩ := box5 hb2
  have hlt := cell_lt hx0
  have hlt : w.heap.size < w2.heap.size := hlt
  have HB2 := Lib.hid hB2
  have HP2 := Lib.hid (HP.out.next hB2 rfl)
  have hnm := nm_cell op w2 (HN.out.next hB2 rfl) g1 g2
  have h00 := cell_lt hnm
  have h00 : 0 < w2.heap.size := h00
  clear hb2 hB2 HC HE HN HP
  go_wp2_with fail
  refine (c_formOf op _ (by omega) (by omega)).mono ?_
  rintro e w3 ⟨rfl, rfl⟩
  go_wp2_with fail
  refine (c_layoutX (formI op) _ f0 f1).mono ?_
  rintro e w4 ⟨rfl, rfl⟩
  go_wp2_with (first
    | (go_at_call_of 53 (Value.int IntKind.i64 i); refine (c_Itoa i _ (by omega) (by omega) ((HP2.out.alloc _).alloc _)).mono ?_; rintro e w' ⟨rfl, hb5⟩; have HB5 := Lib.hid hb5; clear hb5)
    | (go_at_call 53; refine (c_Itoa_small _ _ (by omega) (by omega)).mono ?_; rintro e w' ⟨rfl, rfl⟩))
  all_goals
    go_ret2
    refine ⟨ret_se ?_ rfl, ?_⟩
    · rw [HT.out]
      apply ByteArray.ext
      simp [ByteArray.data_append, *]
    · first
        | (have hb5 := HB5.out; have hb2 := HB2.out; exact below_on ((hb2.alloc (by omega) _).alloc (by simp; omega) _) hb5 (by simp; omega))
        | (have hb2 := HB2.out; exact (hb2.alloc (by omega) _).alloc (by simp; omega) _)
theorem prR_yes (op d a b i : Int) (h : chkB op d a b i = true) : prR op d a b i = prL op d a b i := by unfold prR; rw [h]; rfl
theorem prR_no (op d a b i : Int) (h : chkB op d a b i = false) : prR op d a b i = [] := by unfold prR; rw [h]; rfl
theorem c_Print (op d a b i : Int) (w : World) (p1 : -9223372036854775808 ≤ op ∧ op ≤ 9223372036854775807) (p2 : -9223372036854775808 ≤ d ∧ d ≤ 9223372036854775807) (p3 : -9223372036854775808 ≤ a ∧ a ≤ 9223372036854775807)
    (p4 : -9223372036854775808 ≤ b ∧ b ≤ 9223372036854775807) (p5 : -9223372036854775808 ≤ i ∧ i ≤ 9223372036854775807) (hn : NmH w) (hp : PwH w) :
    Calls Tryd.prog 42 #[.agg #[.int .i64 op, .int .i64 d, .int .i64 a, .int .i64 b, .int .i64 i]] w fun e w' => e = .returned (.tuple #[.string ⟨(prR op d a b i).toArray⟩, .int .i64 (errI (chkB op d a b i))]) ∧ Below w.heap.size w w' := by
  cases h : chkB op d a b i
  · rw [prR_no _ _ _ _ _ h, errI_no]
    exact c_Print_no op d a b i w p1 p2 p3 p4 p5 h
  · rw [prR_yes _ _ _ _ _ h, errI_yes]
    obtain ⟨h1, h2, h3, h4, h5⟩ := chk_bd op d a b i h
    exact c_Print_yes op d a b i w h1 h2 h3 h4 h5 h hn hp
end Go.Proofs.YthekokjmdjokgaaDoor
