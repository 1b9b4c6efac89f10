/-
  The contracts of bytes in quotes, of Quote and Char, in the code.
-/
import Derived.Test.YtbccabpcljkamaaDoorLexQuo
import Derived.Laws.BytesArg
namespace Go.Proofs.YtbccabpcljkamaaDoor
set_option linter.unusedVariables false
set_option linter.unusedSimpArgs false
set_option maxRecDepth 100000
open Go.RowKit

theorem byte_at (l : List UInt8) (k : Nat) (h : k < (ByteArray.mk l.toArray).size) : (((ByteArray.mk l.toArray)[k]'h).toNat : Int) = ((l[k]?.getD 0).toNat : Int) := by
  have h' : k < l.length := by
    have h2 : k < l.toArray.size := h
    simpa using h2
  rw [List.getElem?_eq_getElem h']
  rfl
theorem take_snoc {l : List UInt8} {k : Nat} (h : k < l.length) : l.take (k + 1) = l.take k ++ [l[k]?.getD 0] := by
  rw [List.take_add_one, List.getElem?_eq_getElem h]
  rfl
set_option maxHeartbeats 2000000 in
theorem c_quoted (B b : Nat) (l s : List UInt8) (q : UInt8) (qI : Int) (hqI : (q.toNat : Int) = qI) (w : World) (h : WrAt B b l w) (hlen : l.length + 4 * s.length + 2 ≤ 140737488355328) (hBw : B ≤ w.heap.size) :
    Calls Tryd.prog 26 #[.pointer (some ⟨b, 0, none⟩), .string ⟨s.toArray⟩, .int .u8 qI] w fun e w' => e = .returned (.tuple #[]) ∧ WrAt B b (l ++ quoL q s) w' ∧ FrB B b w w' := by
  have HLen : Hid (∀ k, (l ++ [q] ++ pcs q (s.take k)).length + 4 ≤ 140737488355328 ∨ s.length ≤ k) := fun k => by
    by_cases hk : k < s.length
    · have := pcs_len q (s.take k)
      have e : (s.take k).length = k := by simp; omega
      rw [e] at this
      simp
      omega
    · right; omega
  have HLen2 : Hid ((l ++ [q] ++ pcs q s).length + 1 ≤ 140737488355328) := by
    have := pcs_len q s
    show _ ≤ _
    simp
    omega
  have HBw := Lib.hid hBw
  have hsl : s.length ≤ 140737488355328 := by omega
  go_enter Tryd.func26, Tryd.ntmps26
  go_wp2_with fail
  refine (c_WriteByte B b l q qI hqI _ h (by omega) hBw).mono ?_
  rintro e w2 ⟨rfl, h2, hb2⟩
  have H2 := Lib.hid h2
  have HB2 := Lib.hid hb2
  clear h2 hb2 h hlen hBw
  go_wp2_with fail
  go_loopw [14] (fun i wr => ∃ k : Nat, k ≤ s.length ∧ i = .int .i64 k ∧ Hid (WrAt B b (l ++ [q] ++ pcs q (s.take k)) wr) ∧ Hid (FrB B b w wr)) (fun i _ => s.length - (intOf i).toNat)
  case atStart => exact ⟨0, Nat.zero_le _, rfl, by rw [List.take_zero, pcs_nil, List.append_nil]; exact H2.out, HB2.out⟩
  case round =>
    obtain ⟨k, hk, rfl, HW, HB⟩ := hrel
    by_cases hlt : k < s.length
    · have hk0 : (0 : Int) ≤ (k : Int) := by omega
      have hk1 : (k : Int) < (s.length : Int) := by omega
      have hT := take_snoc hlt
      have HN : Hid (pcs q (s.take (k + 1)) = pcs q (s.take k) ++ pc q (s[k]?.getD 0)) := by show _ = _; rw [hT, pcs_snoc]
      have hl4 := (HLen.out k).resolve_right (by omega)
      have hBr : B ≤ wr.heap.size := Nat.le_trans HBw.out HB.out.size
      obtain ⟨cI, hcI⟩ : ∃ cI : Int, ((s[k]?.getD 0).toNat : Int) = cI := ⟨_, rfl⟩
      have hby : ∀ h, (((ByteArray.mk s.toArray)[k]'h).toNat : Int) = cI := fun h => (byte_at s k h).trans hcI
      have HC := Lib.hid hcI
      clear hcI
      clear hT
      go_wp2_with fail
      refine (c_piece B b _ (s[k]?.getD 0) q cI qI HC.out hqI _ HW.out hl4 hBr).mono ?_
      rintro e w3 ⟨rfl, h3, hb3⟩
      go_wp2_with fail
      go_roundw
      case rel => exact ⟨k + 1, by omega, by go_num, by show WrAt _ _ _ _; rw [HN.out]; simpa using h3, HB.out.trans hb3⟩
      case measure => simp [intOf]; omega
    · have hge : decide (k < s.length) = false := by simp; omega
      have HT : Hid (s.take k = s) := List.take_of_length_le (by omega)
      rw [HT.out] at HW
      have hBr : B ≤ wr.heap.size := Nat.le_trans HBw.out HB.out.size
      clear hk hlt
      go_wp2_with fail
      refine (c_WriteByte B b _ q qI hqI _ HW.out HLen2.out hBr).mono ?_
      rintro e w3 ⟨rfl, h3, hb3⟩
      go_wp2_with fail
      go_end0
      refine ⟨rfl, ?_, HB.out.trans hb3⟩
      unfold quoL
      simpa using h3
theorem writer_new (w : World) : WrAt w.heap.size w.heap.size [] (w.alloc (.cells #[.pointer none, .slice none 0 0] 50)) := Lib.fresh_isBuilder _ _ w
theorem quoL_ne (q : UInt8) (s : List UInt8) : quoL q s ≠ [] := by unfold quoL; simp
theorem bAt_alloc {T e : TypeId} {B b : Nat} {p : Value} {bs : List Value} {w : World} (h : Lib.BuilderAt T e B b p bs w) (o : Obj) : Lib.BuilderAt T e B b p bs (w.alloc o) := by
  have hlt := h.lt
  obtain ⟨hB, v, hb, hown, hne⟩ := h
  exact ⟨hB, v, (Lib.alloc_old w o b hlt).trans hb, hown.alloc o, hne⟩
theorem WrAt.alloc {B b : Nat} {l : List UInt8} {w : World} (h : WrAt B b l w) (o : Obj) : WrAt B b l (w.alloc o) := by
  rcases h with h | h
  · exact .inl (bAt_alloc h o)
  · exact .inr (bAt_alloc h o)
theorem str_one (c : UInt8) (cI : Int) (hcI : (c.toNat : Int) = cI) : strOfNums [cI] = ⟨[c].toArray⟩ := by
  subst hcI
  have e : Int.toNat (c.toNat : Int) = c.toNat := by omega
  unfold strOfNums
  simp
theorem conv_one (w : World) (n : Nat) (hn : n = w.heap.size) (c : UInt8) (cI : Int) (hcI : (c.toNat : Int) = cI) : (convert 46 9 (.slice (some ⟨n, 0, none⟩) 1 1)).run Tryd.prog (w.alloc (.cells #[.int .u8 cI] 5)) = .ok (.string ⟨[c].toArray⟩) (w.alloc (.cells #[.int .u8 cI] 5)) := by
  subst hn
  rw [← str_one c cI hcI]
  refine run_convert_bytes_arg _ 46 5 Tryd.underlying46 Tryd.underlying5 w.heap.size 0 1 1 [cI] rfl ?_ 9 Tryd.underlying9
  intro i hi
  have : i = 0 := by simp at hi; omega
  subst this
  simp [go_sem]
set_option maxHeartbeats 2000000 in
theorem c_Char (c : UInt8) (cI : Int) (hcI : (c.toNat : Int) = cI) (w : World) :
    Calls Tryd.prog 38 #[.int .u8 cI] w fun e w' => e = .returned (.string ⟨(quoL 39 [c]).toArray⟩) ∧ Below w.heap.size w w' := by
  have hb : 0 ≤ cI ∧ cI ≤ 255 := by have := c.toNat_lt; omega
  have hcv := conv_one (w.alloc (.cells #[.pointer none, .slice none 0 0] 50)) (w.heap.size + 1) (by simp) c cI hcI
  have HNew := Lib.hid (writer_new w)
  go_enter Tryd.func38, Tryd.ntmps38
  go_wp2_with fail
  refine (c_quoted w.heap.size w.heap.size [] [c] 39 39 rfl _ (WrAt.alloc HNew.out _) (by simp) (by simp; omega)).mono ?_
  rintro e w2 ⟨rfl, h2, hb2⟩
  go_wp2_with fail
  refine (c_BString w.heap.size w.heap.size (quoL 39 [c]) _ h2 (quoL_ne _ _)).mono ?_
  rintro e w3 ⟨rfl, hb3⟩
  go_wp2_with fail
  go_ret
  exact ⟨rfl, ((((Below.refl _ _).alloc (Nat.le_refl _) _).alloc (by simp) _).trans hb2.bel).trans hb3⟩
end Go.Proofs.YtbccabpcljkamaaDoor
