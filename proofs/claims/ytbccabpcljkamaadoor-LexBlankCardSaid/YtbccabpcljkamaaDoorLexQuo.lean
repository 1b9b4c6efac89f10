/-
  The contracts of isPlain, of a piece that is put, of bytes in quotes, of Quote and Char, in the code.
-/
import Derived.Test.YtbccabpcljkamaaDoorLexPure
import Derived.Test.YtbccabpcljkamaaDoorLexBuf
import Derived.Handy
import Derived.Deep.RegionWith
namespace Go.Proofs.YtbccabpcljkamaaDoor
set_option linter.unusedVariables false
set_option linter.unusedSimpArgs false
set_option maxRecDepth 100000
open Go.RowKit

theorem ret_b {a b : Bool} (h : a = b) : Ending.returned (.bool a) = .returned (.bool b) := by rw [h]
theorem u8and15 : ∀ n : Fin 256, bits BinOp.and IntKind.u8 (n.val : Int) 15 = (n.val : Int) % 16 := by decide +kernel
theorem and15 (x : Int) (h0 : 0 ≤ x) (h1 : x ≤ 255) : bits BinOp.and IntKind.u8 x 15 = x % 16 := by
  obtain ⟨n, rfl⟩ := Int.eq_ofNat_of_zero_le h0
  exact u8and15 ⟨n, by omega⟩
theorem hexB (n : Nat) (h : n < (⟨#[48, 49, 50, 51, 52, 53, 54, 55, 56, 57, 97, 98, 99, 100, 101, 102]⟩ : ByteArray).size) : (⟨#[48, 49, 50, 51, 52, 53, 54, 55, 56, 57, 97, 98, 99, 100, 101, 102]⟩ : ByteArray)[n]'h = hexD n := by
  have h' : n < 16 := h
  have hall : ∀ k : Fin 16, (#[48, 49, 50, 51, 52, 53, 54, 55, 56, 57, 97, 98, 99, 100, 101, 102] : Array UInt8)[k.val]'k.isLt = hexD k.val := by decide
  exact hall ⟨n, h'⟩
theorem c_isPlain (c q : Int) (w : World) (hc : 0 ≤ c ∧ c ≤ 255) (hq : 0 ≤ q ∧ q ≤ 255) :
    Calls Tryd.prog 50 #[.int .u8 c, .int .u8 q] w fun e w' => e = .returned (.bool (plainI c q)) ∧ w' = w := by
  obtain ⟨hc0, hc1⟩ := hc
  obtain ⟨hq0, hq1⟩ := hq
  go_enter Tryd.func50, Tryd.ntmps50
  go_wp2
  all_goals
    go_ret
    refine ⟨ret_b ?_, rfl⟩
    unfold plainI
    rw [Bool.eq_iff_iff]
    simp
    omega
set_option maxHeartbeats 2000000 in
theorem c_piece (B b : Nat) (l : List UInt8) (c q : UInt8) (cI qI : Int) (hcI : (c.toNat : Int) = cI) (hqI : (q.toNat : Int) = qI) (w : World) (h : WrAt B b l w) (hlen : l.length + 4 ≤ 140737488355328) (hBw : B ≤ w.heap.size) :
    Calls Tryd.prog 40 #[.pointer (some ⟨b, 0, none⟩), .int .u8 cI, .int .u8 qI] w fun e w' => e = .returned (.tuple #[]) ∧ WrAt B b (l ++ pc q c) w' ∧ FrB B b w w' := by
  have hb : 0 ≤ cI ∧ cI ≤ 255 := by have := c.toNat_lt; omega
  have hbq : 0 ≤ qI ∧ qI ≤ 255 := by have := q.toNat_lt; omega
  have e10 := u8_eq (d := 10) hcI
  have e9 := u8_eq (d := 9) hcI
  have e13 := u8_eq (d := 13) hcI
  have e92 := u8_eq (d := 92) hcI
  have eq' : c = q ↔ cI = qI := by rw [u8_eq (d := q) hcI, hqI]
  have HC := Lib.hid hcI
  have HW := Lib.hid h
  have HB := Lib.hid hBw
  have HPl : Hid (plainI c.toNat q.toNat = plainI cI qI) := by show _ = _; rw [hcI, hqI]
  have hl1 : ∀ s : List UInt8, s.length ≤ 4 → l.length + s.length ≤ 140737488355328 := fun s hs => by omega
  clear h hqI
  cases hp : plainI cI qI
  · by_cases h1 : cI = 10
    · have k1 : (cI == 10) = true := by simp [h1]
      have HV : Hid (pc q c = [92, 110]) := by show _ = _; rw [e10.2 h1]; exact pc_10 q
      clear e10 e9 e13 e92 eq' h1
      go_enter Tryd.func40, Tryd.ntmps40
      go_wp2_with fail
      refine (c_isPlain _ _ _ hb hbq).mono ?_
      rw [hp]
      rintro e w1 ⟨rfl, rfl⟩
      go_wp2_with fail
      refine (c_WriteString B b l [92, 110] _ HW.out (hl1 _ (by decide)) hBw).mono ?_
      rintro e w2 ⟨rfl, h2, hb2⟩
      go_wp2_with fail
      go_end0
      exact ⟨rfl, by rw [HV.out]; exact h2, hb2⟩
    by_cases h2 : cI = 9
    · have k1 : (cI == 10) = false := by simp [h1]
      have k2 : (cI == 9) = true := by simp [h2]
      have HV : Hid (pc q c = [92, 116]) := by show _ = _; rw [e9.2 h2]; exact pc_9 q
      clear e10 e9 e13 e92 eq' h1 h2
      go_enter Tryd.func40, Tryd.ntmps40
      go_wp2_with fail
      refine (c_isPlain _ _ _ hb hbq).mono ?_
      rw [hp]
      rintro e w1 ⟨rfl, rfl⟩
      go_wp2_with fail
      refine (c_WriteString B b l [92, 116] _ HW.out (hl1 _ (by decide)) hBw).mono ?_
      rintro e w2 ⟨rfl, h2, hb2⟩
      go_wp2_with fail
      go_end0
      exact ⟨rfl, by rw [HV.out]; exact h2, hb2⟩
    by_cases h3 : cI = 13
    · have k1 : (cI == 10) = false := by simp [h1]
      have k2 : (cI == 9) = false := by simp [h2]
      have k3 : (cI == 13) = true := by simp [h3]
      have HV : Hid (pc q c = [92, 114]) := by show _ = _; rw [e13.2 h3]; exact pc_13 q
      clear e10 e9 e13 e92 eq' h1 h2 h3
      go_enter Tryd.func40, Tryd.ntmps40
      go_wp2_with fail
      refine (c_isPlain _ _ _ hb hbq).mono ?_
      rw [hp]
      rintro e w1 ⟨rfl, rfl⟩
      go_wp2_with fail
      refine (c_WriteString B b l [92, 114] _ HW.out (hl1 _ (by decide)) hBw).mono ?_
      rintro e w2 ⟨rfl, h2, hb2⟩
      go_wp2_with fail
      go_end0
      exact ⟨rfl, by rw [HV.out]; exact h2, hb2⟩
    have k1 : (cI == 10) = false := by simp [h1]
    have k2 : (cI == 9) = false := by simp [h2]
    have k3 : (cI == 13) = false := by simp [h3]
    by_cases h4 : cI = 92 ∨ cI = qI
    · have HV : Hid (pc q c = [92, c]) := by
        show _ = _
        refine pc_esc q c (fun h => h1 (e10.1 h)) (fun h => h2 (e9.1 h)) (fun h => h3 (e13.1 h)) ?_
        rcases h4 with h4 | h4
        · exact .inl (e92.2 h4)
        · exact .inr (eq'.2 h4)
      have k4 : (cI == 92) = true ∨ (cI == 92) = false ∧ (cI == qI) = true := by
        by_cases h : cI = 92
        · exact .inl (by simp [h])
        · exact .inr ⟨by simp [h], by rcases h4 with h4 | h4; exact absurd h4 h; simp [h4]⟩
      clear e10 e9 e13 e92 eq' h1 h2 h3 h4
      rcases k4 with k4 | ⟨k4, k5⟩
      all_goals
        go_enter Tryd.func40, Tryd.ntmps40
        go_wp2_with fail
        refine (c_isPlain _ _ _ hb hbq).mono ?_
        rw [hp]
        rintro e w1 ⟨rfl, rfl⟩
        go_wp2_with fail
        refine (c_WriteByte B b l 92 92 rfl _ HW.out (by omega) hBw).mono ?_
        rintro e w2 ⟨rfl, h2, hb2⟩
        go_wp2_with fail
        refine (c_WriteByte B b (l ++ [92]) c cI HC.out _ h2 (by simp; omega) (by have := hb2.size; omega)).mono ?_
        rintro e w3 ⟨rfl, h3, hb3⟩
        go_wp2_with fail
        go_end0
        exact ⟨rfl, by rw [HV.out]; simpa using h3, hb2.trans hb3⟩
    · have HV : Hid (pc q c = [92, 120, hexD (c.toNat / 16), hexD (c.toNat % 16)]) := by
        refine pc_hex q c (HPl.out.trans hp) (fun h => h1 (e10.1 h)) (fun h => h2 (e9.1 h)) (fun h => h3 (e13.1 h)) (fun h => h4 (.inl (e92.1 h))) (fun h => h4 (.inr (eq'.1 h)))
      have k4 : (cI == 92) = false := by simp; omega
      have k5 : (cI == qI) = false := by simp; omega
      clear e10 e9 e13 e92 eq' h1 h2 h3 h4
      go_enter Tryd.func40, Tryd.ntmps40
      go_wp2_with fail
      refine (c_isPlain _ _ _ hb hbq).mono ?_
      rw [hp]
      rintro e w1 ⟨rfl, rfl⟩
      go_wp2_with fail
      refine (c_WriteString B b l [92, 120] _ HW.out (hl1 _ (by decide)) hBw).mono ?_
      rintro e w2 ⟨rfl, h2, hb2⟩
      go_wp2_with fail
      have ha15 := and15 cI hb.1 hb.2
      have hm0 : 0 ≤ cI % 16 := by omega
      have hm1 : cI % 16 < 16 := by omega
      have hlb : (l ++ [92, 120]).length + 1 ≤ 140737488355328 := by simp; omega
      have hlb2 : ∀ x : UInt8, (l ++ [92, 120] ++ [x]).length + 1 ≤ 140737488355328 := fun x => by simp; omega
      have hB2 : B ≤ w2.heap.size := Nat.le_trans HB.out hb2.size
      go_region_with (go_at_call 14; refine (c_WriteByte B b _ _ _ rfl w2.drew h2 hlb hB2).mono ?_; rintro e w3 ⟨rfl, h3, hb3⟩)
      all_goals
        have hB3 : B ≤ w3.heap.size := Nat.le_trans hB2 hb3.size
        go_wp2_with fail
        go_region_with (go_at_call 14; refine (c_WriteByte B b _ _ _ rfl w3.drew h3 (hlb2 _) hB3).mono ?_; rintro e w4 ⟨rfl, h4, hb4⟩)
        all_goals
          go_wp2_with fail
          go_end0
          refine ⟨rfl, ?_, (hb2.drew.trans hb3).drew.trans hb4⟩
          rw [HV.out]
          rw [hexB, hexB] at h4
          have e1 : (cI / 16).toNat = c.toNat / 16 := by have := HC.out; omega
          have e2 : (cI % 16).toNat = c.toNat % 16 := by have := HC.out; omega
          rw [e1, e2] at h4
          simpa using h4
  · go_enter Tryd.func40, Tryd.ntmps40
    go_wp2_with fail
    refine (c_isPlain _ _ _ hb hbq).mono ?_
    rw [hp]
    rintro e w1 ⟨rfl, rfl⟩
    go_wp2_with fail
    refine (c_WriteByte B b l c cI hcI _ HW.out (by omega) hBw).mono ?_
    rintro e w2 ⟨rfl, h2, hb2⟩
    go_wp2_with fail
    go_end0
    exact ⟨rfl, by rw [pc_plain _ _ (HPl.out.trans hp)]; exact h2, hb2⟩
end Go.Proofs.YtbccabpcljkamaaDoor
