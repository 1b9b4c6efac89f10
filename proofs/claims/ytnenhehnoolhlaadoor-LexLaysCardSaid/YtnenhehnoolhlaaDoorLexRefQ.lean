/-
  The contracts of the document's spelling of a byte, of its Quote and Char.
-/
import Derived.Test.YtnenhehnoolhlaaDoorLexQuo2
namespace Go.Proofs.YtnenhehnoolhlaaDoor
set_option linter.unusedVariables false
set_option linter.unusedSimpArgs false
set_option maxRecDepth 100000
open Go.RowKit

theorem str_list (l : List UInt8) (xs : List Int) (h : xs = l.map fun c => (c.toNat : Int)) : strOfNums xs = ⟨l.toArray⟩ := by
  subst h
  unfold strOfNums
  rw [List.map_map]
  congr 2
  have e : ((fun n : Int => UInt8.ofNat n.toNat) ∘ fun c : UInt8 => (c.toNat : Int)) = id := by
    funext c
    show UInt8.ofNat ((c.toNat : Int)).toNat = c
    rw [Int.toNat_natCast]
    exact UInt8.ofNat_toNat
  rw [e, List.map_id]
theorem conv_row (w : World) (n : Nat) (hn : n = w.heap.size) (m : Nat) (l : List UInt8) (xs : List Int) (hm : l.length = m) (h : xs = l.map fun c => (c.toNat : Int)) : (convert 29 9 (.slice (some ⟨n, 0, none⟩) m m)).run Tryd.prog (w.alloc (.cells (xs.map (Value.int .u8)).toArray 5)) = .ok (.string ⟨l.toArray⟩) (w.alloc (.cells (xs.map (Value.int .u8)).toArray 5)) := by
  subst hn
  rw [← str_list l xs h]
  refine run_convert_bytes_arg _ 29 5 Tryd.underlying29 Tryd.underlying5 w.heap.size 0 m m xs (by rw [h, List.length_map, hm]) ?_ 9 Tryd.underlying9
  intro i hi
  have hx : i < xs.length := by rw [h, List.length_map]; omega
  rw [Nat.zero_add, Lib.cell_of_heap (heap_alloc_new w _)]
  simp [hx]
theorem conv_rowD (w : World) (n : Nat) (hn : n = w.heap.size) (m : Nat) (l : List UInt8) (xs : List Int) (hm : l.length = m) (h : xs = l.map fun c => (c.toNat : Int)) : (convert 29 9 (.slice (some ⟨n, 0, none⟩) m m)).run Tryd.prog (w.alloc (.cells (xs.map (Value.int .u8)).toArray 5)).drew = .ok (.string ⟨l.toArray⟩) (w.alloc (.cells (xs.map (Value.int .u8)).toArray 5)).drew := by
  subst hn
  rw [← str_list l xs h]
  refine run_convert_bytes_arg _ 29 5 Tryd.underlying29 Tryd.underlying5 w.heap.size 0 m m xs (by rw [h, List.length_map, hm]) ?_ 9 Tryd.underlying9
  intro i hi
  have hx : i < xs.length := by rw [h, List.length_map]; omega
  rw [Nat.zero_add]
  show (w.alloc _).cell? _ = _
  rw [Lib.cell_of_heap (heap_alloc_new w _)]
  simp [hx]
theorem ret_s {a b : List UInt8} (h : a = b) : Ending.returned (.string ⟨a.toArray⟩) = .returned (.string ⟨b.toArray⟩) := by rw [h]
set_option maxHeartbeats 2000000 in
theorem c_spelt (c q : UInt8) (cI qI : Int) (hcI : (c.toNat : Int) = cI) (hqI : (q.toNat : Int) = qI) (hq : qI = 34 ∨ qI = 39) (w : World) :
    Calls Tryd.prog 35 #[.int .u8 cI, .int .u8 qI] w fun e w' => e = .returned (.string ⟨(pc q c).toArray⟩) ∧ Below w.heap.size w w' := by
  have hb : 0 ≤ cI ∧ cI ≤ 255 := by have := c.toNat_lt; omega
  obtain ⟨hb0, hb1⟩ := hb
  have e10 := u8_eq (d := 10) hcI
  have e9 := u8_eq (d := 9) hcI
  have e13 := u8_eq (d := 13) hcI
  have e92 := u8_eq (d := 92) hcI
  have eq' : c = q ↔ cI = qI := by rw [u8_eq (d := q) hcI, hqI]
  have HC := Lib.hid hcI
  have HPl : Hid (plainI c.toNat q.toNat = plainI cI qI) := by show _ = _; rw [hcI, hqI]
  clear hqI hcI
  by_cases h1 : cI = 10
  · have HV : Hid (pc q c = [92, 110]) := by show _ = _; rw [e10.2 h1]; exact pc_10 q
    have k1 : (cI == 10) = true := by simp [h1]
    clear e10 e9 e13 e92 eq' h1
    go_enter Tryd.func35, Tryd.ntmps35
    go_wp2_with fail
    go_ret
    exact ⟨ret_s HV.out.symm, Below.refl _ _⟩
  have k1 : (cI == 10) = false := by simp [h1]
  by_cases h2 : cI = 9
  · have HV : Hid (pc q c = [92, 116]) := by show _ = _; rw [e9.2 h2]; exact pc_9 q
    have k2 : (cI == 9) = true := by simp [h2]
    clear e10 e9 e13 e92 eq' h1 h2
    go_enter Tryd.func35, Tryd.ntmps35
    go_wp2_with fail
    go_ret
    exact ⟨ret_s HV.out.symm, Below.refl _ _⟩
  have k2 : (cI == 9) = false := by simp [h2]
  by_cases h3 : cI = 13
  · have HV : Hid (pc q c = [92, 114]) := by show _ = _; rw [e13.2 h3]; exact pc_13 q
    have k3 : (cI == 13) = true := by simp [h3]
    clear e10 e9 e13 e92 eq' h1 h2 h3
    go_enter Tryd.func35, Tryd.ntmps35
    go_wp2_with fail
    go_ret
    exact ⟨ret_s HV.out.symm, Below.refl _ _⟩
  have k3 : (cI == 13) = false := by simp [h3]
  by_cases h4 : cI = 92 ∨ cI = qI
  · have HV : Hid (pc q c = [92, c]) := by
      show _ = _
      refine pc_esc q c (fun h => h1 (e10.1 h)) (fun h => h2 (e9.1 h)) (fun h => h3 (e13.1 h)) ?_
      rcases h4 with h4 | h4
      · exact .inl (e92.2 h4)
      · exact .inr (eq'.2 h4)
    have k4 : (cI == 92) = true ∨ (cI == 92) = false ∧ (cI == qI) = true := by
      by_cases h : cI = 92
      · exact .inl (by simp [h])
      · exact .inr ⟨by simp [h], by rcases h4 with h4 | h4; exact absurd h4 h; simp [h4]⟩
    clear e10 e9 e13 e92 eq' h1 h2 h3 h4
    have hcv := conv_row w w.heap.size rfl 2 [92, c] [92, cI] rfl (by simp [HC.out])
    simp only [List.map_cons, List.map_nil] at hcv
    rcases k4 with k4 | ⟨k4, k5⟩
    all_goals
      go_enter Tryd.func35, Tryd.ntmps35
      go_wp2_with fail
      go_ret
      exact ⟨ret_s HV.out.symm, (Below.refl _ _).alloc (Nat.le_refl _) _⟩
  have k4 : (cI == 92) = false := by simp; omega
  have k5 : (cI == qI) = false := by simp; omega
  by_cases h5 : cI < 32 ∨ 126 < cI
  · have HV : Hid (pc q c = [92, 120, hexD (c.toNat / 16), hexD (c.toNat % 16)]) := by
      refine pc_hex q c (HPl.out.trans ?_) (fun h => h1 (e10.1 h)) (fun h => h2 (e9.1 h)) (fun h => h3 (e13.1 h)) (fun h => h4 (.inl (e92.1 h))) (fun h => h4 (.inr (eq'.1 h)))
      unfold plainI
      rcases h5 with h5 | h5 <;> simp <;> omega
    clear e10 e9 e13 e92 eq' h1 h2 h3 h4
    have he1 : (cI / 16).toNat = c.toNat / 16 := by have := HC.out; omega
    have he2 : (cI % 16).toNat = c.toNat % 16 := by have := HC.out; omega
    have hm0 : 0 ≤ cI / 16 := by omega
    have hm1 : cI / 16 < 16 := by omega
    have hm2 : 0 ≤ cI % 16 := by omega
    have hm3 : cI % 16 < 16 := by omega
    obtain ⟨x1, hx1⟩ : ∃ x : Int, ((hexD (c.toNat / 16)).toNat : Int) = x := ⟨_, rfl⟩
    obtain ⟨x2, hx2⟩ : ∃ x : Int, ((hexD (c.toNat % 16)).toNat : Int) = x := ⟨_, rfl⟩
    have hd1 : ∀ h, (((⟨#[48, 49, 50, 51, 52, 53, 54, 55, 56, 57, 97, 98, 99, 100, 101, 102]⟩ : ByteArray)[(cI / 16).toNat]'h).toNat : Int) = x1 := fun h => by rw [hexB, he1]; exact hx1
    have hd2 : ∀ h, (((⟨#[48, 49, 50, 51, 52, 53, 54, 55, 56, 57, 97, 98, 99, 100, 101, 102]⟩ : ByteArray)[(cI % 16).toNat]'h).toNat : Int) = x2 := fun h => by rw [hexB, he2]; exact hx2
    have hcv := conv_rowD w w.heap.size rfl 4 [92, 120, hexD (c.toNat / 16), hexD (c.toNat % 16)] [92, 120, x1, x2] rfl (by simp [hx1, hx2])
    simp only [List.map_cons, List.map_nil] at hcv
    clear hx1 hx2 he1 he2
    rcases h5 with h5 | h5
    all_goals
      go_enter Tryd.func35, Tryd.ntmps35
      go_wp2_with fail
      go_region
      all_goals
        go_wp2_with fail
        go_ret
        exact ⟨ret_s HV.out.symm, ((Below.refl _ _).alloc (Nat.le_refl _) _).drew⟩
  · have HV : Hid (pc q c = [c]) := by
      refine pc_plain q c (HPl.out.trans ?_)
      unfold plainI
      simp
      omega
    have hcv := conv_row w w.heap.size rfl 1 [c] [cI] rfl (by simp [HC.out])
    simp only [List.map_cons, List.map_nil] at hcv
    have h6 : 32 ≤ cI := by omega
    have h7 : cI ≤ 126 := by omega
    clear e10 e9 e13 e92 eq' h1 h2 h3 h4 h5
    go_enter Tryd.func35, Tryd.ntmps35
    go_wp2_with fail
    go_ret
    exact ⟨ret_s HV.out.symm, (Below.refl _ _).alloc (Nat.le_refl _) _⟩
end Go.Proofs.YtnenhehnoolhlaaDoor
