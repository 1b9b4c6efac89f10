/-
  The contracts of a type that is right, and of what is wrong with it, where no struct is given, in the code.
-/
import Derived.Test.YtgplonfhmemhiaaGreatDoorTyCk6
import Derived.Test.YtgplonfhmemhiaaGreatDoorTyCk4
namespace Go.Proofs.YtgplonfhmemhiaaGreatDoor
set_option linter.unusedVariables false
set_option linter.unusedSimpArgs false
set_option maxRecDepth 100000
open Go.RowKit

/-- What right answers: a node, and an error that tells what the type is. -/
def RnR (l : List UInt8) (w : World) (e : Ending) (w' : World) : Prop :=
  (∃ (x0 : Int) (s1 : ByteArray) (x2 : Int) (s3 : ByteArray) (a : Option Addr) (n c : Nat) (r : Int), e = .returned (.tuple #[nV x0 s1 x2 s3 a n c, .int .i64 r]) ∧ (r = 0 ∨ r = 4 → ∃ t, tk l = some t ∧ t.rt)) ∧ Below w.heap.size w w'
set_option maxHeartbeats 8000000 in
theorem c_rightN (B : Nat) (l : List UInt8) (w : World) (hE : Env B w) (hB : B ≤ w.heap.size) (hm : l.length ≤ 9223372036854775807) :
    Calls Tryz.prog 67 #[.slice none 0 0, .string ⟨l.toArray⟩] w fun e w' => RnR l w e w' := by
  have hEa := hE.next ((below_a w zOb).mono hB)
  rcases ho : tk l with _ | t
  · have HT := Lib.hid (c_tkN B l (w.alloc zOb) hEa (by simp; omega) hm ho)
    clear hE hEa ho
    go_enter Tryz.func67, Tryz.ntmps67
    go_wp2_with fail
    refine HT.out.mono ?_
    rintro e w1 ⟨rfl, hb⟩
    have HBk := Lib.hid (below_on (below_a w zOb) hb (by simp))
    have HRk := Lib.hid (blk_next (heap_alloc_new w zOb) hb)
    have hltk := (Array.getElem?_eq_some_iff.1 HRk.out).1
    clear hb HT
    obtain ⟨r0, r1, r2, r3, r4, rf⟩ := five_cells HRk.out
    have rf0 := rf 0
    have rf1 := rf 1
    have rf2 := rf 2
    have rf3 := rf 3
    have rf4 := rf 4
    clear rf
    go_wp2_with fail
    refine bodyPost_ret (v := .tuple #[nV 0 ⟨#[]⟩ 0 ⟨#[]⟩ none 0 0, .int .i64 2]) (by simp [results, Tryz.results67, go_sem, r0, r1, r2, r3, r4, hltk]) rfl ?_
    have hst := Stp.five0 w.heap.size w1 (.int .u8 0) (.string ⟨#[]⟩) (.int .i64 0) (.string ⟨#[]⟩) (.slice none 0 0)
    exact ⟨⟨_, _, _, _, _, _, _, _, rfl, fun h => by omega⟩, (below_stp HBk.out hst (Nat.le_refl _)).alloc (by rw [hst.size]; exact HBk.out.size) _⟩
  · have HT := Lib.hid (c_tkS B l (w.alloc zOb) hEa (by simp; omega) hm t ho)
    obtain ⟨hwf, hlc, hlen⟩ := tk_some ho
    have hsz : t.size ≤ 65536 := by have := size_code t; rw [← hlc] at this; omega
    have HO := Lib.hid ho
    obtain ⟨x0, hx0⟩ : ∃ x0 : Int, (t.letter.toNat : Int) = x0 := ⟨_, rfl⟩
    obtain ⟨x2, hx2⟩ : ∃ x2 : Int, (t.count : Int) = x2 := ⟨_, rfl⟩
    obtain ⟨s1, hs1⟩ : ∃ s1, (⟨t.code.toArray⟩ : ByteArray) = s1 := ⟨_, rfl⟩
    obtain ⟨s3, hs3⟩ : ∃ s3, (⟨t.tag.toArray⟩ : ByteArray) = s3 := ⟨_, rfl⟩
    have HD := Lib.hid (fun a n c w hn => c_depth t.size t a n c w (Nat.le_refl _) hn hsz)
    have HWm := Lib.hid (fun a n c w hn => c_wm t.size t a n c w (Nat.le_refl _) hwf hn hsz)
    have HLk := Lib.hid (fun a n c w hn => c_lacks t.size t a n c w (Nat.le_refl _) hwf hn)
    have HGr := Lib.hid (fun a n c w hn => c_great t.size t a n c w (Nat.le_refl _) hwf hn hsz)
    unfold nT at HD HWm HLk HGr
    rw [hx0, hx2, hs1, hs3] at HT HD HWm HLk HGr
    clear hE hEa ho hwf hlc hlen hsz hx0 hx2 hs1 hs3
    go_enter Tryz.func67, Tryz.ntmps67
    go_wp2_with fail
    refine HT.out.mono ?_
    rintro e w1 ⟨⟨a, n, c, rfl, hn⟩, hb⟩
    have HB1 := Lib.hid (below_on (below_a w zOb) hb (by simp))
    have HR1 := Lib.hid (blk_next (heap_alloc_new w zOb) hb)
    have HQ1 : Hid (NdIn t (.slice a n c) w1) := hn.mono (fun j hj => hj.2) (fun _ _ => rfl)
    clear hb hn HT
    go_wp2_with fail
    have hA := below_a w1 (.cells #[.int .u8 x0, .string s1, .int .i64 x2, .string s3, .slice a n c] 61)
    have HBj := Lib.hid (below_on HB1.out hA HB1.out.size)
    have HRj := Lib.hid (blk_next HR1.out hA)
    have HNj := Lib.hid (heap_alloc_new w1 (.cells #[.int .u8 x0, .string s1, .int .i64 x2, .string s3, .slice a n c] 61))
    have HQj := Lib.hid (HQ1.out.next hA)
    clear hA HB1 HR1 HQ1
    refine (HD.out _ _ _ _ HQj.out).mono ?_
    rintro e w2 ⟨⟨d, rfl⟩, hb⟩
    have HBk := Lib.hid (below_on HBj.out hb HBj.out.size)
    have HRk := Lib.hid (blk_next HRj.out hb)
    have HNk := Lib.hid (blk_next HNj.out hb)
    have HQk := Lib.hid (HQj.out.next hb)
    have hltk := (Array.getElem?_eq_some_iff.1 HRk.out).1
    clear hb HBj HRj HNj HQj
    cases hd : decide (48 < d)
    · obtain ⟨n0, n1, n2, n3, n4, nf⟩ := five_cells HNk.out
      have hltn := (Array.getElem?_eq_some_iff.1 HNk.out).1
      clear nf
      go_wp2_with fail
      refine (HWm.out _ _ _ _ HQk.out).mono ?_
      rintro e w3 ⟨⟨q, rfl, hq⟩, hb⟩
      have HRt := Lib.hid hq
      have HBj := HBk
      have HRj := HRk
      have HNj := HNk
      have HQj := HQk
      clear HBk HRk HNk HQk hltk hltn n0 n1 n2 n3 n4 hq
      have HBk := Lib.hid (below_on HBj.out hb HBj.out.size)
      have HRk := Lib.hid (blk_next HRj.out hb)
      have HNk := Lib.hid (blk_next HNj.out hb)
      have HQk := Lib.hid (HQj.out.next hb)
      have hltk := (Array.getElem?_eq_some_iff.1 HRk.out).1
      clear hb HBj HRj HNj HQj
      cases q
      · obtain ⟨r0, r1, r2, r3, r4, rf⟩ := five_cells HRk.out
        have rf0 := rf 0
        have rf1 := rf 1
        have rf2 := rf 2
        have rf3 := rf 3
        have rf4 := rf 4
        clear rf
        go_wp2_with fail
        refine bodyPost_ret (v := .tuple #[nV 0 ⟨#[]⟩ 0 ⟨#[]⟩ none 0 0, .int .i64 5]) (by simp [results, Tryz.results67, go_sem, r0, r1, r2, r3, r4, hltk]) rfl ?_
        have hst := Stp.five0 w.heap.size w3 (.int .u8 0) (.string ⟨#[]⟩) (.int .i64 0) (.string ⟨#[]⟩) (.slice none 0 0)
        exact ⟨⟨_, _, _, _, _, _, _, _, rfl, fun h => by omega⟩, below_stp HBk.out hst (Nat.le_refl _)⟩
      · obtain ⟨n0, n1, n2, n3, n4, nf⟩ := five_cells HNk.out
        have hltn := (Array.getElem?_eq_some_iff.1 HNk.out).1
        clear nf
        go_wp2_with fail
        refine (HLk.out _ _ _ _ HQk.out).mono ?_
        rintro e w4 ⟨⟨q, rfl⟩, hb⟩
        have HBj := HBk
        have HRj := HRk
        have HNj := HNk
        have HQj := HQk
        clear HBk HRk HNk HQk hltk hltn n0 n1 n2 n3 n4
        have HBk := Lib.hid (below_on HBj.out hb HBj.out.size)
        have HRk := Lib.hid (blk_next HRj.out hb)
        have HNk := Lib.hid (blk_next HNj.out hb)
        have HQk := Lib.hid (HQj.out.next hb)
        have hltk := (Array.getElem?_eq_some_iff.1 HRk.out).1
        clear hb HBj HRj HNj HQj
        cases q
        · obtain ⟨n0, n1, n2, n3, n4, nf⟩ := five_cells HNk.out
          have hltn := (Array.getElem?_eq_some_iff.1 HNk.out).1
          clear nf
          go_wp2_with fail
          refine (HGr.out _ _ _ _ HQk.out).mono ?_
          rintro e w5 ⟨⟨q, rfl⟩, hb⟩
          have HBj := HBk
          have HRj := HRk
          have HNj := HNk
          have HQj := HQk
          clear HBk HRk HNk HQk hltk hltn n0 n1 n2 n3 n4
          have HBk := Lib.hid (below_on HBj.out hb HBj.out.size)
          have HRk := Lib.hid (blk_next HRj.out hb)
          have HNk := Lib.hid (blk_next HNj.out hb)
          have HQk := Lib.hid (HQj.out.next hb)
          have hltk := (Array.getElem?_eq_some_iff.1 HRk.out).1
          clear hb HBj HRj HNj HQj
          cases q
          · obtain ⟨n0, n1, n2, n3, n4, nf⟩ := five_cells HNk.out
            have hltn := (Array.getElem?_eq_some_iff.1 HNk.out).1
            clear nf
            obtain ⟨r0, r1, r2, r3, r4, rf⟩ := five_cells HRk.out
            have rf0 := rf 0
            have rf1 := rf 1
            have rf2 := rf 2
            have rf3 := rf 3
            have rf4 := rf 4
            clear rf
            go_wp2_with fail
            refine bodyPost_ret (v := .tuple #[nV x0 s1 x2 s3 a n c, .int .i64 0]) (by simp [results, Tryz.results67, go_sem, r0, r1, r2, r3, r4, hltk]) rfl ?_
            have hst := Stp.five0 w.heap.size w5 (.int .u8 x0) (.string s1) (.int .i64 x2) (.string s3) (.slice a n c)
            exact ⟨⟨_, _, _, _, _, _, _, _, rfl, fun h => ⟨t, HO.out, HRt.out (by trivial)⟩⟩, below_stp HBk.out hst (Nat.le_refl _)⟩
          · obtain ⟨r0, r1, r2, r3, r4, rf⟩ := five_cells HRk.out
            have rf0 := rf 0
            have rf1 := rf 1
            have rf2 := rf 2
            have rf3 := rf 3
            have rf4 := rf 4
            clear rf
            go_wp2_with fail
            refine bodyPost_ret (v := .tuple #[nV 0 ⟨#[]⟩ 0 ⟨#[]⟩ none 0 0, .int .i64 3]) (by simp [results, Tryz.results67, go_sem, r0, r1, r2, r3, r4, hltk]) rfl ?_
            have hst := Stp.five0 w.heap.size w5 (.int .u8 0) (.string ⟨#[]⟩) (.int .i64 0) (.string ⟨#[]⟩) (.slice none 0 0)
            exact ⟨⟨_, _, _, _, _, _, _, _, rfl, fun h => by omega⟩, below_stp HBk.out hst (Nat.le_refl _)⟩
        · obtain ⟨r0, r1, r2, r3, r4, rf⟩ := five_cells HRk.out
          have rf0 := rf 0
          have rf1 := rf 1
          have rf2 := rf 2
          have rf3 := rf 3
          have rf4 := rf 4
          clear rf
          go_wp2_with fail
          refine bodyPost_ret (v := .tuple #[nV 0 ⟨#[]⟩ 0 ⟨#[]⟩ none 0 0, .int .i64 4]) (by simp [results, Tryz.results67, go_sem, r0, r1, r2, r3, r4, hltk]) rfl ?_
          have hst := Stp.five0 w.heap.size w4 (.int .u8 0) (.string ⟨#[]⟩) (.int .i64 0) (.string ⟨#[]⟩) (.slice none 0 0)
          exact ⟨⟨_, _, _, _, _, _, _, _, rfl, fun h => ⟨t, HO.out, HRt.out (by trivial)⟩⟩, below_stp HBk.out hst (Nat.le_refl _)⟩
    · obtain ⟨r0, r1, r2, r3, r4, rf⟩ := five_cells HRk.out
      have rf0 := rf 0
      have rf1 := rf 1
      have rf2 := rf 2
      have rf3 := rf 3
      have rf4 := rf 4
      clear rf
      go_wp2_with fail
      refine bodyPost_ret (v := .tuple #[nV 0 ⟨#[]⟩ 0 ⟨#[]⟩ none 0 0, .int .i64 3]) (by simp [results, Tryz.results67, go_sem, r0, r1, r2, r3, r4, hltk]) rfl ?_
      have hst := Stp.five0 w.heap.size w2 (.int .u8 0) (.string ⟨#[]⟩) (.int .i64 0) (.string ⟨#[]⟩) (.slice none 0 0)
      exact ⟨⟨_, _, _, _, _, _, _, _, rfl, fun h => by omega⟩, below_stp HBk.out hst (Nat.le_refl _)⟩
end Go.Proofs.YtgplonfhmemhiaaGreatDoor
