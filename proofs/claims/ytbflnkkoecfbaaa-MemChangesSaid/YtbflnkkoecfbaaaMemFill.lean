/-
  The contract of fill within one page, in the code.
-/
import Derived.Test.YtbflnkkoecfbaaaMemLoad
namespace Go.Proofs.Ytbflnkkoecfbaaa
set_option linter.unusedVariables false
set_option linter.unusedSimpArgs false
open Go.ChangeShapes Go.WideShapes Go.ChangeAt Go.RowKit

/-- A page with n bytes put in from a place on. -/
def updP (c : Nat → Int) (f n : Nat) (z : Nat → Int) (k : Nat) : Int := if f ≤ k ∧ k < f + n then z (k - f) else c k
def newsP (n : Nat) (z : Nat → Int) : List Value := (List.range n).map fun j => Value.int .u8 (z j)
theorem newsP_len (n : Nat) (z : Nat → Int) : (newsP n z).length = n := by unfold newsP; simp
theorem newsP_one (n : Nat) (z : Nat → Int) : ∀ v ∈ newsP n z, v.oneCell' = true := by
  intro v hv
  unfold newsP at hv
  obtain ⟨j, _, rfl⟩ := List.mem_map.1 hv
  rfl
theorem newsP_get (n : Nat) (z : Nat → Int) (j : Nat) (v : Value) (h : (newsP n z)[j]? = some v) : j < n ∧ v = .int .u8 (z j) := by
  have hj : j < n := by
    have := (List.getElem?_eq_some_iff.1 h).1
    rw [newsP_len] at this
    exact this
  refine ⟨hj, ?_⟩
  unfold newsP at h
  rw [List.getElem?_map, List.getElem?_range hj] at h
  exact (Option.some.inj h).symm
theorem upd_pg {cs : Array Value} {c : Nat → Int} (h : PgC cs c) (f n : Nat) (z : Nat → Int) (hf : f + n ≤ 4096) (hz : ∀ j, j < n → 0 ≤ z j ∧ z j ≤ 255) :
    PgC ((cs.toList.take f ++ (newsP n z ++ cs.toList.drop (f + (newsP n z).length))).toArray) (updP c f n z) := by
  rw [newsP_len, ← List.append_assoc]
  have hs := h.1
  have hl : (cs.toList.take f).length = f := by rw [List.length_take]; simp; omega
  refine ⟨by simp [newsP_len]; omega, fun k hk => ?_⟩
  obtain ⟨h1, h2, h3⟩ := h.2 k hk
  have h1' : cs.toList[k]? = some (.int .u8 (c k)) := by rw [Array.getElem?_toList]; exact h1
  unfold updP
  rw [List.getElem?_toArray]
  by_cases hkf : k < f
  · rw [if_neg (by omega)]
    refine ⟨?_, h2, h3⟩
    rw [List.append_assoc, List.getElem?_append_left (by omega), List.getElem?_take, if_pos hkf]
    exact h1'
  · by_cases hkn : k < f + n
    · rw [if_pos (by omega)]
      have hz' := hz (k - f) (by omega)
      refine ⟨?_, hz'.1, hz'.2⟩
      rw [List.append_assoc, List.getElem?_append_right (by omega), hl, List.getElem?_append_left (by rw [newsP_len]; omega)]
      unfold newsP
      rw [List.getElem?_map, List.getElem?_range (by omega)]
      rfl
    · rw [if_neg (by omega)]
      refine ⟨?_, h2, h3⟩
      rw [List.append_assoc, List.getElem?_append_right (by omega), hl, List.getElem?_append_right (by rw [newsP_len]; omega), newsP_len, List.getElem?_drop, show f + n + (k - f - n) = k by omega]
      exact h1'
/-- The bytes that stand in a slice. -/
def Src (w : World) (gs os n : Nat) (z : Nat → Int) : Prop := ∀ j, j < n → w.cell? ⟨gs, os + j, none⟩ = some (.int .u8 (z j))
theorem Src.at_ {w : World} {gs os n : Nat} {z : Nat → Int} (h : Src w gs os n z) : ∀ j v, (newsP n z)[j]? = some v → w.cell? ((⟨gs, os, none⟩ : Addr).add j) = some v := by
  intro j v hv
  obtain ⟨hj, rfl⟩ := newsP_get _ _ _ _ hv
  have hadd : (⟨gs, os, none⟩ : Addr).add j = ⟨gs, os + j, none⟩ := by unfold Addr.add; split <;> simp_all
  rw [hadd]
  exact h j hj
theorem grown_drewN {w w' : World} {g : Option Nat} (h : w.grownBy w' g) (n : Nat) : w.grownBy (w'.drewN n) g := by
  have hb := below_drewN (Below.refl w'.heap.size w') n
  exact ⟨hb.os.trans h.os, hb.tape.trans h.tape, hb.output.trans h.output, by rw [drewN_heap]; exact h.size, fun i hi hne => by rw [drewN_heap]; exact h.block i hi hne⟩
theorem grown_setRow {w w' : World} {g : Nat} (h : w.grownBy w' (some g)) (cs : Array Value) : w.grownBy (w'.setRow g cs) (some g) :=
  ⟨h.os, h.tape, h.output, by simpa [World.setRow] using h.size, fun i hi hne => by
    have hne' : ¬ g = i := fun e => hne (by rw [e])
    have : (w'.setRow g cs).heap[i]? = w'.heap[i]? := by
      unfold World.setRow
      simp [Array.getElem?_modify, hne']
    rw [this]
    exact h.block i hi hne⟩
theorem grown_setRow_new {w w' : World} {g : Nat} {r : Option Nat} (h : w.grownBy w' r) (hg : w.heap.size ≤ g) (cs : Array Value) : w.grownBy (w'.setRow g cs) r :=
  ⟨h.os, h.tape, h.output, by simpa [World.setRow] using h.size, fun i hi hne => by
    have hne' : ¬ g = i := by omega
    have : (w'.setRow g cs).heap[i]? = w'.heap[i]? := by
      unfold World.setRow
      simp [Array.getElem?_modify, hne']
    rw [this]
    exact h.block i hi hne⟩
theorem keep_row (w2 : World) (g gn : Nat) (h : g ≠ gn) (cs : Array Value) (n : Nat) : ((w2.setRow g cs).drewN n).heap[gn]? = w2.heap[gn]? := by
  rw [drewN_heap]
  unfold World.setRow
  simp [Array.getElem?_modify, h]
theorem grown_below {w w' : World} (h : Below w.heap.size w w') (g : Option Nat) : w.grownBy w' g := ⟨h.os, h.tape, h.output, h.size, fun i hi _ => h.block i hi⟩
set_option maxRecDepth 100000 in
set_option maxHeartbeats 4000000 in
theorem c_fill_own (gb o gn gt np cn x n gs os cap p q : Nat) (r : Rg) (c d : Nat → Int) (z : Nat → Int) (a : Int) (w : World) (hr : rgB r = true) (ha : a = r.fr + x) (ha2 : a ≤ 4294967295) (hn : 0 < n) (hpg : x % 4096 + n ≤ 4096) (hxm : x ≤ 16777216)
    (hcap : n ≤ cap) (hcm : cap ≤ 16777216)
    (y0 : w.cell? ⟨gb, o, none⟩ = some (.string ⟨r.nm.toArray⟩)) (y1 : w.cell? ⟨gb, o + 1, none⟩ = some (.int .i64 r.fr)) (y2 : w.cell? ⟨gb, o + 2, none⟩ = some (.int .i64 r.sz)) (y3 : w.cell? ⟨gb, o + 3, none⟩ = some (.bool r.wr)) (y4 : w.cell? ⟨gb, o + 4, none⟩ = some (.bool r.ex))
    (hB : BP w gb o gn gt (x / 4096) p q) (hp : Pg w p c) (hq : Pg w q d) (hpq : p ≠ q) (hS : Src w gs os n z) (hz : ∀ j, j < n → 0 ≤ z j ∧ z j ≤ 255) :
    Calls Try.prog 31 #[.pointer (some ⟨gb, o, none⟩), .int .u32 a, .slice (some ⟨gs, os, none⟩) n cap] w
      fun e w' => e = .returned (.tuple #[]) ∧ Pg w' p (updP c (x % 4096) n z) ∧ w.grownBy w' (some p) := by
  have HB := Lib.hid (rg_bd hr)
  have hb := HB.out
  have HZ := Lib.hid hz
  have HS := Lib.hid hS
  have HBP := Lib.hid hB
  have HPg := Lib.hid hp
  have HQg := Lib.hid hq
  have hplt : p < w.heap.size := by obtain ⟨cs, T, h, _⟩ := hp; exact (Array.getElem?_eq_some_iff.1 h).1
  have hqlt : q < w.heap.size := by obtain ⟨cs, T, h, _⟩ := hq; exact (Array.getElem?_eq_some_iff.1 h).1
  have HA := Lib.hid ha
  clear hr hz hS hB hp hq ha
  go_enter Try.func31, Try.ntmps31
  go_wp2_with fail
  have haa := HA.out
  refine (c_place _ _ _ _ _ _ _ (by omega) (by omega) (by omega) (by omega)).mono ?_
  rintro e w1 ⟨rfl, hb1⟩
  rw [show a - r.fr = (x : Int) by omega]
  have HB1 := Lib.hid hb1
  clear hb y0 y1 y2 y3 y4 hb1 haa ha2
  go_wp2_with fail
  refine wp_loop_rounds 2 ?_
  rw [rounds_succ]
  go_wp2_with fail
  rw [show (x : Int) / 4096 = ((x / 4096 : Nat) : Int) by omega]
  have hB2 : BP w1 gb o gn gt (x / 4096) p q := by
    obtain ⟨np, cn, nt, ct, h1, h2, h3, h4, h5, h6, h7, h8⟩ := HBP.out
    exact ⟨np, cn, nt, ct, h1, h2, h3, h4, (HB1.out.cell (cell_lt h5)).trans h5, (HB1.out.cell (cell_lt h6)).trans h6, (HB1.out.cell (cell_lt h7)).trans h7, (HB1.out.cell (cell_lt h8)).trans h8⟩
  have hP1 := HPg.out.next HB1.out hplt
  refine (c_own_other gb o gn gt p q (x / 4096) c d _ hB2 hP1 (HQg.out.next HB1.out hqlt) hpq).mono ?_
  rintro e w2 ⟨rfl, n2, rfl⟩
  obtain ⟨cs, T, hrow, hcs⟩ := hP1.drewN n2
  have HRow := Lib.hid hrow
  have HCs := Lib.hid hcs
  have HSrc : Hid (∀ j v, (newsP n z)[j]? = some v → (w1.drewN n2).cell? ((⟨gs, os, none⟩ : Addr).add j) = some v) := by
    have h : Src (w1.drewN n2) gs os n z := fun j hj => by
      have hb := below_drewN HB1.out n2
      exact (hb.cell (cell_lt (HS.out j hj))).trans (HS.out j hj)
    exact h.at_
  have hsl := slice_page p (x % 4096) ((x : Int) % 4096) (by omega) (Nat.mod_lt _ (by decide))
  obtain ⟨A3, hA3, hs3⟩ := slice_from gs os n cap n (Nat.le_refl _) hcap
  have HFit : Hid (x % 4096 + (newsP n z).length ≤ cs.size) := by
    show _ ≤ _
    rw [newsP_len, hcs.1]
    exact hpg
  have HMin : Hid ((newsP n z).length = Nat.min n (4096 - x % 4096)) := by
    show _ = _
    rw [newsP_len]
    show n = min n (4096 - x % 4096)
    omega
  clear hB2 hP1 hrow hcs hA3 hpq
  go_wp2_with (with_reducible refine wpList_copy_own rfl (.tmp 24) (.tmp 25) 37 37 rfl 5 Try.underlying37 u8_size p (x % 4096) (4096 - x % 4096) (4096 - x % 4096) ⟨gs, os, none⟩ n cap rfl rfl cs T HRow.out (newsP n z) HMin.out HSrc.out HFit.out (newsP_one _ _) ?_)
  simp only [newsP_len]
  have hz0 : n - n = 0 := by omega
  rw [hz0] at hs3
  have hcm2 : n ≤ 16777216 := by omega
  go_quiet (fail)
  go_wp2_with fail
  rw [rounds_succ]
  go_wp2_with fail
  go_end0
  have hgr : w.grownBy (w1.drewN n2) (some p) := grown_drewN (grown_below HB1.out _) n2
  have hpg2 := upd_pg HCs.out (x % 4096) n z hpg HZ.out
  rw [newsP_len] at hpg2
  refine ⟨rfl, ?_, grown_drewN (grown_setRow hgr _) _⟩
  exact Pg.drewN ⟨_, T, setRow_heap _ p cs _ T (0, 0) HRow.out, hpg2⟩ _
set_option maxRecDepth 100000 in
set_option maxHeartbeats 4000000 in
theorem c_fill_shared (gb o gn gt np cn x n gs os cap p : Nat) (r : Rg) (c : Nat → Int) (z : Nat → Int) (a : Int) (w : World) (hr : rgB r = true) (ha : a = r.fr + x) (ha2 : a ≤ 4294967295) (hn : 0 < n) (hpg : x % 4096 + n ≤ 4096) (hxm : x ≤ 16777216)
    (hcap : n ≤ cap) (hcm : cap ≤ 16777216)
    (y0 : w.cell? ⟨gb, o, none⟩ = some (.string ⟨r.nm.toArray⟩)) (y1 : w.cell? ⟨gb, o + 1, none⟩ = some (.int .i64 r.fr)) (y2 : w.cell? ⟨gb, o + 2, none⟩ = some (.int .i64 r.sz)) (y3 : w.cell? ⟨gb, o + 3, none⟩ = some (.bool r.wr)) (y4 : w.cell? ⟨gb, o + 4, none⟩ = some (.bool r.ex))
    (hB : BP w gb o gn gt (x / 4096) p p) (hp : Pg w p c) (hf : ∀ k, w.frozen? ⟨gn, k, none⟩ = false) (hne : gb ≠ gn) (hgs : gs ≠ gn) (hS : Src w gs os n z) (hz : ∀ j, j < n → 0 ≤ z j ∧ z j ≤ 255) :
    Calls Try.prog 31 #[.pointer (some ⟨gb, o, none⟩), .int .u32 a, .slice (some ⟨gs, os, none⟩) n cap] w
      fun e w' => e = .returned (.tuple #[]) ∧ (∃ g, w.heap.size ≤ g ∧ Pg w' g (updP c (x % 4096) n z) ∧ w'.cell? ⟨gn, x / 4096, none⟩ = some (.pointer (some ⟨g, 0, none⟩))) ∧ (∀ k, k ≠ x / 4096 → w'.cell? ⟨gn, k, none⟩ = w.cell? ⟨gn, k, none⟩) ∧ (∀ k, w'.frozen? ⟨gn, k, none⟩ = false) ∧ w.grownBy w' (some gn) := by
  have HB := Lib.hid (rg_bd hr)
  have hb := HB.out
  have HZ := Lib.hid hz
  have HS := Lib.hid hS
  have HBP := Lib.hid hB
  have HPg := Lib.hid hp
  have HF := Lib.hid hf
  have hplt : p < w.heap.size := by obtain ⟨cs, T, h, _⟩ := hp; exact (Array.getElem?_eq_some_iff.1 h).1
  have hgnl : gn < w.heap.size := by obtain ⟨np, cn, nt, ct, h1, h2, h3, h4, h5, h6, h7, h8⟩ := hB; exact cell_lt h7
  have HA := Lib.hid ha
  clear hr hz hS hB hp hf ha
  go_enter Try.func31, Try.ntmps31
  go_wp2_with fail
  have haa := HA.out
  refine (c_place _ _ _ _ _ _ _ (by omega) (by omega) (by omega) (by omega)).mono ?_
  rintro e w1 ⟨rfl, hb1⟩
  rw [show a - r.fr = (x : Int) by omega]
  have HB1 := Lib.hid hb1
  clear hb y0 y1 y2 y3 y4 hb1 haa ha2
  go_wp2_with fail
  refine wp_loop_rounds 2 ?_
  rw [rounds_succ]
  go_wp2_with fail
  rw [show (x : Int) / 4096 = ((x / 4096 : Nat) : Int) by omega]
  have hB2 : BP w1 gb o gn gt (x / 4096) p p := by
    obtain ⟨np, cn, nt, ct, h1, h2, h3, h4, h5, h6, h7, h8⟩ := HBP.out
    exact ⟨np, cn, nt, ct, h1, h2, h3, h4, (HB1.out.cell (cell_lt h5)).trans h5, (HB1.out.cell (cell_lt h6)).trans h6, (HB1.out.cell (cell_lt h7)).trans h7, (HB1.out.cell (cell_lt h8)).trans h8⟩
  have hP1 := HPg.out.next HB1.out hplt
  have hgn1 : gn < w1.heap.size := Nat.lt_of_lt_of_le hgnl HB1.out.size
  have hold : w1.cell? ⟨gn, x / 4096, none⟩ = some (.pointer (some ⟨p, 0, none⟩)) := by
    obtain ⟨np, cn, nt, ct, h1, h2, h3, h4, h5, h6, h7, h8⟩ := hB2
    exact h7
  refine (c_own_same gb o gn gt p (x / 4096) c _ hB2 hP1 ((HB1.out.frozen (p := ⟨gn, _, none⟩) hgnl).trans (HF.out _)) hne).mono ?_
  rintro e w2 ⟨rfl, cs, n2, hcs, hw2⟩
  have hrow : w2.heap[w1.heap.size]? = some (.cells cs 97 (0, 0)) := by
    rw [hw2, Below.heap_setCell _ _ _ _ (by show w1.heap.size ≠ gn; omega), ← drewN_heap w1 n2]
    exact heap_alloc_new _ _
  have hfar : ∀ b k, b < w.heap.size → (b, k) ≠ (gn, x / 4096) → w2.cell? ⟨b, k, none⟩ = w.cell? ⟨b, k, none⟩ := fun b k hb hbk => by
    rw [hw2, World.cell?_setCell_other _ _ _ _ (fun e => by injection e with e1 e2; exact hbk (by rw [← e1, ← e2])), far_cell _ _ _ _ _ (Nat.lt_of_lt_of_le hb HB1.out.size)]
    exact HB1.out.cell (p := ⟨b, k, none⟩) hb
  have hnew : w2.cell? ⟨gn, x / 4096, none⟩ = some (.pointer (some ⟨w1.heap.size, 0, none⟩)) := by
    rw [hw2]
    exact World.cell?_setCell_same _ _ _ ((far_cell _ _ _ _ _ hgn1).trans hold)
  have hfz : ∀ k, w2.frozen? ⟨gn, k, none⟩ = false := fun k => by
    rw [hw2, World.frozen?_setCell, far_frozen _ _ _ _ _ hgn1]
    exact (HB1.out.frozen (p := ⟨gn, k, none⟩) hgnl).trans (HF.out k)
  have hgr : w.grownBy w2 (some gn) := by
    rw [hw2]
    have h1 : w.grownBy ((w1.drewN n2).alloc (.cells cs 97)) (some gn) := by
      have h := grown_drewN (grown_below HB1.out (some gn)) n2
      exact ⟨h.os, h.tape, h.output, Nat.le_trans h.size (by simp), fun i hi hne => (Below.heap_alloc _ _ i (Nat.lt_of_lt_of_le hi h.size)).trans (h.block i hi hne)⟩
    exact ⟨h1.os, h1.tape, h1.output, by simpa [World.setCell] using h1.size, fun i hi hne => (Below.heap_setCell _ _ _ i (fun e => hne (by rw [e]))).trans (h1.block i hi hne)⟩
  have HRow := Lib.hid hrow
  have HCs := Lib.hid hcs
  have HFar := Lib.hid hfar
  have HNew := Lib.hid hnew
  have HFz := Lib.hid hfz
  have HGr := Lib.hid hgr
  have HSrc : Hid (∀ j v, (newsP n z)[j]? = some v → w2.cell? ((⟨gs, os, none⟩ : Addr).add j) = some v) := by
    have h : Src w2 gs os n z := fun j hj => by
      rw [hfar gs (os + j) (cell_lt (HS.out j hj)) (fun e => hgs (by injection e))]
      exact HS.out j hj
    exact h.at_
  have hsl := slice_page w1.heap.size (x % 4096) ((x : Int) % 4096) (by omega) (Nat.mod_lt _ (by decide))
  obtain ⟨A3, hA3, hs3⟩ := slice_from gs os n cap n (Nat.le_refl _) hcap
  have HFit : Hid (x % 4096 + (newsP n z).length ≤ cs.size) := by
    show _ ≤ _
    rw [newsP_len, hcs.1]
    exact hpg
  have HMin : Hid ((newsP n z).length = Nat.min n (4096 - x % 4096)) := by
    show _ = _
    rw [newsP_len]
    show n = min n (4096 - x % 4096)
    omega
  have HLe := Lib.hid HB1.out.size
  generalize hG : w1.heap.size = g' at *
  clear hB2 hP1 hrow hcs hA3 hold hfar hnew hfz hgr hw2
  go_wp2_with (with_reducible refine wpList_copy_own rfl (.tmp 24) (.tmp 25) 37 37 rfl 5 Try.underlying37 u8_size g' (x % 4096) (4096 - x % 4096) (4096 - x % 4096) ⟨gs, os, none⟩ n cap rfl rfl cs 97 HRow.out (newsP n z) HMin.out HSrc.out HFit.out (newsP_one _ _) ?_)
  simp only [newsP_len]
  have hz0 : n - n = 0 := by omega
  rw [hz0] at hs3
  have hcm2 : n ≤ 16777216 := by omega
  go_quiet (fail)
  go_wp2_with fail
  rw [rounds_succ]
  go_wp2_with fail
  go_end0
  have hpg2 := upd_pg HCs.out (x % 4096) n z hpg HZ.out
  rw [newsP_len] at hpg2
  have hgg : g' ≠ gn := by omega
  refine ⟨rfl, ⟨g', HLe.out, Pg.drewN ⟨_, 97, setRow_heap _ g' cs _ 97 (0, 0) HRow.out, hpg2⟩ _, ?_⟩, fun k hk => ?_, fun k => ?_, ?_⟩
  · exact (World.cell?_of_block (a := ⟨gn, _, none⟩) (keep_row w2 g' gn hgg _ _)).trans HNew.out
  · exact (World.cell?_of_block (a := ⟨gn, _, none⟩) (keep_row w2 g' gn hgg _ _)).trans (HFar.out gn k hgnl (fun e => hk (by injection e)))
  · exact (World.frozen?_of_block (a := ⟨gn, _, none⟩) (keep_row w2 g' gn hgg _ _)).trans (HFz.out k)
  · exact grown_drewN (grown_setRow_new HGr.out HLe.out _) _
end Go.Proofs.Ytbflnkkoecfbaaa
