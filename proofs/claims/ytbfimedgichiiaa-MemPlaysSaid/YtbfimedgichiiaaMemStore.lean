/-
  The whole of a memory, as it is now and as it was at the mark, and that a byte that is put in keeps it whole.
-/
import Derived.Test.YtbfimedgichiiaaMemRead
import Derived.Laws.BitsAllLaws
namespace Go.Proofs.Ytbfimedgichiiaa
set_option linter.unusedVariables false
set_option linter.unusedSimpArgs false
open Go.ChangeShapes Go.WideShapes Go.ChangeAt Go.RowKit

theorem or_high (x y : Int) (k : Nat) (h0 : 0 ≤ x) (h1 : x < 2 ^ k) (h2 : 0 ≤ y) (h3 : y * 2 ^ k ≤ 4294967295) (h4 : x ≤ 4294967295) : bits BinOp.or IntKind.u32 x (y * 2 ^ k) = x + y * 2 ^ k := by
  have hp : (0 : Int) ≤ y * 2 ^ k := Int.mul_nonneg h2 (Int.pow_nonneg (by decide))
  rw [u32_or _ _ h0 (by omega) hp (by omega)]
  have e : (y * 2 ^ k).toNat = 2 ^ k * y.toNat := by
    have : y * 2 ^ k = ((2 ^ k * y.toNat : Nat) : Int) := by
      rw [Int.natCast_mul, Int.natCast_pow, Int.toNat_of_nonneg h2, Int.mul_comm]
      rfl
    rw [this, Int.toNat_natCast]
  have hx : x.toNat < 2 ^ k := by
    have : (x.toNat : Int) < ((2 ^ k : Nat) : Int) := by
      rw [Int.natCast_pow, Int.toNat_of_nonneg h0]
      exact h1
    exact Int.ofNat_lt.1 this
  rw [e, Nat.or_comm, ← Nat.two_pow_add_eq_or_of_lt hx y.toNat, ← e]
  have e2 : ((y * 2 ^ k).toNat : Int) = y * 2 ^ k := Int.toNat_of_nonneg hp
  omega
theorem or4 (z0 z1 z2 z3 : Int) (g0 : 0 ≤ z0) (l0 : z0 ≤ 255) (g1 : 0 ≤ z1) (l1 : z1 ≤ 255) (g2 : 0 ≤ z2) (l2 : z2 ≤ 255) (g3 : 0 ≤ z3) (l3 : z3 ≤ 255) :
    bits BinOp.or IntKind.u32 (bits BinOp.or IntKind.u32 (bits BinOp.or IntKind.u32 z0 (z1 * 256)) (z2 * 65536)) (z3 * 16777216) = z0 + z1 * 256 + z2 * 65536 + z3 * 16777216 := by
  rw [show bits BinOp.or IntKind.u32 z0 (z1 * 256) = z0 + z1 * 256 from or_high z0 z1 8 g0 (by omega) g1 (by omega) (by omega)]
  rw [show bits BinOp.or IntKind.u32 (z0 + z1 * 256) (z2 * 65536) = z0 + z1 * 256 + z2 * 65536 from or_high (z0 + z1 * 256) z2 16 (by omega) (by omega) g2 (by omega) (by omega)]
  exact or_high (z0 + z1 * 256 + z2 * 65536) z3 24 (by omega) (by omega) g3 (by omega) (by omega)
theorem ret_ue {a b c d : Int} (h : a = b) (g : c = d) : Ending.returned (.tuple #[.int .u32 a, .int .i64 c]) = .returned (.tuple #[.int .u32 b, .int .i64 d]) := by rw [h, g]
@[irreducible] def wordI (z0 z1 z2 z3 : Int) : Int := z0 + z1 * 256 + z2 * 65536 + z3 * 16777216
theorem c_From (b cap : Nat) (z0 z1 z2 z3 : Int) (w : World) (h0 : w.cell? ⟨b, 0, none⟩ = some (.int .u8 z0)) (h1 : w.cell? ⟨b, 1, none⟩ = some (.int .u8 z1)) (h2 : w.cell? ⟨b, 2, none⟩ = some (.int .u8 z2)) (h3 : w.cell? ⟨b, 3, none⟩ = some (.int .u8 z3))
    (g0 : 0 ≤ z0) (l0 : z0 ≤ 255) (g1 : 0 ≤ z1) (l1 : z1 ≤ 255) (g2 : 0 ≤ z2) (l2 : z2 ≤ 255) (g3 : 0 ≤ z3) (l3 : z3 ≤ 255) :
    Calls Try.prog 70 #[.slice (some ⟨b, 0, none⟩) 4 cap] w fun e w' => e = .returned (.tuple #[.int .u32 (wordI z0 z1 z2 z3), .int .i64 0]) ∧ Below w.heap.size w w' := by
  have HV : Hid (wordI z0 z1 z2 z3 = bits BinOp.or IntKind.u32 (bits BinOp.or IntKind.u32 (bits BinOp.or IntKind.u32 z0 (z1 * 256)) (z2 * 65536)) (z3 * 16777216)) := by
    show _ = _
    unfold wordI
    exact (or4 z0 z1 z2 z3 g0 l0 g1 l1 g2 l2 g3 l3).symm
  go_enter Try.func70, Try.ntmps70
  go_wp2
  go_quiet (fail)
  go_wp2
  go_ret2
  exact ⟨ret_ue HV.out.symm rfl, below_drewN (Below.refl _ _) _⟩
/-- The byte at a place, or a nought behind n of them. -/
def byAt (C : Nat → Nat → Int) (x n j : Nat) : Int := if j < n then C ((x + j) / 4096) ((x + j) % 4096) else 0
/-- The word that n bytes from a place on are. -/
@[irreducible] def ldI (C : Nat → Nat → Int) (x n : Nat) : Int := wordI (byAt C x n 0) (byAt C x n 1) (byAt C x n 2) (byAt C x n 3)
set_option maxHeartbeats 4000000 in
theorem c_load (gb o gn np cn G x n : Nat) (r : Rg) (P : Nat → Nat) (C : Nat → Nat → Int) (a : Int) (w : World) (hn : n = 1 ∨ n = 2 ∨ n = 4) (hR : RdH w G gb o gn np cn r P C) (hr : rgB r = true) (ha : a = r.fr + x) (ha2 : a ≤ 4294967295)
    (hx : (x : Int) + n ≤ r.sz) (hG : G ≤ w.heap.size) (hC : ∀ i k, i < np → k < 4096 → 0 ≤ C i k ∧ C i k ≤ 255) :
    Calls Try.prog 52 #[.pointer (some ⟨gb, o, none⟩), .int .u32 a, .int .i64 n] w fun e w' => e = .returned (.int .u32 (ldI C x n)) ∧ Below w.heap.size w w' := by
  have HR := Lib.hid hR
  have hnp : r.sz ≤ np * 4096 := hR.2.2.2.2.2.1
  have hbd : ∀ j, 0 ≤ byAt C x n j ∧ byAt C x n j ≤ 255 := by
    intro j
    unfold byAt
    split
    · exact hC _ _ (by omega) (Nat.mod_lt _ (by decide))
    · omega
  have HBD := Lib.hid hbd
  have HC := Lib.hid (fun (cap : Nat) (hcap : n ≤ cap) (hcm : cap ≤ 16777216) (w1 : World) (gl : Nat) (hgl : w.heap.size ≤ gl) (T : TypeId) (cur : List Value) (hR1 : RdH w1 G gb o gn np cn r P C) (hl : w1.heap[gl]? = some (.cells cur.toArray T (0, 0))) (hfit : 0 + n ≤ cur.length) =>
    c_read gb o gn np cn G gl 0 n cap x r P C cur T a w1 hR1 hr ha ha2 hx (by omega) hl hfit hcap hcm)
  have HCell : Hid (∀ (w2 : World) (g : Nat) (T : TypeId), w2.heap[g]? = some (.cells (splice [.int .u8 0, .int .u8 0, .int .u8 0, .int .u8 0] 0 (bytesAt C x n)).toArray T (0, 0)) → ∀ j, j < 4 → w2.cell? ⟨g, j, none⟩ = some (.int .u8 (byAt C x n j))) := by
    intro w2 g T hh j hj
    rw [cell_of_row w2 g j _ _ (0, 0) hh]
    have : j = 0 ∨ j = 1 ∨ j = 2 ∨ j = 3 := by omega
    unfold splice bytesAt byAt
    rcases hn with rfl | rfl | rfl <;> rcases this with rfl | rfl | rfl | rfl <;> rfl
  clear hR hr ha ha2 hbd
  go_enter Try.func52, Try.ntmps52
  rcases hn with rfl | rfl | rfl
  all_goals
    go_wp2_with fail
    refine (HC.out 4 (by decide) (by decide) _ w.heap.size (Nat.le_refl _) _ [.int .u8 0, .int .u8 0, .int .u8 0, .int .u8 0] (HR.out.next (below_new w _) hG) (heap_alloc_new w _) (by decide)).mono ?_
    rintro e w2 ⟨rfl, hh, hb2⟩
    have hcell := HCell.out w2 w.heap.size _ hh
    have k0 := hcell 0 (by decide)
    have k1 := hcell 1 (by decide)
    have k2 := hcell 2 (by decide)
    have k3 := hcell 3 (by decide)
    have HB2 : Hid (Below w.heap.size w w2) := (below_new w _).trans hb2
    have HS : w.heap.size < w2.heap.size := cell_lt k0
    clear hcell hh hb2
    go_wp2_with fail
    have b0 := HBD.out 0
    have b1 := HBD.out 1
    have b2 := HBD.out 2
    have b3 := HBD.out 3
    refine (c_From _ _ _ _ _ _ _ k0 k1 k2 k3 b0.1 b0.2 b1.1 b1.2 b2.1 b2.2 b3.1 b3.2).mono ?_
    rintro e w3 ⟨rfl, hb3⟩
    have HB3 := Lib.hid (below_on HB2.out hb3 HB2.out.size)
    clear hb3 b0 b1 b2 b3
    go_wp2_with fail
    go_returns
    refine ⟨?_, HB3.out⟩
    unfold ldI
    rfl
end Go.Proofs.Ytbfimedgichiiaa
namespace Go.Proofs.Ytbfimedgichiiaa
set_option linter.unusedVariables false
set_option linter.unusedSimpArgs false
open Go.ChangeShapes Go.WideShapes Go.ChangeAt Go.RowKit

/-- A page with n bytes put in from a place on. -/
def updP (c : Nat → Int) (f n : Nat) (z : Nat → Int) (k : Nat) : Int := if f ≤ k ∧ k < f + n then z (k - f) else c k
def newsP (n : Nat) (z : Nat → Int) : List Value := (List.range n).map fun j => Value.int .u8 (z j)
theorem newsP_len (n : Nat) (z : Nat → Int) : (newsP n z).length = n := by unfold newsP; simp
theorem newsP_one (n : Nat) (z : Nat → Int) : ∀ v ∈ newsP n z, v.oneCell' = true := by
  intro v hv
  unfold newsP at hv
  obtain ⟨j, _, rfl⟩ := List.mem_map.1 hv
  rfl
theorem newsP_get (n : Nat) (z : Nat → Int) (j : Nat) (v : Value) (h : (newsP n z)[j]? = some v) : j < n ∧ v = .int .u8 (z j) := by
  have hj : j < n := by
    have := (List.getElem?_eq_some_iff.1 h).1
    rw [newsP_len] at this
    exact this
  refine ⟨hj, ?_⟩
  unfold newsP at h
  rw [List.getElem?_map, List.getElem?_range hj] at h
  exact (Option.some.inj h).symm
theorem upd_pg {cs : Array Value} {c : Nat → Int} (h : PgC cs c) (f n : Nat) (z : Nat → Int) (hf : f + n ≤ 4096) (hz : ∀ j, j < n → 0 ≤ z j ∧ z j ≤ 255) :
    PgC ((cs.toList.take f ++ (newsP n z ++ cs.toList.drop (f + (newsP n z).length))).toArray) (updP c f n z) := by
  rw [newsP_len, ← List.append_assoc]
  have hs := h.1
  have hl : (cs.toList.take f).length = f := by rw [List.length_take]; simp; omega
  refine ⟨by simp [newsP_len]; omega, fun k hk => ?_⟩
  obtain ⟨h1, h2, h3⟩ := h.2 k hk
  have h1' : cs.toList[k]? = some (.int .u8 (c k)) := by rw [Array.getElem?_toList]; exact h1
  unfold updP
  rw [List.getElem?_toArray]
  by_cases hkf : k < f
  · rw [if_neg (by omega)]
    refine ⟨?_, h2, h3⟩
    rw [List.append_assoc, List.getElem?_append_left (by omega), List.getElem?_take, if_pos hkf]
    exact h1'
  · by_cases hkn : k < f + n
    · rw [if_pos (by omega)]
      have hz' := hz (k - f) (by omega)
      refine ⟨?_, hz'.1, hz'.2⟩
      rw [List.append_assoc, List.getElem?_append_right (by omega), hl, List.getElem?_append_left (by rw [newsP_len]; omega)]
      unfold newsP
      rw [List.getElem?_map, List.getElem?_range (by omega)]
      rfl
    · rw [if_neg (by omega)]
      refine ⟨?_, h2, h3⟩
      rw [List.append_assoc, List.getElem?_append_right (by omega), hl, List.getElem?_append_right (by rw [newsP_len]; omega), newsP_len, List.getElem?_drop, show f + n + (k - f - n) = k by omega]
      exact h1'
/-- The bytes that stand in a slice. -/
def Src (w : World) (gs os n : Nat) (z : Nat → Int) : Prop := ∀ j, j < n → w.cell? ⟨gs, os + j, none⟩ = some (.int .u8 (z j))
theorem Src.at_ {w : World} {gs os n : Nat} {z : Nat → Int} (h : Src w gs os n z) : ∀ j v, (newsP n z)[j]? = some v → w.cell? ((⟨gs, os, none⟩ : Addr).add j) = some v := by
  intro j v hv
  obtain ⟨hj, rfl⟩ := newsP_get _ _ _ _ hv
  have hadd : (⟨gs, os, none⟩ : Addr).add j = ⟨gs, os + j, none⟩ := by unfold Addr.add; split <;> simp_all
  rw [hadd]
  exact h j hj
theorem grown_drewN {w w' : World} {g : Option Nat} (h : w.grownBy w' g) (n : Nat) : w.grownBy (w'.drewN n) g := by
  have hb := below_drewN (Below.refl w'.heap.size w') n
  exact ⟨hb.os.trans h.os, hb.tape.trans h.tape, hb.output.trans h.output, by rw [drewN_heap]; exact h.size, fun i hi hne => by rw [drewN_heap]; exact h.block i hi hne⟩
theorem grown_setRow {w w' : World} {g : Nat} (h : w.grownBy w' (some g)) (cs : Array Value) : w.grownBy (w'.setRow g cs) (some g) :=
  ⟨h.os, h.tape, h.output, by simpa [World.setRow] using h.size, fun i hi hne => by
    have hne' : ¬ g = i := fun e => hne (by rw [e])
    have : (w'.setRow g cs).heap[i]? = w'.heap[i]? := by
      unfold World.setRow
      simp [Array.getElem?_modify, hne']
    rw [this]
    exact h.block i hi hne⟩
theorem grown_setRow_new {w w' : World} {g : Nat} {r : Option Nat} (h : w.grownBy w' r) (hg : w.heap.size ≤ g) (cs : Array Value) : w.grownBy (w'.setRow g cs) r :=
  ⟨h.os, h.tape, h.output, by simpa [World.setRow] using h.size, fun i hi hne => by
    have hne' : ¬ g = i := by omega
    have : (w'.setRow g cs).heap[i]? = w'.heap[i]? := by
      unfold World.setRow
      simp [Array.getElem?_modify, hne']
    rw [this]
    exact h.block i hi hne⟩
theorem keep_row (w2 : World) (g gn : Nat) (h : g ≠ gn) (cs : Array Value) (n : Nat) : ((w2.setRow g cs).drewN n).heap[gn]? = w2.heap[gn]? := by
  rw [drewN_heap]
  unfold World.setRow
  simp [Array.getElem?_modify, h]
theorem grown_below {w w' : World} (h : Below w.heap.size w w') (g : Option Nat) : w.grownBy w' g := ⟨h.os, h.tape, h.output, h.size, fun i hi _ => h.block i hi⟩
set_option maxRecDepth 100000 in
set_option maxHeartbeats 4000000 in
theorem c_fill_own (gb o gn gt np cn x n gs os cap p q : Nat) (r : Rg) (c d : Nat → Int) (z : Nat → Int) (a : Int) (w : World) (hr : rgB r = true) (ha : a = r.fr + x) (ha2 : a ≤ 4294967295) (hn : 0 < n) (hpg : x % 4096 + n ≤ 4096) (hxm : x ≤ 16777216)
    (hcap : n ≤ cap) (hcm : cap ≤ 16777216)
    (y0 : w.cell? ⟨gb, o, none⟩ = some (.string ⟨r.nm.toArray⟩)) (y1 : w.cell? ⟨gb, o + 1, none⟩ = some (.int .i64 r.fr)) (y2 : w.cell? ⟨gb, o + 2, none⟩ = some (.int .i64 r.sz)) (y3 : w.cell? ⟨gb, o + 3, none⟩ = some (.bool r.wr)) (y4 : w.cell? ⟨gb, o + 4, none⟩ = some (.bool r.ex))
    (hB : BP w gb o gn gt (x / 4096) p q) (hp : Pg w p c) (hq : Pg w q d) (hpq : p ≠ q) (hS : Src w gs os n z) (hz : ∀ j, j < n → 0 ≤ z j ∧ z j ≤ 255) :
    Calls Try.prog 31 #[.pointer (some ⟨gb, o, none⟩), .int .u32 a, .slice (some ⟨gs, os, none⟩) n cap] w
      fun e w' => e = .returned (.tuple #[]) ∧ Pg w' p (updP c (x % 4096) n z) ∧ w.grownBy w' (some p) := by
  have HB := Lib.hid (rg_bd hr)
  have hb := HB.out
  have HZ := Lib.hid hz
  have HS := Lib.hid hS
  have HBP := Lib.hid hB
  have HPg := Lib.hid hp
  have HQg := Lib.hid hq
  have hplt : p < w.heap.size := by obtain ⟨cs, T, h, _⟩ := hp; exact (Array.getElem?_eq_some_iff.1 h).1
  have hqlt : q < w.heap.size := by obtain ⟨cs, T, h, _⟩ := hq; exact (Array.getElem?_eq_some_iff.1 h).1
  have HA := Lib.hid ha
  clear hr hz hS hB hp hq ha
  go_enter Try.func31, Try.ntmps31
  go_wp2_with fail
  have haa := HA.out
  refine (c_place _ _ _ _ _ _ _ (by omega) (by omega) (by omega) (by omega)).mono ?_
  rintro e w1 ⟨rfl, hb1⟩
  rw [show a - r.fr = (x : Int) by omega]
  have HB1 := Lib.hid hb1
  clear hb y0 y1 y2 y3 y4 hb1 haa ha2
  go_wp2_with fail
  refine wp_loop_rounds 2 ?_
  rw [rounds_succ]
  go_wp2_with fail
  rw [show (x : Int) / 4096 = ((x / 4096 : Nat) : Int) by omega]
  have hB2 : BP w1 gb o gn gt (x / 4096) p q := by
    obtain ⟨np, cn, nt, ct, h1, h2, h3, h4, h5, h6, h7, h8⟩ := HBP.out
    exact ⟨np, cn, nt, ct, h1, h2, h3, h4, (HB1.out.cell (cell_lt h5)).trans h5, (HB1.out.cell (cell_lt h6)).trans h6, (HB1.out.cell (cell_lt h7)).trans h7, (HB1.out.cell (cell_lt h8)).trans h8⟩
  have hP1 := HPg.out.next HB1.out hplt
  refine (c_own_other gb o gn gt p q (x / 4096) c d _ hB2 hP1 (HQg.out.next HB1.out hqlt) hpq).mono ?_
  rintro e w2 ⟨rfl, n2, rfl⟩
  obtain ⟨cs, T, hrow, hcs⟩ := hP1.drewN n2
  have HRow := Lib.hid hrow
  have HCs := Lib.hid hcs
  have HSrc : Hid (∀ j v, (newsP n z)[j]? = some v → (w1.drewN n2).cell? ((⟨gs, os, none⟩ : Addr).add j) = some v) := by
    have h : Src (w1.drewN n2) gs os n z := fun j hj => by
      have hb := below_drewN HB1.out n2
      exact (hb.cell (cell_lt (HS.out j hj))).trans (HS.out j hj)
    exact h.at_
  have hsl := slice_page p (x % 4096) ((x : Int) % 4096) (by omega) (Nat.mod_lt _ (by decide))
  obtain ⟨A3, hA3, hs3⟩ := slice_from gs os n cap n (Nat.le_refl _) hcap
  have HFit : Hid (x % 4096 + (newsP n z).length ≤ cs.size) := by
    show _ ≤ _
    rw [newsP_len, hcs.1]
    exact hpg
  have HMin : Hid ((newsP n z).length = Nat.min n (4096 - x % 4096)) := by
    show _ = _
    rw [newsP_len]
    show n = min n (4096 - x % 4096)
    omega
  clear hB2 hP1 hrow hcs hA3 hpq
  go_wp2_with (with_reducible refine wpList_copy_own rfl (.tmp 24) (.tmp 25) 37 37 rfl 5 Try.underlying37 u8_size p (x % 4096) (4096 - x % 4096) (4096 - x % 4096) ⟨gs, os, none⟩ n cap rfl rfl cs T HRow.out (newsP n z) HMin.out HSrc.out HFit.out (newsP_one _ _) ?_)
  simp only [newsP_len]
  have hz0 : n - n = 0 := by omega
  rw [hz0] at hs3
  have hcm2 : n ≤ 16777216 := by omega
  go_quiet (fail)
  go_wp2_with fail
  rw [rounds_succ]
  go_wp2_with fail
  go_end0
  have hgr : w.grownBy (w1.drewN n2) (some p) := grown_drewN (grown_below HB1.out _) n2
  have hpg2 := upd_pg HCs.out (x % 4096) n z hpg HZ.out
  rw [newsP_len] at hpg2
  refine ⟨rfl, ?_, grown_drewN (grown_setRow hgr _) _⟩
  exact Pg.drewN ⟨_, T, setRow_heap _ p cs _ T (0, 0) HRow.out, hpg2⟩ _
set_option maxRecDepth 100000 in
set_option maxHeartbeats 4000000 in
theorem c_fill_shared (gb o gn gt np cn x n gs os cap p : Nat) (r : Rg) (c : Nat → Int) (z : Nat → Int) (a : Int) (w : World) (hr : rgB r = true) (ha : a = r.fr + x) (ha2 : a ≤ 4294967295) (hn : 0 < n) (hpg : x % 4096 + n ≤ 4096) (hxm : x ≤ 16777216)
    (hcap : n ≤ cap) (hcm : cap ≤ 16777216)
    (y0 : w.cell? ⟨gb, o, none⟩ = some (.string ⟨r.nm.toArray⟩)) (y1 : w.cell? ⟨gb, o + 1, none⟩ = some (.int .i64 r.fr)) (y2 : w.cell? ⟨gb, o + 2, none⟩ = some (.int .i64 r.sz)) (y3 : w.cell? ⟨gb, o + 3, none⟩ = some (.bool r.wr)) (y4 : w.cell? ⟨gb, o + 4, none⟩ = some (.bool r.ex))
    (hB : BP w gb o gn gt (x / 4096) p p) (hp : Pg w p c) (hf : ∀ k, w.frozen? ⟨gn, k, none⟩ = false) (hne : gb ≠ gn) (hgs : gs ≠ gn) (hS : Src w gs os n z) (hz : ∀ j, j < n → 0 ≤ z j ∧ z j ≤ 255) :
    Calls Try.prog 31 #[.pointer (some ⟨gb, o, none⟩), .int .u32 a, .slice (some ⟨gs, os, none⟩) n cap] w
      fun e w' => e = .returned (.tuple #[]) ∧ (∃ g, w.heap.size ≤ g ∧ Pg w' g (updP c (x % 4096) n z) ∧ w'.cell? ⟨gn, x / 4096, none⟩ = some (.pointer (some ⟨g, 0, none⟩))) ∧ (∀ k, k ≠ x / 4096 → w'.cell? ⟨gn, k, none⟩ = w.cell? ⟨gn, k, none⟩) ∧ (∀ k, w'.frozen? ⟨gn, k, none⟩ = false) ∧ w.grownBy w' (some gn) := by
  have HB := Lib.hid (rg_bd hr)
  have hb := HB.out
  have HZ := Lib.hid hz
  have HS := Lib.hid hS
  have HBP := Lib.hid hB
  have HPg := Lib.hid hp
  have HF := Lib.hid hf
  have hplt : p < w.heap.size := by obtain ⟨cs, T, h, _⟩ := hp; exact (Array.getElem?_eq_some_iff.1 h).1
  have hgnl : gn < w.heap.size := by obtain ⟨np, cn, nt, ct, h1, h2, h3, h4, h5, h6, h7, h8⟩ := hB; exact cell_lt h7
  have HA := Lib.hid ha
  clear hr hz hS hB hp hf ha
  go_enter Try.func31, Try.ntmps31
  go_wp2_with fail
  have haa := HA.out
  refine (c_place _ _ _ _ _ _ _ (by omega) (by omega) (by omega) (by omega)).mono ?_
  rintro e w1 ⟨rfl, hb1⟩
  rw [show a - r.fr = (x : Int) by omega]
  have HB1 := Lib.hid hb1
  clear hb y0 y1 y2 y3 y4 hb1 haa ha2
  go_wp2_with fail
  refine wp_loop_rounds 2 ?_
  rw [rounds_succ]
  go_wp2_with fail
  rw [show (x : Int) / 4096 = ((x / 4096 : Nat) : Int) by omega]
  have hB2 : BP w1 gb o gn gt (x / 4096) p p := by
    obtain ⟨np, cn, nt, ct, h1, h2, h3, h4, h5, h6, h7, h8⟩ := HBP.out
    exact ⟨np, cn, nt, ct, h1, h2, h3, h4, (HB1.out.cell (cell_lt h5)).trans h5, (HB1.out.cell (cell_lt h6)).trans h6, (HB1.out.cell (cell_lt h7)).trans h7, (HB1.out.cell (cell_lt h8)).trans h8⟩
  have hP1 := HPg.out.next HB1.out hplt
  have hgn1 : gn < w1.heap.size := Nat.lt_of_lt_of_le hgnl HB1.out.size
  have hold : w1.cell? ⟨gn, x / 4096, none⟩ = some (.pointer (some ⟨p, 0, none⟩)) := by
    obtain ⟨np, cn, nt, ct, h1, h2, h3, h4, h5, h6, h7, h8⟩ := hB2
    exact h7
  refine (c_own_same gb o gn gt p (x / 4096) c _ hB2 hP1 ((HB1.out.frozen (p := ⟨gn, _, none⟩) hgnl).trans (HF.out _)) hne).mono ?_
  rintro e w2 ⟨rfl, cs, n2, hcs, hw2⟩
  have hrow : w2.heap[w1.heap.size]? = some (.cells cs 97 (0, 0)) := by
    rw [hw2, Below.heap_setCell _ _ _ _ (by show w1.heap.size ≠ gn; omega), ← drewN_heap w1 n2]
    exact heap_alloc_new _ _
  have hfar : ∀ b k, b < w.heap.size → (b, k) ≠ (gn, x / 4096) → w2.cell? ⟨b, k, none⟩ = w.cell? ⟨b, k, none⟩ := fun b k hb hbk => by
    rw [hw2, World.cell?_setCell_other _ _ _ _ (fun e => by injection e with e1 e2; exact hbk (by rw [← e1, ← e2])), far_cell _ _ _ _ _ (Nat.lt_of_lt_of_le hb HB1.out.size)]
    exact HB1.out.cell (p := ⟨b, k, none⟩) hb
  have hnew : w2.cell? ⟨gn, x / 4096, none⟩ = some (.pointer (some ⟨w1.heap.size, 0, none⟩)) := by
    rw [hw2]
    exact World.cell?_setCell_same _ _ _ ((far_cell _ _ _ _ _ hgn1).trans hold)
  have hfz : ∀ k, w2.frozen? ⟨gn, k, none⟩ = false := fun k => by
    rw [hw2, World.frozen?_setCell, far_frozen _ _ _ _ _ hgn1]
    exact (HB1.out.frozen (p := ⟨gn, k, none⟩) hgnl).trans (HF.out k)
  have hgr : w.grownBy w2 (some gn) := by
    rw [hw2]
    have h1 : w.grownBy ((w1.drewN n2).alloc (.cells cs 97)) (some gn) := by
      have h := grown_drewN (grown_below HB1.out (some gn)) n2
      exact ⟨h.os, h.tape, h.output, Nat.le_trans h.size (by simp), fun i hi hne => (Below.heap_alloc _ _ i (Nat.lt_of_lt_of_le hi h.size)).trans (h.block i hi hne)⟩
    exact ⟨h1.os, h1.tape, h1.output, by simpa [World.setCell] using h1.size, fun i hi hne => (Below.heap_setCell _ _ _ i (fun e => hne (by rw [e]))).trans (h1.block i hi hne)⟩
  have HRow := Lib.hid hrow
  have HCs := Lib.hid hcs
  have HFar := Lib.hid hfar
  have HNew := Lib.hid hnew
  have HFz := Lib.hid hfz
  have HGr := Lib.hid hgr
  have HSrc : Hid (∀ j v, (newsP n z)[j]? = some v → w2.cell? ((⟨gs, os, none⟩ : Addr).add j) = some v) := by
    have h : Src w2 gs os n z := fun j hj => by
      rw [hfar gs (os + j) (cell_lt (HS.out j hj)) (fun e => hgs (by injection e))]
      exact HS.out j hj
    exact h.at_
  have hsl := slice_page w1.heap.size (x % 4096) ((x : Int) % 4096) (by omega) (Nat.mod_lt _ (by decide))
  obtain ⟨A3, hA3, hs3⟩ := slice_from gs os n cap n (Nat.le_refl _) hcap
  have HFit : Hid (x % 4096 + (newsP n z).length ≤ cs.size) := by
    show _ ≤ _
    rw [newsP_len, hcs.1]
    exact hpg
  have HMin : Hid ((newsP n z).length = Nat.min n (4096 - x % 4096)) := by
    show _ = _
    rw [newsP_len]
    show n = min n (4096 - x % 4096)
    omega
  have HLe := Lib.hid HB1.out.size
  generalize hG : w1.heap.size = g' at *
  clear hB2 hP1 hrow hcs hA3 hold hfar hnew hfz hgr hw2
  go_wp2_with (with_reducible refine wpList_copy_own rfl (.tmp 24) (.tmp 25) 37 37 rfl 5 Try.underlying37 u8_size g' (x % 4096) (4096 - x % 4096) (4096 - x % 4096) ⟨gs, os, none⟩ n cap rfl rfl cs 97 HRow.out (newsP n z) HMin.out HSrc.out HFit.out (newsP_one _ _) ?_)
  simp only [newsP_len]
  have hz0 : n - n = 0 := by omega
  rw [hz0] at hs3
  have hcm2 : n ≤ 16777216 := by omega
  go_quiet (fail)
  go_wp2_with fail
  rw [rounds_succ]
  go_wp2_with fail
  go_end0
  have hpg2 := upd_pg HCs.out (x % 4096) n z hpg HZ.out
  rw [newsP_len] at hpg2
  have hgg : g' ≠ gn := by omega
  refine ⟨rfl, ⟨g', HLe.out, Pg.drewN ⟨_, 97, setRow_heap _ g' cs _ 97 (0, 0) HRow.out, hpg2⟩ _, ?_⟩, fun k hk => ?_, fun k => ?_, ?_⟩
  · exact (World.cell?_of_block (a := ⟨gn, _, none⟩) (keep_row w2 g' gn hgg _ _)).trans HNew.out
  · exact (World.cell?_of_block (a := ⟨gn, _, none⟩) (keep_row w2 g' gn hgg _ _)).trans (HFar.out gn k hgnl (fun e => hk (by injection e)))
  · exact (World.frozen?_of_block (a := ⟨gn, _, none⟩) (keep_row w2 g' gn hgg _ _)).trans (HFz.out k)
  · exact grown_drewN (grown_setRow_new HGr.out HLe.out _) _
end Go.Proofs.Ytbfimedgichiiaa
namespace Go.Proofs.Ytbfimedgichiiaa
set_option linter.unusedVariables false
set_option linter.unusedSimpArgs false
open Go.ChangeShapes Go.WideShapes Go.ChangeAt Go.RowKit

/-- A memory that can be read: its banks, their pages as they are now. -/
def MR (w : World) (G gm gb nb cap : Nat) (R : Nat → Rg) (gn np cn : Nat → Nat) (P : Nat → Nat → Nat) (C : Nat → Nat → Nat → Int) : Prop :=
  MB w gm gb nb cap R ∧ gm < G ∧ nb ≤ 16 ∧ (∀ i, i < nb → rgB (R i) = true) ∧ (∀ i, i < nb → RdH w G gb (i * 7) (gn i) (np i) (cn i) (R i) (P i) (C i)) ∧ G ≤ w.heap.size
theorem MR.next {w w' : World} {G gm gb nb cap : Nat} {R : Nat → Rg} {gn np cn : Nat → Nat} {P : Nat → Nat → Nat} {C : Nat → Nat → Nat → Int} (h : MR w G gm gb nb cap R gn np cn P C) (hb : Below w.heap.size w w') : MR w' G gm gb nb cap R gn np cn P C := by
  obtain ⟨h1, h2, h3, h4, h5, h6⟩ := h
  exact ⟨h1.next hb, h2, h3, h4, fun i hi => (h5 i hi).next hb h6, Nat.le_trans h6 hb.size⟩
theorem MR.by_ {w : World} {G gm gb nb cap : Nat} {R : Nat → Rg} {gn np cn : Nat → Nat} {P : Nat → Nat → Nat} {C : Nat → Nat → Nat → Int} (h : MR w G gm gb nb cap R gn np cn P C) {i : Nat} (hi : i < nb) : ∀ j k, j < np i → k < 4096 → 0 ≤ C i j k ∧ C i j k ≤ 255 := by
  intro j k hj hk
  obtain ⟨_, hp, _⟩ := (h.2.2.2.2.1 i hi).2.2.2.2.2.2 j hj
  obtain ⟨cs, T, _, hc⟩ := hp
  exact (hc.2 k hk).2
/-- What a load answers. -/
def LdIs (gb nb : Nat) (R : Nat → Rg) (C : Nat → Nat → Nat → Int) (a n v e : Int) : Prop :=
  ∃ p, AccIs gb nb R a n p e ∧ (e ≠ 0 → v = 0) ∧ ∀ i, i < nb → p = some ⟨gb, i * 7, none⟩ → v = ldI (C i) (a - (R i).fr).toNat n.toNat
theorem hold_of {r : Rg} {a n : Int} (h : holdB r a n = true) : r.fr ≤ a ∧ a + n ≤ r.fr + r.sz := by unfold holdB at h; simpa using h
set_option maxHeartbeats 2000000 in
theorem c_MLoad (G gm gb nb cap : Nat) (R : Nat → Rg) (gn np cn : Nat → Nat) (P : Nat → Nat → Nat) (C : Nat → Nat → Nat → Int) (a n : Int) (w : World) (hM : MR w G gm gb nb cap R gn np cn P C) (h4 : 0 ≤ a) (h5 : a ≤ 4294967295) :
    Calls Try.prog 22 #[.pointer (some ⟨gm, 0, none⟩), .int .u32 a, .int .i64 n] w fun e w' => ∃ v c, e = .returned (.tuple #[.int .u32 v, .int .i64 c]) ∧ LdIs gb nb R C a n v c ∧ Below w.heap.size w w' := by
  have HM := Lib.hid hM
  clear hM
  go_enter Try.func22, Try.ntmps22
  go_wp2_with fail
  refine (c_access gm gb nb cap R a n _ HM.out.2.2.1 HM.out.1 HM.out.2.2.2.1 h4 h5).mono ?_
  rintro e w1 ⟨p, c, rfl, hA, hb1⟩
  have HA := Lib.hid hA
  have HB1 := Lib.hid hb1
  rcases hA with ⟨k1, rfl, rfl⟩ | ⟨k1, k2, rfl, rfl⟩ | ⟨k1, k2, hK⟩
  · clear hb1 k1
    go_wp2_with fail
    go_ret2
    exact ⟨0, 1, rfl, ⟨none, HA.out, fun _ => rfl, fun i hi h => by cases h⟩, HB1.out⟩
  · clear hb1 k1 k2
    go_wp2_with fail
    go_ret2
    exact ⟨0, 31, rfl, ⟨none, HA.out, fun _ => rfl, fun i hi h => by cases h⟩, HB1.out⟩
  · rcases hK with ⟨i, hi, hbf, hh, rfl, rfl⟩ | ⟨hno, rfl, rfl⟩
    · have hM1 := HM.out.next hb1
      have hh2 := hold_of hh
      have hbd := rg_bd (HM.out.2.2.2.1 i hi)
      have HL := Lib.hid (c_load gb (i * 7) (gn i) (np i) (cn i) G (a - (R i).fr).toNat n.toNat (R i) (P i) (C i) a w1 (by omega) (hM1.2.2.2.2.1 i hi) (HM.out.2.2.2.1 i hi) (by omega) h5 (by omega) hM1.2.2.2.2.2 (hM1.by_ hi))
      rw [show ((n.toNat : Nat) : Int) = n by omega] at HL
      clear hb1 k1 k2 hbf hh hM1 hh2 hbd
      go_wp2_with fail
      refine HL.out.mono ?_
      rintro e w2 ⟨rfl, hb2⟩
      have HB2 := Lib.hid (below_on HB1.out hb2 HB1.out.size)
      clear hb2 HL
      go_wp2_with fail
      go_ret2
      refine ⟨_, 0, rfl, ⟨_, HA.out, fun h => absurd rfl h, fun j hj h => ?_⟩, HB2.out⟩
      have e : i = j := by
        have : i * 7 = j * 7 := by injection h with h; injection h
        omega
      subst e
      rfl
    · clear hb1 k1 k2 hno
      go_wp2_with fail
      go_ret2
      exact ⟨0, 30, rfl, ⟨none, HA.out, fun _ => rfl, fun i hi h => by cases h⟩, HB1.out⟩
end Go.Proofs.Ytbfimedgichiiaa
namespace Go.Proofs.Ytbfimedgichiiaa
set_option linter.unusedVariables false
set_option linter.unusedSimpArgs false
open Go.ChangeShapes Go.WideShapes Go.ChangeAt Go.RowKit

/-- A bank's pages as they were at the mark. -/
def ThH (w : World) (G gb o gt np ct : Nat) (Q : Nat → Nat) (D : Nat → Nat → Int) : Prop :=
  w.cell? ⟨gb, o + 6, none⟩ = some (.slice (some ⟨gt, 0, none⟩) np ct) ∧ gt < G ∧ ∀ j, j < np → w.cell? ⟨gt, j, none⟩ = some (.pointer (some ⟨Q j, 0, none⟩)) ∧ Pg w (Q j) (D j) ∧ Q j < G
/-- The rows and pages of a memory lie apart; a page that now and then do not have in common stands nowhere else. -/
def Apart (gm gb nb : Nat) (gn gt np : Nat → Nat) (P Q : Nat → Nat → Nat) : Prop :=
  gm ≠ gb ∧ (∀ i, i < nb → gn i ≠ gm ∧ gn i ≠ gb ∧ gt i ≠ gm ∧ gt i ≠ gb) ∧ (∀ i i', i < nb → i' < nb → gn i ≠ gt i' ∧ (i ≠ i' → gn i ≠ gn i' ∧ gt i ≠ gt i')) ∧
  (∀ i j, i < nb → j < np i → (P i j ≠ gm ∧ P i j ≠ gb ∧ Q i j ≠ gm ∧ Q i j ≠ gb) ∧ ∀ i', i' < nb → P i j ≠ gn i' ∧ P i j ≠ gt i' ∧ Q i j ≠ gn i' ∧ Q i j ≠ gt i') ∧
  (∀ i j, i < nb → j < np i → P i j ≠ Q i j → ∀ i' j', i' < nb → j' < np i' → Q i' j' ≠ P i j ∧ (P i' j' = P i j → i' = i ∧ j' = j))
def MS (w : World) (G gm gb nb cap : Nat) (R : Nat → Rg) (gn gt np cn ct : Nat → Nat) (P Q : Nat → Nat → Nat) (C D : Nat → Nat → Nat → Int) : Prop :=
  MR w G gm gb nb cap R gn np cn P C ∧ (∀ i, i < nb → ThH w G gb (i * 7) (gt i) (np i) (ct i) (Q i) (D i)) ∧ (∀ i k, i < nb → w.frozen? ⟨gn i, k, none⟩ = false ∧ w.frozen? ⟨gt i, k, none⟩ = false) ∧ Apart gm gb nb gn gt np P Q
def upd2 {A : Type} (P : Nat → Nat → A) (i j : Nat) (v : A) : Nat → Nat → A := fun a b => if a = i ∧ b = j then v else P a b
theorem upd2_at {A : Type} (P : Nat → Nat → A) (i j : Nat) (v : A) : upd2 P i j v i j = v := by unfold upd2; rw [if_pos ⟨rfl, rfl⟩]
theorem upd2_off {A : Type} (P : Nat → Nat → A) (i j a b : Nat) (v : A) (h : ¬ (a = i ∧ b = j)) : upd2 P i j v a b = P a b := by unfold upd2; rw [if_neg h]
theorem Pg.of_block {w w' : World} {g : Nat} {c : Nat → Int} (h : Pg w g c) (e : w'.heap[g]? = w.heap[g]?) : Pg w' g c := by
  obtain ⟨cs, T, h1, h2⟩ := h
  exact ⟨cs, T, e.trans h1, h2⟩
/-- A write into a private page keeps the memory whole. -/
theorem MS.own {w w' : World} {G gm gb nb cap : Nat} {R : Nat → Rg} {gn gt np cn ct : Nat → Nat} {P Q : Nat → Nat → Nat} {C D : Nat → Nat → Nat → Int} (h : MS w G gm gb nb cap R gn gt np cn ct P Q C D)
    {i j : Nat} (hi : i < nb) (hj : j < np i) (hpq : P i j ≠ Q i j) {c : Nat → Int} (hp : Pg w' (P i j) c) (hg : w.grownBy w' (some (P i j))) :
    MS w' G gm gb nb cap R gn gt np cn ct P Q (upd2 C i j c) D := by
  obtain ⟨⟨⟨⟨mA, m0, mB⟩, m1⟩, m2, m3, m4, m5, m6⟩, t, f, a0, a1, a2, a3, a4⟩ := h
  have blk : ∀ b, b < G → b ≠ P i j → w'.heap[b]? = w.heap[b]? := fun b hb hne => hg.block b (by omega) (fun e => hne (by injection e))
  have gmne := (a3 i j hi hj).1
  have cel : ∀ b k, b < G → b ≠ P i j → w'.cell? ⟨b, k, none⟩ = w.cell? ⟨b, k, none⟩ := fun b k hb hne => World.cell?_of_block (a := ⟨b, k, none⟩) (blk b hb hne)
  have gbG : gb < G := by have := (m5 i hi).2.2.1; exact this
  have gnG : ∀ i', i' < nb → gn i' < G := fun i' h' => (m5 i' h').2.2.2.1
  have gnne : ∀ i', i' < nb → gn i' ≠ P i j := fun i' h' e => ((a3 i j hi hj).2 i' h').1 e.symm
  have gtne : ∀ i', i' < nb → gt i' ≠ P i j := fun i' h' e => ((a3 i j hi hj).2 i' h').2.1 e.symm
  refine ⟨⟨⟨⟨mA, (cel gm 0 m2 (fun e => gmne.1 e.symm)).trans m0, mB⟩, fun i' h' => ?_⟩, m2, m3, m4, fun i' h' => ?_, Nat.le_trans m6 hg.size⟩, fun i' h' => ?_, fun i' k h' => ?_, a0, a1, a2, a3, a4⟩
  · obtain ⟨k0, k1, k2, k3, k4⟩ := m1 i' h'
    have q := fun k => cel gb k gbG (fun e => gmne.2.1 e.symm)
    exact ⟨(q _).trans k0, (q _).trans k1, (q _).trans k2, (q _).trans k3, (q _).trans k4⟩
  · obtain ⟨⟨k0, k1, k2, k3, k4⟩, k5, k6, k7, k8, k9, k10⟩ := m5 i' h'
    have q := fun k => cel gb k gbG (fun e => gmne.2.1 e.symm)
    refine ⟨⟨(q _).trans k0, (q _).trans k1, (q _).trans k2, (q _).trans k3, (q _).trans k4⟩, (q _).trans k5, k6, k7, k8, k9, fun j' hj' => ?_⟩
    obtain ⟨l1, l2, l3⟩ := k10 j' hj'
    refine ⟨(cel _ _ k7 (gnne i' h')).trans l1, ?_, l3⟩
    by_cases e : i' = i ∧ j' = j
    · obtain ⟨rfl, rfl⟩ := e
      rw [upd2_at]
      exact hp
    · rw [upd2_off _ _ _ _ _ _ e]
      exact l2.of_block (blk _ l3 (fun ee => e ((a4 i j hi hj hpq i' j' h' hj').2 ee)))
  · obtain ⟨k0, k1, k2⟩ := t i' h'
    refine ⟨(cel gb _ gbG (fun e => gmne.2.1 e.symm)).trans k0, k1, fun j' hj' => ?_⟩
    obtain ⟨l1, l2, l3⟩ := k2 j' hj'
    exact ⟨(cel _ _ k1 (gtne i' h')).trans l1, l2.of_block (blk _ l3 (a4 i j hi hj hpq i' j' h' hj').1), l3⟩
  · exact ⟨(World.frozen?_of_block (a := ⟨gn i', k, none⟩) (blk _ (gnG i' h') (gnne i' h'))).trans (f i' k h').1, (World.frozen?_of_block (a := ⟨gt i', k, none⟩) (blk _ (t i' h').2.1 (gtne i' h'))).trans (f i' k h').2⟩
/-- A page that now and then had in common is copied, and written: the memory is whole. -/
theorem MS.shared {w w' : World} {G gm gb nb cap : Nat} {R : Nat → Rg} {gn gt np cn ct : Nat → Nat} {P Q : Nat → Nat → Nat} {C D : Nat → Nat → Nat → Int} (h : MS w G gm gb nb cap R gn gt np cn ct P Q C D)
    {i j : Nat} (hi : i < nb) (hj : j < np i) {c : Nat → Int} {g : Nat} (hsz : w.heap.size ≤ g) (hp : Pg w' g c) (hcell : w'.cell? ⟨gn i, j, none⟩ = some (.pointer (some ⟨g, 0, none⟩)))
    (hoth : ∀ k, k ≠ j → w'.cell? ⟨gn i, k, none⟩ = w.cell? ⟨gn i, k, none⟩) (hfz : ∀ k, w'.frozen? ⟨gn i, k, none⟩ = false) (hg : w.grownBy w' (some (gn i))) :
    MS w' w'.heap.size gm gb nb cap R gn gt np cn ct (upd2 P i j g) Q (upd2 C i j c) D := by
  obtain ⟨⟨⟨⟨mA, m0, mB⟩, m1⟩, m2, m3, m4, m5, m6⟩, t, f, a0, a1, a2, a3, a4⟩ := h
  have hgl : g < w'.heap.size := by obtain ⟨cs, T, hh, _⟩ := hp; exact (Array.getElem?_eq_some_iff.1 hh).1
  have hGG : G ≤ w'.heap.size := Nat.le_trans m6 hg.size
  have blk : ∀ b, b < G → b ≠ gn i → w'.heap[b]? = w.heap[b]? := fun b hb hne => hg.block b (by omega) (fun e => hne (by injection e))
  have cel : ∀ b k, b < G → b ≠ gn i → w'.cell? ⟨b, k, none⟩ = w.cell? ⟨b, k, none⟩ := fun b k hb hne => World.cell?_of_block (a := ⟨b, k, none⟩) (blk b hb hne)
  have gbG : gb < G := (m5 i hi).2.2.1
  have gnG : ∀ i', i' < nb → gn i' < G := fun i' h' => (m5 i' h').2.2.2.1
  have gtG : ∀ i', i' < nb → gt i' < G := fun i' h' => (t i' h').2.1
  have PG : ∀ i' j', i' < nb → j' < np i' → P i' j' < G := fun i' j' h' k' => ((m5 i' h').2.2.2.2.2.2 j' k').2.2
  have QG : ∀ i' j', i' < nb → j' < np i' → Q i' j' < G := fun i' j' h' k' => ((t i' h').2.2 j' k').2.2
  have gmne : gm ≠ gn i := fun e => (a1 i hi).1 e.symm
  have gbne : gb ≠ gn i := fun e => (a1 i hi).2.1 e.symm
  have rows : ∀ i' k, i' < nb → (i' = i → k ≠ j) → w'.cell? ⟨gn i', k, none⟩ = w.cell? ⟨gn i', k, none⟩ := fun i' k h' hk => by
    by_cases e : i' = i
    · subst e
      exact hoth k (hk rfl)
    · exact cel _ _ (gnG i' h') ((a2 i' i h' hi).2 e).1
  refine ⟨⟨⟨⟨mA, (cel gm 0 m2 gmne).trans m0, mB⟩, fun i' h' => ?_⟩, by omega, m3, m4, fun i' h' => ?_, Nat.le_refl _⟩, fun i' h' => ?_, fun i' k h' => ?_, a0, a1, a2, fun i' j' h' k' => ?_, fun i' j' h' k' hne => ?_⟩
  · obtain ⟨k0, k1, k2, k3, k4⟩ := m1 i' h'
    have q := fun k => cel gb k gbG gbne
    exact ⟨(q _).trans k0, (q _).trans k1, (q _).trans k2, (q _).trans k3, (q _).trans k4⟩
  · obtain ⟨⟨k0, k1, k2, k3, k4⟩, k5, k6, k7, k8, k9, k10⟩ := m5 i' h'
    have q := fun k => cel gb k gbG gbne
    refine ⟨⟨(q _).trans k0, (q _).trans k1, (q _).trans k2, (q _).trans k3, (q _).trans k4⟩, (q _).trans k5, by omega, by omega, k8, k9, fun j' hj' => ?_⟩
    obtain ⟨l1, l2, l3⟩ := k10 j' hj'
    by_cases e : i' = i ∧ j' = j
    · obtain ⟨rfl, rfl⟩ := e
      rw [upd2_at, upd2_at]
      exact ⟨hcell, hp, hgl⟩
    · rw [upd2_off _ _ _ _ _ _ e, upd2_off _ _ _ _ _ _ e]
      exact ⟨(rows i' j' h' (fun e1 e2 => e ⟨e1, e2⟩)).trans l1, l2.of_block (blk _ l3 ((a3 i' j' h' hj').2 i hi).1), by omega⟩
  · obtain ⟨k0, k1, k2⟩ := t i' h'
    refine ⟨(cel gb _ gbG gbne).trans k0, by omega, fun j' hj' => ?_⟩
    obtain ⟨l1, l2, l3⟩ := k2 j' hj'
    exact ⟨(cel _ _ k1 (fun e => (a2 i i' hi h').1 e.symm)).trans l1, l2.of_block (blk _ l3 ((a3 i' j' h' hj').2 i hi).2.2.1), by omega⟩
  · have hgt := (World.frozen?_of_block (a := ⟨gt i', k, none⟩) (blk _ (gtG i' h') (fun e => (a2 i i' hi h').1 e.symm))).trans (f i' k h').2
    by_cases e : i' = i
    · subst e
      exact ⟨hfz k, hgt⟩
    · exact ⟨(World.frozen?_of_block (a := ⟨gn i', k, none⟩) (blk _ (gnG i' h') ((a2 i' i h' hi).2 e).1)).trans (f i' k h').1, hgt⟩
  · have o := a3 i' j' h' k'
    by_cases e : i' = i ∧ j' = j
    · obtain ⟨rfl, rfl⟩ := e
      rw [upd2_at]
      refine ⟨⟨by omega, by omega, o.1.2.2.1, o.1.2.2.2⟩, fun i2 h2 => ?_⟩
      have := gnG i2 h2
      have := gtG i2 h2
      exact ⟨by omega, by omega, (o.2 i2 h2).2.2.1, (o.2 i2 h2).2.2.2⟩
    · rw [upd2_off _ _ _ _ _ _ e]
      exact o
  · intro i2 j2 h2 k2
    by_cases e : i' = i ∧ j' = j
    · obtain ⟨rfl, rfl⟩ := e
      rw [upd2_at]
      have q2 := QG i2 j2 h2 k2
      refine ⟨by omega, fun ee => ?_⟩
      by_cases e2 : i2 = i' ∧ j2 = j'
      · exact e2
      · rw [upd2_off _ _ _ _ _ _ e2] at ee
        have := PG i2 j2 h2 k2
        omega
    · rw [upd2_off _ _ _ _ _ _ e] at hne ⊢
      refine ⟨(a4 i' j' h' k' hne i2 j2 h2 k2).1, fun ee => ?_⟩
      by_cases e2 : i2 = i ∧ j2 = j
      · obtain ⟨rfl, rfl⟩ := e2
        rw [upd2_at] at ee
        have := PG i' j' h' k'
        omega
      · rw [upd2_off _ _ _ _ _ _ e2] at ee
        exact (a4 i' j' h' k' hne i2 j2 h2 k2).2 ee
end Go.Proofs.Ytbfimedgichiiaa
