/-
  The contract of read, in the code: the bytes of a bank from a place on.
-/
import Derived.Test.YtbfimedgichiiaaMemBank
import Derived.Laws.Rows
import Derived.Laws.CopyRow
import Derived.Laws.Tables
import Derived.LaidEqlPtr
import Derived.Laws.CopyOwn
namespace Go.Proofs.Ytbfimedgichiiaa
set_option linter.unusedVariables false
set_option linter.unusedSimpArgs false
open Go.ChangeShapes Go.WideShapes Go.ChangeAt Go.RowKit

/-- A page's cells: so many bytes. -/
def PgC (cs : Array Value) (c : Nat → Int) : Prop := cs.size = 4096 ∧ ∀ k, k < 4096 → cs[k]? = some (.int .u8 (c k)) ∧ 0 ≤ c k ∧ c k ≤ 255
/-- A block that is a page. -/
def Pg (w : World) (g : Nat) (c : Nat → Int) : Prop := ∃ cs T, w.heap[g]? = some (.cells cs T (0, 0)) ∧ PgC cs c
theorem Pg.next {N : Nat} {w w' : World} {g : Nat} {c : Nat → Int} (h : Pg w g c) (hb : Below N w w') (hg : g < N) : Pg w' g c := by
  obtain ⟨cs, T, hh, hc⟩ := h
  exact ⟨cs, T, (hb.block g hg).trans hh, hc⟩
theorem PgC.one {cs : Array Value} {c : Nat → Int} (h : PgC cs c) : cs.all (·.oneCell') = true := by
  rw [Array.all_eq_true]
  intro i hi
  have := (h.2 i (by have := h.1; omega)).1
  rw [Array.getElem?_eq_getElem hi] at this
  have e : cs[i] = .int .u8 (c i) := Option.some.inj this
  rw [e]
  rfl
theorem zcells : Try.zeroCells97 = Array.replicate 4096 (.int .u8 0) := by kernel_rfl
theorem zpage_pg : PgC Try.zeroCells97 (fun _ => 0) := by
  rw [zcells]
  exact ⟨by simp, fun k hk => ⟨by simp [hk], Int.le_refl _, by show (0 : Int) ≤ 255; decide⟩⟩
theorem page_size : (Try.prog.info? 97).map (·.size) = some 4096 := by kernel_rfl
theorem page_j : ∃ j, Try.prog.info? 97 = some j ∧ j.size = 4096 := by
  have h := page_size
  cases hi : Try.prog.info? 97 with
  | none => rw [hi] at h; cases h
  | some i => rw [hi] at h; exact ⟨i, rfl, by simpa using h⟩
theorem eq_same (p : Addr) (w : World) : (binOp .eql 95 (.pointer (some p)) (.pointer (some p))).run Try.prog w = .ok (.bool true) w := by
  obtain ⟨j, hj, _⟩ := page_j
  exact run_eql_ptr_same w p Try.underlying95 hj
theorem eq_other {p q : Nat} {c d : Nat → Int} {w : World} (hpq : p ≠ q) (hp : Pg w p c) (hq : Pg w q d) : (binOp .eql 95 (.pointer (some ⟨p, 0, none⟩)) (.pointer (some ⟨q, 0, none⟩))).run Try.prog w = .ok (.bool false) w := by
  obtain ⟨j, hj, hs⟩ := page_j
  obtain ⟨cs, T, h1, _⟩ := hp
  obtain ⟨ds, T', h2, _⟩ := hq
  exact run_eql_ptr_other w Try.underlying95 hj (by rw [hs]; decide) (fun e => hpq (by injection e)) h1 h2
theorem drewN_heap (w : World) : ∀ n, (w.drewN n).heap = w.heap
  | 0 => rfl
  | n + 1 => drewN_heap w.drew n
theorem Pg.drewN {w : World} {g : Nat} {c : Nat → Int} (h : Pg w g c) (n : Nat) : Pg (w.drewN n) g c := by
  obtain ⟨cs, T, h1, h2⟩ := h
  exact ⟨cs, T, by rw [drewN_heap]; exact h1, h2⟩
/-- A bank's page, as it is now and as it was at the mark. -/
def BP (w : World) (gb o gn gt i p q : Nat) : Prop :=
  ∃ np cn nt ct, i < np ∧ np ≤ 4096 ∧ i < nt ∧ nt ≤ 4096 ∧ w.cell? ⟨gb, o + 5, none⟩ = some (.slice (some ⟨gn, 0, none⟩) np cn) ∧ w.cell? ⟨gb, o + 6, none⟩ = some (.slice (some ⟨gt, 0, none⟩) nt ct) ∧
    w.cell? ⟨gn, i, none⟩ = some (.pointer (some ⟨p, 0, none⟩)) ∧ w.cell? ⟨gt, i, none⟩ = some (.pointer (some ⟨q, 0, none⟩))
/-- A page of its own is handed back as it is. -/
theorem c_own_other (gb o gn gt p q i : Nat) (c d : Nat → Int) (w : World) (hB : BP w gb o gn gt i p q) (hp : Pg w p c) (hq : Pg w q d) (hpq : p ≠ q) :
    Calls Try.prog 61 #[.pointer (some ⟨gb, o, none⟩), .int .i64 i] w fun e w' => e = .returned (.pointer (some ⟨p, 0, none⟩)) ∧ ∃ n, w' = w.drewN n := by
  obtain ⟨np, cn, nt, ct, h1, h2, h3, h4, h5, h6, h7, h8⟩ := hB
  have hE : ∀ n, (binOp .eql 95 (.pointer (some ⟨p, 0, none⟩)) (.pointer (some ⟨q, 0, none⟩))).run Try.prog (w.drewN n) = .ok (.bool false) (w.drewN n) := fun n => eq_other hpq (hp.drewN n) (hq.drewN n)
  clear hp hq hpq
  go_enter Try.func61, Try.ntmps61
  go_wp2_with fail
  go_quiet (fail)
  go_wp2_with fail
  go_returns
  exact ⟨rfl, _, rfl⟩
theorem setRow_new (w : World) (old cs : Array Value) (t : TypeId) (n : Nat) (hn : n = w.heap.size) : (w.alloc (.cells old t)).setRow n cs = w.alloc (.cells cs t) := by
  subst hn
  unfold World.setRow World.alloc
  congr 1
  apply Array.ext
  · simp
  · intro k h1 h2
    simp only [Array.getElem_modify, Array.getElem_push]
    split
    · rename_i hk
      subst hk
      simp
    · rename_i hk
      have : k < w.heap.size := by simp at h2; omega
      simp [this]
theorem far_cell (w : World) (n : Nat) (o : Obj) (b k : Nat) (h : b < w.heap.size) : ((w.drewN n).alloc o).cell? ⟨b, k, none⟩ = w.cell? ⟨b, k, none⟩ := by
  have hb : Below w.heap.size w ((w.drewN n).alloc o) := (below_drewN (Below.refl _ _) n).alloc (by rw [drewN_heap]; exact Nat.le_refl _) _
  exact hb.cell (p := ⟨b, k, none⟩) h
theorem far_frozen (w : World) (n : Nat) (o : Obj) (b k : Nat) (h : b < w.heap.size) : ((w.drewN n).alloc o).frozen? ⟨b, k, none⟩ = w.frozen? ⟨b, k, none⟩ := by
  have hb : Below w.heap.size w ((w.drewN n).alloc o) := (below_drewN (Below.refl _ _) n).alloc (by rw [drewN_heap]; exact Nat.le_refl _) _
  exact hb.frozen (p := ⟨b, k, none⟩) h
set_option maxRecDepth 100000 in
set_option maxHeartbeats 2000000 in
theorem c_own_same (gb o gn gt p i : Nat) (c : Nat → Int) (w : World) (hB : BP w gb o gn gt i p p) (hp : Pg w p c) (hf : w.frozen? ⟨gn, i, none⟩ = false) (hne : gb ≠ gn) :
    Calls Try.prog 61 #[.pointer (some ⟨gb, o, none⟩), .int .i64 i] w fun e w' => e = .returned (.pointer (some ⟨w.heap.size, 0, none⟩)) ∧
      ∃ cs n, PgC cs c ∧ w' = ((w.drewN n).alloc (.cells cs 97)).setCell ⟨gn, i, none⟩ (.pointer (some ⟨w.heap.size, 0, none⟩)) := by
  obtain ⟨np, cn, nt, ct, h1, h2, h3, h4, h5, h6, h7, h8⟩ := hB
  have hE := eq_same
  obtain ⟨cs, T, hh, hc⟩ := hp
  have HC := Lib.hid hc
  have HH : Hid (∀ n, (w.drewN n).heap[p]? = some (.cells cs T (0, 0))) := fun n => by rw [drewN_heap]; exact hh
  have HSz : Hid ((Try.prog.info? 97).map (·.size) = some cs.size) := by show _ = _; rw [page_size, hc.1]
  have HZ : Hid (Try.zeroCells97.size = cs.size) := by show _ = _; rw [Try.zeroCells97_size, hc.1]
  have HO := Lib.hid (PgC.one hc)
  have hgb : gb < w.heap.size := cell_lt h5
  have hgn : gn < w.heap.size := cell_lt h7
  have hne' : ¬ gn = gb := fun e => hne e.symm
  have k5 : ∀ n o', ((w.drewN n).alloc o').cell? ⟨gb, o + 5, none⟩ = some (.slice (some ⟨gn, 0, none⟩) np cn) := fun n o' => (far_cell w n o' gb (o + 5) hgb).trans h5
  have k7 : ∀ n o', ((w.drewN n).alloc o').cell? ⟨gn, i, none⟩ = some (.pointer (some ⟨p, 0, none⟩)) := fun n o' => (far_cell w n o' gn i hgn).trans h7
  have kf : ∀ n o', ((w.drewN n).alloc o').frozen? ⟨gn, i, none⟩ = false := fun n o' => (far_frozen w n o' gn i hgn).trans hf
  clear hh hc
  go_enter Try.func61, Try.ntmps61
  go_wp2_with fail
  go_quiet (fail)
  go_wp2_with (first
    | (refine wpList_load_row rfl 97 _ rfl p rfl T cs (0, 0) _ (HH.out _) Try.underlying97 rfl HSz.out ?_)
    | (refine wpList_store_row rfl 97 _ _ rfl w.heap.size cs rfl rfl 97 Try.zeroCells97 (by simp [World.alloc, drewN_heap]) HSz.out HZ.out HO.out ?_; rw [setRow_new _ _ _ _ _ (by rw [drewN_heap])]))
  go_returns
  exact ⟨rfl, cs, _, HC.out, rfl⟩
end Go.Proofs.Ytbfimedgichiiaa
namespace Go.Proofs.Ytbfimedgichiiaa
set_option linter.unusedVariables false
set_option linter.unusedSimpArgs false
open Go.ChangeShapes Go.WideShapes Go.ChangeAt Go.RowKit

/-- A bank that can be read: its range, its pages as they are now; all of it stands in blocks below G. -/
def RdH (w : World) (G gb o gn np cn : Nat) (r : Rg) (P : Nat → Nat) (C : Nat → Nat → Int) : Prop :=
  (w.cell? ⟨gb, o, none⟩ = some (.string ⟨r.nm.toArray⟩) ∧ w.cell? ⟨gb, o + 1, none⟩ = some (.int .i64 r.fr) ∧ w.cell? ⟨gb, o + 2, none⟩ = some (.int .i64 r.sz) ∧ w.cell? ⟨gb, o + 3, none⟩ = some (.bool r.wr) ∧ w.cell? ⟨gb, o + 4, none⟩ = some (.bool r.ex)) ∧
  w.cell? ⟨gb, o + 5, none⟩ = some (.slice (some ⟨gn, 0, none⟩) np cn) ∧ gb < G ∧ gn < G ∧ np ≤ 4096 ∧ r.sz ≤ np * 4096 ∧
  ∀ j, j < np → w.cell? ⟨gn, j, none⟩ = some (.pointer (some ⟨P j, 0, none⟩)) ∧ Pg w (P j) (C j) ∧ P j < G
theorem RdH.next {w w' : World} {N G gb o gn np cn : Nat} {r : Rg} {P : Nat → Nat} {C : Nat → Nat → Int} (h : RdH w G gb o gn np cn r P C) (hb : Below N w w') (hN : G ≤ N) : RdH w' G gb o gn np cn r P C := by
  obtain ⟨⟨h0, h1, h2, h3, h4⟩, h5, h6, h7, h8, h9, h10⟩ := h
  have g : ∀ k, w'.cell? ⟨gb, k, none⟩ = w.cell? ⟨gb, k, none⟩ := fun k => hb.cell (p := ⟨gb, k, none⟩) (by show gb < N; omega)
  refine ⟨⟨(g _).trans h0, (g _).trans h1, (g _).trans h2, (g _).trans h3, (g _).trans h4⟩, (g _).trans h5, h6, h7, h8, h9, fun j hj => ?_⟩
  obtain ⟨k1, k2, k3⟩ := h10 j hj
  exact ⟨(hb.cell (p := ⟨gn, j, none⟩) (by show gn < N; omega)).trans k1, k2.next hb (by omega), k3⟩
def bytesAt (C : Nat → Nat → Int) (x n : Nat) : List Value := (List.range n).map fun j => Value.int .u8 (C ((x + j) / 4096) ((x + j) % 4096))
theorem bytesAt_len (C : Nat → Nat → Int) (x n : Nat) : (bytesAt C x n).length = n := by unfold bytesAt; simp
theorem bytesAt_add (C : Nat → Nat → Int) (x n k : Nat) : bytesAt C x (n + k) = bytesAt C x n ++ bytesAt C (x + n) k := by
  unfold bytesAt
  rw [List.range_add, List.map_append, List.map_map]
  congr 1
  apply List.map_congr_left
  intro j hj
  simp [Nat.add_assoc]
theorem bytesAt_one (C : Nat → Nat → Int) (x n : Nat) : ∀ v ∈ bytesAt C x n, v.oneCell' = true := by
  intro v hv
  unfold bytesAt at hv
  obtain ⟨j, _, rfl⟩ := List.mem_map.1 hv
  rfl
theorem bytesAt_get (C : Nat → Nat → Int) (x n j : Nat) (v : Value) (h : (bytesAt C x n)[j]? = some v) : j < n ∧ v = .int .u8 (C ((x + j) / 4096) ((x + j) % 4096)) := by
  have hj : j < n := by
    have := (List.getElem?_eq_some_iff.1 h).1
    rw [bytesAt_len] at this
    exact this
  refine ⟨hj, ?_⟩
  unfold bytesAt at h
  rw [List.getElem?_map, List.getElem?_range hj] at h
  exact (Option.some.inj h).symm
theorem splice_on (cur : List Value) (o : Nat) (a b : List Value) (h : o + a.length + b.length ≤ cur.length) : splice (splice cur o a) (o + a.length) b = splice cur o (a ++ b) := by
  unfold splice
  have h1 : (cur.take o).length = o := by rw [List.length_take]; omega
  have h2 : (cur.take o ++ a).length = o + a.length := by rw [List.length_append, h1]
  have e1 : (cur.take o ++ a ++ cur.drop (o + a.length)).take (o + a.length) = cur.take o ++ a := List.take_left' h2
  have e2 : (cur.take o ++ a ++ cur.drop (o + a.length)).drop (o + a.length + b.length) = cur.drop (o + (a ++ b).length) := by
    rw [← List.drop_drop, List.drop_left' h2, List.drop_drop, List.length_append, Nat.add_assoc]
  rw [← List.append_assoc (cur.take o), e1, e2]
  simp
theorem slice_page (g f : Nat) (l : Int) (hl : l = (f : Int)) (hf : f < 4096) (w : World) : (Instr.sliceAt 97 (.pointer (some ⟨g, 0, none⟩)) (some (.int .i64 l)) none none).run Try.prog w = .ok (.slice (some ⟨g, f, none⟩) (4096 - f) (4096 - f)) w := by
  subst hl
  have hA : Try.prog.arrayLen 97 = 4096 := by kernel_rfl
  have hE : Try.prog.elem 97 = 5 := by kernel_rfl
  have ht : Try.prog.underlying 97 = some (.array (Try.prog.arrayLen 97) (Try.prog.elem 97)) := by kernel_rfl
  rw [run_sliceAt_array_l w 97 ⟨g, 0, none⟩ ht .i64 f (by omega) (by rw [hA]; omega), hE, hA, Try.sizeOf5]
  show Result.ok (slicedAt ⟨g, 0, none⟩ ((f : Int)).toNat 4096 4096 1) w = _
  unfold slicedAt Addr.add
  rw [Int.toNat_natCast, if_neg (by omega)]
  by_cases h0 : f = 0
  · subst h0; rfl
  · simp [h0]
theorem slice_from (g f len cap k : Nat) (hk : k ≤ len) (hc : len ≤ cap) : ∃ A : Option Addr, (k < len → A = some ⟨g, f + k, none⟩) ∧ ∀ w : World, (Instr.sliceAt 37 (.slice (some ⟨g, f, none⟩) len cap) (some (.int .i64 (k : Int))) none none).run Try.prog w = .ok (.slice A (len - k) (cap - k)) w := by
  refine ⟨if cap = k then some ⟨g, f, none⟩ else some ((⟨g, f, none⟩ : Addr).add k), fun h => ?_, fun w => ?_⟩
  · rw [if_neg (by omega)]
    unfold Addr.add
    by_cases h0 : k = 0
    · subst h0; rfl
    · simp [h0]
  · have hE : Try.prog.elem 37 = 5 := by kernel_rfl
    have ht : Try.prog.underlying 37 = some (.slice (Try.prog.elem 37)) := by kernel_rfl
    rw [run_sliceAt_slice w 37 _ _ _ _ ht, run_slice_l w 37 _ len cap ht .i64 k (by omega) (by omega), hE, Try.sizeOf5]
    show Result.ok (sliced (some ⟨g, f, none⟩) ((k : Int)).toNat len cap 1) w = _
    unfold sliced
    rw [Int.toNat_natCast, Nat.mul_one]
    by_cases h : cap = k <;> simp [h]
theorem u8_size : (Try.prog.info? 5).map (·.size) = some 1 := by kernel_rfl
theorem pg_src {w : World} {g : Nat} {c : Nat → Int} (h : Pg w g c) (f k : Nat) (hk : k < 4096) (hf : f = k) : w.cell? ⟨g, f, none⟩ = some (.int .u8 (c k)) := by
  subst hf
  obtain ⟨cs, T, hh, hc⟩ := h
  rw [cell_of_row w g f cs T (0, 0) hh]
  exact (hc.2 f hk).1
theorem page_at (x m j : Nat) (h : (x + m) % 4096 + j < 4096) : (x + m + j) / 4096 = (x + m) / 4096 ∧ (x + m + j) % 4096 = (x + m) % 4096 + j := by omega
set_option maxRecDepth 100000 in
set_option maxHeartbeats 4000000 in
theorem c_read (gb o gn np cn G gl ol n cap x : Nat) (r : Rg) (P : Nat → Nat) (C : Nat → Nat → Int) (cur : List Value) (T : TypeId) (a : Int) (w : World) (hR : RdH w G gb o gn np cn r P C) (hr : rgB r = true) (ha : a = r.fr + x) (ha2 : a ≤ 4294967295)
    (hx : (x : Int) + n ≤ r.sz) (hG : G ≤ gl) (hl : w.heap[gl]? = some (.cells cur.toArray T (0, 0))) (hfit : ol + n ≤ cur.length) (hcap : n ≤ cap) (hcm : cap ≤ 16777216) :
    Calls Try.prog 53 #[.pointer (some ⟨gb, o, none⟩), .int .u32 a, .slice (some ⟨gl, ol, none⟩) n cap] w
      fun e w' => e = .returned (.tuple #[]) ∧ w'.heap[gl]? = some (.cells (splice cur ol (bytesAt C x n)).toArray T (0, 0)) ∧ Below gl w w' := by
  have HR := Lib.hid hR
  have HB := Lib.hid (rg_bd hr)
  have HL := Lib.hid hl
  have ⟨⟨y0, y1, y2, y3, y4⟩, y5, _⟩ := hR
  have hgl : gl < w.heap.size := (Array.getElem?_eq_some_iff.1 hl).1
  have HA := Lib.hid ha
  clear hR hr hl ha
  go_enter Try.func53, Try.ntmps53
  go_wp2_with fail
  have hb := HB.out
  have haa := HA.out
  refine (c_place _ _ _ _ _ _ _ (by omega) (by omega) (by omega) (by omega)).mono ?_
  rintro e w1 ⟨rfl, hb1⟩
  rw [show a - r.fr = (x : Int) by omega]
  have HB1 : Hid (Below gl w w1) := hb1.mono (Nat.le_of_lt hgl)
  have HSz := Lib.hid (show (x : Int) + n ≤ r.sz ∧ r.sz ≤ 16777216 ∧ r.sz ≤ np * 4096 from ⟨hx, hb.2.2.2.1, HR.out.2.2.2.2.2.1⟩)
  have hx2 : x + n ≤ 16777216 := by have := HSz.out; omega
  have HL1 : Hid (w1.heap[gl]? = some (.cells cur.toArray T (0, 0))) := (hb1.block gl hgl).trans HL.out
  have HCF := Lib.hid (show ol + n ≤ cur.length ∧ n ≤ cap from ⟨hfit, hcap⟩)
  clear hb haa hb1 hx y0 y1 y2 y3 y4 y5 HL hfit hcap
  go_wp2_with fail
  go_loopw [2, 6] (fun l p wr => ∃ (m : Nat) (A : Option Addr), m ≤ n ∧ l = .slice A (n - m) (cap - m) ∧ p = .int .i64 ((x + m : Nat) : Int) ∧ Hid (m < n → A = some ⟨gl, ol + m, none⟩) ∧ Hid (wr.heap[gl]? = some (.cells (splice cur ol (bytesAt C x m)).toArray T (0, 0))) ∧ Hid (Below gl w wr)) (fun l _ _ => match l with | .slice _ k _ => k | _ => 0)
  case atStart =>
    refine ⟨0, _, Nat.zero_le _, rfl, rfl, fun _ => rfl, ?_, HB1⟩
    show _ = _
    rw [HL1.out]
    unfold splice bytesAt
    simp
  case round =>
    obtain ⟨m, A, hm, rfl, rfl, HAd, HH, HBr⟩ := hrel
    by_cases hlt : m < n
    · obtain rfl := HAd.out hlt
      have hRr := HR.out.next HBr.out hG
      have hsz := HSz.out
      have hj : (x + m) / 4096 < np := by omega
      obtain ⟨z1, z2, z3⟩ := hRr.2.2.2.2.2.2 _ hj
      have y5 := hRr.2.1
      have hnm : 0 < n - m := by omega
      have HPg := Lib.hid z2
      clear hRr z2 z3 hsz
      have hk0 : 0 < min (4096 - (x + m) % 4096) (n - m) := by have := Nat.mod_lt (x + m) (show 0 < 4096 by decide); omega
      obtain ⟨k, hk⟩ : ∃ k, k = min (4096 - (x + m) % 4096) (n - m) := ⟨_, rfl⟩
      have HK := Lib.hid hk
      have hsrc : Hid (∀ j v, (bytesAt C (x + m) k)[j]? = some v → wr.cell? ((⟨P ((x + m) / 4096), (x + m) % 4096, none⟩ : Addr).add j) = some v) := by
        intro j v hv
        obtain ⟨hjk, rfl⟩ := bytesAt_get _ _ _ _ _ hv
        have hk := HK.out
        obtain ⟨e1, e2⟩ := page_at x m j (by omega)
        have hadd : (⟨P ((x + m) / 4096), (x + m) % 4096, none⟩ : Addr).add j = ⟨P ((x + m) / 4096), (x + m) % 4096 + j, none⟩ := by unfold Addr.add; split <;> simp_all
        rw [hadd, e1, e2]
        exact pg_src HPg.out _ _ (by omega) rfl
      have hsl := slice_page (P ((x + m) / 4096)) ((x + m) % 4096) (((x : Int) + (m : Int)) % 4096) (by omega) (Nat.mod_lt _ (by decide))
      clear hk hk0
      go_wp2_with (with_reducible refine wpList_copy_splice rfl (.tmp 17) (.tmp 29) 37 37 rfl 5 Try.underlying37 u8_size (some ⟨gl, ol + m, none⟩) (some ⟨P ((x + m) / 4096), (x + m) % 4096, none⟩) (n - m) (cap - m) (4096 - (x + m) % 4096) (4096 - (x + m) % 4096) rfl rfl gl (ol + m) (splice cur ol (bytesAt C x m)) T HH.out (bytesAt C (x + m) k) ?c1 (fun _ => ⟨rfl, _, rfl, hsrc.out⟩) ?c2 (bytesAt_one _ _ _) gl w HBr.out (Nat.le_refl _) ?_)
      case c1 => rw [bytesAt_len, HK.out]
      case c2 =>
        have h1 := HK.out
        have h2 := HCF.out
        have hsl' : (splice cur ol (bytesAt C x m)).length = cur.length := by
          unfold splice
          simp [bytesAt_len]
          omega
        rw [bytesAt_len, hsl']
        omega
      rw [bytesAt_len]
      intro w3 HH3 hb3
      have HB3 := Lib.hid hb3
      obtain ⟨A3, hA3, hs3⟩ := slice_from gl (ol + m) (n - m) (cap - m) k (by have := HK.out; omega) (by have := HCF.out; omega)
      have HA3 := Lib.hid hA3
      have hkb : k ≤ 4096 := by have := HK.out; omega
      clear hb3 hA3 hsl z1 y5
      go_wp2_with fail
      go_quiet (fail)
      go_wp2_with fail
      go_roundw
      case rel =>
        have h1 := HK.out
        refine ⟨m + k, A3, by omega, ?_, by go_num, ?_, ?_, below_drewN HB3.out _⟩
        · rw [show n - (m + k) = n - m - k by omega, show cap - (m + k) = cap - m - k by omega]
        · intro hlt2
          rw [HA3.out (by omega), Nat.add_assoc]
        · show _ = _
          rw [drewN_heap, HH3.out]
          have h2 := HCF.out
          have e := splice_on cur ol (bytesAt C x m) (bytesAt C (x + m) k) (by rw [bytesAt_len, bytesAt_len]; omega)
          rw [bytesAt_len] at e
          rw [e, ← bytesAt_add]
      case measure => simp; have := HK.out; have := Nat.mod_lt (x + m) (show 0 < 4096 by decide); omega
    · obtain rfl : m = n := by omega
      have hz : m - m = 0 := by omega
      rw [hz]
      clear hlt hm
      go_wp2_with fail
      go_end0
      exact ⟨rfl, HH.out, HBr.out⟩
end Go.Proofs.Ytbfimedgichiiaa
