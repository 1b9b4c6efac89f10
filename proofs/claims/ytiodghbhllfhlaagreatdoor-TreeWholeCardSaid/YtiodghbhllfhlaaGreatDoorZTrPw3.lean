/-
  The law's examples: works.
-/
import Derived.Test.YtiodghbhllfhlaaGreatDoorZTrPm
import Derived.Test.YtiodghbhllfhlaaGreatDoorZTrCp
import Derived.Test.YtiodghbhllfhlaaGreatDoorZTrVu
namespace Go.Proofs.YtiodghbhllfhlaaGreatDoor
set_option linter.unusedVariables false
set_option linter.unusedSimpArgs false
set_option maxRecDepth 100000
open Go.RowKit

def BareC (B b : Nat) (t : List NdT) (ps : List (List Nat)) (a : Option Addr) (N c P : Nat) (ts : List (List UInt8)) (j : Nat) : Prop :=
  ∀ (w : World) (l : List UInt8) (bg : Bool), PnI t ps a P B b w → IsTx B b l bg w → (txS (l, bg) ts).1.length ≤ 900 →
    Calls Tryz.prog 49 #[pV b a N c P, .int .i64 (j : Int)] w fun e w' => WrP B b l bg ts w e w'
/-- In brackets, if it is too loose. -/
def brT (x : NdT) (lo : Int) (ts : List (List UInt8)) : List (List UInt8) := if lvA x < lo then [40] :: (ts ++ [[41]]) else ts
set_option maxHeartbeats 4000000 in
theorem c_pPart {B b : Nat} {t : List NdT} {ps : List (List Nat)} {a : Option Addr} {N c P j : Nat} {x : NdT} {ts : List (List UInt8)} (hN : t.length = N) (hN4 : N ≤ 4096) (hj : t[j]? = some x) (hS : SiN x) (hB : BareC B b t ps a N c P ts j) (lo : Int) : PartC B b t ps a N c P (brT x lo ts) j lo := by
  intro w l bg hI hT hl
  obtain ⟨g, off, ha, hg, hx⟩ := hI.node hj
  subst ha
  have hbB := hT.cells.1
  have hbw := hT.cells.2.1
  have y0 := hx 0 _ rfl
  have y1 := hx 1 _ rfl
  have y2 := hx 2 _ rfl
  have y3 := hx 3 _ rfl
  have y4 := hx 4 _ rfl
  have y5 := hx 5 _ rfl
  rw [Nat.add_zero] at y0
  have hjN : j < N := by have := (List.getElem?_eq_some_iff.1 hj).1; omega
  have hj0 : (0 : Int) ≤ (j : Int) := by omega
  have hjI : (j : Int) < (N : Int) := by omega
  have hgw : g < w.heap.size := by omega
  have HLv := Lib.hid (fun W => c_level x hS W)
  obtain ⟨k, n, ai, i, s, ty⟩ := x
  obtain ⟨v, hv⟩ : ∃ v, lvA ⟨k, n, ai, i, s, ty⟩ = v := ⟨_, rfl⟩
  rw [hv] at HLv
  have hbr : brT ⟨k, n, ai, i, s, ty⟩ lo ts = if v < lo then [40] :: (ts ++ [[41]]) else ts := by unfold brT; rw [hv]
  rw [hbr] at hl ⊢
  have HI := Lib.hid hI
  have HT := Lib.hid hT
  have HB := Lib.hid hB
  have HBW : Hid (b < B ∧ B ≤ w.heap.size) := ⟨hbB, hbw⟩
  have hne : w.heap.size ≠ b := by omega
  clear hx hI hT hB hS hv hbr hbB hbw
  have hz1 := heap_alloc_at (w := w) (.cells #[.pointer (some ⟨b, 0, none⟩), .slice (some ⟨g, off, none⟩) N c, .slice (some ⟨P, 0, none⟩) N N] 80) _ rfl
  have hB1 := below_o w (.cells #[.pointer (some ⟨b, 0, none⟩), .slice (some ⟨g, off, none⟩) N c, .slice (some ⟨P, 0, none⟩) N N] 80)
  by_cases hvl : v < lo
  · have dv : decide (v < lo) = true := by simpa using hvl
    rw [if_pos hvl] at hl ⊢
    have HLL : Hid (l.length + 1 + 1 ≤ 1000 ∧ (txS (wdT l bg [40], true) ts).1.length ≤ 900 ∧ (txS (wdT l bg [40], true) ts).1.length + 1 + 1 ≤ 1000) := by
      have h0 : txS (l, bg) ([40] :: (ts ++ [[41]])) = txS (txS (wdT l bg [40], true) ts) [[41]] := by rw [← txS_app]; rfl
      rw [h0] at hl
      have h2 := txS_len (txS (wdT l bg [40], true) ts) [[41]]
      have h3 := txS_len (wdT l bg [40], true) ts
      have h4 := wd_len l bg [40]
      simp at h3 h4
      exact ⟨by omega, by omega, by omega⟩
    have h0 : txS (l, bg) ([40] :: (ts ++ [[41]])) = txS (txS (wdT l bg [40], true) ts) [[41]] := by rw [← txS_app]; rfl
    have HW : Hid (∀ w' : World, IsTx B b (wdT (txS (wdT l bg [40], true) ts).1 (txS (wdT l bg [40], true) ts).2 [41]) true w' → FrT B b w w' → WrP B b l bg ([40] :: (ts ++ [[41]])) w (.returned (.tuple #[])) w') := fun w' h1 h2 => ⟨rfl, by rw [h0]; exact h1, h2⟩
    obtain ⟨tk, htk⟩ : ∃ tk, [40] :: (ts ++ [[41]]) = tk := ⟨_, rfl⟩
    rw [htk] at HW ⊢
    clear hvl hl h0 htk
    go_enter Tryz.func37, Tryz.ntmps37
    go_wp2_with (go_at_call 47; refine (HLv.out _).mono ?_; clear HLv; rintro e w2 ⟨rfl, hb⟩; have hz2 := blk_on hz1 hb; have hbb := below_t hB1 hb hB1.size; have hlt2 : w.heap.size < w2.heap.size := (Array.getElem?_eq_some_iff.1 hz2).1; have hf2 : FrT B b w w2 := FrT.of hbb HBW.out.1 HBW.out.2; have HF2 := Lib.hid hf2; have HT2 := Lib.hid (HT.out.next hbb); have HZ2 := Lib.hid hz2; clear hb hbb hf2; obtain ⟨d0, d1, d2, _⟩ := three_cells hz2; clear hz2)
    go_wp2_with (go_at_call 48; refine (c_pWhen B b l [40] bg true w2 HT2.out (by simpa using HLL.out.1)).mono ?_; rintro e w3 ⟨rfl, h3, f3⟩; have HF3 := Lib.hid (HF2.out.trans f3); have HT3 := Lib.hid h3; have hz := f3.keep HZ2.out hne (by decide); have HZ3 := Lib.hid hz; clear h3 f3 d0 d1 d2; obtain ⟨d0, d1, d2, _⟩ := three_cells hz; clear hz)
    go_wp2_with (go_at_call 49; refine (HB.out w3 (wdT l bg [40]) true (HI.out.next HF3.out) HT3.out HLL.out.2.1).mono ?_; rintro e w4 ⟨rfl, h3, f3⟩; have HF4 := Lib.hid (HF3.out.trans f3); have HT4 := Lib.hid h3; have hz := f3.keep HZ3.out hne (by decide); have HZ4 := Lib.hid hz; clear h3 f3 d0 d1 d2; obtain ⟨d0, d1, d2, _⟩ := three_cells hz; clear hz)
    go_wp2_with (go_at_call 48; refine (c_pWhen B b _ [41] _ true w4 HT4.out (by simpa using HLL.out.2.2)).mono ?_; rintro e w5 ⟨rfl, h3, f3⟩; have HF5 := Lib.hid (HF4.out.trans f3); have HT5 := Lib.hid h3; have hz := f3.keep HZ4.out hne (by decide); have HZ5 := Lib.hid hz; clear h3 f3 d0 d1 d2; obtain ⟨d0, d1, d2, _⟩ := three_cells hz; clear hz)
    go_end0
    exact HW.out _ HT5.out HF5.out
  · have dv : decide (v < lo) = false := by simpa using hvl
    rw [if_neg hvl] at hl ⊢
    have HLL : Hid (l.length + 1 + 1 ≤ 1000 ∧ (txS (l, bg) ts).1.length + 1 + 1 ≤ 1000 ∧ (txS (l, bg) ts).1.length ≤ 900) := by
      have h2 := txS_len (l, bg) ts
      simp only [] at h2
      exact ⟨by omega, by omega, hl⟩
    clear hvl hl
    go_enter Tryz.func37, Tryz.ntmps37
    go_wp2_with (go_at_call 47; refine (HLv.out _).mono ?_; clear HLv; rintro e w2 ⟨rfl, hb⟩; have hz2 := blk_on hz1 hb; have hbb := below_t hB1 hb hB1.size; have hlt2 : w.heap.size < w2.heap.size := (Array.getElem?_eq_some_iff.1 hz2).1; have hf2 : FrT B b w w2 := FrT.of hbb HBW.out.1 HBW.out.2; have HF2 := Lib.hid hf2; have HT2 := Lib.hid (HT.out.next hbb); have HZ2 := Lib.hid hz2; clear hb hbb hf2; obtain ⟨d0, d1, d2, _⟩ := three_cells hz2; clear hz2)
    go_wp2_with (go_at_call 48; refine (c_pWhen B b l [40] bg false w2 HT2.out (by simpa using HLL.out.1)).mono ?_; rintro e w3 ⟨rfl, h3, f3⟩; have HF3 := Lib.hid (HF2.out.trans f3); have HT3 := Lib.hid h3; have hz := f3.keep HZ2.out hne (by decide); have HZ3 := Lib.hid hz; clear h3 f3 d0 d1 d2; obtain ⟨d0, d1, d2, _⟩ := three_cells hz; clear hz)
    go_wp2_with (go_at_call 49; refine (HB.out w3 l bg (HI.out.next HF3.out) HT3.out HLL.out.2.2).mono ?_; rintro e w4 ⟨rfl, h3, f3⟩; have HF4 := Lib.hid (HF3.out.trans f3); have HT4 := Lib.hid h3; have hz := f3.keep HZ3.out hne (by decide); have HZ4 := Lib.hid hz; clear h3 f3 d0 d1 d2; obtain ⟨d0, d1, d2, _⟩ := three_cells hz; clear hz)
    go_wp2_with (go_at_call 48; refine (c_pWhen B b _ [41] _ false w4 HT4.out (by simpa using HLL.out.2.1)).mono ?_; rintro e w5 ⟨rfl, h3, f3⟩; have HF5 := Lib.hid (HF4.out.trans f3); have HT5 := Lib.hid h3; have hz := f3.keep HZ4.out hne (by decide); have HZ5 := Lib.hid hz; clear h3 f3 d0 d1 d2; obtain ⟨d0, d1, d2, _⟩ := three_cells hz; clear hz)
    go_end0
    exact ⟨rfl, HT5.out, HF5.out⟩
end Go.Proofs.YtiodghbhllfhlaaGreatDoor
namespace Go.Proofs.YtiodghbhllfhlaaGreatDoor
set_option linter.unusedVariables false
set_option linter.unusedSimpArgs false
set_option maxRecDepth 100000
open Go.RowKit

/-- The words of a part. -/
def prT (t : List NdT) (ps : List (List Nat)) : Nat → Nat → Int → List (List UInt8)
  | 0, _, _ => []
  | f + 1, j, lo => match t[j]? with
    | none => []
    | some x => brT x lo (if x.kind = 7 then (match ps[j]? with | some [q, r] => prT t ps f q (blv x.text) ++ x.text :: prT t ps f r (blv x.text + 1) | _ => []) else [x.text])
theorem c_parts {B b : Nat} {t : List NdT} {ps : List (List Nat)} {fr : List Nat} {a : Option Addr} {c P : Nat} (hN4 : t.length ≤ 4096) (hS : ∀ x ∈ t, SiN x) (hG : PsG t t.length ps fr) :
    ∀ (f j : Nat) (lo : Int), j < f → j < t.length → PartC B b t ps a t.length c P (prT t ps f j lo) j lo
  | 0, _, _, h, _ => by omega
  | f + 1, j, lo, hf, hj => by
    have hx : t[j]? = some t[j] := List.getElem?_eq_getElem hj
    obtain ⟨p, e1, e2, e3, e4, e5⟩ := hG.2 j t[j] hj hx
    have hs := hS t[j] (List.getElem_mem hj)
    have hpr : prT t ps (f + 1) j lo = brT t[j] lo (if t[j].kind = 7 then (match ps[j]? with | some [q, r] => prT t ps f q (blv t[j].text) ++ t[j].text :: prT t ps f r (blv t[j].text + 1) | _ => []) else [t[j].text]) := by
      show (match t[j]? with | none => _ | some x => _) = _
      rw [hx]
    rw [hpr]
    rcases hs with hk | ⟨hk, hm⟩
    · rw [if_neg (by rw [hk]; decide)]
      refine c_pPart rfl hN4 hx (.inl hk) (fun w l bg hI hT hl => ?_) lo
      exact c_bareN rfl hN4 hx hk e1 w l bg hI hT hl
    · rw [if_pos hk]
      have hn : t[j].n.toNat = 2 := by
        rw [hk] at e3
        have : t[j].n = 2 := by simpa [hpB] using e3
        rw [this]; rfl
      rw [hn] at e2
      match p, e2, e1, e5 with
      | [q, r], _, e1, e5 =>
        have hq := e5.lt 0 q rfl
        have hr := e5.lt 1 r rfl
        rw [e1]
        refine c_pPart rfl hN4 hx (.inr ⟨hk, hm⟩) (fun w l bg hI hT hl => ?_) lo
        exact c_bareB rfl hN4 hx hk hm e1 (c_parts hN4 hS hG f q _ (by omega) (by omega)) (c_parts hN4 hS hG f r _ (by omega) (by omega)) w l bg hI hT hl
set_option maxHeartbeats 1000000 in
theorem c_StringT (B b : Nat) (l : List UInt8) (bg : Bool) (w : World) (h : IsTx B b l bg w) (h0 : l ≠ []) :
    Calls Tryz.prog 26 #[.pointer (some ⟨b, 0, none⟩)] w fun e w' => e = .returned (.string ⟨l.toArray⟩) ∧ Below b w w' := by
  obtain ⟨p, hb, hB, v, hbk, hown⟩ : ∃ p, TxAt B b l bg p w := by
    rcases h with h | h
    · exact ⟨_, h⟩
    · exact ⟨_, h⟩
  have hl0 : l.length ≠ 0 := by simpa using h0
  rw [Lib.byteCells_length] at hown
  obtain ⟨g, cap, cur, rfl, hbg, hg, hnc, hcm, hcs, htake⟩ : ∃ g cap cur, v = .slice (some ⟨g, 0, none⟩) l.length cap ∧ B ≤ g ∧ w.heap[g]? = some (.cells cur 5 (0, 0)) ∧ l.length ≤ cap ∧ cap ≤ maxLen ∧ cur.size = cap * 1 ∧ cur.toList.take (l.length * 1) = Lib.byteCells l := by
    rcases hown.2 with ⟨_, hz⟩ | ⟨g, cap, cur, hv, r⟩
    · exact absurd hz hl0
    · exact ⟨g, cap, cur, hv, r⟩
  have c1 : w.drew.cell? ⟨b, 1, none⟩ = some (.slice (some ⟨g, 0, none⟩) l.length cap) := by
    have : w.drew.heap[b]? = some (.cells #[p, .slice (some ⟨g, 0, none⟩) l.length cap, .bool bg] 66 (0, 0)) := hbk
    rw [Lib.cell_of_heap this]; rfl
  have hSD : (Builtin.unsafeSliceData_ #[62] 84 #[.slice (some ⟨g, 0, none⟩) l.length cap]).run Tryz.prog w.drew = .ok (.pointer (some ⟨g, 0, none⟩)) w.drew :=
    Lib.run_unsafeSliceData_row _ _ _ _ _ _ (by omega)
  have hUS : (Builtin.unsafeString_ #[84, 3] 9 #[.pointer (some ⟨g, 0, none⟩), .int .i64 l.length]).run Tryz.prog w.drew = .ok (.string ⟨l.toArray⟩) (w.drew.freeze ⟨g, 0, none⟩ l.length) := by
    refine Lib.run_unsafeString_row w.drew 84 3 9 5 Tryz.underlying84 cellsByteT g cur.size (by have hg' : w.drew.heap[g]? = some (.cells cur 5 (0, 0)) := hg; simp [World.shape?, hg']) l h0 (by omega) (by unfold maxLen at hcm; omega) ?_
    intro j x hx
    have := hown.cells (g := g) rfl j (.int .u8 x.toNat) (by simp [Lib.byteCells, hx])
    exact this
  have HBg : Hid (b ≤ g) := by show b ≤ g; omega
  clear hown hg hnc hcm hcs htake hbg h h0 hl0 hbk hb hB
  go_enter Tryz.func26, Tryz.ntmps26
  go_wp2
  go_region
  all_goals (go_wp2; go_ret; exact ⟨rfl, Lib.below_freeze (Below.drew (Below.refl b w)) (p := ⟨g, 0, none⟩) HBg.out _⟩)
set_option maxHeartbeats 4000000 in
theorem c_whole (t : List NdT) (x : NdT) (a : Option Addr) (c : Nat) (w : World) (hl : t.length ≤ 4096) (hx : t[t.length - 1]? = some x) (hT : TrIn t a w) :
    Calls Tryz.prog 23 #[.slice a t.length c] w fun e w' => e = .returned (noX x) ∧ Below w.heap.size w w' := by
  have h0 : 0 < t.length := by have := (List.getElem?_eq_some_iff.1 hx).1; omega
  obtain ⟨g, off, rfl, hg, hc⟩ := hT h0
  obtain ⟨N, hN⟩ : ∃ N, t.length = N := ⟨_, rfl⟩
  rw [hN] at hx hl h0 ⊢
  have y0 := hc _ x hx 0 _ rfl
  have y1 := hc _ x hx 1 _ rfl
  have y2 := hc _ x hx 2 _ rfl
  have y3 := hc _ x hx 3 _ rfl
  have y4 := hc _ x hx 4 _ rfl
  have y5 := hc _ x hx 5 _ rfl
  obtain ⟨i, hi⟩ : ∃ i, N - 1 = i := ⟨_, rfl⟩
  rw [hi] at y0 y1 y2 y3 y4 y5
  rw [Nat.add_zero] at y0
  have hw : IntKind.i64.wrap ((N : Int) - 1) = (i : Int) := by rw [IntKind.wrap_i64]; omega
  have hi0 : (0 : Int) ≤ (i : Int) := by omega
  have hiN : (i : Int) < (N : Int) := by omega
  clear hc hx hT hN hl h0 hi
  go_enter Tryz.func23, Tryz.ntmps23
  go_wp2_with fail
  have hz := heap_alloc_at (w := w) (.cells #[.int .i64 x.kind, .int .i64 x.n, .int .i64 x.at', .int .i64 x.int, .string ⟨x.text.toArray⟩, .string ⟨x.type.toArray⟩] 41) _ rfl
  have hb := below_o w (.cells #[.int .i64 x.kind, .int .i64 x.n, .int .i64 x.at', .int .i64 x.int, .string ⟨x.text.toArray⟩, .string ⟨x.type.toArray⟩] 41)
  generalize w.alloc (.cells #[.int .i64 x.kind, .int .i64 x.n, .int .i64 x.at', .int .i64 x.int, .string ⟨x.text.toArray⟩, .string ⟨x.type.toArray⟩] 41) = w9 at hz hb ⊢
  obtain ⟨p0, p1, p2, p3, p4, p5, _⟩ := six_cells hz
  exact bodyPost_ret (v := noX x) (by simp [results, Tryz.results23, go_sem, p0, p1, p2, p3, p4, p5]) rfl ⟨rfl, hb⟩
/-- The text of a tree. -/
def prW (t : List NdT) (ps : List (List Nat)) : List UInt8 := (txS ([], false) (prT t ps t.length (t.length - 1) 0)).1
set_option maxHeartbeats 4000000 in
theorem c_expr {t : List NdT} {ps : List (List Nat)} (hg : grow t = some ps) (hN4 : t.length ≤ 4096) (hS : ∀ x ∈ t, SiN x) (hl : (prW t ps).length ≤ 900) (a : Option Addr) (c b : Nat) (w : World) (hT : TrIn t a w) (hTb : TrLo b t a w)
    (hb : w.heap[b]? = some (.cells #[.pointer none, .slice none 0 0, .bool false] 66)) :
    Calls Tryz.prog 24 #[.pointer (some ⟨b, 0, none⟩), .slice a t.length c, .int .i64 0] w fun e w' => e = .returned (.tuple #[]) ∧ ∃ B bg, IsTx B b (prW t ps) bg w' ∧ Below b w w' := by
  obtain ⟨fr, hbg, hG, hfl, hfe⟩ := grow_psG hg
  obtain ⟨h0, _⟩ := grow_root hg hbg
  have hbw := (Array.getElem?_eq_some_iff.1 hb).1
  have HPg := Lib.hid (c_printing b t a c w hN4 hT hg)
  have HLa := Lib.hid (fun P W => c_last a t.length c P hN4 W)
  have HPt : Hid (∀ (P : Nat) (W : World), w.heap.size ≤ P → PtIn (fun b => w.heap.size ≤ b) ps P W → Below w.heap.size w W → ∀ W2, Below W.heap.size W W2 → Calls Tryz.prog 37 #[pV b a t.length c P, .int .i64 ((t.length - 1 : Nat) : Int), .int .i64 0] W2 fun e w' => e = .returned (.tuple #[]) ∧ ∃ B bg, IsTx B b (prW t ps) bg w' ∧ Below b w w') := fun P W hP hp hbW W2 hb2 => by
    have hpl := hp.lt
    have hb3 := below_t hbW hb2 hbW.size
    have hi : PnI t ps a P W.heap.size b W2 := ⟨fun h => by
        obtain ⟨g, off, h1, h2, h3⟩ := hTb h
        exact ⟨g, off, h1, h2, fun k x hk i v hi => (hb3.cell (p := ⟨g, off + k * 6 + i, none⟩) (by show g < w.heap.size; omega)).trans (h3 k x hk i v hi)⟩,
      hp.mono hb2.size (hb2.block P hpl) (fun k hk hlt => ⟨⟨by have : w.heap.size ≤ k := hk; omega, hlt⟩, hb2.block k hlt⟩), by omega, hpl⟩
    have ht : IsTx W.heap.size b [] false W2 := .inl ⟨by have := hbW.size; omega, hb2.size, .slice none 0 0, (hb3.block b hbw).trans hb, World.ownsRow_nil _ _ _ _⟩
    exact (c_parts hN4 hS hG t.length (t.length - 1) 0 (by omega) (by omega) W2 [] false hi ht hl).mono fun e w' ⟨h1, h2, h3⟩ => ⟨h1, _, _, h2, (hb3.mono (by omega)).trans h3.bel⟩
  obtain ⟨N, hN⟩ : ∃ N, t.length = N := ⟨_, rfl⟩
  rw [hN] at HPg HLa HPt h0 ⊢
  have hNi : ((N - 1 : Nat) : Int) = (N : Int) - 1 := by omega
  rw [hNi] at HPt
  clear hg hN4 hS hl hT hTb hb hbg hG hfl hfe hN hNi
  go_enter Tryz.func24, Tryz.ntmps24
  go_wp2_with (go_at_call 36; refine HPg.out.mono ?_; clear HPg; rintro e w2 ⟨P, rfl, hP, hp, hb2⟩; have HP2 := Lib.hid (HPt.out P w2 hP hp hb2); clear HPt hp hb2)
  have hz := heap_alloc_at (w := w2) (.cells #[.pointer (some ⟨b, 0, none⟩), .slice a N c, .slice (some ⟨P, 0, none⟩) N N] 80) _ rfl
  obtain ⟨z0, z1, z2, _⟩ := three_cells hz
  have hB1 : Below w2.heap.size w2 (w2.alloc (.cells #[.pointer (some ⟨b, 0, none⟩), .slice a N c, .slice (some ⟨P, 0, none⟩) N N] 80)).drew := (below_o w2 _).drew
  have HL2 : Hid (Calls Tryz.prog 38 #[gwV a N c P] (w2.alloc (.cells #[.pointer (some ⟨b, 0, none⟩), .slice a N c, .slice (some ⟨P, 0, none⟩) N N] 80)).drew fun e w' => e = .returned (.int .i64 ((N : Int) - 1)) ∧ Below w2.heap.size w2 w' ∧ w'.heap[w2.heap.size]? = some (.cells #[.pointer (some ⟨b, 0, none⟩), .slice a N c, .slice (some ⟨P, 0, none⟩) N N] 80)) :=
    (HLa.out P _).mono fun e w' ⟨h1, h2⟩ => ⟨h1, below_t hB1 h2 hB1.size, (h2.block w2.heap.size (Array.getElem?_eq_some_iff.1 hz).1).trans hz⟩
  clear HLa hz hB1
  go_region_law (first
    | (go_simp; go_at_call 38; refine HL2.out.mono ?_; rintro e w3 ⟨rfl, hb3, hz3⟩; obtain ⟨d0, d1, d2, _⟩ := three_cells hz3; have HB3 := Lib.hid hb3; clear hb3 hz3)
    | (go_simp; go_at_call 37; refine (HP2.out _ HB3.out).mono ?_; rintro e w4 ⟨rfl, hf⟩; have HF := Lib.hid hf; clear hf))
  all_goals
    go_wp2_with fail
    go_end0
    exact ⟨rfl, HF.out⟩
set_option maxHeartbeats 4000000 in
theorem c_PrintExpr (B : Nat) {t : List NdT} {ps : List (List Nat)} (hck : ckA wlB t = 0) (hg : grow t = some ps) (hN4 : t.length ≤ 4096) (hS : ∀ x ∈ t, SiN x) (hl : (prW t ps).length ≤ 900) (hne : prW t ps ≠ []) (a : Option Addr) (c : Nat) (w : World) (hE : Env B w) (hB : B ≤ w.heap.size) (ho : ∀ x ∈ t, NdOk x) (hT : TrIn t a w) :
    Calls Tryz.prog 12 #[.slice a t.length c] w fun e w' => e = .returned (.tuple #[.string ⟨(prW t ps).toArray⟩, .int .i64 0]) ∧ Below w.heap.size w w' := by
  obtain ⟨fr, hbg, hG, hfl, hfe⟩ := grow_psG hg
  obtain ⟨h0, _⟩ := grow_root hg hbg
  obtain ⟨x, hx⟩ : ∃ x, t[t.length - 1]? = some x := ⟨t[t.length - 1]'(by omega), List.getElem?_eq_getElem (by omega)⟩
  have hsx := hS x (List.mem_of_getElem? hx)
  have hkx : exB x.kind = true := by rcases hsx with h | ⟨h, _⟩ <;> (rw [h]; decide)
  have HCk : Hid (∀ W, Below w.heap.size w W → Calls Tryz.prog 5 #[.slice a t.length c] W fun e w' => e = .returned (.int .i64 0) ∧ Below W.heap.size W w') := fun W hb => by
    have h := c_tCheck B t a c W (hE.next (hb.mono hB)) (Nat.le_trans hB hb.size) ho (hT.next hb)
    rw [hck] at h
    exact h
  obtain ⟨k, n, ai, i, s, ty⟩ := x
  have HWh : Hid (∀ W, Below w.heap.size w W → Calls Tryz.prog 23 #[.slice a t.length c] W fun e w' => e = .returned (.agg #[.int .i64 k, .int .i64 n, .int .i64 ai, .int .i64 i, .string ⟨s.toArray⟩, .string ⟨ty.toArray⟩]) ∧ Below W.heap.size W w') := fun W hb => c_whole t _ a c W hN4 hx (hT.next hb)
  have HEx : Hid (∀ W b, Below w.heap.size w W → w.heap.size ≤ b → W.heap[b]? = some (.cells #[.pointer none, .slice none 0 0, .bool false] 66) → Calls Tryz.prog 24 #[.pointer (some ⟨b, 0, none⟩), .slice a t.length c, .int .i64 0] W fun e w' => e = .returned (.tuple #[]) ∧ ∃ B bg, IsTx B b (prW t ps) bg w' ∧ Below b W w') := fun W b hb hwb hz =>
    c_expr hg hN4 hS hl a c b W (hT.next hb) (fun h => by
      obtain ⟨g, off, h1, h2, h3⟩ := hT h
      exact ⟨g, off, h1, by omega, fun k x hk i v hi => (hb.cell (p := ⟨g, off + k * 6 + i, none⟩) h2).trans (h3 k x hk i v hi)⟩) hz
  have HKx := Lib.hid (c_isExpr k)
  have hkx : exB k = true := hkx
  rw [hkx] at HKx
  obtain ⟨L, hL⟩ : ∃ L, prW t ps = L := ⟨_, rfl⟩
  rw [hL] at HEx hl hne ⊢
  obtain ⟨N, hN⟩ : ∃ N, t.length = N := ⟨_, rfl⟩
  rw [hN] at HCk HWh HEx ⊢
  have HLn := Lib.hid (And.intro hl hne)
  have hfd : ∀ W : World, (Instr.field 41 (.agg #[.int .i64 k, .int .i64 n, .int .i64 ai, .int .i64 i, .string ⟨s.toArray⟩, .string ⟨ty.toArray⟩]) 0).run Tryz.prog W = .ok (.int .i64 k) W := by
    intro W
    first | kernel_rfl | rfl
  clear hck hg hN4 hS hl hne hE hB ho hT hbg hG hfl hfe h0 hx hsx hkx hL hN
  go_enter Tryz.func12, Tryz.ntmps12
  go_wp2_with (go_at_call 5; refine (HCk.out _ (Below.refl _ _)).mono ?_; clear HCk; rintro e w2 ⟨rfl, hb⟩; have HB2 := Lib.hid hb; clear hb)
  go_wp2_with (go_at_call 23; refine (HWh.out _ HB2.out).mono ?_; clear HWh; rintro e w3 ⟨rfl, hb⟩; have HB3 := Lib.hid (below_t HB2.out hb HB2.out.size); clear hb)
  go_wp2_with (go_at_call 22; refine (HKx.out _).mono ?_; clear HKx; rintro e w4 ⟨rfl, rfl⟩)
  have hz := heap_alloc_at (w := w4) (.cells #[.pointer none, .slice none 0 0, .bool false] 66) _ rfl
  have hb5 := below_t HB3.out (below_o w4 (.cells #[.pointer none, .slice none 0 0, .bool false] 66)) HB3.out.size
  have HEx5 := Lib.hid (HEx.out _ w4.heap.size hb5 HB3.out.size hz)
  have HB5 := Lib.hid hb5
  have HS4 := Lib.hid HB3.out.size
  clear HEx hz hb5
  go_wp2_with (go_at_call 24; refine HEx5.out.mono ?_; clear HEx5; rintro e w5 ⟨rfl, BB, bg, hI, hb⟩; have HB6 := Lib.hid (HB5.out.trans (hb.mono HS4.out)); have HI5 := Lib.hid hI; clear hI hb)
  go_wp2_with (go_at_call 25; refine (c_isLong BB _ L bg _ HI5.out (by have := HLn.out.1; omega)).mono ?_; rintro e w6 ⟨rfl, rfl⟩)
  go_wp2_with (go_at_call 26; refine (c_StringT BB _ L bg _ HI5.out HLn.out.2).mono ?_; rintro e w7 ⟨rfl, hb⟩; have HB7 := Lib.hid (HB6.out.trans (hb.mono HS4.out)); clear hb)
  go_ret2
  exact ⟨rfl, HB7.out⟩
end Go.Proofs.YtiodghbhllfhlaaGreatDoor
namespace Go.Proofs.YtiodghbhllfhlaaGreatDoor
set_option linter.unusedVariables false
set_option linter.unusedSimpArgs false
set_option maxRecDepth 100000
open Go.RowKit

theorem noCs_app (t u : List NdT) : noCs (t ++ u) = noCs t ++ noCs u := by unfold noCs; rw [List.flatMap_append]
/-- Nodes put behind the nodes of a row of one's own. -/
theorem wp_onN {w : World} {ops : Array Oper} {rest : List Oper} {o : Oper} {ac : Act} {Q : Exit → Act → World → Prop} (hgd : o.guard = none) (s x : Operand)
    (ho : o.op = .call { callee := .builtin .append, args := #[s, x], argTypes := #[23, 23] })
    (base : Nat) (v : Value) (hs : ac.eval s = v) (n0 : Nat) (t0 : List NdT) (hn0 : t0.length = n0) (hown : w.ownsRow base 41 6 v n0 (noCs t0))
    (a : Option Addr) (n c : Nat) (t : List NdT) (hn : t.length = n) (hn1 : 0 < n) (hx : ac.eval x = .slice a n c) (hX : TrIn t a w) (hr : (n0 + n) * 64 ≤ 140737488355328) (hbase : base ≤ w.heap.size)
    (h : ∀ v' w', w'.ownsRow base 41 6 v' (n0 + n) (noCs (t0 ++ t)) → w.grownBy w' v.ownBlock → (∃ g cap, v' = .slice (some ⟨g, 0, none⟩) (n0 + n) cap) → wpList Tryz.prog ops Q rest (ac.put o.dst v') w') : wpList Tryz.prog ops Q (o :: rest) ac w := by
  obtain ⟨i0, hi, hz0, hz1, hz2⟩ := info_parts infoN
  subst hn hn0
  obtain ⟨b, off, rfl, hb, hX'⟩ := hX hn1
  refine wpList_append_own w hgd s x 23 ho base 41 i0 _ 6 64 Tryz.underlying23 hi hz0 hz1 hz2 rfl (by decide) v t0.length (noCs t0) hs hown ⟨b, off, none⟩ t.length c (noCs t) hx (noCs_len t) ?_ (noCs_one t) (by unfold maxLen; omega) hr hbase ?_
  · intro j u hj
    obtain ⟨k, i, y, rfl, hk, hi⟩ := noCs_of t j u hj
    have ea : (⟨b, off, none⟩ : Addr).add (k * 6 + i) = ⟨b, off + k * 6 + i, none⟩ := by unfold Addr.add; split <;> simp_all [Nat.add_assoc]
    rw [ea]
    exact hX' k y hk i u hi
  · intro v' w' hown' hg _
    rw [← noCs_app] at hown'
    refine h _ _ hown' hg ?_
    rcases hown'.2 with ⟨_, hz⟩ | ⟨g, cap, cur, hv, _⟩
    · omega
    · exact ⟨g, cap, hv⟩
theorem tr_at {x : NdT} {w : World} {b : Nat} (h : w.heap[b]? = some (.cells #[.int .i64 x.kind, .int .i64 x.n, .int .i64 x.at', .int .i64 x.int, .string ⟨x.text.toArray⟩, .string ⟨x.type.toArray⟩] 41)) : TrIn [x] (some ⟨b, 0, none⟩) w := fun _ => ⟨b, 0, rfl, (Array.getElem?_eq_some_iff.1 h).1, fun k y hk i v hi => by
    match k, hk with
    | 0, hk =>
      cases hk
      rw [Lib.cell_of_heap h]
      simp only [Nat.zero_mul, Nat.add_zero, Nat.zero_add]
      show (noC x).toArray[i]? = some v
      rw [List.getElem?_toArray]
      exact hi⟩
set_option maxHeartbeats 4000000 in
theorem c_lname (s : List UInt8) (w : World) :
    Calls Tryz.prog 14 #[.string ⟨s.toArray⟩] w fun e w' => e = .returned (.slice (some ⟨w.heap.size, 0, none⟩) 1 1) ∧ TrIn [⟨3, 0, 0, 0, s, []⟩] (some ⟨w.heap.size, 0, none⟩) w' ∧ Below w.heap.size w w' := by
  go_enter Tryz.func14, Tryz.ntmps14
  go_wp2_with fail
  go_ret
  exact ⟨rfl, tr_at (x := ⟨3, 0, 0, 0, s, []⟩) (heap_alloc_at _ _ rfl), below_o _ _⟩
set_option maxHeartbeats 4000000 in
theorem c_two (m : List UInt8) (ta tb : List NdT) (aa ab : Option Addr) (ca cb : Nat) (w : World) (hna : 0 < ta.length) (hla : ta.length ≤ 1000) (hnb : 0 < tb.length) (hlb : tb.length ≤ 1000) (hA : TrIn ta aa w) (hB : TrIn tb ab w) :
    Calls Tryz.prog 13 #[.string ⟨m.toArray⟩, .slice aa ta.length ca, .slice ab tb.length cb] w fun e w' => ∃ a c, e = .returned (.slice a (ta.length + tb.length + 1) c) ∧ TrIn (ta ++ tb ++ [⟨7, 2, 0, 0, m, []⟩]) a w' ∧ Below w.heap.size w w' := by
  have HC := Lib.hid (c_copyT ta aa ca w (fun h => by obtain ⟨b, off, h1, _⟩ := hA hna; rw [h1] at h; cases h) (by omega) hA)
  obtain ⟨na, hna'⟩ : ∃ na, ta.length = na := ⟨_, rfl⟩
  obtain ⟨nb, hnb'⟩ : ∃ nb, tb.length = nb := ⟨_, rfl⟩
  have HNA := Lib.hid hna'
  have HNB := Lib.hid hnb'
  rw [hna'] at HC hla ⊢
  rw [hnb'] at hlb hnb ⊢
  have HB := Lib.hid hB
  have HL : Hid (na ≤ 1000 ∧ nb ≤ 1000 ∧ 0 < nb) := ⟨hla, hlb, hnb⟩
  clear hA hB hna hnb hla hlb hna' hnb'
  go_enter Tryz.func13, Tryz.ntmps13
  go_wp2_with (first
    | (refine HC.out.mono ?_; clear HC; rintro e w2 ⟨⟨v, rfl, hown⟩, hb2⟩; have HO2 := Lib.hid hown; have HB2 := Lib.hid hb2; clear hown hb2)
    | (at_builtin; refine wp_onN rfl _ _ rfl w.heap.size _ rfl na ta HNA.out HO2.out ab nb cb tb HNB.out HL.out.2.2 rfl (HB.out.next HB2.out) (by have := HL.out; omega) HB2.out.size ?_))
  intro v3 w3 hown3 hg3 g3 cap3 hv3
  subst hv3
  have HB3 := Lib.hid (HB2.out.grown hg3 HB2.out.size (fun k hk => (HO2.out.lt k hk).1))
  have HO3 := Lib.hid hown3
  clear hown3 hg3
  go_wp2_with (at_builtin; refine wp_onN rfl _ _ rfl w.heap.size _ rfl (na + nb) (ta ++ tb) ?x1 ?x2 (some ⟨w3.heap.size, 0, none⟩) 1 1 [⟨7, 2, 0, 0, m, []⟩] rfl ?x3 rfl ?x4 ?x5 ?x6 ?_)
  case x1 => rw [List.length_append, HNA.out, HNB.out]
  case x2 => exact HO3.out.alloc _
  case x3 => decide
  case x4 => exact tr_at (x := ⟨7, 2, 0, 0, m, []⟩) (heap_alloc_at _ _ rfl)
  case x5 => have := HL.out; omega
  case x6 => have := HB3.out.size; simp; omega
  intro v4 w4 hown4 hg4 g cap hv4
  subst hv4
  have HB4 := Lib.hid ((HB3.out.alloc HB3.out.size _).grown hg4 (by have := HB3.out.size; simp; omega) (fun k hk => (HO3.out.lt k hk).1))
  have HO4 := Lib.hid hown4
  clear hown4 hg4
  go_wp2_with fail
  go_ret
  refine ⟨_, _, rfl, ?_, HB4.out⟩
  rw [List.append_assoc]
  have hlen : (ta ++ (tb ++ [(⟨7, 2, 0, 0, m, []⟩ : NdT)])).length = na + nb + 1 := by rw [List.length_append, List.length_append, HNA.out, HNB.out, ← Nat.add_assoc]; rfl
  have h4 := HO4.out
  rw [← hlen] at h4
  obtain ⟨a, c, hv, _, hT⟩ := tr_of_own h4
  cases hv
  exact hT
abbrev nmT (s : List UInt8) : NdT := ⟨3, 0, 0, 0, s, []⟩
abbrev opT (m : List UInt8) : NdT := ⟨7, 2, 0, 0, m, []⟩
abbrev exT1 : List NdT := [nmT [97]] ++ ([nmT [98]] ++ [nmT [99]] ++ [opT [43]]) ++ [opT [42]]
abbrev exT2 : List NdT := ([nmT [97]] ++ [nmT [98]] ++ [opT [42]]) ++ [nmT [99]] ++ [opT [43]]
abbrev exT3 : List NdT := [nmT [97]] ++ [nmT [98]] ++ [opT [43]]
theorem ck1 : ckA wlB exT1 = 0 := by kernel_rfl
theorem ck2 : ckA wlB exT2 = 0 := by kernel_rfl
theorem ck3 : ckA wlB exT3 = 0 := by kernel_rfl
theorem gr1 : grow exT1 = some [[], [], [], [1, 2], [0, 3]] := by kernel_rfl
theorem gr2 : grow exT2 = some [[], [], [0, 1], [], [2, 3]] := by kernel_rfl
theorem gr3 : grow exT3 = some [[], [], [0, 1]] := by kernel_rfl
theorem pr1 : prW exT1 [[], [], [], [1, 2], [0, 3]] = [97, 32, 42, 32, 40, 32, 98, 32, 43, 32, 99, 32, 41] := by decide
theorem pr2 : prW exT2 [[], [], [0, 1], [], [2, 3]] = [97, 32, 42, 32, 98, 32, 43, 32, 99] := by decide
theorem si1 : ∀ x ∈ exT1, SiN x := by
  intro x hx
  simp at hx
  rcases hx with rfl | rfl | rfl | rfl | rfl <;> first | exact .inl rfl | exact .inr ⟨rfl, .inl rfl⟩ | exact .inr ⟨rfl, .inr rfl⟩
theorem si2 : ∀ x ∈ exT2, SiN x := by
  intro x hx
  simp at hx
  rcases hx with rfl | rfl | rfl | rfl | rfl <;> first | exact .inl rfl | exact .inr ⟨rfl, .inl rfl⟩ | exact .inr ⟨rfl, .inr rfl⟩
theorem c_twoN (m : List UInt8) (ta tb : List NdT) (na nb n : Nat) (hna : ta.length = na) (hnb : tb.length = nb) (hn : na + nb + 1 = n) (h0 : 0 < na) (h1 : 0 < nb) (h2 : n ≤ 1000) (aa ab : Option Addr) (ca cb : Nat) (w : World) (hA : TrIn ta aa w) (hB : TrIn tb ab w) :
    Calls Tryz.prog 13 #[.string ⟨m.toArray⟩, .slice aa na ca, .slice ab nb cb] w fun e w' => ∃ a c, e = .returned (.slice a n c) ∧ TrIn (ta ++ tb ++ [opT m]) a w' ∧ Below w.heap.size w w' := by
  subst hna hnb hn
  exact c_two m ta tb aa ab ca cb w h0 (by omega) h1 (by omega) hA hB
theorem ok_small {t : List NdT} (h : ∀ x ∈ t, x.text.length ≤ 9 ∧ x.type.length ≤ 9) : ∀ x ∈ t, NdOk x := fun x hx => ⟨by have := (h x hx).1; omega, by have := (h x hx).2; omega⟩
theorem c_pe1 (B : Nat) (a : Option Addr) (c : Nat) (w : World) (hE : Env B w) (hB : B ≤ w.heap.size) (hT : TrIn exT1 a w) :
    Calls Tryz.prog 12 #[.slice a 5 c] w fun e w' => e = .returned (.tuple #[.string ⟨#[97, 32, 42, 32, 40, 32, 98, 32, 43, 32, 99, 32, 41]⟩, .int .i64 0]) ∧ Below w.heap.size w w' := by
  have h := c_PrintExpr B ck1 gr1 (by decide) si1 (by rw [pr1]; decide) (by rw [pr1]; decide) a c w hE hB (ok_small (by decide)) hT
  rw [pr1] at h
  exact h
theorem c_pe2 (B : Nat) (a : Option Addr) (c : Nat) (w : World) (hE : Env B w) (hB : B ≤ w.heap.size) (hT : TrIn exT2 a w) :
    Calls Tryz.prog 12 #[.slice a 5 c] w fun e w' => e = .returned (.tuple #[.string ⟨#[97, 32, 42, 32, 98, 32, 43, 32, 99]⟩, .int .i64 0]) ∧ Below w.heap.size w w' := by
  have h := c_PrintExpr B ck2 gr2 (by decide) si2 (by rw [pr2]; decide) (by rw [pr2]; decide) a c w hE hB (ok_small (by decide)) hT
  rw [pr2] at h
  exact h
theorem c_pa3 (B : Nat) (a : Option Addr) (c : Nat) (w : World) (hE : Env B w) (hB : B ≤ w.heap.size) (hT : TrIn exT3 a w) :
    Calls Tryz.prog 6 #[.slice a 3 c, .int .i64 2] w fun e w' => ∃ pa pc, e = .returned (.tuple #[.slice pa 2 pc, .int .i64 0]) ∧ IntIn any_ [0, 1] pa w' ∧ Below w.heap.size w w' := by
  refine (c_tParts B exT3 a c 2 w hE hB (ok_small (by decide)) hT).mono fun e w' ⟨hr, hb⟩ => ?_
  rcases hr with ⟨_, ps, k, p, pa, pc, hk, _, _, hg, hp, he, hi⟩ | ⟨h, _⟩
  · rw [gr3] at hg
    cases hg
    obtain rfl : k = 2 := by omega
    cases hp
    exact ⟨pa, pc, he, hi, hb⟩
  · exact absurd (by kernel_rfl : erA exT3 2 = 0) h
end Go.Proofs.YtiodghbhllfhlaaGreatDoor
namespace Go.Proofs.YtiodghbhllfhlaaGreatDoor
set_option linter.unusedVariables false
set_option linter.unusedSimpArgs false
set_option maxRecDepth 100000
open Go.RowKit

theorem calls_hid {P : Program} {f : FuncId} {a : Array Value} {w : World} {Q : Ending → World → Prop} (h : Calls P f a w Q) : Calls P f a w (fun e w' => Hid (Q e w')) := h.mono fun _ _ h => Lib.hid h
set_option maxHeartbeats 8000000 in
theorem c_works (B : Nat) (w : World) (hE : Env B w) (hB : B ≤ w.heap.size) :
    Calls Tryz.prog 4 #[] w fun e w' => e = .returned (.bool true) ∧ Below w.heap.size w w' := by
  have HE : Hid (∀ W, Below w.heap.size w W → Env B W ∧ B ≤ W.heap.size) := fun W hb => ⟨hE.next (hb.mono hB), Nat.le_trans hB hb.size⟩
  have HB0 := Lib.hid (Below.refl w.heap.size w)
  clear hE hB
  go_enter Tryz.func4, Tryz.ntmps4
  go_wp2_with (go_at_call 14; refine (calls_hid (c_lname [97] w)).mono ?_)
  intro e w1 hh
  obtain ⟨rfl, t, b⟩ := hh.out
  clear hh
  have HB1 := Lib.hid (below_t HB0.out b HB0.out.size)
  have Ta := Lib.hid t
  clear b t
  go_wp2_with (go_at_call 14; refine (calls_hid (c_lname [98] w1)).mono ?_)
  intro e w2 hh
  obtain ⟨rfl, t, b⟩ := hh.out
  clear hh
  have HB2 := Lib.hid (below_t HB1.out b HB1.out.size)
  have Ta := Lib.hid (Ta.out.next b)
  have Tb := Lib.hid t
  clear b t
  go_wp2_with (go_at_call 14; refine (calls_hid (c_lname [99] w2)).mono ?_)
  intro e w3 hh
  obtain ⟨rfl, t, b⟩ := hh.out
  clear hh
  have HB3 := Lib.hid (below_t HB2.out b HB2.out.size)
  have Ta := Lib.hid (Ta.out.next b)
  have Tb := Lib.hid (Tb.out.next b)
  have Tc := Lib.hid t
  clear b t
  go_wp2_with (go_at_call 13; refine (calls_hid (c_twoN [43] ([nmT [98]]) ([nmT [99]]) 1 1 3 rfl rfl rfl (by decide) (by decide) (by decide) _ _ _ _ w3 Tb.out Tc.out)).mono ?_)
  intro e w4 hh
  obtain ⟨a1, n1, rfl, t, b⟩ := hh.out
  clear hh
  have HB4 := Lib.hid (below_t HB3.out b HB3.out.size)
  have Ta := Lib.hid (Ta.out.next b)
  have Tb := Lib.hid (Tb.out.next b)
  have Tc := Lib.hid (Tc.out.next b)
  have Td := Lib.hid t
  clear b t
  go_wp2_with (go_at_call 13; refine (calls_hid (c_twoN [42] ([nmT [97]]) ([nmT [98]] ++ [nmT [99]] ++ [opT [43]]) 1 3 5 rfl rfl rfl (by decide) (by decide) (by decide) _ _ _ _ w4 Ta.out Td.out)).mono ?_)
  intro e w5 hh
  obtain ⟨a2, n2, rfl, t, b⟩ := hh.out
  clear hh
  have HB5 := Lib.hid (below_t HB4.out b HB4.out.size)
  have Ta := Lib.hid (Ta.out.next b)
  have Tb := Lib.hid (Tb.out.next b)
  have Tc := Lib.hid (Tc.out.next b)
  have Td := Lib.hid (Td.out.next b)
  have Te := Lib.hid t
  clear b t
  go_wp2_with (go_at_call 12; refine (calls_hid (c_pe1 B a2 n2 w5 (HE.out _ HB5.out).1 (HE.out _ HB5.out).2 Te.out)).mono ?_)
  intro e w6 hh
  obtain ⟨rfl, b⟩ := hh.out
  clear hh
  have HB6 := Lib.hid (below_t HB5.out b HB5.out.size)
  have Ta := Lib.hid (Ta.out.next b)
  have Tb := Lib.hid (Tb.out.next b)
  have Tc := Lib.hid (Tc.out.next b)
  have Td := Lib.hid (Td.out.next b)
  have Te := Lib.hid (Te.out.next b)
  clear b
  go_wp2_with (go_at_call 14; refine (calls_hid (c_lname [97] w6)).mono ?_)
  intro e w7 hh
  obtain ⟨rfl, t, b⟩ := hh.out
  clear hh
  have HB7 := Lib.hid (below_t HB6.out b HB6.out.size)
  have Ta := Lib.hid t
  clear b t
  go_wp2_with (go_at_call 14; refine (calls_hid (c_lname [98] w7)).mono ?_)
  intro e w8 hh
  obtain ⟨rfl, t, b⟩ := hh.out
  clear hh
  have HB8 := Lib.hid (below_t HB7.out b HB7.out.size)
  have Ta := Lib.hid (Ta.out.next b)
  have Tb := Lib.hid t
  clear b t
  go_wp2_with (go_at_call 13; refine (calls_hid (c_twoN [42] ([nmT [97]]) ([nmT [98]]) 1 1 3 rfl rfl rfl (by decide) (by decide) (by decide) _ _ _ _ w8 Ta.out Tb.out)).mono ?_)
  intro e w9 hh
  obtain ⟨a3, n3, rfl, t, b⟩ := hh.out
  clear hh
  have HB9 := Lib.hid (below_t HB8.out b HB8.out.size)
  have Ta := Lib.hid (Ta.out.next b)
  have Tb := Lib.hid (Tb.out.next b)
  have Td := Lib.hid t
  clear b t
  go_wp2_with (go_at_call 14; refine (calls_hid (c_lname [99] w9)).mono ?_)
  intro e w10 hh
  obtain ⟨rfl, t, b⟩ := hh.out
  clear hh
  have HB10 := Lib.hid (below_t HB9.out b HB9.out.size)
  have Ta := Lib.hid (Ta.out.next b)
  have Tb := Lib.hid (Tb.out.next b)
  have Td := Lib.hid (Td.out.next b)
  have Tc := Lib.hid t
  clear b t
  go_wp2_with (go_at_call 13; refine (calls_hid (c_twoN [43] ([nmT [97]] ++ [nmT [98]] ++ [opT [42]]) ([nmT [99]]) 3 1 5 rfl rfl rfl (by decide) (by decide) (by decide) _ _ _ _ w10 Td.out Tc.out)).mono ?_)
  intro e w11 hh
  obtain ⟨a4, n4, rfl, t, b⟩ := hh.out
  clear hh
  have HB11 := Lib.hid (below_t HB10.out b HB10.out.size)
  have Ta := Lib.hid (Ta.out.next b)
  have Tb := Lib.hid (Tb.out.next b)
  have Td := Lib.hid (Td.out.next b)
  have Tc := Lib.hid (Tc.out.next b)
  have Te := Lib.hid t
  clear b t
  go_wp2_with (go_at_call 12; refine (calls_hid (c_pe2 B a4 n4 w11 (HE.out _ HB11.out).1 (HE.out _ HB11.out).2 Te.out)).mono ?_)
  intro e w12 hh
  obtain ⟨rfl, b⟩ := hh.out
  clear hh
  have HB12 := Lib.hid (below_t HB11.out b HB11.out.size)
  have Ta := Lib.hid (Ta.out.next b)
  have Tb := Lib.hid (Tb.out.next b)
  have Td := Lib.hid (Td.out.next b)
  have Tc := Lib.hid (Tc.out.next b)
  have Te := Lib.hid (Te.out.next b)
  clear b
  go_wp2_with (go_at_call 14; refine (calls_hid (c_lname [97] w12)).mono ?_)
  intro e w13 hh
  obtain ⟨rfl, t, b⟩ := hh.out
  clear hh
  have HB13 := Lib.hid (below_t HB12.out b HB12.out.size)
  have Ta := Lib.hid t
  clear b t
  go_wp2_with (go_at_call 14; refine (calls_hid (c_lname [98] w13)).mono ?_)
  intro e w14 hh
  obtain ⟨rfl, t, b⟩ := hh.out
  clear hh
  have HB14 := Lib.hid (below_t HB13.out b HB13.out.size)
  have Ta := Lib.hid (Ta.out.next b)
  have Tb := Lib.hid t
  clear b t
  go_wp2_with (go_at_call 13; refine (calls_hid (c_twoN [43] ([nmT [97]]) ([nmT [98]]) 1 1 3 rfl rfl rfl (by decide) (by decide) (by decide) _ _ _ _ w14 Ta.out Tb.out)).mono ?_)
  intro e w15 hh
  obtain ⟨a5, n5, rfl, t, b⟩ := hh.out
  clear hh
  have HB15 := Lib.hid (below_t HB14.out b HB14.out.size)
  have Ta := Lib.hid (Ta.out.next b)
  have Tb := Lib.hid (Tb.out.next b)
  have Te := Lib.hid t
  clear b t
  go_wp2_with (go_at_call 6; refine (calls_hid (c_pa3 B a5 n5 w15 (HE.out _ HB15.out).1 (HE.out _ HB15.out).2 Te.out)).mono ?_)
  intro e w16 hh
  obtain ⟨pa, pc, rfl, t, b⟩ := hh.out
  clear hh
  have HB16 := Lib.hid (below_t HB15.out b HB15.out.size)
  have Ta := Lib.hid (Ta.out.next b)
  have Tb := Lib.hid (Tb.out.next b)
  have Te := Lib.hid (Te.out.next b)
  have TI := Lib.hid t
  clear b t
  have hlt := heap_alloc_at (w := w16) (.cells #[.int .i64 0, .int .i64 1] 3) _ rfl
  have hI2 : IntIn any_ [0, 1] (some ⟨w16.heap.size, 0, none⟩) (w16.alloc (.cells #[.int .i64 0, .int .i64 1] 3)) := fun _ => ⟨w16.heap.size, 0, rfl, trivial, (Array.getElem?_eq_some_iff.1 hlt).1, fun k q hk => by
    rw [Lib.cell_of_heap hlt]
    match k, hk with
    | 0, hk => cases hk; rfl
    | 1, hk => cases hk; rfl⟩
  have HSm := Lib.hid (c_sameI [0, 1] pa (some ⟨w16.heap.size, 0, none⟩) pc 2 any_ any_ (w16.alloc (.cells #[.int .i64 0, .int .i64 1] 3)) (by decide) (TI.out.next (below_o _ _)) hI2)
  have HB17 := Lib.hid (below_t HB16.out (below_o w16 (.cells #[.int .i64 0, .int .i64 1] 3)) HB16.out.size)
  clear hlt hI2
  go_wp2_with (go_at_call 15; refine (calls_hid HSm.out).mono ?_)
  intro e w17 hh
  obtain ⟨rfl, nn, rfl⟩ := hh.out
  clear hh
  go_wp2_with fail
  go_ret
  exact ⟨rfl, HB17.out.trans (_root_.Go.below_drewN (Below.refl _ _) nn)⟩
end Go.Proofs.YtiodghbhllfhlaaGreatDoor
