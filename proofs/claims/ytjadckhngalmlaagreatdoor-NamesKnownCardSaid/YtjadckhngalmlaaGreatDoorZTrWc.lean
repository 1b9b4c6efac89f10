/-
  The contract of Count, in the code.
-/
import Derived.Test.YtjadckhngalmlaaGreatDoorZTrVu
import Derived.Test.YtjadckhngalmlaaGreatDoorZTrPa
import Derived.Test.YtjadckhngalmlaaGreatDoorZTrFi
namespace Go.Proofs.YtjadckhngalmlaaGreatDoor
set_option linter.unusedVariables false
set_option linter.unusedSimpArgs false
set_option maxRecDepth 100000
open Go.RowKit

/-- What Walk answers. -/
def WaT (t : List NdT) (w : World) (e : Ending) (w' : World) : Prop :=
  ((ckA wlB t = 0 ∧ t.length ≤ 4096 ∧ ∃ P ps, grow t = some ps ∧ e = .returned (.tuple #[.func (.func 47) #[.slice (some ⟨P, 0, none⟩) t.length t.length] #[], .int .i64 0]) ∧ PtIn (fun b => w.heap.size ≤ b) ps P w' ∧ w.heap.size ≤ P) ∨ (ckA wlB t ≠ 0 ∧ e = .returned (.tuple #[.nilFunc, .int .i64 (ckA wlB t : Nat)]))) ∧ Below w.heap.size w w'
set_option maxHeartbeats 4000000 in
theorem c_tWalk (B : Nat) (t : List NdT) (a : Option Addr) (c : Nat) (w : World) (hE : Env B w) (hB : B ≤ w.heap.size) (ho : ∀ x ∈ t, NdOk x) (hT : TrIn t a w) :
    Calls Tryz.prog 37 #[.slice a t.length c] w fun e w' => WaT t w e w' := by
  have HT := Lib.hid (c_tkTree B t a c w hE hB ho hT)
  obtain ⟨N, hN⟩ : ∃ N, t.length = N := ⟨_, rfl⟩
  unfold TkT at HT
  have HN := Lib.hid hN
  rw [hN] at HT ⊢
  clear hE ho hT hN
  go_enter Tryz.func37, Tryz.ntmps37
  go_wp2_with fail
  refine HT.out.mono ?_
  rintro e w1 ⟨hr, hb⟩
  have HB1 := Lib.hid hb
  clear hb HT
  rcases hr with ⟨h0, hl, P, ps, hg, rfl, hPt, hP⟩ | ⟨h0, rfl⟩
  · have HQ := Lib.hid (And.intro h0 (And.intro hl (And.intro hg (And.intro hPt hP))))
    clear h0 hl hg hPt hP
    go_wp2_with fail
    go_ret2
    exact ⟨.inl ⟨HQ.out.1, by rw [HN.out]; exact HQ.out.2.1, P, ps, HQ.out.2.2.1, by rw [HN.out]; rfl, HQ.out.2.2.2.1.next (below_o _ _), HQ.out.2.2.2.2⟩, HB1.out.alloc HB1.out.size _⟩
  · have HC0 := Lib.hid h0
    obtain ⟨ck, hck⟩ : ∃ ck : Int, ((ckA wlB t : Nat) : Int) = ck := ⟨_, rfl⟩
    have hne : (ck == 0) = false := by rw [← hck]; simp; omega
    have HCK := Lib.hid hck
    rw [hck]
    clear h0 hck
    go_wp2_with fail
    go_ret2
    exact ⟨.inr ⟨HC0.out, by rw [HCK.out]; rfl⟩, HB1.out.alloc HB1.out.size _⟩
end Go.Proofs.YtjadckhngalmlaaGreatDoor
namespace Go.Proofs.YtjadckhngalmlaaGreatDoor
set_option linter.unusedVariables false
set_option linter.unusedSimpArgs false
set_option maxRecDepth 100000
open Go.RowKit
attribute [local go_sem] Oper.semAt_some

/-- Whole numbers lie in a row. -/
def IzIn (p : List Int) (a : Option Addr) (w : World) : Prop := 0 < p.length → ∃ b off, a = some ⟨b, off, none⟩ ∧ b < w.heap.size ∧ ∀ (k : Nat) (q : Int), p[k]? = some q → w.cell? ⟨b, off + k, none⟩ = some (.int .i64 q)
theorem IzIn.next {p : List Int} {a : Option Addr} {w w' : World} (h : IzIn p a w) (hb : Below w.heap.size w w') : IzIn p a w' := fun h0 => by
  obtain ⟨b, off, h1, h2, h3⟩ := h h0
  exact ⟨b, off, h1, Nat.lt_of_lt_of_le h2 hb.size, fun k q hk => (blk_cell (hb.block b h2) _).trans (h3 k q hk)⟩
/-- Is the node at a place of one of the kinds (of any, where none is named)? -/
def kdB (ks : List Int) (t : List NdT) (j : Nat) : Bool := (ks.length == 0) || ks.contains ((t[j]?.map NdT.kind).getD 0)
def ctA (ks : List Int) (t : List NdT) (l : List (Nat × Nat)) : Nat := l.countP fun x => kdB ks t (min x.1 (t.length - 1))
/-- How many nodes are of the kinds, in order. -/
def cntA (ks : List Int) (t : List NdT) : Nat := (List.range t.length).countP (kdB ks t)
theorem KpsOk.of_grow {t : List NdT} {ps : List (List Nat)} (h : grow t = some ps) (hl : t.length ≤ 4096) : KpsOk ps t.length ∧ 0 < t.length ∧ (wkA ps).length = t.length ∧ (∀ x ∈ wkA ps, x.1 < t.length) ∧ ∀ ks, ctA ks t (wkA ps) = cntA ks t := by
  obtain ⟨fr, hbg, hG, hfl, hfe⟩ := grow_psG h
  obtain ⟨h0, hr⟩ := grow_root h hbg
  have hk : KpsOk ps t.length := ⟨hG.1, hl, hG.all hl⟩
  have hwc := fun P => wk_count hG hfl hfe P (t.length - 1 + 1) (t.length - 1) 1 0 (by omega) (by omega) hr
  have hwA : wkA ps = wk ps (t.length - 1 + 1) (t.length - 1) 1 := by unfold wkA; rw [hG.1]
  rw [show t.length - 1 + 1 = t.length by omega] at hwc hwA
  have hlen : (wkA ps).length = t.length := by
    have h1 := hwc (fun _ => true)
    rw [List.countP_true, cnR_zero_len] at h1
    rw [hwA]
    exact h1
  have hmem : ∀ x ∈ wkA ps, x.1 < t.length := by
    have h1 := hwc (fun j => decide (j < t.length))
    have h2 : cnR (fun j => decide (j < t.length)) 0 t.length = t.length := by
      unfold cnR
      rw [List.countP_eq_length.2, List.length_range', Nat.sub_zero]
      intro j hj
      rw [List.mem_range'_1] at hj
      simpa using hj.2
    rw [h2, ← hwA] at h1
    have h3 := List.countP_eq_length.1 (h1.trans hlen.symm)
    intro x hx
    simpa using h3 x hx
  refine ⟨hk, h0, hlen, hmem, fun ks => ?_⟩
  have h1 := hwc (kdB ks t)
  rw [← hwA] at h1
  unfold ctA cntA
  have h2 : cnR (kdB ks t) 0 t.length = (List.range t.length).countP (kdB ks t) := by unfold cnR; rw [Nat.sub_zero, ← List.range_eq_range']
  rw [← h2, ← h1]
  refine List.countP_congr fun x hx => ?_
  have := hmem x hx
  rw [show min x.1 (t.length - 1) = x.1 by omega]
end Go.Proofs.YtjadckhngalmlaaGreatDoor
