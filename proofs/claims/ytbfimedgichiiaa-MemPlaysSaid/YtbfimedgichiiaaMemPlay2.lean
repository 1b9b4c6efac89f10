/-
  The law's play: one act on both memories: Read, Fill.
-/
import Derived.Test.YtbfimedgichiiaaMemPlay1
namespace Go.Proofs.Ytbfimedgichiiaa
set_option linter.unusedVariables false
set_option linter.unusedSimpArgs false
set_option maxRecDepth 100000
open Go.ChangeShapes Go.WideShapes Go.ChangeAt Go.RowKit

set_option maxHeartbeats 4000000 in
theorem c_play3 (N gm gy nb : Nat) (R : Nat → Rg) (k a n v : Int) (p : Option Addr) (m cap : Nat) (w : World) (hB : Both w N gm gy nb R) (hnb : nb ≤ 16) (hok : okTo R nb = true) (hk : amP k 7 = 3) (k0 : -9223372036854775808 ≤ k) (k1 : k ≤ 9223372036854775807) (a0 : 0 ≤ a) (a1 : a ≤ 4294967295) (n0 : -9223372036854775808 ≤ n) (n1 : n ≤ 9223372036854775807) :
    Calls Try.prog 15 #[.pointer (some ⟨gm, 0, none⟩), .pointer (some ⟨gy, 0, none⟩), actV k a n v p m cap] w fun e w' => Played w w' N gm gy nb R e := by
  obtain ⟨C, D, c, d, hD, tC, tD⟩ := hB
  have HA := Lib.hid (At.start hD k a n v p m cap)
  have HTC := Lib.hid tC
  have HTD := Lib.hid tD
  have HOk := Lib.hid hok
  have HK := Lib.hid hk
  clear hD tC tD hok hk
  go_enter Try.func15, Try.ntmps15
  go_wp2_with fail
  refine (c_among k 7 _ k0 k1 (by decide) (by decide)).mono ?_
  rintro e w1 ⟨rfl, rfl⟩
  rw [HK.out]
  go_wp2_with fail
  generalize w.heap.size = ga at HA ⊢
  generalize w.alloc _ = w1 at HA ⊢
  obtain ⟨x0, x1, x2, x3, x4⟩ := HA.out.1
  clear x0 x3 x4
  go_wp2_with fail
  obtain ⟨A, M, hM⟩ := HA.out.2.1.fst
  refine (c_mRead A M gm nb R C D a n _ hM a0 a1).mono ?_
  rintro e w2 ⟨v1, e1, rfl, hL, hob, hb⟩
  have HOb := Lib.hid hob
  have HL := Lib.hid hL
  have HB12 := Lib.hid hb
  have HA2 := Lib.hid (HA.out.spare hb)
  have HGa := Lib.hid HA.out.ga_lt
  clear hL hob hb hM x1 x2
  obtain ⟨x0, x1, x2, x3, x4⟩ := HA2.out.1
  clear x0 x3 x4
  go_wp2_with fail
  obtain ⟨gl, gN, gW, rn, rw', y1, y2, _⟩ := HA2.out.2.1.snd
  refine (c_rRead gy gl gN nb R rn c a n _ y1 y2 hnb HOk.out a0 a1 n0 n1).mono ?_
  rintro e w3 ⟨v2, e2, rfl, hL2, hb2⟩
  obtain ⟨he, hT⟩ := tie_read (wx := w3) HOk.out HTC.out HL.out hb2.size (hL2.imp (fun h => ⟨h.1, h.2⟩) id) (fun b hb => hb2.block b hb)
  subst he
  have HA3 := Lib.hid (HA2.out.next hb2)
  clear hL2 hb2 y1 y2 x1 x2 HL
  rcases hT with ⟨rfl, rfl⟩ | ⟨g, g', q, cp, f, hq0, hq1, rfl, rfl, hO, hO', hg⟩
  · go_wp2_with fail
    refine (c_SameBytes none none 0 0 0 (fun _ => 0) _ (.inl rfl) (.inl rfl)).mono ?_
    rintro e w4 ⟨rfl, rfl⟩
    go_wp2_with fail
    go_rounds 1
    go_wp2_with fail
    go_ret
    exact HA3.out.done HTC.out HTD.out
  · have HO := Lib.hid hO
    have HO' := Lib.hid hO'
    have HG := Lib.hid hg
    clear hO hO' hg
    go_wp2_with fail
    refine (c_SameBytes (some ⟨g, 0, none⟩) (some ⟨g', 0, none⟩) q q cp f _ HO.out.u8s HO'.out.u8s).mono ?_
    rintro e w4 ⟨rfl, rfl⟩
    go_wp2_with fail
    have HG1 : Hid (w1.heap.size ≤ g) := HOb.out g rfl
    have HR3 := Lib.hid HO.out.row
    clear HO HO'
    go_loopw [20] (fun i wr => ∃ y : Nat, y ≤ q ∧ i = .int .i64 y ∧ Hid (At w wr (fun b => b = ga ∨ w1.heap.size ≤ b ∧ b < w2.heap.size) N gm gy nb R C D c d ga k a n v p m cap) ∧ Hid (OwnR wr g q)) (fun i _ => q - (intOf i).toNat)
    case atStart => exact ⟨0, Nat.zero_le _, rfl, HA3, HR3⟩
    case round =>
      obtain ⟨y, hy, rfl, HAr, HRr⟩ := hrel
      by_cases hlt : y < q
      · obtain ⟨old, hold⟩ := HRr.out.there hlt
        have hfz := HRr.out.fz y
        have hy0 : (0 : Int) ≤ (y : Int) := by omega
        have hy1 : (y : Int) < (q : Int) := by omega
        have HSt := Lib.hid (HRr.out.set y (.int .u8 77))
        have HAn : Hid (At w (wr.setCell ⟨g, y, none⟩ (.int .u8 77)) (fun b => b = ga ∨ w1.heap.size ≤ b ∧ b < w2.heap.size) N gm gy nb R C D c d ga k a n v p m cap) := HAr.out.frame HSt.out.2 (fun b e => .inr (by rw [e]; exact ⟨HG1.out, HG.out⟩)) (fun e => by have h1 := HGa.out; have h2 := HG1.out; omega)
        go_wp2_with fail
        go_roundw
        case rel => exact ⟨y + 1, by omega, by go_num, HAn, HSt.out.1⟩
        case measure => simp [intOf]; omega
      · have hge : decide (y < q) = false := by simp; omega
        clear hlt hy
        go_wp2_with fail
        go_ret
        exact HAr.out.done HTC.out HTD.out
/-- Bytes that came in with an act. -/
def ByIn (w : World) (N : Nat) (p : Option Addr) (m cap : Nat) (f : Nat → Int) : Prop := (p = none → m = 0 ∧ cap = 0) ∧ m ≤ cap ∧ m ≤ 140737488355328 ∧ (0 < m → ∃ b off, p = some ⟨b, off, none⟩ ∧ b < N ∧ ∀ y, y < m → w.cell? ⟨b, off + y, none⟩ = some (.int .u8 (f y))) ∧ ∀ y, y < m → 0 ≤ f y ∧ f y ≤ 255
theorem ByIn.below {w w' : World} {N : Nat} {p : Option Addr} {m cap : Nat} {f : Nat → Int} (h : ByIn w N p m cap f) (hb : Below N w w') : ByIn w' N p m cap f := by
  obtain ⟨h1, h2, h3, h4, h5⟩ := h
  refine ⟨h1, h2, h3, fun hm => ?_, h5⟩
  obtain ⟨b, off, e, hN, hc⟩ := h4 hm
  exact ⟨b, off, e, hN, fun y hy => (hb.cell (p := ⟨b, off + y, none⟩) hN).trans (hc y hy)⟩
theorem ByIn.u8s {w : World} {N : Nat} {p : Option Addr} {m cap : Nat} {f : Nat → Int} (h : ByIn w N p m cap f) : U8s w p m f := by
  by_cases hm : m = 0
  · exact .inl hm
  · obtain ⟨b, off, e, hN, hc⟩ := h.2.2.2.1 (by omega)
    exact .inr ⟨b, off, e, hc⟩
theorem row_u8c {w : World} {base n : Nat} {v : Value} {f : Nat → Int} (h : w.ownsRow base 5 1 v n (u8V f n)) (hv : v ≠ .slice none 0 0) : ∃ g cp, v = .slice (some ⟨g, 0, none⟩) n cp ∧ OwnB w g n f ∧ base ≤ g ∧ g < w.heap.size ∧ n ≤ cp ∧ cp ≤ maxLen := by
  rcases h.2 with ⟨h1, _⟩ | ⟨g, cap, cur, rfl, hg, hh, hle, hm, _⟩
  · exact absurd h1 hv
  · exact ⟨g, cap, rfl, own_b h, hg, (Array.getElem?_eq_some_iff.1 hh).1, hle, hm⟩
set_option maxHeartbeats 4000000 in
theorem c_play4 (N gm gy nb : Nat) (R : Nat → Rg) (k a n v : Int) (p : Option Addr) (m cap : Nat) (f : Nat → Int) (w : World) (hB : Both w N gm gy nb R) (hnb : nb ≤ 16) (hok : okTo R nb = true) (hk : amP k 7 = 4) (k0 : -9223372036854775808 ≤ k) (k1 : k ≤ 9223372036854775807) (a0 : 0 ≤ a) (a1 : a ≤ 4294967295) (hby : ByIn w N p m cap f) :
    Calls Try.prog 15 #[.pointer (some ⟨gm, 0, none⟩), .pointer (some ⟨gy, 0, none⟩), actV k a n v p m cap] w fun e w' => Played w w' N gm gy nb R e := by
  have HBy : Hid (∀ wx, Below N w wx → ByIn wx N p m cap f) := fun wx hb => hby.below hb
  clear hby
  obtain ⟨C, D, c, d, hD, tC, tD⟩ := hB
  have HA := Lib.hid (At.start hD k a n v p m cap)
  have HTC := Lib.hid tC
  have HTD := Lib.hid tD
  have HOk := Lib.hid hok
  have HK := Lib.hid hk
  clear hD tC tD hok hk
  go_enter Try.func15, Try.ntmps15
  go_wp2_with fail
  refine (c_among k 7 _ k0 k1 (by decide) (by decide)).mono ?_
  rintro e w1 ⟨rfl, rfl⟩
  rw [HK.out]
  go_wp2_with fail
  generalize w.heap.size = ga at HA ⊢
  generalize w.alloc _ = w1 at HA ⊢
  obtain ⟨x0, x1, x2, x3, x4⟩ := HA.out.1
  clear x0 x1 x2 x3
  go_wp2_with fail
  have hI := HBy.out _ HA.out.2.2.1
  refine (c_bBytes_all p m cap f _ hI.2.2.1 hI.1 (fun h => by
    obtain ⟨b, off, e, _, hc⟩ := hI.2.2.2.1 h
    exact ⟨b, off, e, hc⟩)).mono ?_
  rintro e w2 ⟨vb, rfl, hvn, hrow, hb⟩
  have HA2 := Lib.hid (HA.out.spare hb)
  have HGa := Lib.hid HA.out.ga_lt
  obtain ⟨g, cp, rfl, hO, hg⟩ := row_u8c hrow hvn
  have HO := Lib.hid hO
  have HG := Lib.hid hg
  have HIb := Lib.hid hI
  have hmx : m ≤ maxLen := by have h2 := hI.2.2.1; unfold maxLen; omega
  have hz := hI.2.2.2.2
  have HZ := Lib.hid hz
  have hS0 : w2.cell? ⟨ga, 1, none⟩ = some (.int .u32 a) ∧ w2.cell? ⟨ga, 4, none⟩ = some (.slice p m cap) := ⟨HA2.out.1.2.1, HA2.out.1.2.2.2.2⟩
  clear hI hvn hrow hb x4 hO hg hz
  go_wp2_with fail
  first
    | (go_region_held3 (fun w' => w'.cell? ⟨ga, 1, none⟩ = some (.int .u32 a) ∧ w'.cell? ⟨ga, 4, none⟩ = some (.slice p m cap))
        (first
          | exact hS0
          | exact ⟨HA3.out.1.2.1, HA3.out.1.2.2.2.2⟩
          | exact ⟨HA4.out.1.2.1, HA4.out.1.2.2.2.2⟩)
        (first
          | (go_at_call 13
             refine (d_Fill _ N gm gy nb R C D c d a (some ⟨g, 0, none⟩) m cp f _ (HA2.out.next (Below.refl _ _).drew).2.1 a0 a1 hmx HG.out.2.2.1 (by have := HG.out.2.2.2; unfold maxLen at this; omega) (fun _ => ⟨g, 0, rfl, fun j hj => by rw [Nat.zero_add]; exact HO.out.cell hj, .inl (.inr ⟨HG.out.1, HG.out.2.1⟩)⟩) HZ.out).mono ?_
             rintro e w3 ⟨e1, rfl, ⟨C', hS, hD2⟩, hf⟩
             have HS := Lib.hid hS
             have HO3 : Hid (OwnB w3 g m f) := HO.out.next (hf.block g (by have := HG.out.2.1; exact this) (fun h => h.2 (.inr ⟨HG.out.1, HG.out.2.1⟩)))
             have HA3 := Lib.hid ((HA2.out.next (Below.refl _ _).drew).step hD2 hf))
          | (go_at_call 40
             refine (d_rFill _ N gm gy nb R C' D c d a p m cap f _ HA3.out.2.1 hnb HOk.out a0 a1 hmx HIb.out.2.1 (fun h => by
               obtain ⟨b, off, e, hN, hc⟩ := (HBy.out _ HA3.out.2.2.1).2.2.2.1 h
               exact ⟨b, off, e, hc, hN⟩) HZ.out).mono ?_
             rintro e w4 ⟨e2, rfl, ⟨c', hS2, hD3⟩, hf⟩
             have hTs := tie_fill HOk.out HTC.out HS.out hS2
             obtain ⟨he, tC⟩ := hTs
             subst he
             have HTC' := Lib.hid tC
             have HO4 : Hid (OwnB w4 g m f) := HO3.out.next (hf.block g HO3.out.lt (fun h => h.2 (.inr ⟨HG.out.1, HG.out.2.1⟩)))
             have HA4 := Lib.hid (HA3.out.step hD3 hf))
          | (go_at_call 38
             refine (c_SameBytes (some ⟨g, 0, none⟩) p m cp cap f _ HO4.out.u8s (HBy.out _ HA4.out.2.2.1).u8s).mono ?_
             rintro e w5 ⟨rfl, rfl⟩)))
    | fail
  all_goals
    go_wp2_with fail
    have HR3 := Lib.hid HO4.out.row
    clear HO3 HA3 HS HO HA2 hS0
    have hcp : m ≤ cp := HG.out.2.2.1
    have hcp2 : cp ≤ 9223372036854775807 := by have := HG.out.2.2.2; unfold maxLen at this; omega
    unfold maxLen at hmx
    go_loopw [23] (fun i wr => ∃ y : Nat, y ≤ m ∧ i = .int .i64 y ∧ Hid (At w wr (fun b => b = ga ∨ w1.heap.size ≤ b ∧ b < w2.heap.size) N gm gy nb R C' D c' d ga k a n v p m cap) ∧ Hid (OwnR wr g m)) (fun i _ => m - (intOf i).toNat)
    case atStart => exact ⟨0, Nat.zero_le _, rfl, HA4, HR3⟩
    case round =>
      obtain ⟨y, hy, rfl, HAr, HRr⟩ := hrel
      by_cases hlt : y < m
      · obtain ⟨old, hold⟩ := HRr.out.there hlt
        have hfz := HRr.out.fz y
        have hy0 : (0 : Int) ≤ (y : Int) := by omega
        have hy1 : (y : Int) < (m : Int) := by omega
        have HSt := Lib.hid (HRr.out.set y (.int .u8 78))
        have HAn : Hid (At w (wr.setCell ⟨g, y, none⟩ (.int .u8 78)) (fun b => b = ga ∨ w1.heap.size ≤ b ∧ b < w2.heap.size) N gm gy nb R C' D c' d ga k a n v p m cap) := HAr.out.frame HSt.out.2 (fun b e => .inr (by rw [e]; exact ⟨HG.out.1, HG.out.2.1⟩)) (fun e => by have h1 := HGa.out; have h2 := HG.out.1; omega)
        go_wp2_with fail
        go_roundw
        case rel => exact ⟨y + 1, by omega, by go_num, HAn, HSt.out.1⟩
        case measure => simp [intOf]; omega
      · have hge : decide (y < m) = false := by simp; omega
        clear hlt hy
        go_wp2_with fail
        go_ret
        exact HAr.out.done HTC'.out HTD.out
/-- An act on both memories, whatever it is. -/
theorem c_play (N gm gy nb : Nat) (R : Nat → Rg) (k a n v : Int) (p : Option Addr) (m cap : Nat) (f : Nat → Int) (w : World) (hB : Both w N gm gy nb R) (hnb : nb ≤ 16) (hok : okTo R nb = true) (k0 : -9223372036854775808 ≤ k) (k1 : k ≤ 9223372036854775807) (a0 : 0 ≤ a) (a1 : a ≤ 4294967295) (n0 : -9223372036854775808 ≤ n) (n1 : n ≤ 9223372036854775807) (v0 : 0 ≤ v) (v1 : v ≤ 4294967295) (hby : ByIn w N p m cap f) :
    Calls Try.prog 15 #[.pointer (some ⟨gm, 0, none⟩), .pointer (some ⟨gy, 0, none⟩), actV k a n v p m cap] w fun e w' => Played w w' N gm gy nb R e := by
  have hb := amP_bd k 7 (by decide)
  have hc : amP k 7 = 0 ∨ amP k 7 = 1 ∨ amP k 7 = 2 ∨ amP k 7 = 3 ∨ amP k 7 = 4 ∨ amP k 7 = 5 ∨ amP k 7 = 6 := by omega
  rcases hc with h | h | h | h | h | h | h
  · exact c_play0 N gm gy nb R k a n v p m cap w hB hnb hok h k0 k1 a0 a1
  · exact c_play1 N gm gy nb R k a n v p m cap w hB hnb hok h k0 k1 a0 a1 v0 v1
  · exact c_play2 N gm gy nb R k a n v p m cap w hB hnb hok h k0 k1 a0 a1
  · exact c_play3 N gm gy nb R k a n v p m cap w hB hnb hok h k0 k1 a0 a1 n0 n1
  · exact c_play4 N gm gy nb R k a n v p m cap f w hB hnb hok h k0 k1 a0 a1 hby
  · exact c_play5 N gm gy nb R k a n v p m cap w hB hnb hok h k0 k1 a0 a1
  · exact c_play6 N gm gy nb R k a n v p m cap w hB hnb hok h k0 k1 a0 a1
end Go.Proofs.Ytbfimedgichiiaa
