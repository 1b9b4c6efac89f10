/-
  What the law's loop holds: how deep each place was, and the places on the way.
-/
import Derived.Test.YtiodghbhllfhlaaGreatDoorZTrPw3
import Derived.Test.YtiodghbhllfhlaaGreatDoorZTrVk
import Derived.Test.YtiodghbhllfhlaaGreatDoorZTrVu
import Derived.OwnWalkIn
namespace Go.Proofs.YtiodghbhllfhlaaGreatDoor
set_option linter.unusedVariables false
set_option linter.unusedSimpArgs false
set_option maxRecDepth 100000
open Go.RowKit

theorem calls_hid' {P : Program} {f : FuncId} {a : Array Value} {w : World} {Q : Ending → World → Prop} (h : Calls P f a w Q) : Calls P f a w (fun e w' => Hid (Q e w')) := h.mono fun _ _ h => Lib.hid h
set_option maxHeartbeats 4000000 in
theorem c_Grow (n : Nat) (w : World) (hn : n ≤ 4096) :
    Calls Tryz.prog 35 #[.slice none 0 0, .int .i64 (n : Int)] w fun e w' => (∃ v, e = .returned v ∧ w'.ownsRow w.heap.size 41 6 v 0 []) ∧ Below w.heap.size w w' := by
  go_enter Tryz.func35, Tryz.ntmps35
  have hb64 : Tryz.t41.bytes = 64 := rfl
  by_cases h0 : n = 0
  · subst h0
    go_wp2_with fail
    go_ret
    exact ⟨⟨_, rfl, World.ownsRow_nil _ _ _ _⟩, Below.refl _ _⟩
  · have h1 : (0 : Int) < (n : Int) := by omega
    have h2 : 0 < n := by omega
    have hfit : ¬ (281474976710656 < n * 64) := by omega
    have hfit2 : ¬ ((281474976710656 : Int) < (n : Int) * 64) := by omega
    have hgf := growslice_fits (need := n) (old := 0) (bytes := 64) h2 (by omega)
    have hge := grownCap_ge w n 0 41
    have hcm := grownCap_le_maxLen w n 0 41 (by unfold maxLen; omega)
    unfold grownCap at hge hcm
    go_wp2_with fail
    go_ret
    refine ⟨⟨_, rfl, rfl, .inr ⟨w.heap.size, _, _, rfl, Nat.le_refl _, heap_alloc_at _ _ rfl, Nat.zero_le _, hcm, ?_, by simp⟩⟩, (below_o _ _).drew⟩
    simp only [Array.size_append, size_zeroCells]
    show n * 6 + (_ - n) * 6 = _ * 6
    omega
/-- Trees (none of them empty) lie in a row, each in a row of its own. -/
def LiT (S : List (List NdT)) (a : Option Addr) (w : World) : Prop := ∀ (i : Nat) (t : List NdT), S[i]? = some t → ∃ R off ta tc, a = some ⟨R, off, none⟩ ∧ R < w.heap.size ∧ w.cell? ⟨R, off + i, none⟩ = some (.slice ta t.length tc) ∧ 0 < t.length ∧ TrIn t ta w
theorem LiT.next {S : List (List NdT)} {a : Option Addr} {w w' : World} (h : LiT S a w) (hb : Below w.heap.size w w') : LiT S a w' := fun i t hi => by
  obtain ⟨R, off, ta, tc, h1, h2, h3, h4, h5⟩ := h i t hi
  exact ⟨R, off, ta, tc, h1, Nat.lt_of_lt_of_le h2 hb.size, (hb.cell (p := ⟨R, off + i, none⟩) h2).trans h3, h4, h5.next hb⟩
theorem flat_len (S : List (List NdT)) (i : Nat) (t : List NdT) (h : S[i]? = some t) : (S.take (i + 1)).flatten = (S.take i).flatten ++ t ∧ ((S.take (i + 1)).flatten).length ≤ S.flatten.length := by
  have hi := (List.getElem?_eq_some_iff.1 h).1
  constructor
  · rw [List.take_succ_eq_append_getElem hi, List.flatten_append, List.getElem_eq_iff hi |>.2 h]
    simp
  · conv => rhs; rw [← List.take_append_drop (i + 1) S, List.flatten_append, List.length_append]
    omega
set_option maxHeartbeats 4000000 in
theorem c_Concat (S : List (List NdT)) (a : Option Addr) (c : Nat) (w : World) (hS : S.flatten.length ≤ 4096) (hk : S.length ≤ 4096) (hL : LiT S a w) :
    Calls Tryz.prog 21 #[.slice a S.length c] w fun e w' => (∃ v, e = .returned v ∧ w'.ownsRow w.heap.size 41 6 v S.flatten.length (noCs S.flatten)) ∧ Below w.heap.size w w' := by
  obtain ⟨k, hk'⟩ : ∃ k, S.length = k := ⟨_, rfl⟩
  obtain ⟨N, hN⟩ : ∃ N, S.flatten.length = N := ⟨_, rfl⟩
  have HLi := Lib.hid hL
  have HK := Lib.hid hk'
  have HN := Lib.hid hN
  rw [hk'] at hk
  rw [hN] at hS
  rw [hk', hN]
  clear hL hk' hN
  go_enter Tryz.func21, Tryz.ntmps21
  go_wp2_with fail
  go_loopg [3, 11] k (fun m v3 v11 wr => ∃ i : Nat, i + m = k ∧ v11 = .int .i64 (i : Int) ∧ v3 = .int .i64 ((((S.take i).flatten).length : Nat) : Int) ∧ wr = w)
  case atStart => exact ⟨0, by omega, rfl, rfl, rfl⟩
  case round =>
    obtain ⟨i, hi, rfl, rfl, hww⟩ := hrel
    have hww := hww.symm
    subst hww
    by_cases hlt : i < k
    · have hd : decide ((i : Int) < (k : Int)) = true := by simp; omega
      obtain ⟨t, ht⟩ : ∃ t, S[i]? = some t := ⟨S[i]'(by rw [HK.out]; exact hlt), List.getElem?_eq_getElem (by rw [HK.out]; exact hlt)⟩
      obtain ⟨R, off, ta, tc, ha, hR, hc, ht0, hT⟩ := HLi.out i t ht
      subst ha
      have hfl := flat_len S i t ht
      rw [hfl.1, List.length_append, HN.out] at hfl
      obtain ⟨s, hs⟩ : ∃ s, ((S.take i).flatten).length = s := ⟨_, rfl⟩
      obtain ⟨tl, htl⟩ : ∃ tl, t.length = tl := ⟨_, rfl⟩
      have hnx : ((S.take (i + 1)).flatten).length = s + tl := by rw [(flat_len S i t ht).1, List.length_append, hs, htl]
      rw [hs, htl] at hfl
      rw [hs]
      rw [htl] at hc
      have hw1 : IntKind.i64.wrap ((s : Int) + (tl : Int)) = ((s + tl : Nat) : Int) := by rw [IntKind.wrap_i64]; omega
      have hw2 : IntKind.i64.wrap ((i : Int) + 1) = ((i + 1 : Nat) : Int) := by rw [IntKind.wrap_i64]; omega
      have hi0 : (0 : Int) ≤ (i : Int) := by omega
      have hik : (i : Int) < (k : Int) := by omega
      have hnn : decide (((s + tl : Nat) : Int) < 0) = false := by simp; omega
      have HNX := Lib.hid hnx
      have HMs : Hid (k - (i + 1) < gk ∧ i + 1 + (k - (i + 1)) = k) := ⟨by omega, by omega⟩
      clear hT ht0 ht hfl hs htl hnx hlt hi
      go_wp2_with fail
      go_roundg (k - (i + 1))
      case measure => exact HMs.out.1
      case rel => exact ⟨i + 1, HMs.out.2, rfl, by rw [HNX.out, Int.natCast_add], rfl⟩
    · have hik : i = k := by omega
      rw [hik]
      have hd : decide ((k : Int) < (k : Int)) = false := by simp
      have hall : S.take k = S := by rw [← HK.out]; exact List.take_length
      rw [hall, HN.out]
      clear hall hik hi hlt
      have HG := Lib.hid (c_Grow N w hS)
      go_wp2_with (go_at_call 35; refine (calls_hid' HG.out).mono ?_)
      intro e w2 hh
      obtain ⟨⟨v, rfl, hown⟩, hb⟩ := hh.out
      have HO := Lib.hid (And.intro hown hb)
      clear hh hown hb
      go_wp2_with fail
      go_loopg [6, 27] k (fun m v6 v27 wr => ∃ q : Nat, q + m = k ∧ v27 = .int .i64 (q : Int) ∧ Hid (wr.ownsRow w.heap.size 41 6 v6 ((S.take q).flatten).length (noCs (S.take q).flatten) ∧ Below w.heap.size w wr))
      case atStart => exact ⟨0, by omega, rfl, HO.out⟩
      case round =>
        obtain ⟨q, hq, rfl, HH⟩ := hrel
        by_cases hlt : q < k
        · have hd : decide ((q : Int) < (k : Int)) = true := by simp; omega
          obtain ⟨t, ht⟩ : ∃ t, S[q]? = some t := ⟨S[q]'(by rw [HK.out]; exact hlt), List.getElem?_eq_getElem (by rw [HK.out]; exact hlt)⟩
          obtain ⟨R, off, ta, tc, ha, hR, hc, ht0, hT⟩ := (HLi.out.next HH.out.2) q t ht
          subst ha
          have hfl := flat_len S q t ht
          rw [hfl.1, List.length_append, HN.out] at hfl
          obtain ⟨s, hs⟩ : ∃ s, ((S.take q).flatten).length = s := ⟨_, rfl⟩
          obtain ⟨tl, htl⟩ : ∃ tl, t.length = tl := ⟨_, rfl⟩
          have hnx := (flat_len S q t ht).1
          have hnl : ((S.take (q + 1)).flatten).length = s + tl := by rw [(flat_len S q t ht).1, List.length_append, hs, htl]
          rw [hs, htl] at hfl
          rw [htl] at hc ht0
          rw [hs] at HH
          have hw2 : IntKind.i64.wrap ((q : Int) + 1) = ((q + 1 : Nat) : Int) := by rw [IntKind.wrap_i64]; omega
          have hi0 : (0 : Int) ≤ (q : Int) := by omega
          have hik : (q : Int) < (k : Int) := by omega
          have HNX := Lib.hid (And.intro hnx hnl)
          have HT := Lib.hid (And.intro hT (And.intro ht0 (And.intro htl (And.intro hfl.2 hs))))
          have HMs : Hid (k - (q + 1) < gk ∧ q + 1 + (k - (q + 1)) = k) := ⟨by omega, by omega⟩
          clear hT ht0 ht hfl hs htl hnx hnl hlt hq
          go_wp2_with (at_builtin; refine wp_onN rfl _ _ rfl w.heap.size _ rfl s (S.take q).flatten HT.out.2.2.2.2 HH.out.1 ta tl tc t HT.out.2.2.1 HT.out.2.1 rfl HT.out.1 (by have := HT.out.2.2.2.1; omega) HH.out.2.size ?_)
          intro v3 w3 hown3 hg3 g3 cap3 hv3
          subst hv3
          have HH3 := Lib.hid (And.intro hown3 (HH.out.2.grown hg3 HH.out.2.size (fun k hk => (HH.out.1.lt k hk).1)))
          clear hown3 hg3
          go_wp2_with fail
          go_roundg (k - (q + 1))
          case measure => exact HMs.out.1
          case rel =>
            refine ⟨q + 1, HMs.out.2, rfl, ?_⟩
            have h3 := HH3.out
            show _ ∧ _
            rw [HNX.out.2, HNX.out.1]
            exact h3
        · have hqk : q = k := by omega
          rw [hqk]
          have hd : decide ((k : Int) < (k : Int)) = false := by simp
          have hall : S.take q = S := by rw [hqk, ← HK.out]; exact List.take_length
          rw [hall, HN.out] at HH
          clear hall hqk hq hlt
          go_wp2_with fail
          go_ret
          exact ⟨⟨_, rfl, HH.out.1⟩, HH.out.2⟩
end Go.Proofs.YtiodghbhllfhlaaGreatDoor
namespace Go.Proofs.YtiodghbhllfhlaaGreatDoor
set_option linter.unusedVariables false
set_option linter.unusedSimpArgs false
set_option maxRecDepth 100000
open Go.RowKit

/-- The same within a region that draws. -/
theorem step_onN {w : World} {ops : Array Oper} {o : Oper} {ac : Act} {K : Act → World → Prop} {Q : Exit → Act → World → Prop} {E : Prop} (hgd : o.guard = none) (s x : Operand)
    (ho : o.op = .call { callee := .builtin .append, args := #[s, x], argTypes := #[23, 23] })
    (base : Nat) (v : Value) (hs : ac.eval s = v) (n0 : Nat) (t0 : List NdT) (hn0 : t0.length = n0) (hown : w.ownsRow base 41 6 v n0 (noCs t0))
    (a : Option Addr) (n c : Nat) (t : List NdT) (hn : t.length = n) (hn1 : 0 < n) (hx : ac.eval x = .slice a n c) (hX : TrIn t a w) (hr : (n0 + n) * 64 ≤ 140737488355328) (hbase : base ≤ w.heap.size)
    (h : ∀ g cap w', w'.ownsRow base 41 6 (.slice (some ⟨g, 0, none⟩) (n0 + n) cap) (n0 + n) (noCs (t0 ++ t)) → w.grownBy w' v.ownBlock → K (ac.put o.dst (.slice (some ⟨g, 0, none⟩) (n0 + n) cap)) w') :
    if Region.wanted o (yielded ops ac.tmps) = true then Oper.wp Tryz.prog o ac w K Q else E := by
  obtain ⟨i0, hi, hz0, hz1, hz2⟩ := info_parts infoN
  subst hn hn0
  obtain ⟨b, off, rfl, hb, hX'⟩ := hX hn1
  refine step_append_lies w hgd s x 23 ho base 41 i0 _ 6 64 Tryz.underlying23 hi hz0 hz1 hz2 rfl (by decide) v t0.length (noCs t0) hs hown ⟨b, off, none⟩ t.length c (noCs t) hx (noCs_len t) ?_ (noCs_one t) hn1 (by unfold maxLen; omega) hr hbase _ rfl ?_
  · intro j u hj
    obtain ⟨k, i, y, rfl, hk, hi⟩ := noCs_of t j u hj
    have ea : (⟨b, off, none⟩ : Addr).add (k * 6 + i) = ⟨b, off + k * 6 + i, none⟩ := by unfold Addr.add; split <;> simp_all [Nat.add_assoc]
    rw [ea]
    exact hX' k y hk i u hi
  · intro g cap w' hown' hg _ _
    rw [← noCs_app] at hown'
    exact h _ _ _ hown' hg
theorem own_base {w : World} {B C : Nat} {e : TypeId} {size : Nat} {v : Value} {n : Nat} {xs : List Value} (h : w.ownsRow C e size v n xs) (hBC : B ≤ C) : w.ownsRow B e size v n xs := by
  refine ⟨h.1, ?_⟩
  rcases h.2 with h | ⟨g, cap, cur, h1, h2, h3⟩
  · exact .inl h
  · exact .inr ⟨g, cap, cur, h1, Nat.le_trans hBC h2, h3⟩
theorem below_undrew {B : Nat} {a b : World} (h : Below B a.drew b) : Below B a b := ⟨h.os, h.tape, h.output, h.size, h.block⟩
set_option maxHeartbeats 8000000 in
theorem c_tBuild (B : Nat) (S : List (List NdT)) (k0 n0 a0 i0 : Int) (s ty : List UInt8) (pa : Option Addr) (pc : Nat) (w : World) (hE : Env B w) (hB : B ≤ w.heap.size) (hk : S.length ≤ 4096) (hS : S.flatten.length + 1 ≤ 4096)
    (hok : ∀ t ∈ S, ckA wlB t = 0 ∧ ∀ y ∈ t, NdOk y) (hck : ckA wlB (S.flatten ++ [⟨k0, (S.length : Int), a0, i0, s, ty⟩]) = 0) (hoT : ∀ y ∈ S.flatten ++ [(⟨k0, (S.length : Int), a0, i0, s, ty⟩ : NdT)], NdOk y) (hL : LiT S pa w) :
    Calls Tryz.prog 10 #[.agg #[.int .i64 k0, .int .i64 n0, .int .i64 a0, .int .i64 i0, .string ⟨s.toArray⟩, .string ⟨ty.toArray⟩], .slice pa S.length pc] w fun e w' => ∃ a c, e = .returned (.tuple #[.slice a (S.flatten.length + 1) c, .int .i64 0]) ∧ TrIn (S.flatten ++ [⟨k0, (S.length : Int), a0, i0, s, ty⟩]) a w' ∧ Below w.heap.size w w' := by
  have HCk : Hid (∀ (i : Nat) (t : List NdT), S[i]? = some t → ∀ W a c, Below w.heap.size w W → TrIn t a W → Calls Tryz.prog 5 #[.slice a t.length c] W fun e w' => e = .returned (.int .i64 0) ∧ Below W.heap.size W w') := fun i t hi W a c hb hT => by
    have h := c_tCheck B t a c W (hE.next (hb.mono hB)) (Nat.le_trans hB hb.size) (hok t (List.mem_of_getElem? hi)).2 hT
    rw [(hok t (List.mem_of_getElem? hi)).1] at h
    exact h
  have hTl : (S.flatten ++ [(⟨k0, (S.length : Int), a0, i0, s, ty⟩ : NdT)]).length = S.flatten.length + 1 := by rw [List.length_append]; rfl
  have HCt : Hid (∀ W a c, Below w.heap.size w W → TrIn (S.flatten ++ [(⟨k0, (S.length : Int), a0, i0, s, ty⟩ : NdT)]) a W → Calls Tryz.prog 5 #[.slice a (S.flatten.length + 1) c] W fun e w' => e = .returned (.int .i64 0) ∧ Below W.heap.size W w') := fun W a c hb hT => by
    have h := c_tCheck B _ a c W (hE.next (hb.mono hB)) (Nat.le_trans hB hb.size) hoT hT
    rw [hck, hTl] at h
    exact h
  have HCc : Hid (∀ W, Below w.heap.size w W → Calls Tryz.prog 21 #[.slice pa S.length pc] W fun e w' => (∃ v, e = .returned v ∧ w'.ownsRow W.heap.size 41 6 v S.flatten.length (noCs S.flatten)) ∧ Below W.heap.size W w') := fun W hb => c_Concat S pa pc W (by omega) hk (hL.next hb)
  obtain ⟨k, hk'⟩ : ∃ k, S.length = k := ⟨_, rfl⟩
  obtain ⟨N, hN⟩ : ∃ N, S.flatten.length = N := ⟨_, rfl⟩
  have HLi := Lib.hid hL
  have HK := Lib.hid hk'
  have HN := Lib.hid hN
  rw [hk'] at hk HCc HCt
  rw [hN] at hS HCt HCc
  rw [hk', hN]
  clear hE hB hok hck hoT hL hTl hk' hN
  go_enter Tryz.func10, Tryz.ntmps10
  go_wp2_with fail
  have hz := heap_alloc_at (w := w) (.cells #[.int .i64 k0, .int .i64 n0, .int .i64 a0, .int .i64 i0, .string ⟨s.toArray⟩, .string ⟨ty.toArray⟩] 41) _ rfl
  have hb1 := below_o w (.cells #[.int .i64 k0, .int .i64 n0, .int .i64 a0, .int .i64 i0, .string ⟨s.toArray⟩, .string ⟨ty.toArray⟩] 41)
  generalize w.alloc (.cells #[.int .i64 k0, .int .i64 n0, .int .i64 a0, .int .i64 i0, .string ⟨s.toArray⟩, .string ⟨ty.toArray⟩] 41) = w1 at hz hb1 ⊢
  have HB1 := Lib.hid hb1
  have hsz : w.heap.size + 1 ≤ w1.heap.size := (Array.getElem?_eq_some_iff.1 hz).1
  have HZ := Lib.hid hz
  have HS1 := Lib.hid hsz
  clear hz hb1 hsz
  go_loopg [6, 14] k (fun m v6 v14 wr => ∃ i : Nat, i + m = k ∧ v14 = .int .i64 (i : Int) ∧ v6 = .int .i64 ((((S.take i).flatten).length + 1 : Nat) : Int) ∧ Hid (Below w1.heap.size w1 wr))
  case atStart => exact ⟨0, by omega, rfl, rfl, Below.refl _ _⟩
  case round =>
    obtain ⟨i, hi, rfl, rfl, HH⟩ := hrel
    have hbw : Below w.heap.size w wr := HB1.out.trans (HH.out.mono HB1.out.size)
    by_cases hlt : i < k
    · have hd : decide ((i : Int) < (k : Int)) = true := by simp; omega
      obtain ⟨t, ht⟩ : ∃ t, S[i]? = some t := ⟨S[i]'(by rw [HK.out]; exact hlt), List.getElem?_eq_getElem (by rw [HK.out]; exact hlt)⟩
      obtain ⟨R, off, ta, tc, ha, hR, hc, ht0, hT⟩ := (HLi.out.next hbw) i t ht
      subst ha
      have hfl := flat_len S i t ht
      rw [hfl.1, List.length_append, HN.out] at hfl
      obtain ⟨sl, hs⟩ : ∃ sl, ((S.take i).flatten).length = sl := ⟨_, rfl⟩
      have HCi := Lib.hid (HCk.out i t ht wr ta tc hbw hT)
      obtain ⟨tl, htl⟩ : ∃ tl, t.length = tl := ⟨_, rfl⟩
      have hnx : ((S.take (i + 1)).flatten).length = sl + tl := by rw [(flat_len S i t ht).1, List.length_append, hs, htl]
      rw [hs, htl] at hfl
      rw [hs]
      rw [htl] at hc HCi
      have hw1 : IntKind.i64.wrap (((sl + 1 : Nat) : Int) + (tl : Int)) = ((sl + tl + 1 : Nat) : Int) := by rw [IntKind.wrap_i64]; omega
      have hw2 : IntKind.i64.wrap ((i : Int) + 1) = ((i + 1 : Nat) : Int) := by rw [IntKind.wrap_i64]; omega
      have hi0 : (0 : Int) ≤ (i : Int) := by omega
      have hik : (i : Int) < (k : Int) := by omega
      have HNX := Lib.hid hnx
      have HMs : Hid (k - (i + 1) < gk ∧ i + 1 + (k - (i + 1)) = k) := ⟨by omega, by omega⟩
      obtain ⟨nn, hnn⟩ : ∃ nn : Int, ((sl + 1 : Nat) : Int) = nn := ⟨_, rfl⟩
      rw [hnn] at hw1 ⊢
      clear hT ht0 ht hfl hs htl hnx hlt hi hbw hnn
      go_wp2_with (go_at_call 5; refine (calls_hid' HCi.out).mono ?_)
      intro e w2 hh
      obtain ⟨rfl, hb⟩ := hh.out
      have HB2 := Lib.hid (below_t HH.out hb HH.out.size)
      clear hh hb
      go_wp2_with fail
      go_roundg (k - (i + 1))
      case measure => exact HMs.out.1
      case rel => exact ⟨i + 1, HMs.out.2, rfl, by rw [HNX.out]; congr 1, HB2.out⟩
    · have hik : i = k := by omega
      rw [hik]
      have hd : decide ((k : Int) < (k : Int)) = false := by simp
      have hall : S.take k = S := by rw [← HK.out]; exact List.take_length
      rw [hall, HN.out]
      have hd2 : decide ((4096 : Int) < ((N + 1 : Nat) : Int)) = false := by simp; omega
      obtain ⟨nn, hnn⟩ : ∃ nn : Int, ((N + 1 : Nat) : Int) = nn := ⟨_, rfl⟩
      rw [hnn] at hd2 ⊢
      have HBW := Lib.hid hbw
      have hz := blk_on HZ.out HH.out
      clear hall hik hi hlt hnn hbw
      obtain ⟨z0, z1, z2, z3, z4, z5, fz⟩ := six_cells hz
      have hzw : w.heap.size < wr.heap.size := (Array.getElem?_eq_some_iff.1 hz).1
      go_wp2_with fail
      have hz3 : (wr.setCell ⟨w.heap.size, 1, none⟩ (.int .i64 (k : Int))).heap[w.heap.size]? = some (.cells #[.int .i64 k0, .int .i64 (k : Int), .int .i64 a0, .int .i64 i0, .string ⟨s.toArray⟩, .string ⟨ty.toArray⟩] 41) := heap_setCell_same _ _ 1 _ _ _ hz
      have hb3 := HBW.out.setCell (p := ⟨w.heap.size, 1, none⟩) (Nat.le_refl _) (.int .i64 (k : Int))
      clear z0 z1 z2 z3 z4 z5 fz hzw hz
      generalize wr.setCell ⟨w.heap.size, 1, none⟩ (.int .i64 (k : Int)) = w3 at hz3 hb3 ⊢
      obtain ⟨z0, z1, z2, z3, z4, z5, fz⟩ := six_cells hz3
      have hzw : w.heap.size < w3.heap.size := (Array.getElem?_eq_some_iff.1 hz3).1
      have HZ3 := Lib.hid hz3
      have HB3 := Lib.hid hb3
      have HX : Hid (∀ W, W.heap[w3.heap.size]? = some (.cells #[.int .i64 k0, .int .i64 (k : Int), .int .i64 a0, .int .i64 i0, .string ⟨s.toArray⟩, .string ⟨ty.toArray⟩] 41) → ∀ W', Below W.heap.size W W' → TrIn [⟨k0, (k : Int), a0, i0, s, ty⟩] (some ⟨w3.heap.size, 0, none⟩) W') := fun W h W' hb => (tr_at (x := ⟨k0, (k : Int), a0, i0, s, ty⟩) h).next hb
      have HCd : Hid (∀ W, Below w3.heap.size w3 W → Calls Tryz.prog 21 #[.slice pa k pc] W fun e w' => ∃ v, e = .returned v ∧ (∀ W', Below w'.heap.size w' W' → W'.ownsRow w.heap.size 41 6 v N (noCs S.flatten)) ∧ Below w3.heap.size w3 w' ∧ Below W.heap.size W w') := fun W hb =>
        (HCc.out W (below_t HB3.out hb HB3.out.size)).mono fun e w' ⟨⟨v, h1, h2⟩, h3⟩ => ⟨v, h1, fun W' h4 => own_base (own_on h2 h4) (below_t HB3.out hb HB3.out.size).size, below_t hb h3 hb.size, h3⟩
      have HS : Hid (N + 1 ≤ 4096) := hS
      clear hz3 hb3 HCc
      go_region_law (first
        | (go_simp; go_at_call 21; refine (HCd.out _ ?hb).mono ?_; (case hb => first | exact (Below.refl _ _).drew | exact (below_o _ _).drew | exact (below_o w3.drew _)); rintro e w5 ⟨v, rfl, hown, hb35, hb5⟩; have HO5 := Lib.hid hown; obtain ⟨y0, y1, y2, y3, y4, y5, _⟩ := six_cells (blk_on HZ3.out hb35); have HB5 := Lib.hid hb35; have HB55 := Lib.hid hb5; clear hown hb35 hb5)
        | (refine step_onN rfl _ _ rfl w.heap.size v rfl N S.flatten HN.out (HO5.out _ (below_o w5 _)) (some ⟨w5.heap.size, 0, none⟩) 1 1 [⟨k0, (k : Int), a0, i0, s, ty⟩] rfl (by decide) rfl (tr_at (x := ⟨k0, (k : Int), a0, i0, s, ty⟩) (heap_alloc_at _ _ rfl)) (by have := HS.out; omega) (Nat.le_trans (below_t HB3.out HB5.out HB3.out.size).size (below_o w5 _).size) ?_; intro g cap w6 hown6 hg6; have H6 : Hid (w6.ownsRow w.heap.size 41 6 (.slice (some ⟨g, 0, none⟩) (N + 1) cap) (N + 1) (noCs (S.flatten ++ [⟨k0, (k : Int), a0, i0, s, ty⟩])) ∧ Below w.heap.size w w6) := ⟨hown6, ((below_t HB3.out HB5.out HB3.out.size).alloc (below_t HB3.out HB5.out HB3.out.size).size _).grown hg6 (Nat.le_trans (below_t HB3.out HB5.out HB3.out.size).size (below_o w5 _).size) (fun k hk => ((HO5.out w5 (Below.refl _ _)).lt k hk).1)⟩; clear hown6 hg6)
        | (refine step_onN rfl _ _ rfl w.heap.size v rfl N S.flatten HN.out (HO5.out _ (Below.refl _ _)) (some ⟨w3.heap.size, 0, none⟩) 1 1 [⟨k0, (k : Int), a0, i0, s, ty⟩] rfl (by decide) rfl (HX.out _ (heap_alloc_at (w := w3) _ _ rfl) _ (below_undrew HB55.out)) (by have := HS.out; omega) (below_t HB3.out HB5.out HB3.out.size).size ?_; intro g cap w6 hown6 hg6; have H6 : Hid (w6.ownsRow w.heap.size 41 6 (.slice (some ⟨g, 0, none⟩) (N + 1) cap) (N + 1) (noCs (S.flatten ++ [⟨k0, (k : Int), a0, i0, s, ty⟩])) ∧ Below w.heap.size w w6) := ⟨hown6, (below_t HB3.out HB5.out HB3.out.size).grown hg6 (below_t HB3.out HB5.out HB3.out.size).size (fun k hk => ((HO5.out w5 (Below.refl _ _)).lt k hk).1)⟩; clear hown6 hg6))
      all_goals
        have hTr : TrIn (S.flatten ++ [⟨k0, (k : Int), a0, i0, s, ty⟩]) (some ⟨g, 0, none⟩) w6 := by
          have h6 := H6.out.1
          have hlen : (S.flatten ++ [(⟨k0, (k : Int), a0, i0, s, ty⟩ : NdT)]).length = N + 1 := by rw [List.length_append, HN.out]; rfl
          rw [← hlen] at h6
          obtain ⟨a, c, hv, _, hT⟩ := tr_of_own h6
          cases hv
          exact hT
        have HTr := Lib.hid hTr
        have HC6 := Lib.hid (HCt.out w6 (some ⟨g, 0, none⟩) cap H6.out.2 hTr)
        clear hTr HCt HCk HCd HX
        go_wp2_with (go_at_call 5; refine (calls_hid' HC6.out).mono ?_)
        intro e w7 hh
        obtain ⟨rfl, hb⟩ := hh.out
        have HB7 := Lib.hid (And.intro (below_t H6.out.2 hb H6.out.2.size) (HTr.out.next hb))
        clear hh hb
        go_wp2_with fail
        go_ret2
        exact ⟨_, _, rfl, HB7.out.2, HB7.out.1⟩
end Go.Proofs.YtiodghbhllfhlaaGreatDoor
namespace Go.Proofs.YtiodghbhllfhlaaGreatDoor
set_option linter.unusedVariables false
set_option linter.unusedSimpArgs false
set_option maxRecDepth 100000
open Go.RowKit
attribute [local go_sem] Oper.semAt_some

set_option maxHeartbeats 2000000 in
theorem c_bHas (p : List Nat) (a : Option Addr) (c : Nat) (q : Nat) (S : Nat → Prop) (w : World) (hl : p.length ≤ 4096) (hS : IntIn S p a w) (hq : q ∈ p) :
    Calls Tryz.prog 9 #[.slice a p.length c, .int .i64 (q : Int)] w fun e w' => e = .returned (.bool true) ∧ w' = w := by
  obtain ⟨N, hN⟩ : ∃ N, p.length = N := ⟨_, rfl⟩
  obtain ⟨j, hj⟩ := List.getElem?_of_mem hq
  have hjN : j < N := by rw [← hN]; exact (List.getElem?_eq_some_iff.1 hj).1
  have HS := Lib.hid hS
  have HN := Lib.hid hN
  have HJ := Lib.hid (And.intro hj hjN)
  rw [hN] at hl ⊢
  clear hS hN hj hq hjN
  go_enter Tryz.func9, Tryz.ntmps9
  go_wp2_with fail
  go_loopg [5] N (fun m v5 wr => ∃ i : Nat, i ≤ j ∧ i + m = N ∧ v5 = .int .i64 (i : Int) ∧ wr = w)
  case atStart => exact ⟨0, by omega, by omega, rfl, rfl⟩
  case round =>
    obtain ⟨i, hij, hi, rfl, hww⟩ := hrel
    have hww := hww.symm
    subst hww
    have hiN : i < N := by have := HJ.out.2; omega
    obtain ⟨b, off, ha, _, hb, hri⟩ := HS.out (by rw [HN.out]; omega)
    subst ha
    obtain ⟨r, hr⟩ : ∃ r, p[i]? = some r := ⟨p[i]'(by rw [HN.out]; exact hiN), List.getElem?_eq_getElem (by rw [HN.out]; exact hiN)⟩
    have z := hri i r hr
    have hi0 : (0 : Int) ≤ (i : Int) := by omega
    have hiI : (i : Int) < (N : Int) := by omega
    have hw1 : IntKind.i64.wrap ((i : Int) + 1) = ((i + 1 : Nat) : Int) := by rw [IntKind.wrap_i64]; omega
    by_cases hrq : r = q
    · have hd : (((r : Int)) == (q : Int)) = true := by rw [hrq]; simp
      clear hrq hri hr
      go_wp2_with fail
      go_ret
      exact ⟨rfl, rfl⟩
    · have hd : (((r : Int)) == (q : Int)) = false := by simp; omega
      have hne : i ≠ j := fun e => by
        have h := HJ.out.1
        rw [← e, hr] at h
        exact hrq (Option.some.inj h)
      have HMs : Hid (N - (i + 1) < gk ∧ i + 1 + (N - (i + 1)) = N ∧ i + 1 ≤ j) := ⟨by omega, by omega, by omega⟩
      clear hrq hri hr hne
      go_wp2_with fail
      go_roundg (N - (i + 1))
      case measure => exact HMs.out.1
      case rel => exact ⟨i + 1, HMs.out.2.2, HMs.out.2.1, rfl, rfl⟩
/-- What the law hands back, in its own cell. -/
theorem fin_true {w w' : World} {b0 : Bool} (hc : w'.heap[w.heap.size + 1]? = some (.cells #[.bool b0] 4)) (hb : Below w.heap.size w w') : (w'.setCell ⟨w.heap.size + 1, 0, none⟩ (.bool true)).cell? ⟨w.heap.size + 1, 0, none⟩ = some (.bool true) ∧ Below w.heap.size w (w'.setCell ⟨w.heap.size + 1, 0, none⟩ (.bool true)) := by
  refine ⟨?_, hb.setCell (p := ⟨w.heap.size + 1, 0, none⟩) (by show w.heap.size ≤ w.heap.size + 1; omega) _⟩
  rw [Lib.cell_of_heap (heap_setCell_same w' (w.heap.size + 1) 0 _ _ (.bool true) hc)]
  rfl
theorem bool_cell {w : World} {g : Nat} {b0 : Bool} (h : w.heap[g]? = some (.cells #[.bool b0] 4)) : w.cell? ⟨g, 0, none⟩ = some (.bool b0) ∧ w.frozen? ⟨g, 0, none⟩ = false ∧ g < w.heap.size := ⟨by rw [Lib.cell_of_heap h]; rfl, Lib.frozen_of_heap h 0, (Array.getElem?_eq_some_iff.1 h).1⟩
end Go.Proofs.YtiodghbhllfhlaaGreatDoor
namespace Go.Proofs.YtiodghbhllfhlaaGreatDoor
set_option linter.unusedVariables false
set_option linter.unusedSimpArgs false
set_option maxRecDepth 100000
open Go.RowKit

theorem ck_grow {t : List NdT} (h : ckA wlB t = 0) : t.length ≤ 4096 ∧ ∃ ps, grow t = some ps := by
  unfold ckA at h
  split at h
  · cases h
  · rename_i hl
    split at h
    · rename_i hg
      obtain ⟨ps, fr, h1, _⟩ := good_parts hg (by omega)
      exact ⟨by omega, ps, h1⟩
    · cases h
theorem c_PartsK (B : Nat) (t : List NdT) (ps : List (List Nat)) (hck : ckA wlB t = 0) (hg : grow t = some ps) (a : Option Addr) (c k : Nat) (p : List Nat) (hk : k < t.length) (hp : ps[k]? = some p) (w : World) (hE : Env B w) (hB : B ≤ w.heap.size) (ho : ∀ x ∈ t, NdOk x) (hT : TrIn t a w) :
    Calls Tryz.prog 6 #[.slice a t.length c, .int .i64 (k : Int)] w fun e w' => ∃ pa pc, e = .returned (.tuple #[.slice pa p.length pc, .int .i64 0]) ∧ IntIn any_ p pa w' ∧ Below w.heap.size w w' := by
  refine (c_tParts B t a c k w hE hB ho hT).mono fun e w' ⟨hr, hb⟩ => ?_
  rcases hr with ⟨_, ps', k', p', pa, pc, hk', _, _, hg', hp', he, hi⟩ | ⟨h, _⟩
  · rw [hg] at hg'
    cases hg'
    obtain rfl : k' = k := by omega
    rw [hp] at hp'
    cases hp'
    exact ⟨pa, pc, he, hi, hb⟩
  · exact absurd (er_in hck (by omega) (by omega)) h
theorem c_SubK (B : Nat) (t : List NdT) (fr : List Nat) (hck : ckA wlB t = 0) (hb : bgn t = some fr) (a : Option Addr) (c k F : Nat) (hc : t.length ≤ c) (hk : k < t.length) (hF : fr[k]? = some F) (w : World) (hE : Env B w) (hB : B ≤ w.heap.size) (ho : ∀ x ∈ t, NdOk x) (hT : TrIn t a w) :
    Calls Tryz.prog 7 #[.slice a t.length c, .int .i64 (k : Int)] w fun e w' => ∃ sa sc, e = .returned (.tuple #[.slice sa (subL t F k).length sc, .int .i64 0]) ∧ TrIn (subL t F k) sa w' ∧ (∀ b off, sa = some ⟨b, off, none⟩ → w.heap.size ≤ b ∧ b < w'.heap.size) ∧ Below w.heap.size w w' := by
  refine (c_tSub B t a c hc k w hE hB ho hT).mono fun e w' ⟨hr, hb'⟩ => ?_
  rcases hr with ⟨_, ps', fr', k', F', v, hk', _, _, _, hb2, hF', _, he, hown⟩ | ⟨h, _⟩
  · rw [hb] at hb2
    cases hb2
    obtain rfl : k' = k := by omega
    rw [hF] at hF'
    cases hF'
    obtain ⟨sa, sc, hv, _, hT'⟩ := tr_of_own hown
    subst hv
    refine ⟨sa, sc, he, hT', fun b off hs => ?_, hb'⟩
    subst hs
    exact hown.lt b rfl
  · exact absurd (er_in hck (by omega) (by omega)) h
theorem infoTr : (Tryz.prog.info? 23).map (fun i => (i.zero, i.size, i.bytes)) = some (some (.slice none 0 0), 1, 24) := by kernel_rfl
/-- A tree lies elsewhere than a row. -/
def NeB (v : Value) (a : Option Addr) (w : World) : Prop := ∀ b off, a = some ⟨b, off, none⟩ → v.ownBlock ≠ some b ∧ b < w.heap.size
/-- The first trees lie in a row of the call's own, each in a row of its own. -/
def SbI (S : List (List NdT)) (base : Nat) (v : Value) (i : Nat) (w : World) : Prop := ∃ vs, w.ownsRow base 23 1 v i vs ∧ ∀ j t, j < i → S[j]? = some t → ∃ ta tc, vs[j]? = some (.slice ta t.length tc) ∧ TrIn t ta w ∧ NeB v ta w
theorem SbI.next {S : List (List NdT)} {base : Nat} {v : Value} {i : Nat} {w w' : World} (h : SbI S base v i w) (hb : Below w.heap.size w w') : SbI S base v i w' := by
  obtain ⟨vs, h1, h2⟩ := h
  exact ⟨vs, own_on h1 hb, fun j t hj ht => by
    obtain ⟨ta, tc, h3, h4, h5⟩ := h2 j t hj ht
    exact ⟨ta, tc, h3, h4.next hb, fun b off e => ⟨(h5 b off e).1, Nat.lt_of_lt_of_le (h5 b off e).2 hb.size⟩⟩⟩
theorem SbI.li {S : List (List NdT)} {base : Nat} {v : Value} {w : World} (h : SbI S base v S.length w) (hn : ∀ t ∈ S, 0 < t.length) : ∃ a c, v = .slice a S.length c ∧ LiT S a w := by
  obtain ⟨vs, h1, h2⟩ := h
  have h1' := h1
  rcases h1.2 with ⟨hv, hz⟩ | ⟨g, cap, cur, hv, hg, hh, hl, hcap, hsz, htake⟩
  · exact ⟨none, 0, by rw [hv, hz], fun i t hi => by have := (List.getElem?_eq_some_iff.1 hi).1; omega⟩
  · subst hv
    refine ⟨_, _, rfl, fun i t hi => ?_⟩
    obtain ⟨ta, tc, h3, h4, _⟩ := h2 i t (List.getElem?_eq_some_iff.1 hi).1 hi
    have hx := h1'.cells (g := g) rfl i _ h3
    have ea : (⟨g, 0, none⟩ : Addr).add i = ⟨g, 0 + i, none⟩ := by unfold Addr.add; split <;> simp_all
    rw [ea] at hx
    exact ⟨g, 0, ta, tc, rfl, (Array.getElem?_eq_some_iff.1 hh).1, hx, hn t (List.mem_of_getElem? hi), h4⟩
/-- One more tree, put behind them. -/
theorem wp_sub {w : World} {ops : Array Oper} {rest : List Oper} {o : Oper} {ac : Act} {Q : Exit → Act → World → Prop} (hgd : o.guard = none) (s x : Operand)
    (ho : o.op = .call { callee := .builtin .append, args := #[s, x], argTypes := #[30, 30] })
    (S : List (List NdT)) (base : Nat) (v : Value) (hs : ac.eval s = v) (i : Nat) (h : SbI S base v i w) (t : List NdT) (ht : S[i]? = some t) (ta : Option Addr) (tc g tl : Nat) (htl : t.length = tl) (hx : ac.eval x = .slice (some ⟨g, 0, none⟩) 1 1) (hg : w.heap[g]? = some (.cells #[.slice ta tl tc] 23)) (hT : TrIn t ta w) (hne : NeB v ta w)
    (hi : i ≤ 4096) (hbase : base ≤ w.heap.size)
    (hK : ∀ v' w', SbI S base v' (i + 1) w' → Below base w w' → wpList Tryz.prog ops Q rest (ac.put o.dst v') w') : wpList Tryz.prog ops Q (o :: rest) ac w := by
  obtain ⟨i0, hi0, hz0, hz1, hz2⟩ := info_parts infoTr
  obtain ⟨vs, h1, h2⟩ := h
  subst htl
  refine wpList_plain hgd fun K hK' => ?_
  obtain ⟨v', w', hrun, hown, hgr, _, h5⟩ := run_append_own_at (P := Tryz.prog) w base 30 o.type 23 i0 _ 1 24 Tryz.underlying30 hi0 hz0 hz1 hz2 rfl (by decide) v i vs h1 ⟨g, 0, none⟩ 1 1 [.slice ta t.length tc] rfl (by
    intro j u hj
    match j, hj with
    | 0, hj =>
      simp at hj
      subst hj
      show w.cell? (Addr.add ⟨g, 0, none⟩ 0) = _
      rw [show Addr.add ⟨g, 0, none⟩ 0 = ⟨g, 0, none⟩ by unfold Addr.add; split <;> simp_all, Lib.cell_of_heap hg]
      rfl) (by intro u hu; simp at hu; subst hu; rfl) (by unfold maxLen; omega) (by omega) hbase
  have hlen : vs.length = i := by have := h1.1; omega
  have keep : ∀ {t : List NdT} {ta : Option Addr}, TrIn t ta w → NeB v ta w → TrIn t ta w' ∧ NeB v' ta w' := fun {t ta} hT hn => by
    constructor
    · intro h0
      obtain ⟨b, off, e1, e2, e3⟩ := hT h0
      exact ⟨b, off, e1, Nat.lt_of_lt_of_le e2 hgr.size, fun k y hk q u hq => hgr.cell (e3 k y hk q u hq) (fun e => (hn b off e1).1 e.symm)⟩
    · intro b off e1
      obtain ⟨hn1, hn2⟩ := hn b off e1
      refine ⟨fun e2 => ?_, Nat.lt_of_lt_of_le hn2 hgr.size⟩
      rcases h5 with h5 | h5
      · rw [h5] at e2
        exact hn1 e2
      · rw [h5] at e2
        have := Option.some.inj e2
        omega
  have hS' : SbI S base v' (i + 1) w' := ⟨_, hown, fun j t' hj ht' => by
    by_cases hji : j < i
    · obtain ⟨ta', tc', h3, h4, h6⟩ := h2 j t' hji ht'
      exact ⟨ta', tc', by rw [List.getElem?_append_left (by omega)]; exact h3, keep h4 h6⟩
    · obtain rfl : j = i := by omega
      rw [ht] at ht'
      cases ht'
      exact ⟨ta, tc, by rw [List.getElem?_append_right (by omega), hlen, Nat.sub_self]; rfl, keep hT hne⟩⟩
  unfold Oper.wp execOp
  simp only [ho, resolve, invoke, builtin, Sem.run_bind, Sem.run_pure, Result.andThen_ok, List.map_toArray, List.map_cons, List.map_nil, hs, hx, hrun]
  exact hK' _ _ (hK v' w' hS' ((Below.refl base w).grown hgr hbase (fun k hk => (h1.lt k hk).1)))
theorem SbI.ne {S : List (List NdT)} {base : Nat} {v : Value} {i : Nat} {w w' : World} {sa : Option Addr} (h : SbI S base v i w) (hs : ∀ b off, sa = some ⟨b, off, none⟩ → w.heap.size ≤ b ∧ b < w'.heap.size) : NeB v sa w' := fun b off e => by
  obtain ⟨h1, h2⟩ := hs b off e
  obtain ⟨vs, h3, _⟩ := h
  exact ⟨fun e2 => by have := (h3.lt b e2).2; omega, h2⟩
end Go.Proofs.YtiodghbhllfhlaaGreatDoor
namespace Go.Proofs.YtiodghbhllfhlaaGreatDoor
set_option linter.unusedVariables false
set_option linter.unusedSimpArgs false
set_option maxRecDepth 100000
open Go.RowKit

def snC (l : List Nat) : Array Value := (nuC l).toArray
/-- From block n on: how deep each place was; its slice; (a row); the slice of the places on the way. -/
structure LpJ (n : Nat) (w0 : World) (sl dl : List Nat) (w : World) : Prop where
  bel : Below n w0 w
  sn : w.heap[n]? = some (.cells (snC sl) 3)
  sc : w.heap[n + 1]? = some (.cells #[.slice (some ⟨n, 0, none⟩) sl.length sl.length] 27)
  dc : ∃ v, w.heap[n + 3]? = some (.cells #[v] 27) ∧ w.ownsRow (n + 2) 3 1 v dl.length (nuC dl)
theorem LpJ.next {n : Nat} {w0 w w' : World} {sl dl : List Nat} (h : LpJ n w0 sl dl w) (hb : Below w.heap.size w w') : LpJ n w0 sl dl w' := by
  obtain ⟨v, h1, h2⟩ := h.dc
  have hn := (Array.getElem?_eq_some_iff.1 h.sn).1
  exact ⟨below_t h.bel hb (by omega), blk_on h.sn hb, blk_on h.sc hb, v, blk_on h1 hb, own_on h2 hb⟩
theorem LpJ.own {n D : Nat} {w0 : World} (N : Nat) (hD : n ≤ D) : OwnFrom D (fun (pre : List (Nat × Nat)) W => LpJ n w0 (snL N pre) (dpL pre) W) := by
  intro s W W' row h hg hr
  obtain ⟨v, h1, h2⟩ := h.dc
  have ne : ∀ (k : Nat) (c : Array Value) (T : TypeId) (fz : Nat × Nat), W.heap[k]? = some (Obj.cells c T fz) → W'.heap[k]? = some (Obj.cells c T fz) := fun k c T fz hk => by
    rw [hg.block k (Array.getElem?_eq_some_iff.1 hk).1 (fun e => by
      obtain ⟨_, o, ho, hc⟩ := hr k e.symm
      rw [hk] at ho
      cases ho
      cases hc)]
    exact hk
  refine ⟨⟨hg.os.trans h.bel.os, hg.tape.trans h.bel.tape, hg.output.trans h.bel.output, Nat.le_trans h.bel.size hg.size, fun k hk => ?_⟩, ne _ _ _ _ h.sn, ne _ _ _ _ h.sc, v, ne _ _ _ _ h1, h2.kept hg ?_⟩
  · have hkw : k < W.heap.size := by have := (Array.getElem?_eq_some_iff.1 h.sn).1; omega
    exact (hg.block k hkw (fun e => by have := (hr k e.symm).1; omega)).trans (h.bel.block k hk)
  · cases hv : v.ownBlock with
    | none => exact .inl rfl
    | some g =>
      refine .inr fun e => ?_
      obtain ⟨c, fz, hk⟩ := Lib.ownsRow_kind h2 g hv
      obtain ⟨_, o, ho, hc⟩ := hr g (by rw [← e])
      rw [hk] at ho
      cases ho
      cases hc
theorem LpJ.seen {n : Nat} {w0 w : World} {sl dl : List Nat} (h : LpJ n w0 sl dl w) {i q : Nat} (hi : sl[i]? = some q) : w.cell? ⟨n, i, none⟩ = some (.int .i64 (q : Int)) ∧ w.frozen? ⟨n, i, none⟩ = false := by
  refine ⟨?_, Lib.frozen_of_heap h.sn i⟩
  rw [Lib.cell_of_heap h.sn]
  unfold snC
  rw [List.getElem?_toArray]
  exact nuC_at hi
theorem LpJ.set {n : Nat} {w0 w : World} {sl dl : List Nat} (h : LpJ n w0 sl dl w) (i d : Nat) : LpJ n w0 (sl.set i d) dl (w.setCell ⟨n, i, none⟩ (.int .i64 (d : Int))) := by
  obtain ⟨v, h1, h2⟩ := h.dc
  refine ⟨h.bel.setCell (p := ⟨n, i, none⟩) (Nat.le_refl _) _, ?_, ?_, v, ?_, ?_⟩
  · rw [heap_setCell_same w n i _ _ _ h.sn]
    congr 2
    unfold snC nuC
    rw [List.map_set]
    simp
  · rw [List.length_set, Below.heap_setCell _ _ _ _ (by show n + 1 ≠ n; omega)]
    exact h.sc
  · rw [Below.heap_setCell _ _ _ _ (by show n + 3 ≠ n; omega)]
    exact h1
  · refine h2.kept (row := some n) ⟨rfl, rfl, rfl, by simp [World.setCell], fun k _ hk => Below.heap_setCell _ _ _ _ (fun e => hk (by simp [e]))⟩ (.inr fun e => ?_)
    have := (h2.lt n e).1
    omega
theorem LpJ.deeps {n : Nat} {w0 w : World} {sl dl : List Nat} (h : LpJ n w0 sl dl w) : ∃ da dc, w.heap[n + 3]? = some (.cells #[.slice da dl.length dc] 27) ∧ dl.length ≤ dc ∧ (da = none → dc = 0) ∧ IntIn any_ dl da w ∧ ∀ k, k ≤ dl.length → w.ownsRow (n + 2) 3 1 (.slice da k dc) k (nuC (dl.take k)) := by
  obtain ⟨v, h1, h2⟩ := h.dc
  obtain ⟨da, dc, hv, hl, hn, hi⟩ := int_of_own h2
  subst hv
  refine ⟨da, dc, h1, hl, hn, hi.any, fun k hk => ?_⟩
  rw [nuC_take]
  exact own_take h2 hk hn
theorem LpJ.put {n : Nat} {w0 w w1 w2 : World} {sl dl : List Nat} {v v' : Value} {k a : Nat} (h : LpJ n w0 sl dl w) (hb : Below w.heap.size w w1) (hv : ∀ g, v.ownBlock = some g → n + 2 ≤ g ∧ ∃ c fz, w1.heap[g]? = some (.cells c 3 fz)) (hg : w1.grownBy w2 v.ownBlock)
    (hown : w2.ownsRow (n + 2) 3 1 v' (k + 1) (nuC (dl.take k) ++ [.int .i64 (a : Int)])) (hk : k ≤ dl.length) : LpJ n w0 sl (dl.take k ++ [a]) (w2.setCell ⟨n + 3, 0, none⟩ v') := by
  have h1 := h.next hb
  obtain ⟨v0, h3, _⟩ := h1.dc
  have nes : ∀ j c, w1.heap[j]? = some (.cells c 27) → some j ≠ v.ownBlock := fun j c hj e => by
    obtain ⟨_, c', fz, hk⟩ := hv j e.symm
    rw [hj] at hk
    cases hk
  have keep : ∀ j, j < w1.heap.size → some j ≠ v.ownBlock → j ≠ n + 3 → (w2.setCell ⟨n + 3, 0, none⟩ v').heap[j]? = w1.heap[j]? := fun j hj h1 h2 => (Below.heap_setCell _ _ _ _ h2).trans (hg.block j hj h1)
  have hsz := (Array.getElem?_eq_some_iff.1 h3).1
  have hn0 : some n ≠ v.ownBlock := fun e => by have := (hv n e.symm).1; omega
  refine ⟨?_, ?_, ?_, v', ?_, ?_⟩
  · have hbl : Below n w0 w2 := h1.bel.grown hg (by omega) (fun j e => by have := (hv j e).1; omega)
    exact hbl.setCell (p := ⟨n + 3, 0, none⟩) (by show n ≤ n + 3; omega) _
  · rw [keep n (by omega) hn0 (by omega)]
    exact h1.sn
  · rw [keep (n + 1) (by omega) (nes _ _ h1.sc) (by omega)]
    exact h1.sc
  · have : w2.heap[n + 3]? = some (.cells #[v0] 27) := (hg.block (n + 3) hsz (nes _ _ h3)).trans h3
    exact heap_setCell_same w2 (n + 3) 0 _ _ v' this
  · have hl : (dl.take k ++ [a]).length = k + 1 := by rw [List.length_append, List.length_take, Nat.min_eq_left hk]; rfl
    rw [hl, nuC_app]
    refine hown.kept (row := some (n + 3)) ⟨rfl, rfl, rfl, by simp [World.setCell], fun k _ hk => Below.heap_setCell _ _ _ _ (fun e => hk (by simp [e]))⟩ (.inr fun e => ?_)
    obtain ⟨c, fz, hk⟩ := Lib.ownsRow_kind hown (n + 3) e
    have : w2.heap[n + 3]? = some (.cells #[v0] 27) := (hg.block (n + 3) hsz (nes _ _ h3)).trans h3
    rw [this] at hk
    cases hk
theorem keeps_below {w w' : World} (hb : Below w.heap.size w w') : KeepsOthers w w' := ⟨hb.size, fun k o hk _ => (hb.block k (Array.getElem?_eq_some_iff.1 hk).1).trans hk⟩
theorem keeps_own {w w' : World} {v : Value} {B n : Nat} {e : TypeId} {xs : List Value} (hown : w.ownsRow B e 1 v n xs) (hg : w.grownBy w' v.ownBlock) : KeepsOthers w w' := KeepsOthers.of_grownBy hg fun j o hj ho => by
  obtain ⟨c, fz, hk⟩ := Lib.ownsRow_kind hown j hj
  rw [hk] at ho
  cases ho
  rfl
end Go.Proofs.YtiodghbhllfhlaaGreatDoor
