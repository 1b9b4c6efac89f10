/-
  The contracts of the writer of declarations: a list of parameters, what stands behind, in the code.
-/
import Derived.Test.YtacbjhbiaaieoaaGreatDoorTyWb
namespace Go.Proofs.YtacbjhbiaaieoaaGreatDoor
set_option linter.unusedVariables false
set_option linter.unusedSimpArgs false
set_option maxRecDepth 100000
open Go.RowKit

def DcC (n : Nat) : Prop := ∀ (B b : Nat) (S : Nat → Prop) (t : Ty) (a : Option Addr) (k c : Nat) (x l : List UInt8) (w : World), t.size ≤ n → t.wf → t.code.length ≤ 65536 → l.length + (dcl t x).length ≤ 140737488355328 → Env B w → (∀ j, S j → j < B) → Nd S w t (.slice a k c) → WrAt B b l w → B ≤ w.heap.size →
  Calls Tryz.prog 66 #[.pointer (some ⟨b, 0, none⟩), nV t.letter.toNat ⟨t.code.toArray⟩ t.count ⟨t.tag.toArray⟩ a k c, .string ⟨x.toArray⟩] w fun e w' => e = .returned (.tuple #[]) ∧ WrAt B b (l ++ dcl t x) w' ∧ FrB B b w w'
def parsL (A : List Ty) : List UInt8 := if A = [] then [118, 111, 105, 100] else parsF A
theorem pars_L (ps : Tys) : pars ps = parsL ps.list := by
  cases ps with
  | nil => rfl
  | cons t ts =>
    unfold parsL
    rw [if_neg (by show ¬ (t :: ts.list) = []; simp)]
    exact parsF_pars _ (by simp)
theorem FrB.env {B b : Nat} {w w' : World} (h : FrB B b w w') (hE : Env B w) : Env B w' := hE.next h.bel
theorem FrB.pa {B b : Nat} {w w' : World} {S : Nat → Prop} {A : List Ty} {g : Nat} {L : List (Ty × Value)} (h : FrB B b w w') (hS : ∀ j, S j → j < B) (hP : PaAt S A g L w) : PaAt S A g L w' := hP.keep fun j hj => h.bel.block j (hS j hj)
/-- A part's cells. -/
theorem PaAt.at {S : Nat → Prop} {A : List Ty} {g : Nat} {L : List (Ty × Value)} {w : World} (h : PaAt S A g L w) {k : Nat} {u : Ty} (hk : A[k]? = some u) :
    ∃ a n c, Nd S w u (.slice a n c) ∧ g < w.heap.size ∧ w.cell? ⟨g, k * 5, none⟩ = some (.int .u8 u.letter.toNat) ∧ w.cell? ⟨g, k * 5 + 1, none⟩ = some (.string ⟨u.code.toArray⟩) ∧ w.cell? ⟨g, k * 5 + 2, none⟩ = some (.int .i64 u.count) ∧ w.cell? ⟨g, k * 5 + 3, none⟩ = some (.string ⟨u.tag.toArray⟩) ∧ w.cell? ⟨g, k * 5 + 4, none⟩ = some (.slice a n c) := by
  rw [← h.map, List.getElem?_map] at hk
  obtain ⟨⟨u', v⟩, hp, hu⟩ := Option.map_eq_some_iff.1 hk
  have hu' : u' = u := hu
  subst hu'
  have hn := h.kids _ (List.mem_of_getElem? hp)
  obtain ⟨a, c, hv, _⟩ := hn.sl
  have hv' : v = .slice a u'.parts.length c := hv
  have hx := h.cells k _ hp
  have hn' : Nd S w u' v := hn
  rw [hv'] at hn' hx
  exact ⟨a, _, c, hn', World.block_lt_of_cell? w ⟨g, k * 5 + 0, none⟩ (hx 0 _ rfl), hx 0 _ rfl, hx 1 _ rfl, hx 2 _ rfl, hx 3 _ rfl, hx 4 _ rfl⟩
set_option maxHeartbeats 4000000 in
theorem c_wlist (n : Nat) (hD : DcC n) (B b : Nat) (S : Nat → Prop) (A : List Ty) (g cap : Nat) (L : List (Ty × Value)) (l : List UInt8) (w : World) (hA : ∀ u ∈ A, u.size ≤ n ∧ u.wf ∧ u.code.length ≤ 65536) (hE : Env B w) (hS : ∀ j, S j → j < B) (hP : PaAt S A g L w) (hW : WrAt B b l w) (hB : B ≤ w.heap.size) (hc : A.length ≤ cap) (hm : A.length ≤ 65536) (hl : l.length + (parsL A).length + 2 ≤ 140737488355328) :
    Calls Tryz.prog 113 #[.pointer (some ⟨b, 0, none⟩), .slice (some ⟨g, 0, none⟩) A.length cap] w fun e w' => e = .returned (.tuple #[]) ∧ WrAt B b (l ++ 40 :: (parsL A ++ [41])) w' ∧ FrB B b w w' := by
  have HD := Lib.hid hD
  have HE := Lib.hid hE
  have HS := Lib.hid hS
  have HP := Lib.hid hP
  have HA := Lib.hid hA
  have HL := Lib.hid hl
  have HM := Lib.hid hm
  have HBw := Lib.hid hB
  have HW1 := Lib.hid (c_WriteString B b l [40] w hW (by simp; omega) hB)
  clear hE hS hP hA hl hW hD hB
  by_cases hz : A = []
  · subst hz
    have hl4 : l.length + 4 + 2 ≤ 140737488355328 := HL.out
    go_enter Tryz.func113, Tryz.ntmps113
    go_wp2_with fail
    refine HW1.out.mono ?_
    rintro e w1 ⟨rfl, h1, hb1⟩
    have HF1 := Lib.hid hb1
    have HR1 := Lib.hid h1
    clear h1 hb1
    go_wp2_with fail
    refine (c_WriteString B b (l ++ [40]) [118, 111, 105, 100] w1 HR1.out (by simp; omega) (frb_at HF1.out HBw.out)).mono ?_
    rintro e w2 ⟨rfl, h2, hb2⟩
    have HF2 := Lib.hid (HF1.out.trans hb2)
    have HR2 := Lib.hid h2
    clear h2 hb2
    go_wp2_with fail
    refine wp_loop_rounds 1 ?_
    rw [rounds_succ]
    go_wp2_with fail
    refine (c_WriteString B b (l ++ [40] ++ [118, 111, 105, 100]) [41] w2 HR2.out (by simp; omega) (frb_at HF2.out HBw.out)).mono ?_
    rintro e w3 ⟨rfl, h3, hb3⟩
    go_wp2_with fail
    go_end0
    exact ⟨rfl, by simpa [parsL] using h3, HF2.out.trans hb3⟩
  · have hpos : A.length ≠ 0 := fun e => hz (List.length_eq_zero_iff.1 e)
    have hlz : ((A.length : Int) == 0) = false := by rw [beq_eq_false_iff_ne]; omega
    have HPl : Hid (parsL A = parsF A) := by show _ = _; unfold parsL; rw [if_neg hz]
    clear hz
    go_enter Tryz.func113, Tryz.ntmps113
    go_wp2_with fail
    refine HW1.out.mono ?_
    rintro e w1 ⟨rfl, h1, hb1⟩
    have HF1 := Lib.hid hb1
    have HR1 := Lib.hid h1
    clear h1 hb1 HW1
    go_wp2_with fail
    have HG := Lib.hid (fun (k : Nat) (hk : k ≤ A.length) => show l.length + 1 + (parsF (A.take k)).length + 1 ≤ 140737488355328 by
      have h1 := HL.out
      rw [HPl.out] at h1
      have h2 := parsF_take_le A k
      omega)
    go_loopg [19] A.length (fun m v wr => ∃ k : Nat, k + m = A.length ∧ v = .int .i64 (k : Int) ∧ Hid (FrB B b w wr ∧ WrAt B b (l ++ 40 :: parsF (A.take k)) wr))
    case atStart => exact ⟨0, by omega, rfl, HF1.out, by simpa [parsF] using HR1.out⟩
    case round =>
      obtain ⟨k, hk, rfl, HR⟩ := hrel
      by_cases hlt : k < A.length
      · have hd : decide ((k : Int) < (A.length : Int)) = true := by simp; omega
        have hkA : A[k]? = some A[k] := List.getElem?_eq_getElem hlt
        obtain ⟨u, hu⟩ : ∃ u, A[k] = u := ⟨_, rfl⟩
        rw [hu] at hkA
        have HU := Lib.hid (And.intro hkA (HA.out u (List.mem_of_getElem? hkA)))
        have HPr := Lib.hid (HR.out.1.pa HS.out HP.out)
        obtain ⟨a, n', c, hn, hg, n0, n1, n2, n3, n4⟩ := HPr.out.at hkA
        have HN := Lib.hid hn
        have HT := Lib.hid (parsF_take hkA)
        obtain ⟨y0, hy0⟩ : ∃ y0 : Int, (u.letter.toNat : Int) = y0 := ⟨_, rfl⟩
        obtain ⟨y2, hy2⟩ : ∃ y2 : Int, (u.count : Int) = y2 := ⟨_, rfl⟩
        rw [hy0] at n0
        rw [hy2] at n2
        have HY := Lib.hid (And.intro hy0 hy2)
        have hk0 : (0 : Int) ≤ (k : Int) := by omega
        have HGk := HG.out (k + 1) hlt
        rw [HT.out] at HGk
        have HGs := Lib.hid HGk
        obtain ⟨wa, hwa⟩ : ∃ wa, wr.alloc (.cells #[.int .u8 y0, .string ⟨u.code.toArray⟩, .int .i64 y2, .string ⟨u.tag.toArray⟩, .slice a n' c] 68) = wa := ⟨_, rfl⟩
        have HBr := Lib.hid (frb_at HR.out.1 HBw.out)
        have HFa : Hid (FrB B b w wa ∧ WrAt B b (l ++ 40 :: parsF (A.take k)) wa) := by rw [← hwa]; exact ⟨HR.out.1.alloc HBr.out _, HR.out.2.next (below_a _ _)⟩
        have HBa : Hid (wa.heap[wr.heap.size]? = some (.cells #[.int .u8 y0, .string ⟨u.code.toArray⟩, .int .i64 y2, .string ⟨u.tag.toArray⟩, .slice a n' c] 68)) := by rw [← hwa]; exact heap_alloc_new _ _
        have HNa : Hid (Nd S wa u (.slice a n' c)) := by rw [← hwa]; exact Nd.mono HN.out (fun j hj => hj) (fun j hj => Below.heap_alloc _ _ _ (by have := HS.out j hj; have := HBr.out; omega))
        have hbr : wr.heap.size ≠ b := by
          have h : b < wr.heap.size := by rcases HR.out.2 with h | h <;> exact h.lt
          omega
        have HD2 := Lib.hid (fun (w5 : World) (l5 : List UInt8) (h1 : FrB B b wa w5) (h2 : WrAt B b l5 w5) (h3 : l5.length + (dcl u []).length ≤ 140737488355328) => HD.out B b S u a n' c [] l5 w5 HU.out.2.1 HU.out.2.2.1 HU.out.2.2.2 h3 ((HFa.out.1.trans h1).env HE.out) HS.out (Nd.mono HNa.out (fun j hj => hj) (fun j hj => h1.bel.block j (HS.out j hj))) h2 (frb_at (HFa.out.1.trans h1) HBw.out))
        rw [HY.out.1, HY.out.2] at HD2
        have hwk : IntKind.i64.wrap ((k : Int) + 1) = ((k + 1 : Nat) : Int) := by rw [IntKind.wrap_i64]; omega
        have hgk : A.length - (k + 1) < gk := by omega
        have HK := Lib.hid hk
        clear hu hkA hn hy0 hy2 HGk hk
        obtain ⟨m0, m1, m2, m3, m4, mf⟩ := five_cells HBa.out
        have hlta := (Array.getElem?_eq_some_iff.1 HBa.out).1
        clear mf
        go_wp2_with fail
        · have hkz : k ≠ 0 := by omega
          refine (c_WriteString B b (l ++ 40 :: parsF (A.take k)) [44, 32] wa HFa.out.2 (by have := HGs.out; rw [if_neg hkz] at this; simp at this ⊢; omega) (frb_at HFa.out.1 HBw.out)).mono ?_
          rintro e w5 ⟨rfl, h5, hb5⟩
          have HF5 := Lib.hid hb5
          have HW5 := Lib.hid h5
          have HB5 := Lib.hid (hb5.keep HBa.out hbr (by decide))
          clear h5 hb5 m0 m1 m2 m3 m4 n0 n1 n2 n3 n4 hlta
          obtain ⟨m0, m1, m2, m3, m4, mf⟩ := five_cells HB5.out
          have hlta := (Array.getElem?_eq_some_iff.1 HB5.out).1
          clear mf
          go_wp2_with fail
          refine (HD2.out w5 _ HF5.out HW5.out (by have := HGs.out; rw [if_neg hkz] at this; simp at this ⊢; omega)).mono ?_
          rintro e w6 ⟨rfl, h6, hb6⟩
          have HN6 : Hid (FrB B b w w6 ∧ WrAt B b (l ++ 40 :: parsF (A.take (k + 1))) w6) := ⟨(HFa.out.1.trans HF5.out).trans hb6, by rw [HT.out, if_neg hkz]; simpa using h6⟩
          clear h6 hb6
          go_wp2_with fail
          go_roundg (A.length - (k + 1))
          case measure => omega
          case rel => exact ⟨k + 1, by omega, rfl, HN6⟩
        · have hkz : k = 0 := by omega
          refine (HD2.out wa _ (FrB.refl _ _ _) HFa.out.2 (by have := HGs.out; simp at this ⊢; omega)).mono ?_
          rintro e w6 ⟨rfl, h6, hb6⟩
          have HN6 : Hid (FrB B b w w6 ∧ WrAt B b (l ++ 40 :: parsF (A.take (k + 1))) w6) := ⟨HFa.out.1.trans hb6, by rw [HT.out, if_pos hkz]; simpa using h6⟩
          clear h6 hb6
          go_wp2_with fail
          go_roundg (A.length - (k + 1))
          case measure => omega
          case rel => exact ⟨k + 1, by omega, by rw [hkz]; rfl, HN6⟩
      · have hd : decide ((k : Int) < (A.length : Int)) = false := by simp; omega
        have hkl : k = A.length := by omega
        subst hkl
        have HR' : Hid (FrB B b w wr ∧ WrAt B b (l ++ 40 :: parsF A) wr) := by
          have h := HR.out
          rw [List.take_length] at h
          exact h
        go_wp2_with fail
        refine (c_WriteString B b (l ++ 40 :: parsF A) [41] wr HR'.out.2 (by have h1 := HL.out; rw [HPl.out] at h1; simp; omega) (frb_at HR'.out.1 HBw.out)).mono ?_
        rintro e w3 ⟨rfl, h3, hb3⟩
        go_wp2_with fail
        go_end0
        exact ⟨rfl, by rw [HPl.out]; simpa using h3, HR'.out.1.trans hb3⟩
set_option maxHeartbeats 4000000 in
/-- What stands behind, of any type. -/
theorem c_behind (n : Nat) (hD : DcC n) (B b : Nat) (S : Nat → Prop) (l : List UInt8) (t : Ty) (hwf : t.wf) (hsz : t.size ≤ n + 1) (hcl : t.code.length ≤ 65536) (a : Option Addr) (k c : Nat) (w : World) (hE : Env B w) (hS : ∀ j, S j → j < B) (hN : Nd S w t (.slice a k c)) (hW : WrAt B b l w) (hB : B ≤ w.heap.size) (hl : l.length + (bhT t).length ≤ 140737488355328) :
    Calls Tryz.prog 91 #[.pointer (some ⟨b, 0, none⟩), nV t.letter.toNat ⟨t.code.toArray⟩ t.count ⟨t.tag.toArray⟩ a k c] w fun e w' => e = .returned (.tuple #[]) ∧ WrAt B b (l ++ bhT t) w' ∧ FrB B b w w' := by
  have HW := Lib.hid (fun w' (hb : Below w.heap.size w w') => hW.next hb)
  have HL := Lib.hid hl
  have hSw : ∀ j, S j → j < w.heap.size := fun j hj => Nat.lt_of_lt_of_le (hS j hj) hB
  cases t with
  | base x =>
    have hx : ((x.toNat : Int) == 112) = false ∧ ((x.toNat : Int) == 97) = false ∧ ((x.toNat : Int) == 102) = false := by
      have hc : baseC x = true := hwf
      unfold baseC at hc
      simp at hc
      rcases hc with ((((hc | hc) | hc) | hc) | hc) | hc <;> (subst hc; decide)
    obtain ⟨x0, hx0⟩ : ∃ x0 : Int, (x.toNat : Int) = x0 := ⟨_, rfl⟩
    obtain ⟨s1, hs1⟩ : ∃ s1, (⟨(Ty.base x).code.toArray⟩ : ByteArray) = s1 := ⟨_, rfl⟩
    show Calls _ _ #[_, nV (x.toNat : Int) ⟨(Ty.base x).code.toArray⟩ 0 ⟨#[]⟩ a k c] w fun e w' => e = .returned (.tuple #[]) ∧ WrAt B b (l ++ []) w' ∧ FrB B b w w'
    rw [hx0] at hx ⊢
    rw [hs1, List.append_nil]
    obtain ⟨z1, z2, z3⟩ := hx
    clear hwf hsz hcl hE hS hN hW hl hx0 hs1 hSw hD
    go_enter Tryz.func91, Tryz.ntmps91
    go_wp2_with fail
    go_end0
    exact ⟨rfl, HW.out _ (below_a _ _), FrB.of (below_a _ _) hB⟩
  | str s =>
    obtain ⟨s1, hs1⟩ : ∃ s1, (⟨(Ty.str s).code.toArray⟩ : ByteArray) = s1 := ⟨_, rfl⟩
    show Calls _ _ #[_, nV 83 ⟨(Ty.str s).code.toArray⟩ 0 ⟨s.toArray⟩ a k c] w fun e w' => e = .returned (.tuple #[]) ∧ WrAt B b (l ++ []) w' ∧ FrB B b w w'
    rw [hs1, List.append_nil]
    clear hwf hsz hcl hE hS hN hW hl hs1 hSw hD
    go_enter Tryz.func91, Tryz.ntmps91
    go_wp2_with fail
    go_end0
    exact ⟨rfl, HW.out _ (below_a _ _), FrB.of (below_a _ _) hB⟩
  | ptr u =>
    have HI : Hid (∀ w', Below w.heap.size w w' → Calls Tryz.prog 111 #[nV 112 ⟨(Ty.ptr u).code.toArray⟩ 0 ⟨#[]⟩ a k c] w' fun e w'' => e = .returned (.bool u.tight) ∧ Below w'.heap.size w' w'') := fun w' hb => by
      have h := c_isBr (.ptr u) u [] rfl (by simp) 112 ⟨(Ty.ptr u).code.toArray⟩ 0 ⟨#[]⟩ a k c rfl _ rfl w' (Nd.mono hN (fun j hj => Nat.lt_of_lt_of_le (hSw j hj) hb.size) (fun j hj => hb.block j (hSw j hj)))
      rw [tight_br u hwf] at h
      exact h
    obtain ⟨s1, hs1⟩ : ∃ s1, (⟨(Ty.ptr u).code.toArray⟩ : ByteArray) = s1 := ⟨_, rfl⟩
    have hb0 : bhT (.ptr u) = if u.tight then [41] else [] := rfl
    rw [hb0] at HL ⊢
    show Calls _ _ #[_, nV 112 ⟨(Ty.ptr u).code.toArray⟩ 0 ⟨#[]⟩ a k c] w fun e w' => e = .returned (.tuple #[]) ∧ WrAt B b (l ++ if u.tight = true then [41] else []) w' ∧ FrB B b w w'
    rw [hs1] at HI ⊢
    clear hwf hsz hcl hE hS hN hW hl hs1 hSw hD hb0
    cases hq : u.tight
    · rw [hq] at HI
      rw [if_neg (by simp), List.append_nil]
      go_enter Tryz.func91, Tryz.ntmps91
      go_wp2_with fail
      refine (HI.out _ (below_a _ _)).mono ?_
      rintro e w2 ⟨rfl, hb⟩
      have HB2 := Lib.hid (below_on (below_a w (.cells #[.int .u8 112, .string s1, .int .i64 0, .string ⟨#[]⟩, .slice a k c] 68)) hb (by simp))
      clear hb HI
      go_wp2_with fail
      go_end0
      exact ⟨rfl, HW.out _ HB2.out, FrB.of HB2.out hB⟩
    · rw [hq] at HI
      rw [hq, if_pos rfl] at HL
      rw [if_pos rfl]
      go_enter Tryz.func91, Tryz.ntmps91
      go_wp2_with fail
      refine (HI.out _ (below_a _ _)).mono ?_
      rintro e w2 ⟨rfl, hb⟩
      have HB2 := Lib.hid (below_on (below_a w (.cells #[.int .u8 112, .string s1, .int .i64 0, .string ⟨#[]⟩, .slice a k c] 68)) hb (by simp))
      clear hb HI
      go_wp2_with fail
      refine (c_WriteString B b l [41] _ (HW.out _ HB2.out) HL.out (Nat.le_trans hB HB2.out.size)).mono ?_
      rintro e w3 ⟨rfl, h3, hb3⟩
      go_wp2_with fail
      go_end0
      exact ⟨rfl, h3, frb_on HB2.out hb3 hB⟩
  | arr m u =>
    have hm : m ≤ 1099511627776 := hwf.1
    have hdl : (Lib.decDigits m).length ≤ 65536 := by
      have h : (97 :: (Lib.decDigits m ++ 58 :: u.code)).length ≤ 65536 := hcl
      simp at h
      omega
    have ha1 := add_s [91] (Lib.decDigits m) (by simp; omega)
    have ha2 := add_s ([91] ++ Lib.decDigits m) [93] (by simp; omega)
    rw [show [91] ++ Lib.decDigits m ++ [93] = bhT (.arr m u) by simp [bhT]] at ha2
    have HI := Lib.hid (fun w' (hb : Below w.heap.size w w') => c_Itoa B m w' (by omega) (hE.next (hb.mono hB)))
    obtain ⟨mI, hmI⟩ : ∃ mI : Int, (m : Int) = mI := ⟨_, rfl⟩
    obtain ⟨s1, hs1⟩ : ∃ s1, (⟨(Ty.arr m u).code.toArray⟩ : ByteArray) = s1 := ⟨_, rfl⟩
    show Calls _ _ #[_, nV 97 ⟨(Ty.arr m u).code.toArray⟩ (m : Int) ⟨#[]⟩ a k c] w _
    rw [hmI] at HI ⊢
    rw [hs1]
    clear hwf hsz hcl hE hS hN hW hl hs1 hSw hD hmI
    go_enter Tryz.func91, Tryz.ntmps91
    go_wp2_with fail
    have HA := Lib.hid (below_a w (.cells #[.int .u8 97, .string s1, .int .i64 mI, .string ⟨#[]⟩, .slice a k c] 68)).drew
    go_region_with (first
      | (go_at_call 112; refine (HI.out _ HA.out).mono ?_; rintro e w2 ⟨rfl, hb⟩; have HB2 := Lib.hid (below_on HA.out hb HA.out.size); clear hb)
      | (go_at_call 60; refine (c_WriteString B b l (bhT (.arr m u)) _ (HW.out _ HB2.out) HL.out (Nat.le_trans hB HB2.out.size)).mono ?_; rintro e w3 ⟨rfl, h3, hb3⟩))
    all_goals
      go_wp2_with fail
      go_end0
      exact ⟨rfl, h3, frb_on HB2.out hb3 hB⟩
  | fn ps r =>
    obtain ⟨g, cap, L, hv, hcap, hP⟩ := hN.pars (A := ps.list) (u := r) rfl
    cases hv
    have hb0 : bhT (.fn ps r) = 40 :: (parsL ps.list ++ [41]) := by rw [← pars_L]; rfl
    rw [hb0] at HL ⊢
    have hpl : ps.list.length ≤ 65536 := by
      have h1 := parts_le (.fn ps r)
      have h2 := size_code (.fn ps r)
      have h3 : (ps.list ++ [r]).length ≤ (Ty.fn ps r).size := h1
      simp at h3
      omega
    have hfc : ∀ u ∈ ps.list, u.size ≤ n ∧ u.wf ∧ u.code.length ≤ 65536 := fun u hu => by
      have h1 := lst_size_le ps u hu
      have h2 : ps.size + r.size + 2 ≤ n + 1 := hsz
      refine ⟨by omega, lst_wf ps u hwf.1 hu, ?_⟩
      have h3 := lst_code_le ps r u hu
      omega
    have HPa := Lib.hid (fun w' (hb : Below w.heap.size w w') => c_params ps.list.length 102 ⟨(Ty.fn ps r).code.toArray⟩ 0 ⟨#[]⟩ g c hcap hpl w')
    have HLs := Lib.hid (fun w' (hb : Below w.heap.size w w') => c_wlist n hD B b S ps.list g c L l w' hfc (hE.next (hb.mono hB)) hS (hP.keep (fun j hj => hb.block j (hSw j hj))) (hW.next hb) (Nat.le_trans hB hb.size) (by omega) hpl (by have := HL.out; simp at this; omega))
    obtain ⟨s1, hs1⟩ : ∃ s1, (⟨(Ty.fn ps r).code.toArray⟩ : ByteArray) = s1 := ⟨_, rfl⟩
    show Calls _ _ #[_, nV 102 ⟨(Ty.fn ps r).code.toArray⟩ 0 ⟨#[]⟩ (some ⟨g, 0, none⟩) (ps.list.length + 1) c] w _
    rw [hs1] at HPa ⊢
    obtain ⟨R, hR⟩ : ∃ R, 40 :: (parsL ps.list ++ [41]) = R := ⟨_, rfl⟩
    rw [hR] at HLs ⊢
    obtain ⟨pm, hpm⟩ : ∃ pm, ps.list.length = pm := ⟨_, rfl⟩
    rw [hpm] at HPa HLs ⊢
    clear hwf hsz hcl hE hS hN hW hl hs1 hSw hD hfc hP hpl hb0 hcap hpm hR HL
    go_enter Tryz.func91, Tryz.ntmps91
    go_wp2_with fail
    refine (HPa.out _ (below_a _ _)).mono ?_
    rintro e w2 ⟨rfl, hb⟩
    have HB2 := Lib.hid (below_on (below_a w (.cells #[.int .u8 102, .string s1, .int .i64 0, .string ⟨#[]⟩, .slice (some ⟨g, 0, none⟩) (pm + 1) c] 68)) hb (by simp))
    clear hb HPa
    go_wp2_with fail
    refine (HLs.out _ HB2.out).mono ?_
    rintro e w3 ⟨rfl, h3, hb3⟩
    go_wp2_with fail
    go_end0
    exact ⟨rfl, h3, frb_on HB2.out hb3 hB⟩
end Go.Proofs.YtacbjhbiaaieoaaGreatDoor
