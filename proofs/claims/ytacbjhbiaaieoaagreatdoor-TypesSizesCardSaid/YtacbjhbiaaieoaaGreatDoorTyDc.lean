/-
  The contracts of a name's declaration; of the common type; of form, in the code.
-/
import Derived.Test.YtacbjhbiaaieoaaGreatDoorTyWd
import Derived.Test.YtacbjhbiaaieoaaGreatDoorTyTw
namespace Go.Proofs.YtacbjhbiaaieoaaGreatDoor
set_option linter.unusedVariables false
set_option linter.unusedSimpArgs false
set_option maxRecDepth 100000
open Go.RowKit

def dA (l x : List UInt8) : List UInt8 × Int := match tk l with
  | none => ([], 2)
  | some t => if x = [] ∨ nameB x = true then (dcl t x, 0) else ([], 2)
theorem bw_ne : ∀ (t : Ty), t.parts = [] → bwT t ≠ []
  | .base c, _ => by
    show wordC c ≠ []
    unfold wordC
    (repeat' split) <;> simp
  | .str s, _ => by simp [bwT]
  | .ptr u, hb => by cases hb
  | .arr n u, hb => by cases hb
  | .fn ps r, hb => absurd hb (by simp [Ty.parts])
theorem dcl_ne (t : Ty) (x : List UInt8) : dcl t x ≠ [] := by
  rw [dcl_w]
  intro e
  exact bw_ne _ (spn_base t) (List.append_eq_nil_iff.1 e).1
theorem Env.up {B B' : Nat} {w : World} (h : Env B w) (hB : B ≤ B') : Env B' w := by
  obtain ⟨l1, l2, l3, l4⟩ := h.lt
  exact ⟨⟨by omega, by omega, by omega, by omega⟩, h.ml, h.es, h.er, h.pw⟩
set_option maxHeartbeats 4000000 in
theorem c_Declare (B : Nat) (l x : List UInt8) (w : World) (hE : Env B w) (hB : B ≤ w.heap.size) (hm : l.length ≤ 9223372036854775807) (hx : x.length ≤ 9223372036854775807) :
    Calls Tryz.prog 35 #[.string ⟨l.toArray⟩, .string ⟨x.toArray⟩] w fun e w' => e = .returned (.tuple #[.string ⟨(dA l x).1.toArray⟩, .int .i64 (dA l x).2]) ∧ Below w.heap.size w w' := by
  unfold dA
  rcases ho : tk l with _ | t
  · have HT := Lib.hid (c_tkN B l w hE hB hm ho)
    clear hE ho
    show Calls _ _ _ w fun e w' => e = .returned (.tuple #[.string ⟨#[]⟩, .int .i64 2]) ∧ Below w.heap.size w w'
    go_enter Tryz.func35, Tryz.ntmps35
    go_wp2_with fail
    refine HT.out.mono ?_
    rintro e w1 ⟨rfl, hb⟩
    have HB := Lib.hid hb
    clear hb HT
    go_wp2_with fail
    go_ret2
    exact ⟨rfl, HB.out.alloc HB.out.size _⟩
  · have HT := Lib.hid (c_tkS B l w hE hB hm t ho)
    have HN := Lib.hid (fun w => c_IsName x w hx)
    obtain ⟨hwf, hlc, hlen⟩ := tk_some ho
    have HX := Lib.hid (And.intro hE (And.intro hwf (And.intro hlc hlen)))
    obtain ⟨x0, hx0⟩ : ∃ x0 : Int, (t.letter.toNat : Int) = x0 := ⟨_, rfl⟩
    obtain ⟨x2, hx2⟩ : ∃ x2 : Int, (t.count : Int) = x2 := ⟨_, rfl⟩
    obtain ⟨s1, hs1⟩ : ∃ s1, (⟨t.code.toArray⟩ : ByteArray) = s1 := ⟨_, rfl⟩
    obtain ⟨s3, hs3⟩ : ∃ s3, (⟨t.tag.toArray⟩ : ByteArray) = s3 := ⟨_, rfl⟩
    have HD : Hid (∀ (a : Option Addr) (n c : Nat) (w3 : World), Below w.heap.size w w3 → NdIn t (.slice a n c) w3 → x.length ≤ 65536 → Calls Tryz.prog 66 #[.pointer (some ⟨w3.heap.size, 0, none⟩), nV x0 s1 x2 s3 a n c, .string ⟨x.toArray⟩] (w3.alloc (.cells #[.pointer none, .slice none 0 0] 115)) fun e w' => e = .returned (.tuple #[]) ∧ WrAt w3.heap.size w3.heap.size (dcl t x) w' ∧ Below w3.heap.size w3 w') := fun a n c w3 hb hn hxl => by
      have h := c_wdeclare t.size w3.heap.size w3.heap.size (fun j => j < w3.heap.size) t a n c x [] (w3.alloc (.cells #[.pointer none, .slice none 0 0] 115)) (Nat.le_refl _) hwf (by rw [← hlc]; exact hlen) (by have := dcl_len t x; rw [← hlc] at this; simp only [List.length_nil]; omega) ((((HX.out.1.next (hb.mono hB)).up (Nat.le_trans hB hb.size)).next (below_a _ _))) (fun j hj => hj) (Nd.mono hn (fun j hj => hj) (fun j hj => Below.heap_alloc _ _ _ hj)) (Lib.fresh_isBuilder 115 5 w3) (by simp)
      rw [hx0, hx2, hs1, hs3] at h
      exact h.mono fun e w' h => ⟨h.1, h.2.1, (below_a _ _).trans h.2.2.bel⟩
    rw [hx0, hx2, hs1, hs3] at HT
    have HS := Lib.hid (fun (B' b : Nat) (w : World) (h : WrAt B' b (dcl t x) w) => c_BString B' b (dcl t x) w h (dcl_ne t x))
    clear hE ho hwf hlc hx0 hx2 hs1 hs3 hlen
    by_cases hz : x = []
    · subst hz
      have hif : (if ([] : List UInt8) = [] ∨ nameB [] = true then (dcl t [], (0 : Int)) else ([], 2)) = (dcl t [], 0) := if_pos (Or.inl rfl)
      show Calls _ _ _ w fun e w' => e = .returned (.tuple #[.string ⟨(if ([] : List UInt8) = [] ∨ nameB [] = true then (dcl t [], (0 : Int)) else ([], 2)).1.toArray⟩, .int .i64 (if ([] : List UInt8) = [] ∨ nameB [] = true then (dcl t [], (0 : Int)) else ([], 2)).2]) ∧ Below w.heap.size w w'
      rw [hif]
      clear hif
      go_enter Tryz.func35, Tryz.ntmps35
      go_wp2_with fail
      refine HT.out.mono ?_
      rintro e w1 ⟨⟨a, n, c, rfl, hn⟩, hb⟩
      have HB := Lib.hid hb
      have HNd : Hid (NdIn t (.slice a n c) w1) := hn.mono (fun j hj => hj.2) (fun _ _ => rfl)
      clear hb HT hn
      go_wp2_with fail
      have HA := Lib.hid (HB.out.alloc HB.out.size (.cells #[.int .u8 x0, .string s1, .int .i64 x2, .string s3, .slice a n c] 68))
      have h := HD.out a n c _ HA.out (HNd.out.next (below_a w1 (.cells #[.int .u8 x0, .string s1, .int .i64 x2, .string s3, .slice a n c] 68))) (by simp)
      rw [show (w1.alloc (.cells #[.int .u8 x0, .string s1, .int .i64 x2, .string s3, .slice a n c] 68)).heap.size = w1.heap.size + 1 by simp] at h
      refine h.mono ?_
      clear h
      rintro e w5 ⟨rfl, h5, hb5⟩
      go_wp2_with fail
      refine (HS.out _ _ _ h5).mono ?_
      rintro e w6 ⟨rfl, hb6⟩
      go_wp2_with fail
      go_ret2
      exact ⟨rfl, HA.out.trans ((hb5.trans hb6).mono (by have := HA.out.size; simp at this; omega))⟩
    · have hxb : (x == []) = false := by simp [hz]
      cases hnm : nameB x
      · rw [hnm] at HN
        show Calls _ _ _ w fun e w' => e = .returned (.tuple #[.string ⟨(if x = [] ∨ false = true then (dcl t x, (0 : Int)) else ([], 2)).1.toArray⟩, .int .i64 (if x = [] ∨ false = true then (dcl t x, (0 : Int)) else ([], 2)).2]) ∧ Below w.heap.size w w'
        rw [if_neg (fun h => h.elim hz (fun h => by cases h))]
        clear hnm
        go_enter Tryz.func35, Tryz.ntmps35
        go_wp2_with fail
        refine HT.out.mono ?_
        rintro e w1 ⟨⟨a, n, c, rfl, hn⟩, hb⟩
        have HB := Lib.hid hb
        clear hb HT hn
        go_wp2_with fail
        refine (HN.out _).mono ?_
        rintro e w2 ⟨rfl, hb2⟩
        go_wp2_with fail
        go_ret2
        exact ⟨rfl, below_on (HB.out.alloc HB.out.size _) hb2 (by have := HB.out.size; simp; omega)⟩
      · rw [hnm] at HN
        show Calls _ _ _ w fun e w' => e = .returned (.tuple #[.string ⟨(if x = [] ∨ true = true then (dcl t x, (0 : Int)) else ([], 2)).1.toArray⟩, .int .i64 (if x = [] ∨ true = true then (dcl t x, (0 : Int)) else ([], 2)).2]) ∧ Below w.heap.size w w'
        rw [if_pos (Or.inr rfl)]
        have hxl : x.length ≤ 65536 := by have := (name_all hnm).2.2.2; omega
        clear hnm
        go_enter Tryz.func35, Tryz.ntmps35
        go_wp2_with fail
        refine HT.out.mono ?_
        rintro e w1 ⟨⟨a, n, c, rfl, hn⟩, hb⟩
        have HB := Lib.hid hb
        have HNd : Hid (NdIn t (.slice a n c) w1) := hn.mono (fun j hj => hj.2) (fun _ _ => rfl)
        clear hb HT hn
        go_wp2_with fail
        refine (HN.out _).mono ?_
        rintro e w2 ⟨rfl, hb2⟩
        have HA := Lib.hid (below_on (HB.out.alloc HB.out.size (.cells #[.int .u8 x0, .string s1, .int .i64 x2, .string s3, .slice a n c] 68)) hb2 (by have := HB.out.size; simp; omega))
        have HN2 := Lib.hid ((HNd.out.next (below_a w1 (.cells #[.int .u8 x0, .string s1, .int .i64 x2, .string s3, .slice a n c] 68))).next hb2)
        have HB2 := Lib.hid (blk_next (heap_alloc_new w1 (.cells #[.int .u8 x0, .string s1, .int .i64 x2, .string s3, .slice a n c] 68)) hb2)
        obtain ⟨m0, m1, m2, m3, m4, mf⟩ := five_cells HB2.out
        have hlt2 := (Array.getElem?_eq_some_iff.1 HB2.out).1
        clear mf hb2
        go_wp2_with fail
        have h := HD.out a n c _ HA.out HN2.out hxl
        refine h.mono ?_
        clear h
        rintro e w5 ⟨rfl, h5, hb5⟩
        go_wp2_with fail
        refine (HS.out _ _ _ h5).mono ?_
        rintro e w6 ⟨rfl, hb6⟩
        go_wp2_with fail
        go_ret2
        exact ⟨rfl, HA.out.trans ((hb5.trans hb6).mono HA.out.size)⟩
end Go.Proofs.YtacbjhbiaaieoaaGreatDoor
