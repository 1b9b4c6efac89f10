/-
  The statement TypesSizesCardSaid: for any texts and any structs the law on bytes, alignment and scalars of a type, and on where a struct's members stand, returns true, and its arguments read as before; the listed variables are tied to the program's text. No other condition.
-/
import Derived.Test.YtacbjhbiaaieoaaGreatDoorTzSx
import Derived.Test.YtacbjhbiaaieoaaGreatDoorTzPaW
import Derived.Test.YtacbjhbiaaieoaaGreatDoorTzChW
import Derived.Test.YtacbjhbiaaieoaaGreatDoorTie
import Derived.Test.YtacbjhbiaaieoaaGreatDoorCards
import Derived.Stop.LaidErr
import Derived.SevenTiedAt
import Derived.Shelf.Vars
import Derived.Deep.DeepHandedRow
import Derived.Lay
namespace Go.Proofs.YtacbjhbiaaieoaaGreatDoor
set_option linter.unusedVariables false
set_option linter.unusedSimpArgs false
set_option maxRecDepth 100000
open Go.RowKit

theorem ox_okT {S : List StP} {l : List UInt8} {t : Ty} (h0 : (loA S).2.1 = 0) (ht : tk l = some t) (hoj : ojA (loA S).2.2 l = 0) : TOk (loA S).2.2 (loA S).2.2.length t ∧ (extT (loA S).2.2 t).1 ≤ 65536 := by
  have ho : ojT (loA S).2.2 t = 0 := by unfold ojA at hoj; rw [ht] at hoj; exact hoj
  obtain ⟨r1, r2⟩ := oj_obj ho
  obtain ⟨g1, g2, g3, g4⟩ := rg_ok r1
  obtain ⟨hw, hl, hn⟩ := tk_some ht
  refine ⟨⟨hw, by rw [← hl]; exact hn, r2, g2, by rw [List.take_length]; exact g3⟩, ext_small g4 (ext_obj t hw r2 g2 g3)⟩
theorem ch_ne {S : List StP} {l : List UInt8} (h : chA S l ≠ 0) : oxA S l = chA S l := by
  unfold chA at h ⊢
  unfold oxA
  by_cases h0 : (loA S).2.1 = 0
  · rw [if_pos h0] at h ⊢
    rw [if_pos h0]
    exact oja_ne h
  · rw [if_neg h0]
    rw [if_neg h0]
theorem ch_eq {S : List StP} {l : List UInt8} (h : chA S l = 0) : (loA S).2.1 = 0 ∧ rgA (loA S).2.2 l = 0 ∧ oxA S l = ojA (loA S).2.2 l := by
  unfold chA at h
  by_cases h0 : (loA S).2.1 = 0
  · rw [if_pos h0] at h
    exact ⟨h0, h, by unfold oxA; rw [if_pos h0]⟩
  · rw [if_neg h0] at h
    exact absurd h h0
set_option maxHeartbeats 4000000 in
theorem c_rSizeX (S : List StP) (a : Option Addr) (c : Nat) (hc : S.length ≤ c) (hS : SzS S) (hSl : S.length ≤ 4503599627370496) (l : List UInt8) (hlm : l.length ≤ 9223372036854775807) (w : World) (hI : StIn S a w) :
    Calls Tryz.prog 17 #[.string ⟨l.toArray⟩, .slice a S.length c] w fun e w' => e = .returned (.tuple #[.int .i64 (szA S l).1, .int .i64 (szA S l).2.1, .int .i64 (szA S l).2.2]) ∧ Below w.heap.size w w' := by
  have HC := Lib.hid (c_rCheck S a c hc hS hSl l hlm w hI)
  obtain ⟨z0, z1, z2, hz⟩ : ∃ z0 z1 z2 : Int, ((szA S l).1 : Int) = z0 ∧ ((szA S l).2.1 : Int) = z1 ∧ ((szA S l).2.2 : Int) = z2 := ⟨_, _, _, rfl, rfl, rfl⟩
  have HZ := Lib.hid hz
  rw [hz.1, hz.2.1, hz.2.2]
  clear hz
  by_cases h0 : chA S l = 0
  · obtain ⟨h1, h2, h3⟩ := ch_eq h0
    obtain ⟨t, ht1, ht2, ht3⟩ := oja_eq h2
    subst ht2
    rw [h0] at HC
    have HO := Lib.hid (c_robject t)
    obtain ⟨q, hq⟩ : ∃ q, objI t.letter.toNat = q := ⟨_, rfl⟩
    rw [hq] at HO ht3
    cases q
    · have hx : oxA S t.code = 5 := by rw [h3, ht3]; rfl
      have hsz : szA S t.code = (0, 0, 5) := by unfold szA; rw [hx]; rfl
      obtain rfl : z0 = 0 := by have := HZ.out.1; rw [hsz] at this; exact this.symm
      obtain rfl : z1 = 0 := by have := HZ.out.2.1; rw [hsz] at this; exact this.symm
      obtain rfl : z2 = 5 := by have := HZ.out.2.2; rw [hsz] at this; exact this.symm
      obtain ⟨N, hN⟩ : ∃ N, S.length = N := ⟨_, rfl⟩
      rw [hN] at HC ⊢
      clear h0 h1 h2 h3 ht1 ht3 hq hx hsz hN hc hS hSl hlm hI
      go_enter Tryz.func17, Tryz.ntmps17
      go_wp2_with fail
      refine HC.out.mono ?_
      rintro e w1 ⟨rfl, hb⟩
      have HB := Lib.hid hb
      clear hb HC
      go_wp2_with fail
      refine (HO.out _).mono ?_
      rintro e w2 ⟨rfl, rfl⟩
      go_wp2_with fail
      go_ret3
      exact ⟨rfl, HB.out⟩
    · have hx : oxA S t.code = 0 := by rw [h3, ht3]; rfl
      have htD : tkD t.code = t := by unfold tkD; rw [ht1]; rfl
      have hsz : szA S t.code = ((extT (loA S).2.2 t).1, (extT (loA S).2.2 t).2.1, 0) := by unfold szA; rw [if_pos hx, htD]
      obtain ⟨hok, _⟩ := ox_okT h1 ht1 (by rw [← h3]; exact hx)
      have HSz := Lib.hid (fun w' (hb : Below w.heap.size w w') => c_rsize (loA S).2.2 (lo_gd S) S hS hSl (lo_mt h1).1 t hok.wf hok.len hok.full hok.ob hok.bad a c w' (hI.next hb))
      obtain ⟨q0, q1, q2, q3, hq2⟩ : ∃ q0 q1 q2 q3, extT (loA S).2.2 t = (q0, q1, q2, q3) := ⟨_, _, _, _, rfl⟩
      rw [hq2] at HSz hsz
      obtain rfl : z0 = (q0 : Int) := by have := HZ.out.1; rw [hsz] at this; exact this.symm
      obtain rfl : z1 = (q1 : Int) := by have := HZ.out.2.1; rw [hsz] at this; exact this.symm
      obtain rfl : z2 = 0 := by have := HZ.out.2.2; rw [hsz] at this; exact this.symm
      obtain ⟨N, hN⟩ : ∃ N, S.length = N := ⟨_, rfl⟩
      rw [hN] at HC HSz ⊢
      clear h0 h1 h2 h3 ht1 ht3 hq hx hsz hN hc hS hSl hlm hI htD hok hq2
      go_enter Tryz.func17, Tryz.ntmps17
      go_wp2_with fail
      refine HC.out.mono ?_
      rintro e w1 ⟨rfl, hb⟩
      have HB := Lib.hid hb
      clear hb HC
      go_wp2_with fail
      refine (HO.out _).mono ?_
      rintro e w2 ⟨rfl, rfl⟩
      go_wp2_with fail
      refine (HSz.out _ HB.out).mono ?_
      rintro e w3 ⟨rfl, hb⟩
      have HB3 := Lib.hid (below_on HB.out hb HB.out.size)
      clear hb HSz
      go_wp2_with fail
      go_ret3
      exact ⟨rfl, HB3.out⟩
  · have hx := ch_ne h0
    have hsz : szA S l = (0, 0, chA S l) := by unfold szA; rw [hx, if_neg h0]
    obtain ⟨E, hE⟩ : ∃ E : Int, (chA S l : Int) = E := ⟨_, rfl⟩
    have hE0 : (E == 0) = false := by rw [← hE]; simp; exact h0
    have hE1 : (E != 0) = true := by simp [bne, hE0]
    obtain rfl : z0 = 0 := by have := HZ.out.1; rw [hsz] at this; exact this.symm
    obtain rfl : z1 = 0 := by have := HZ.out.2.1; rw [hsz] at this; exact this.symm
    obtain rfl : z2 = E := by have := HZ.out.2.2; rw [hsz] at this; rw [← hE]; exact this.symm
    rw [hE] at HC
    obtain ⟨N, hN⟩ : ∃ N, S.length = N := ⟨_, rfl⟩
    rw [hN] at HC ⊢
    clear h0 hx hsz hE hN hc hS hSl hlm hI
    go_enter Tryz.func17, Tryz.ntmps17
    go_wp2_with fail
    refine HC.out.mono ?_
    rintro e w1 ⟨rfl, hb⟩
    have HB := Lib.hid hb
    clear hb HC
    go_wp2_with fail
    go_ret3
    exact ⟨rfl, HB.out⟩
/-- Members at their places, from a place on. -/
def plM (L : List LayP) : Nat → List (List UInt8 × List UInt8) → List MemP
  | _, [] => []
  | b, m :: ms => ⟨tkD m.2, m.1, upN b (extT L (tkD m.2)).2.1⟩ :: plM L (upN b (extT L (tkD m.2)).2.1 + (extT L (tkD m.2)).1) ms
theorem goM_pl {L : List LayP} : ∀ (ms : List (List UInt8 × List UInt8)) (x : AcP), (goM L x ms).1 = 0 → (goM L x ms).2.mems = x.mems ++ plM L x.b ms
  | [], x, _ => by
    show x.mems = x.mems ++ []
    rw [List.append_nil]
  | m :: ms, x, h => by
    rw [goM_step] at h ⊢
    split at h
    · rename_i h1
      rw [if_pos h1, goM_pl ms _ h]
      show (x.mems ++ [_]) ++ plM L _ ms = x.mems ++ (_ :: _)
      rw [List.append_assoc]
      rfl
    · exact absurd h (by assumption)
end Go.Proofs.YtacbjhbiaaieoaaGreatDoor
namespace Go.Proofs.YtacbjhbiaaieoaaGreatDoor
set_option linter.unusedVariables false
set_option linter.unusedSimpArgs false
set_option maxRecDepth 100000
open Go.RowKit

/-- What the document's scalars answer: told, and the scalars behind it, or that they are too many. -/
def RcP (X : Nat) (xs ns : List (Nat × List UInt8)) (v : Value) (w : World) (e : Ending) (w' : World) : Prop :=
  ∃ (va' : Option Addr) (vc' : Nat) (ys : List (Nat × List UInt8)) (q : Bool), e = .returned (.tuple #[.slice va' ys.length vc', .bool q]) ∧ PcR X ys (.slice va' ys.length vc') w' ∧ PcG w v w' (.slice va' ys.length vc') ∧ ((q = true ∧ ys = xs ++ ns ∧ ys.length ≤ 4096) ∨ (q = false ∧ 4096 < xs.length + ns.length ∧ ys.length ≤ 4097))
def RcX (L : List LayP) (S : List StP) (w0 : World) (k : Nat) (t : Ty) : Prop := ∀ (xs : List (Nat × List UInt8)) (at' : Nat) (va : Option Addr) (vc : Nat) (a : Option Addr) (c : Nat) (w : World), Below w0.heap.size w0 w → StIn S a w0 → PcR w0.heap.size xs (.slice va xs.length vc) w → at' + (extT L t).1 ≤ 65536 → at' % (extT L t).2.1 = 0 → xs.length ≤ 4096 →
  Calls Tryz.prog 52 #[.string ⟨t.code.toArray⟩, .slice a S.length c, .int .i64 at', .slice va xs.length vc] w fun e w' => RcP w0.heap.size xs (scT L (scG L k) t at') (.slice va xs.length vc) w e w'
set_option maxHeartbeats 8000000 in
theorem rx_leaf (L : List LayP) (S : List StP) (w0 : World) (k : Nat) (t : Ty) (x0 : Int) (hx0 : (t.letter.toNat : Int) = x0) (hx : x0 = 99 ∨ x0 = 115 ∨ x0 = 105 ∨ x0 = 117 ∨ x0 = 112) (ht : ∀ a, scT L (scG L k) t a = [(a, t.code)]) : RcX L S w0 k t := fun xs at' va vc a c w hb hI hr hat hal hlen => by
  rw [ht]
  have HK := Lib.hid (c_rkind t)
  rw [hx0] at HK
  obtain ⟨s1, hs1⟩ : ∃ s1, t.code = s1 := ⟨_, rfl⟩
  rw [hs1] at HK ⊢
  obtain ⟨N, hN⟩ : ∃ N, S.length = N := ⟨_, rfl⟩
  rw [hN]
  obtain ⟨M, hM⟩ : ∃ M, xs.length = M := ⟨_, rfl⟩
  obtain ⟨atI, hatI⟩ : ∃ x : Int, (at' : Int) = x := ⟨_, rfl⟩
  have HR := Lib.hid (And.intro hr (And.intro hb.size (And.intro hM hatI)))
  rw [hM] at hlen ⊢
  rw [hatI]
  obtain ⟨i0, hi, hz0, hz1, hz2⟩ := info_parts infoPc
  obtain ⟨X, hX⟩ : ∃ X, w0.heap.size = X := ⟨_, rfl⟩
  have HX : Hid (X ≤ w.heap.size) := by rw [← hX]; exact hb.size
  have HPc : Hid (PcR X xs (.slice va M vc) w ∧ xs.length = M ∧ (at' : Int) = atI) := by rw [← hX, ← HR.out.2.2.1]; exact ⟨HR.out.1, rfl, HR.out.2.2.2⟩
  rw [hX]
  have HPx : Hid (∀ o, (((w.alloc o).ownsRow X 40 2 (.slice va M vc) M (rowP xs)))) := fun o => by
    have h := HPc.out.1.next (below_a w o)
    unfold PcR at h
    rw [HPc.out.2.1] at h
    exact h
  clear HR hX hx0 hs1 hN hb hr hat hal hM ht hatI hI
  obtain ⟨qb, hqb⟩ : ∃ qb, decide ((M : Int) < (4096 : Int)) = qb := ⟨_, rfl⟩
  have HQb := Lib.hid hqb
  have HLe := Lib.hid hlen
  rcases hx with rfl | rfl | rfl | rfl | rfl
  all_goals
    go_enter Tryz.func52, Tryz.ntmps52
    go_wp2_with fail
    refine (HK.out _).mono ?_
    rintro e w2 ⟨rfl, rfl⟩
    go_wp2_with (at_builtin; refine wpList_append_lies _ rfl _ _ 36 rfl X 40 i0 (.agg #[.int .i64 0, .string ByteArray.empty]) 2 24 Tryz.underlying36 hi hz0 hz1 hz2 rfl (by decide) (.slice va M vc) M (rowP xs) rfl (HPx.out _) ⟨w2.heap.size, 0, none⟩ 1 1 [.int .i64 atI, .string ⟨s1.toArray⟩] rfl rfl ?cc1 (pie_one _ _) (by decide) ?cc3 ?cc4 ?cc5 (w2.heap.size + 1) ?cc6 ?_)
    case cc1 =>
      intro j u hu
      exact World.news_of_block (heap_alloc_new _ _) j u hu
    case cc3 => unfold maxLen; omega
    case cc4 => omega
    case cc5 => have := HX.out; simp; omega
    case cc6 => simp
    intro gr cap1 wd hown hgrow hlies hglt
    have hG : PcG w2 (.slice va M vc) wd (.slice (some ⟨gr, 0, none⟩) (M + 1) cap1) := by
      refine PcG.trans (PcG.ofBelow (below_a w2 _) _) ⟨hgrow, fun j hj => ?_⟩
      have e2 : gr = j := by simpa [Value.ownBlock] using hj
      subst e2
      rcases hlies with h1 | h1
      · exact .inl h1
      · right; simp; omega
    have hl1 : (xs ++ [(at', s1)]).length = M + 1 := by rw [List.length_append, HPc.out.2.1]; rfl
    have hP : PcR X (xs ++ [(at', s1)]) (.slice (some ⟨gr, 0, none⟩) (M + 1) cap1) wd := by
      unfold PcR
      rw [rowP_snoc, hl1]
      show wd.ownsRow X _ 2 _ (M + 1) (rowP xs ++ [.int .i64 at', .string ⟨s1.toArray⟩])
      rw [HPc.out.2.2]
      exact hown
    have HG := Lib.hid (And.intro hG (And.intro hP hl1))
    clear hG hP hl1 hown hgrow hlies hglt
    go_wp2_with fail
    go_ret2
    refine ⟨some ⟨gr, 0, none⟩, cap1, xs ++ [(at', s1)], qb, (by rw [HG.out.2.2]; rfl), by rw [HG.out.2.2]; exact HG.out.2.1, by rw [HG.out.2.2]; exact HG.out.1, ?_⟩
    rw [HG.out.2.2, HPc.out.2.1]
    have h1 := HQb.out
    have h2 := HLe.out
    cases qb
    · right
      simp at h1
      refine ⟨rfl, ?_, by omega⟩
      show 4096 < M + 1
      omega
    · left
      simp at h1
      exact ⟨rfl, rfl, by omega⟩
set_option maxHeartbeats 4000000 in
theorem rx_jmp (L : List LayP) (S : List StP) (w0 : World) (k : Nat) : RcX L S w0 k (.base 106) := fun xs at' va vc a c w hb hI hr hat hal hlen => by
  have ht : scT L (scG L k) (.base 106) at' = [] := rfl
  rw [ht]
  have HK := Lib.hid (c_rkind (.base 106))
  have hk0 : (((Ty.base 106).letter.toNat : Int)) = 106 := rfl
  rw [hk0] at HK
  obtain ⟨s1, hs1⟩ : ∃ s1, (Ty.base 106).code = s1 := ⟨_, rfl⟩
  rw [hs1] at HK ⊢
  obtain ⟨N, hN⟩ : ∃ N, S.length = N := ⟨_, rfl⟩
  rw [hN]
  have HR := Lib.hid (And.intro hr hlen)
  obtain ⟨M, hM⟩ : ∃ M, xs.length = M := ⟨_, rfl⟩
  have HM := Lib.hid hM
  rw [hM]
  clear hs1 hN hb hr hat hal hlen ht hM hk0 hI
  go_enter Tryz.func52, Tryz.ntmps52
  go_wp2_with fail
  refine (HK.out _).mono ?_
  rintro e w2 ⟨rfl, rfl⟩
  go_wp2_with fail
  go_ret2
  exact ⟨va, vc, xs, true, (by rw [HM.out]; rfl), HR.out.1, by rw [HM.out]; exact PcG.refl _ _, .inl ⟨rfl, by rw [List.append_nil], HR.out.2⟩⟩
end Go.Proofs.YtacbjhbiaaieoaaGreatDoor
namespace Go.Proofs.YtacbjhbiaaieoaaGreatDoor
set_option linter.unusedVariables false
set_option linter.unusedSimpArgs false
set_option maxRecDepth 100000
open Go.RowKit

theorem at_al (at' b i al : Nat) (h1 : at' % al = 0) (h2 : b % al = 0) : (at' + i * b) % al = 0 := by
  rw [Nat.add_mod, Nat.mul_mod, h1, h2]
  simp
theorem flat_nil {n i : Nat} {f : Nat → List (Nat × List UInt8)} (h : ∀ j, (f j).length = 0) : (List.range n).flatMap f = (List.range i).flatMap f := by
  have hz : ∀ m, (List.range m).flatMap f = [] := fun m => List.eq_nil_of_length_eq_zero (by rw [flat_len f 0 _ (fun j _ => h j)]; simp)
  rw [hz, hz]
set_option maxHeartbeats 8000000 in
theorem rx_arr (L : List LayP) (hL : GdL L) (S : List StP) (hS : SzS S) (hSl : S.length ≤ 4503599627370496) (hm : MtL L S) (w0 : World) (k n : Nat) (u : Ty) (hok : TOk L k (.arr n u)) (IH : RcX L S w0 k u) : RcX L S w0 k (.arr n u) := fun xs at' va vc a c w hb hI hr hat hal hlen => by
  obtain ⟨hu, hn⟩ := hok.arr
  have HK := Lib.hid (c_rkind (.arr n u))
  have hk0 : (((Ty.arr n u).letter.toNat : Int)) = 97 := rfl
  rw [hk0] at HK
  have HIn := Lib.hid (fun w => c_rinner_arr n u w hok.wf.1 hok.len)
  have HSz := Lib.hid (fun w' (h : Below w0.heap.size w0 w') => c_rsize L hL S hS hSl hm u hu.wf hu.len hu.full hu.ob hu.bad a c w' (hI.next h))
  have HSc := Lib.hid (fun zs at' va vc w' h1 h2 h3 h4 h5 => IH zs at' va vc a c w' h1 hI h2 h3 h4 h5)
  have hbd := (ext_bd hL u).1
  have hGA : GdA L := by
    have := mt_gdA hL hm L.length
    rwa [List.take_length] at this
  obtain ⟨g124, gal⟩ := al_t hGA u hu.wf hu.ob hu.bad hu.full
  obtain ⟨cn, cn1, cn2⟩ := sc_len hL hm k u hu
  obtain ⟨q0, q1, q2, q3, hq⟩ : ∃ q0 q1 q2 q3, extT L u = (q0, q1, q2, q3) := ⟨_, _, _, _, rfl⟩
  have hat2 : at' + min (q0 * n) 65537 ≤ 65536 := by
    have : at' + min ((extT L u).1 * n) 65537 ≤ 65536 := hat
    rw [hq] at this
    exact this
  have hal2 : at' % q1 = 0 := by
    have : at' % (extT L u).2.1 = 0 := hal
    rw [hq] at this
    exact this
  have hT : scT L (scG L k) (.arr n u) at' = (List.range n).flatMap fun i => scT L (scG L k) u (at' + i * q0) := by
    show ((List.range n).flatMap fun i => scT L (scG L k) u (at' + i * (extT L u).1)) = _
    rw [hq]
  rw [hT]
  rw [hq] at HSz HSc hbd gal
  have hq0n : q0 ≤ 65536 := by
    have h4 : q0 ≤ q0 * n := Nat.le_mul_of_pos_right _ hn.1
    omega
  have hqal : q0 % q1 = 0 := gal hq0n
  obtain ⟨F, hF⟩ : ∃ F, scT L (scG L k) u = F := ⟨_, rfl⟩
  rw [hF] at HSc cn1 ⊢
  obtain ⟨f, hf⟩ : ∃ f : Nat → List (Nat × List UInt8), (fun i => F (at' + i * q0)) = f := ⟨_, rfl⟩
  have HF := Lib.hid hf
  rw [hf]
  obtain ⟨N, hN⟩ : ∃ N, S.length = N := ⟨_, rfl⟩
  rw [hN] at HSz HSc ⊢
  obtain ⟨M, hM⟩ : ∃ M, xs.length = M := ⟨_, rfl⟩
  obtain ⟨l, hlc⟩ : ∃ l, (Ty.arr n u).code = l := ⟨_, rfl⟩
  obtain ⟨uc, huc⟩ : ∃ l, u.code = l := ⟨_, rfl⟩
  rw [hlc] at HK HIn ⊢
  rw [huc] at HIn HSz HSc
  have HB := Lib.hid hb
  obtain ⟨X, hX⟩ : ∃ X, w0.heap.size = X := ⟨_, rfl⟩
  have hXw : X ≤ w.heap.size := by rw [← hX]; exact hb.size
  have HR : Hid (PcR X xs (.slice va M vc) w ∧ xs.length = M ∧ X ≤ w.heap.size ∧ w0.heap.size = X) := ⟨by rw [← hX, ← hM]; exact hr, hM, hXw, hX⟩
  rw [hM] at hlen
  have HAt := Lib.hid (And.intro hat2 (And.intro hn (And.intro hbd (And.intro hal2 (And.intro hqal hlen)))))
  have HCn : Hid ((∀ i, (f i).length = cn)) := fun i => by rw [← hf]; exact cn1 _
  rw [hM]
  clear hb hI hr hat hat2 hal hal2 hlen hbd hT hF hf hN hM hlc huc hX hXw IH hok hu hk0 hGA g124 gal cn1 cn2 hq hq0n hqal hL hS hSl hm hn
  go_enter Tryz.func52, Tryz.ntmps52
  go_wp2_with fail
  refine (HK.out _).mono ?_
  rintro e w2 ⟨rfl, rfl⟩
  go_wp2_with fail
  refine (HIn.out _).mono ?_
  rintro e w3 ⟨rfl, hb⟩
  have HB3 := Lib.hid (below_on HB.out hb HB.out.size)
  have HW3 := Lib.hid hb
  clear hb
  go_wp2_with fail
  refine (HSz.out _ HB3.out).mono ?_
  rintro e w4 ⟨rfl, hb⟩
  have HB4 := Lib.hid (below_on HB3.out hb HB3.out.size)
  have HW4 := Lib.hid (HW3.out.trans (hb.mono HW3.out.size))
  clear hb
  go_wp2_with fail
  have HWl := Lib.hid HW4.out
  have HPl := Lib.hid (HR.out.1.next HW4.out)
  have HGl := Lib.hid (PcG.ofBelow HW4.out (.slice va M vc))
  clear HB3 HW3
  go_loopg [3, 10, 15] n (fun g v3 v10 v15 wr => ∃ (i T : Nat) (va' : Option Addr) (vc' : Nat) (qb : Bool), i + g = n ∧ v15 = .int .i64 (i : Int) ∧ v3 = .slice va' T vc' ∧ v10 = .bool qb ∧ Hid ((qb = true ∧ T = (xs ++ (List.range i).flatMap f).length ∧ T ≤ 4096 ∧ SaI X xs f w4 (.slice va M vc) i (.slice va' T vc') wr) ∨ (qb = false ∧ ∃ ys : List (Nat × List UInt8), T = ys.length ∧ PcR X ys (.slice va' T vc') wr ∧ PcG w4 (.slice va M vc) wr (.slice va' T vc') ∧ 4096 < M + ((List.range n).flatMap f).length ∧ ys.length ≤ 4097)))
  case atStart => exact ⟨0, M, va, vc, true, by omega, rfl, rfl, rfl, .inl ⟨rfl, by simp [HR.out.2.1], HAt.out.2.2.2.2.2, ⟨by simpa using HPl.out, PcG.refl _ _⟩⟩⟩
  case round =>
    obtain ⟨i, T, va', vc', qb, hi, rfl, rfl, rfl, HS0⟩ := hrel
    rcases HS0.out with ⟨rfl, hT1, hT2, hS⟩ | ⟨rfl, ys, hT1, hr2, hg2, hf1, hf2⟩
    · have HS := Lib.hid (And.intro hT1 (And.intro hT2 hS))
      have hBX : Below X w4 wr := hS.g.below HPl.out (Nat.le_trans HR.out.2.2.1 HW4.out.size)
      have HBr : Hid (Below w0.heap.size w0 wr) := HB4.out.trans (by rw [HR.out.2.2.2]; exact hBX)
      clear hBX hT1 hT2 hS HS0
      by_cases hlt : i < n
      · have hd : decide ((i : Int) < (n : Int)) = true := by simp; omega
        have hdn : decide (i < n) = true := by simp; omega
        have HM : Hid (n - (i + 1) < gk ∧ i + 1 + (n - (i + 1)) = n) := ⟨by omega, by omega⟩
        obtain ⟨hA0, hw1, hw2, hw3, hwm⟩ := ar_facts i n q0 at' hlt HAt.out.2.1.2 HAt.out.2.2.1 HAt.out.1
        have hw4 := at_small64 at' (i * q0) (by omega)
        have HLi : Hid (M + ((List.range i).flatMap f).length + (F (at' + i * q0)).length ≤ M + ((List.range n).flatMap f).length) := by
          have h1 := range_pre n i hlt f
          have h3 : f i = F (at' + i * q0) := by rw [← HF.out]
          rw [h3] at h1
          show _ ≤ _
          omega
        have HNx : Hid (xs ++ (List.range (i + 1)).flatMap f = (xs ++ (List.range i).flatMap f) ++ F (at' + i * q0)) := by
          show _ = _
          rw [range_next, ← List.append_assoc, ← HF.out]
        have HFl : Hid ((F (at' + i * q0)).length = cn) := by
          have h3 : f i = F (at' + i * q0) := by rw [← HF.out]
          rw [← h3]
          exact HCn.out i
        have hal3 := at_al at' q0 i q1 HAt.out.2.2.2.1 HAt.out.2.2.2.2.1
        obtain ⟨P, hP⟩ : ∃ P : Int, ((i * q0 : Nat) : Int) = P := ⟨_, rfl⟩
        obtain ⟨A, hA⟩ : ∃ A, at' + i * q0 = A := ⟨_, rfl⟩
        rw [hP] at hw1 hw2 hw3 hw4
        rw [hA] at hw3 hw4 hA0 HLi HNx hal3 HFl
        obtain ⟨AI, hAI⟩ : ∃ x : Int, (A : Int) = x := ⟨_, rfl⟩
        rw [hAI] at hw3 hw4
        have HA0 := Lib.hid (And.intro hA0 (And.intro hAI hal3))
        clear hlt hA0 hP hA hAI hi hal3
        go_wp2_with fail
        have hcall := HSc.out (xs ++ (List.range i).flatMap f) A va' vc' wr HBr.out (by rw [HR.out.2.2.2]; have h := HS.out.2.2.r; rw [HS.out.1] at h; exact h) HA0.out.1 HA0.out.2.2 (by rw [← HS.out.1]; exact HS.out.2.1)
        rw [← HS.out.1, HA0.out.2.1] at hcall
        refine hcall.mono ?_
        clear hcall
        rintro e w6 ⟨va6, vc6, ys, q6, rfl, hr6, hg6, h6⟩
        rw [HR.out.2.2.2] at hr6
        have HR6 := Lib.hid (And.intro hr6 (And.intro (HS.out.2.2.g.trans hg6) h6))
        clear hr6 hg6 h6
        obtain ⟨T6, hT6⟩ : ∃ T, ys.length = T := ⟨_, rfl⟩
        have HT6 := Lib.hid hT6
        rw [hT6] at HR6 ⊢
        clear hT6
        by_cases hcm : T6 = T
        · have hcm2 : ((T6 : Int) == (T : Int)) = true := by simp; omega
          have HCm := Lib.hid hcm
          clear hcm
          go_wp2_with fail
          go_ret2
          refine ⟨va6, vc6, ys, q6, (by rw [HT6.out]; rfl), by rw [HT6.out, HR.out.2.2.2]; exact HR6.out.1, by rw [HT6.out]; exact HGl.out.trans HR6.out.2.1, ?_⟩
          rw [HT6.out]
          rcases HR6.out.2.2 with ⟨h1, h2, h3⟩ | ⟨h1, h2, h3⟩
          · left
            have hlen := congrArg List.length h2
            rw [HT6.out, HCm.out, HS.out.1] at hlen
            simp only [List.length_append] at hlen
            have hc0 : cn = 0 := by have := HFl.out; omega
            have hfl := flat_nil (n := n) (i := i + 1) (f := f) (fun j => by rw [HCn.out j, hc0])
            refine ⟨h1, ?_, h3⟩
            rw [h2, ← HNx.out, hfl]
          · right
            refine ⟨h1, ?_, h3⟩
            have := HLi.out
            have hm := HR.out.2.1
            have h9 := HS.out.1
            simp only [List.length_append] at h9 h2
            omega
        · have hcm2 : ((T6 : Int) == (T : Int)) = false := by simp; omega
          clear hcm
          go_wp2_with fail
          go_roundg (n - (i + 1))
          case measure => exact HM.out.1
          case rel =>
            refine ⟨i + 1, T6, va6, vc6, q6, HM.out.2, rfl, rfl, rfl, ?_⟩
            rcases HR6.out.2.2 with ⟨h1, h2, h3⟩ | ⟨h1, h2, h3⟩
            · refine .inl ⟨h1, ?_, h3, ⟨?_, HR6.out.2.1⟩⟩
              · rw [HNx.out, ← h2, HT6.out]
              · rw [HNx.out, ← h2]; exact HR6.out.1
            · refine .inr ⟨h1, ys, HT6.out.symm, HR6.out.1, HR6.out.2.1, ?_, by rw [HT6.out]; exact h3⟩
              have := HLi.out
              have hm := HR.out.2.1
              have h9 := HS.out.1
              simp only [List.length_append] at h9 h2
              omega
      · have hd : decide ((i : Int) < (n : Int)) = false := by simp; omega
        have hdn : decide (i < n) = false := by simp; omega
        obtain rfl : i = n := by omega
        go_wp2_with fail
        go_ret2
        refine ⟨va', vc', xs ++ (List.range i).flatMap f, true, (by rw [← HS.out.1]; rfl), by rw [← HS.out.1, HR.out.2.2.2]; exact HS.out.2.2.r, by rw [← HS.out.1]; exact HGl.out.trans HS.out.2.2.g, .inl ⟨rfl, rfl, by rw [← HS.out.1]; exact HS.out.2.1⟩⟩
    · have HS := Lib.hid (And.intro hT1 (And.intro hr2 (And.intro hg2 (And.intro hf1 hf2))))
      clear hT1 hr2 hg2 hf1 hf2 HS0
      by_cases hlt : i < n
      · have hd : decide ((i : Int) < (n : Int)) = true := by simp; omega
        have hdn : decide (i < n) = true := by simp; omega
        go_wp2_with fail
        go_ret2
        refine ⟨va', vc', ys, false, (by rw [← HS.out.1]; rfl), by rw [← HS.out.1, HR.out.2.2.2]; exact HS.out.2.1, by rw [← HS.out.1]; exact HGl.out.trans HS.out.2.2.1, .inr ⟨rfl, ?_, HS.out.2.2.2.2⟩⟩
        rw [HR.out.2.1]
        exact HS.out.2.2.2.1
      · have hd : decide ((i : Int) < (n : Int)) = false := by simp; omega
        have hdn : decide (i < n) = false := by simp; omega
        go_wp2_with fail
        go_ret2
        refine ⟨va', vc', ys, false, (by rw [← HS.out.1]; rfl), by rw [← HS.out.1, HR.out.2.2.2]; exact HS.out.2.1, by rw [← HS.out.1]; exact HGl.out.trans HS.out.2.2.1, .inr ⟨rfl, ?_, HS.out.2.2.2.2⟩⟩
        rw [HR.out.2.1]
        exact HS.out.2.2.2.1
end Go.Proofs.YtacbjhbiaaieoaaGreatDoor
namespace Go.Proofs.YtacbjhbiaaieoaaGreatDoor
set_option linter.unusedVariables false
set_option linter.unusedSimpArgs false
set_option maxRecDepth 100000
open Go.RowKit

/-- Where the first members end. -/
def eN (L : List LayP) (b : Nat) (ms : List (List UInt8 × List UInt8)) : Nat → Nat
  | 0 => b
  | q + 1 => match (plM L b ms)[q]? with
    | some y => y.at' + (extT L y.ty).1
    | none => 0
theorem pl_len {L : List LayP} : ∀ (ms : List (List UInt8 × List UInt8)) (b : Nat), (plM L b ms).length = ms.length
  | [], _ => rfl
  | m :: ms, b => by
    show (plM L _ ms).length + 1 = ms.length + 1
    rw [pl_len ms]
theorem eN_step {L : List LayP} (b : Nat) (m : List UInt8 × List UInt8) (ms : List (List UInt8 × List UInt8)) (q : Nat) : eN L b (m :: ms) (q + 1) = eN L (upN b (extT L (tkD m.2)).2.1 + (extT L (tkD m.2)).1) ms q := by
  cases q with
  | zero => rfl
  | succ q => rfl
theorem pl_at {L : List LayP} : ∀ (ms : List (List UInt8 × List UInt8)) (b q : Nat) (y : MemP), (plM L b ms)[q]? = some y → ∃ m, ms[q]? = some m ∧ y.ty = tkD m.2 ∧ y.name = m.1 ∧ y.at' = upN (eN L b ms q) (extT L y.ty).2.1
  | [], b, q, y, h => by cases h
  | m :: ms, b, 0, y, h => by
    cases h
    exact ⟨m, rfl, rfl, rfl, rfl⟩
  | m :: ms, b, q + 1, y, h => by
    obtain ⟨m', h1, h2, h3, h4⟩ := pl_at ms _ q y h
    exact ⟨m', h1, h2, h3, by rw [eN_step]; exact h4⟩
/-- A struct that is found, and its members as they came in. -/
theorem st_mem {L : List LayP} {S : List StP} (hL : GdL L) (hm : MtL L S) {s : List UInt8} {x : LayP} (hf : findL L s = some x) : ∃ (i : Nat) (st : StP) (e : Nat → Nat), S[i]? = some st ∧ L[i]? = some x ∧ idxS S s = some i ∧ st.mems.length = x.mems.length ∧ st.mems.length ≤ 64 ∧ e 0 = 0 ∧ ∀ q y, x.mems[q]? = some y → ∃ m, st.mems[q]? = some m ∧ m.2 = y.ty.code ∧ m.1 = y.name ∧ y.at' = upN (e q) (extT L y.ty).2.1 ∧ e (q + 1) = y.at' + (extT L y.ty).1 := by
  obtain ⟨i, st, g1, g2, g3, g4, g5⟩ := mt_find hm hf
  obtain ⟨_, _, n3, n4, n5, n6⟩ := nx_ok g4
  have hpl : x.mems = plM (L.take i) 0 st.mems := by
    rw [g5]
    show (goM (L.take i) ac0 st.mems).2.mems = _
    rw [goM_pl st.mems ac0 n5]
    rfl
  have hlo := mt_lok hL hm g1
  refine ⟨i, st, eN (L.take i) 0 st.mems, g2, g1, g3, by rw [hpl, pl_len], n3, rfl, fun q y hy => ?_⟩
  have hmem := List.mem_of_getElem? hy
  obtain ⟨k1, k2, k3, k4⟩ := hlo.m y hmem
  have e := ext_take (L := L) (k := i) y.ty k1.all.2.2
  have hy2 := hy
  rw [hpl] at hy2
  obtain ⟨m, h1, h2, h3, h4⟩ := pl_at st.mems 0 q y hy2
  obtain ⟨t, ht, _, _, htD, _⟩ := goM_mem (gd_take hL i) st.mems ac0 n5 m (List.mem_of_getElem? h1)
  refine ⟨m, h1, ?_, h3.symm, by rw [e]; exact h4, ?_⟩
  · rw [h2, htD]
    exact (tk_some ht).2.1
  · rw [e]
    show (match (plM (L.take i) 0 st.mems)[q]? with | some y => y.at' + (extT (L.take i) y.ty).1 | none => 0) = _
    rw [hy2]
theorem up_add (a e n : Nat) (hn : 1 ≤ n) (h : a % n = 0) : upN (a + e) n = a + upN e n := by
  obtain ⟨c, rfl⟩ : ∃ c, a = n * c := ⟨a / n, by have := Nat.div_add_mod a n; omega⟩
  unfold upN
  have h1 : n * c + e + n - 1 = (e + n - 1) + n * c := by omega
  rw [h1, Nat.add_mul_div_left _ _ (by omega), Nat.add_mul, Nat.mul_comm c n]
  omega
theorem mod_trans (a b c : Nat) (h1 : a % b = 0) (h2 : b % c = 0) : a % c = 0 :=
  Nat.mod_eq_zero_of_dvd (Nat.dvd_trans (Nat.dvd_of_mod_eq_zero h2) (Nat.dvd_of_mod_eq_zero h1))
/-- While a struct's scalars are told, as the document has them. -/
def RtI (L : List LayP) (k : Nat) (M : List MemP) (X : Nat) (xs : List (Nat × List UInt8)) (at' : Nat) (wl : World) (v : Value) (q T : Nat) (v' : Value) (qb : Bool) (wr : World) : Prop :=
  (qb = true ∧ T = (xs ++ memsF L k (M.take q) at').length ∧ T ≤ 4096 ∧ PcR X (xs ++ memsF L k (M.take q) at') v' wr ∧ PcG wl v wr v') ∨ (qb = false ∧ ∃ ys : List (Nat × List UInt8), T = ys.length ∧ PcR X ys v' wr ∧ PcG wl v wr v' ∧ 4096 < xs.length + (memsF L k M at').length ∧ ys.length ≤ 4097)
set_option maxHeartbeats 8000000 in
theorem rx_str (L : List LayP) (hL : GdL L) (S : List StP) (hS : SzS S) (hSl : S.length ≤ 4503599627370496) (hm : MtL L S) (w0 : World) (k : Nat) (IH : ∀ k', k' < k → ∀ t, TOk L k' t → RcX L S w0 k' t) (s : List UInt8) (hok : TOk L k (.str s)) : RcX L S w0 k (.str s) := fun xs at' va vc a c w hb hI hr hat hal hlen => by
  obtain ⟨i0, k', x, rfl, hik, hx, hf, hlo, hmem⟩ := sc_str hL hm hok
  obtain ⟨i, st, e, g1, g2, g3, g4, g5, g6, g7⟩ := st_mem hL hm hf
  have hs31 : s.length ≤ 31 := (name_all hok.wf).2.2.2
  have HK := Lib.hid (c_rkind (.str s))
  have hk0 : (((Ty.str s).letter.toNat : Int)) = 83 := rfl
  rw [hk0] at HK
  have hix2 : idxI S s = (i : Int) := by unfold idxI; rw [g3]
  have HNm := Lib.hid (fun (w' : World) (h : Below w0.heap.size w0 w') => c_rnamed S a c s (by omega) w' (hI.next h) hSl)
  rw [hix2] at HNm
  have HSt := Lib.hid (fun w' (hb : Below w0.heap.size w0 w') => hI.next hb)
  have hiS : i < S.length := (List.getElem?_eq_some_iff.1 g1).1
  have HSc := Lib.hid (fun (y : MemP) (hy : y ∈ x.mems) zs at' va vc w' h1 h2 h3 h4 h5 => IH k' (by omega) y.ty (hmem y hy).1 zs at' va vc a c w' h1 hI h2 h3 h4 h5)
  have HSz := Lib.hid (fun (y : MemP) (hy : y ∈ x.mems) w' (h : Below w0.heap.size w0 w') => c_rsize L hL S hS hSl hm y.ty (hmem y hy).1.wf (hmem y hy).1.len (hmem y hy).1.full (hmem y hy).1.ob (hmem y hy).1.bad a c w' (hI.next h))
  have hE : extT L (.str s) = (x.bytes, x.align, x.scal, true) := by
    unfold extT
    rw [hf]
  have hGA : GdA L := by
    have := mt_gdA hL hm L.length
    rwa [List.take_length] at this
  rw [hE] at hat hal
  have hat2 : at' + x.bytes ≤ 65536 := hat
  have hal2 : at' % x.align = 0 := hal
  have HFit : Hid (∀ q y, x.mems[q]? = some y → ∃ m, st.mems[q]? = some m ∧ m.2 = y.ty.code ∧ at' + y.at' + (extT L y.ty).1 ≤ 65536 ∧ (at' + y.at') % (extT L y.ty).2.1 = 0 ∧ upN (at' + e q) (extT L y.ty).2.1 = at' + y.at' ∧ at' + e (q + 1) = at' + y.at' + (extT L y.ty).1 ∧ 1 ≤ (extT L y.ty).2.1 ∧ (extT L y.ty).2.1 ≤ 4 ∧ at' + e q ≤ 65536) := fun q y hy => by
    obtain ⟨m, h1, h2, _, h4, h5⟩ := g7 q y hy
    obtain ⟨t1, t2, t3, t4, t5⟩ := hmem y (List.mem_of_getElem? hy)
    obtain ⟨a1, _⟩ := al_t hGA y.ty t1.wf t1.ob t1.bad t1.full
    have hal3 := mod_trans _ _ _ hal2 t4
    have h14 : 1 ≤ (extT L y.ty).2.1 ∧ (extT L y.ty).2.1 ≤ 4 := by unfold A124 at a1; omega
    have hup := (up_bd (e q) (extT L y.ty).2.1 h14.1 h14.2).1
    refine ⟨m, h1, h2, by omega, ?_, ?_, by omega, h14.1, h14.2, by omega⟩
    · rw [Nat.add_mod, hal3, t3]; simp
    · rw [up_add _ _ _ h14.1 hal3, ← h4]
  have hT : scT L (scG L (k' + 1)) (.str s) at' = memsF L k' x.mems at' := by
    show (match findL L s with | some x => x.mems.flatMap fun (y : MemP) => scT L (scG L k') y.ty (at' + y.at') | none => []) = _
    rw [hf]
    rfl
  rw [hT]
  obtain ⟨N, hN⟩ : ∃ N, S.length = N := ⟨_, rfl⟩
  have HN := Lib.hid hN
  rw [hN] at HSz HSc HNm hiS ⊢
  obtain ⟨M, hM⟩ : ∃ M, xs.length = M := ⟨_, rfl⟩
  obtain ⟨l, hlc⟩ : ∃ l, (Ty.str s).code = l := ⟨_, rfl⟩
  rw [hlc] at HK HNm ⊢
  have HB := Lib.hid hb
  obtain ⟨X, hX⟩ : ∃ X, w0.heap.size = X := ⟨_, rfl⟩
  have hXw : X ≤ w.heap.size := by rw [← hX]; exact hb.size
  have HR : Hid (PcR X xs (.slice va M vc) w ∧ xs.length = M ∧ X ≤ w.heap.size ∧ w0.heap.size = X) := ⟨by rw [← hX, ← hM]; exact hr, hM, hXw, hX⟩
  rw [hM] at hlen
  have HAt := Lib.hid (And.intro hat2 (And.intro hlen (And.intro g1 (And.intro g4 (And.intro g5 g6)))))
  rw [hM]
  have hi0 : (0 : Int) ≤ (i : Int) := by omega
  have hi1 : (i : Int) < (N : Int) := by omega
  clear hb hI hr hat hal hlen hat2 hal2 hT hN hM hlc hX hXw IH hok hk0 hGA hL hS hSl hm hik hx hf hlo hmem g1 g2 g3 g4 g5 g6 g7 hs31 hix2 hiS hE
  go_enter Tryz.func52, Tryz.ntmps52
  go_wp2_with fail
  refine (HK.out _).mono ?_
  rintro e2 w2 ⟨rfl, rfl⟩
  go_wp2_with fail
  refine (HNm.out _ HB.out).mono ?_
  rintro e3 w3 ⟨rfl, mm, hw3⟩
  have HB3 : Hid (Below w2.heap.size w2 w3) := by rw [hw3]; exact below_drewN (Below.refl w2.heap.size w2) mm
  have HC3 := Lib.hid (below_on HB.out HB3.out HB.out.size)
  clear hw3
  obtain ⟨gb, gof, hgab, hgb, hrow⟩ := HSt.out _ (Below.refl _ _) (by have := HN.out; omega)
  obtain ⟨ma, mc, c0, c1, hmm⟩ := hrow i st HAt.out.2.2.1
  have eg := HC3.out.block gb hgb
  replace c0 := (cell_of_blk eg _).trans c0
  replace c1 := (cell_of_blk eg _).trans c1
  obtain ⟨ML, hML⟩ : ∃ x, st.mems.length = x := ⟨_, rfl⟩
  rw [hML] at c1
  have HML := Lib.hid hML
  have HMm := Lib.hid (fun w' (hb : Below w0.heap.size w0 w') => hmm.next hb)
  subst hgab
  clear hrow hML hmm eg
  go_wp2_with fail
  clear c0 c1
  have HPl := Lib.hid (HR.out.1.next HB3.out)
  have HGl := Lib.hid (PcG.ofBelow HB3.out (.slice va M vc))
  go_loopg [2, 3, 10, 18] ML (fun g v2 v3 v10 v18 wr => ∃ (q T : Nat) (va' : Option Addr) (vc' : Nat) (qb : Bool) (A2 : Nat), q + g = ML ∧ v18 = .int .i64 (q : Int) ∧ v2 = .int .i64 (A2 : Int) ∧ v3 = .slice va' T vc' ∧ v10 = .bool qb ∧ Hid (RtI L k' x.mems X xs at' w3 (.slice va M vc) q T (.slice va' T vc') qb wr ∧ A2 = at' + e q))
  case atStart => exact ⟨0, M, va, vc, true, at', by omega, rfl, rfl, rfl, rfl, .inl ⟨rfl, by simp [HR.out.2.1, memsF], HAt.out.2.1, by simpa [memsF] using HPl.out, PcG.refl _ _⟩, by rw [HAt.out.2.2.2.2.2]; rfl⟩
  case round =>
    obtain ⟨q, T, va', vc', qb, A2, hi, rfl, rfl, rfl, rfl, HS0⟩ := hrel
    rcases HS0.out.1 with ⟨rfl, hT1, hT2, hr1, hg1⟩ | ⟨rfl, ys, hT1, hr2, hg2, hf1, hf2⟩
    · have HS := Lib.hid (And.intro hT1 (And.intro hT2 (And.intro hr1 hg1)))
      have HA2 := Lib.hid HS0.out.2
      have hBX : Below X w3 wr := hg1.below HPl.out (Nat.le_trans HR.out.2.2.1 HB3.out.size)
      have HBr : Hid (Below w0.heap.size w0 wr) := HC3.out.trans (by rw [HR.out.2.2.2]; exact hBX)
      clear hBX hT1 hT2 hr1 hg1 HS0
      by_cases hlt : q < ML
      · have hd : decide ((q : Int) < (ML : Int)) = true := by simp; omega
        have hdn : decide (q < ML) = true := by simp; omega
        have HM : Hid (ML - (q + 1) < gk ∧ q + 1 + (ML - (q + 1)) = ML) := ⟨by omega, by omega⟩
        obtain ⟨y, hy⟩ : ∃ y, x.mems[q]? = some y := ⟨_, List.getElem?_eq_getElem (by have := HML.out; have := HAt.out.2.2.2.1; omega)⟩
        obtain ⟨m, hm1, hm2, hf1, hf2, hf3, hf4, hf5, hf6, hf7⟩ := HFit.out q y hy
        obtain ⟨gm, gmo, hma, hgm, hrow⟩ := HMm.out wr HBr.out (by have := HML.out; omega)
        obtain ⟨x0, x1⟩ := hrow q m hm1
        have hmem := List.mem_of_getElem? hy
        rw [hm2] at x1
        have hSz := HSz.out y hmem wr HBr.out
        have hSc := HSc.out y hmem (xs ++ memsF L k' (x.mems.take q) at') (at' + y.at') va' vc'
        have HLi : Hid (xs.length + (memsF L k' (x.mems.take q) at').length + (scT L (scG L k') y.ty (at' + y.at')).length ≤ xs.length + (memsF L k' x.mems at').length) := by
          have h1 := memsF_le (L := L) (k := k') (a := at') hy
          show _ ≤ _
          omega
        have HNx : Hid (xs ++ memsF L k' (x.mems.take (q + 1)) at' = (xs ++ memsF L k' (x.mems.take q) at') ++ scT L (scG L k') y.ty (at' + y.at')) := by
          show _ = _
          rw [memsF_next hy, List.append_assoc]
        have hA2 : A2 = at' + e q := HA2.out
        have hup := Lib.hid (fun w' => c_rup A2 (extT L y.ty).2.1 (by omega) hf5 hf6 w')
        rw [hA2, hf3, ← hA2] at hup
        obtain ⟨b0, b1, b2, b3, hbq⟩ : ∃ b0 b1 b2 b3, extT L y.ty = (b0, b1, b2, b3) := ⟨_, _, _, _, rfl⟩
        rw [hbq] at hSz hSc hup hf1 hf2 hf4
        obtain ⟨yc, hyc⟩ : ∃ c, y.ty.code = c := ⟨_, rfl⟩
        rw [hyc] at x1 hSz hSc
        obtain ⟨A, hA⟩ : ∃ A, at' + y.at' = A := ⟨_, rfl⟩
        rw [hA] at hSc hup hf1 hf2 hf4 HLi HNx
        have hw1 := at_small A b0 hf1
        have hw2 := at_small64 A b0 hf1
        have hwm : IntKind.i64.wrap ((q : Int) + 1) = ((q + 1 : Nat) : Int) := at_small q 1 (by have := HAt.out.2.2.2.2.1; have := HML.out; omega)
        obtain ⟨AI, hAI⟩ : ∃ z : Int, (A : Int) = z := ⟨_, rfl⟩
        have HFs := Lib.hid (And.intro hf1 (And.intro hf2 (And.intro hf4 hAI)))
        have HSc2 := Lib.hid hSc
        rw [hAI] at hw1 hw2
        have HUp : Hid (∀ w', Calls Tryz.prog 54 #[.int .i64 A2, .int .i64 b1] w' fun e w'' => e = .returned (.int .i64 AI) ∧ w'' = w') := fun w' => by
          have h := hup.out w'
          rw [hAI] at h
          exact h
        have hq0 : (0 : Int) ≤ (q : Int) := by omega
        have hql : (q : Int) < (ML : Int) := by omega
        have HGm := Lib.hid hgm
        subst hma
        clear hrow hm1 hm2 hf1 hf2 hf3 hf4 hf5 hf6 hf7 hmem hSc hup hA2 hbq hyc hA hAI hlt hi hy x0
        go_wp2_with fail
        refine hSz.mono ?_
        rintro e5 w5 ⟨rfl, hb5⟩
        have HB5 := Lib.hid hb5
        have hx1 := (cell_of_blk (hb5.block gm hgm) _).trans x1
        have hgm5 : gm < w5.heap.size := Nat.lt_of_lt_of_le hgm hb5.size
        clear x1 hb5 hSz hgm
        go_wp2_with fail
        refine (HUp.out _).mono ?_
        rintro e6 w6 ⟨rfl, rfl⟩
        go_wp2_with fail
        have hcall := HSc2.out w6 (below_on HBr.out HB5.out HBr.out.size) (by rw [HR.out.2.2.2]; have h := HS.out.2.2.1.next HB5.out; rw [HS.out.1] at h; exact h) HFs.out.1 HFs.out.2.1 (by rw [← HS.out.1]; exact HS.out.2.1)
        rw [← HS.out.1, HFs.out.2.2.2] at hcall
        refine hcall.mono ?_
        clear hcall
        rintro e7 w7 ⟨va6, vc6, ys, q6, rfl, hr6, hg6, h6⟩
        rw [HR.out.2.2.2] at hr6
        have HR6 := Lib.hid (And.intro hr6 (And.intro (HS.out.2.2.2.trans ((PcG.ofBelow HB5.out _).trans hg6)) h6))
        clear hr6 hg6 h6
        obtain ⟨T6, hT6⟩ : ∃ T, ys.length = T := ⟨_, rfl⟩
        have HT6 := Lib.hid hT6
        rw [hT6] at HR6 ⊢
        clear hT6 hx1 hgm5
        go_wp2_with fail
        go_roundg (ML - (q + 1))
        case measure => exact HM.out.1
        case rel =>
          refine ⟨q + 1, T6, va6, vc6, q6, A + b0, HM.out.2, rfl, rfl, rfl, rfl, ?_, HFs.out.2.2.1.symm⟩
          rcases HR6.out.2.2 with ⟨h1, h2, h3⟩ | ⟨h1, h2, h3⟩
          · refine .inl ⟨h1, ?_, h3, ?_, HR6.out.2.1⟩
            · rw [HNx.out, ← h2, HT6.out]
            · rw [HNx.out, ← h2]; exact HR6.out.1
          · refine .inr ⟨h1, ys, HT6.out.symm, HR6.out.1, HR6.out.2.1, ?_, by rw [HT6.out]; exact h3⟩
            have := HLi.out
            simp only [List.length_append] at h2
            omega
      · have hd : decide ((q : Int) < (ML : Int)) = false := by simp; omega
        have hdn : decide (q < ML) = false := by simp; omega
        have htk : x.mems.take q = x.mems := List.take_of_length_le (by have := HML.out; have := HAt.out.2.2.2.1; omega)
        have h1 := HS.out.1
        have h2 := HS.out.2.2.1
        rw [htk] at h1 h2
        have HTk := Lib.hid (And.intro h1 h2)
        clear htk h1 h2
        go_wp2_with fail
        go_ret2
        refine ⟨va', vc', xs ++ memsF L k' x.mems at', true, (by rw [← HTk.out.1]; rfl), by rw [← HTk.out.1, HR.out.2.2.2]; exact HTk.out.2, by rw [← HTk.out.1]; exact HGl.out.trans HS.out.2.2.2, .inl ⟨rfl, rfl, by rw [← HTk.out.1]; exact HS.out.2.1⟩⟩
    · have HS := Lib.hid (And.intro hT1 (And.intro hr2 (And.intro hg2 (And.intro hf1 hf2))))
      clear hT1 hr2 hg2 hf1 hf2 HS0
      by_cases hlt : q < ML
      · have hd : decide ((q : Int) < (ML : Int)) = true := by simp; omega
        have hdn : decide (q < ML) = true := by simp; omega
        go_wp2_with fail
        go_ret2
        exact ⟨va', vc', ys, false, (by rw [← HS.out.1]; rfl), by rw [← HS.out.1, HR.out.2.2.2]; exact HS.out.2.1, by rw [← HS.out.1]; exact HGl.out.trans HS.out.2.2.1, .inr ⟨rfl, HS.out.2.2.2.1, HS.out.2.2.2.2⟩⟩
      · have hd : decide ((q : Int) < (ML : Int)) = false := by simp; omega
        have hdn : decide (q < ML) = false := by simp; omega
        go_wp2_with fail
        go_ret2
        exact ⟨va', vc', ys, false, (by rw [← HS.out.1]; rfl), by rw [← HS.out.1, HR.out.2.2.2]; exact HS.out.2.1, by rw [← HS.out.1]; exact HGl.out.trans HS.out.2.2.1, .inr ⟨rfl, HS.out.2.2.2.1, HS.out.2.2.2.2⟩⟩
theorem rx_all (L : List LayP) (hL : GdL L) (S : List StP) (hS : SzS S) (hSl : S.length ≤ 4503599627370496) (hm : MtL L S) (w0 : World) (k : Nat) (IH : ∀ k', k' < k → ∀ t, TOk L k' t → RcX L S w0 k' t) : ∀ t, TOk L k t → RcX L S w0 k t
  | .str s, h => rx_str L hL S hS hSl hm w0 k IH s h
  | .arr n u, h => rx_arr L hL S hS hSl hm w0 k n u h (rx_all L hL S hS hSl hm w0 k IH u h.arr.1)
  | .ptr u, h => rx_leaf L S w0 k (.ptr u) 112 rfl (by simp) (fun a => rfl)
  | .fn ps r, h => absurd h.ob (by show ¬ objI (102 : Int) = true; decide)
  | .base x, h => by
    have hc : baseC x = true := h.wf
    unfold baseC at hc
    simp at hc
    rcases hc with ((((hc | hc) | hc) | hc) | hc) | hc <;> subst hc
    · exact absurd h.ob (by show ¬ objI (118 : Int) = true; decide)
    · exact rx_leaf L S w0 k (.base 99) 99 rfl (by simp) (fun a => rfl)
    · exact rx_leaf L S w0 k (.base 115) 115 rfl (by simp) (fun a => rfl)
    · exact rx_leaf L S w0 k (.base 105) 105 rfl (by simp) (fun a => rfl)
    · exact rx_leaf L S w0 k (.base 117) 117 rfl (by simp) (fun a => rfl)
    · exact rx_jmp L S w0 k
theorem c_rscalars (L : List LayP) (hL : GdL L) (S : List StP) (hS : SzS S) (hSl : S.length ≤ 4503599627370496) (hm : MtL L S) (w0 : World) (k : Nat) : ∀ t, TOk L k t → RcX L S w0 k t := by
  induction k using Nat.strongRecOn with
  | ind k ih => exact rx_all L hL S hS hSl hm w0 k ih
end Go.Proofs.YtacbjhbiaaieoaaGreatDoor
namespace Go.Proofs.YtacbjhbiaaieoaaGreatDoor
set_option linter.unusedVariables false
set_option linter.unusedSimpArgs false
set_option maxRecDepth 100000
open Go.RowKit

set_option maxHeartbeats 8000000 in
theorem c_rScalarsX (S : List StP) (a : Option Addr) (c : Nat) (hc : S.length ≤ c) (hS : SzS S) (hSl : S.length ≤ 4503599627370496) (l : List UInt8) (hlm : l.length ≤ 9223372036854775807) (w : World) (hI : StIn S a w) :
    Calls Tryz.prog 19 #[.string ⟨l.toArray⟩, .slice a S.length c] w fun e w' => (∃ a' c', e = .returned (.tuple #[.slice a' (pieA S l).1.length c', .int .i64 (pieA S l).2]) ∧ PcIn (pieA S l).1 a' w') ∧ Below w.heap.size w w' := by
  have HC := Lib.hid (c_rSizeX S a c hc hS hSl l hlm w hI)
  obtain ⟨zs, z2, hz⟩ : ∃ (zs : List (Nat × List UInt8)) (z2 : Int), (pieA S l).1 = zs ∧ ((pieA S l).2 : Int) = z2 := ⟨_, _, rfl, rfl⟩
  have HZ := Lib.hid hz
  rw [hz.1, hz.2]
  obtain ⟨K, hK⟩ : ∃ K, zs.length = K := ⟨_, rfl⟩
  have HK := Lib.hid hK
  rw [hK]
  clear hz hK
  by_cases h0 : oxA S l = 0
  · have hch : chA S l = 0 := by
      by_cases h1 : chA S l = 0
      · exact h1
      · rw [ch_ne h1] at h0; exact absurd h0 h1
    obtain ⟨h1, h2, h3⟩ := ch_eq hch
    obtain ⟨t, ht1, ht2, ht3⟩ := oja_eq h2
    subst ht2
    have htD : tkD t.code = t := by unfold tkD; rw [ht1]; rfl
    have hsz : szA S t.code = ((extT (loA S).2.2 t).1, (extT (loA S).2.2 t).2.1, 0) := by unfold szA; rw [if_pos h0, htD]
    obtain ⟨hok, hex6⟩ := ox_okT h1 ht1 (by rw [← h3]; exact h0)
    obtain ⟨cn, cn1, cn2⟩ := sc_len (lo_gd S) (lo_mt h1).1 _ t hok
    have HSc := Lib.hid (fun (w0 : World) (hb : Below w.heap.size w w0) => c_rscalars (loA S).2.2 (lo_gd S) S hS hSl (lo_mt h1).1 w0 (loA S).2.2.length t hok [] 0 none 0 a c w0 (Below.refl _ _) (hI.next hb) (PcR.start _ _) (by omega) (Nat.zero_mod _) (by simp))
    have hsA : pieA S t.code = if 4096 < (extT (loA S).2.2 t).2.2.1 then ([], 3) else (scT (loA S).2.2 (scG (loA S).2.2 (loA S).2.2.length) t 0, 0) := by unfold pieA; rw [if_pos h0, htD]
    obtain ⟨q0, q1, q2, q3, hq⟩ : ∃ q0 q1 q2 q3, extT (loA S).2.2 t = (q0, q1, q2, q3) := ⟨_, _, _, _, rfl⟩
    obtain ⟨W, hW⟩ : ∃ W, scT (loA S).2.2 (scG (loA S).2.2 (loA S).2.2.length) t 0 = W := ⟨_, rfl⟩
    have hWl : W.length = cn := by rw [← hW]; exact cn1 0
    rw [hW] at HSc hsA
    rw [hq] at hsA cn2 hsz
    rw [hsz] at HC
    obtain ⟨N, hN⟩ : ∃ N, S.length = N := ⟨_, rfl⟩
    rw [hN] at HC HSc ⊢
    have HSA := Lib.hid (And.intro hsA (And.intro cn2 hWl))
    clear h0 hch h1 h2 h3 ht1 ht3 htD hsz hok hex6 cn1 cn2 hsA hq hW hWl hN hc hS hSl hlm hI
    go_enter Tryz.func19, Tryz.ntmps19
    go_wp2_with fail
    refine HC.out.mono ?_
    rintro e w1 ⟨rfl, hb⟩
    have HB1 := Lib.hid hb
    clear hb HC
    go_wp2_with fail
    refine (HSc.out _ HB1.out).mono ?_
    rintro e w2 ⟨va', vc', ys, q, rfl, hr, hg, hcase⟩
    have HB2 := Lib.hid (below_on HB1.out (hg.below (PcR.start _ _) (Nat.le_refl _)) HB1.out.size)
    have HR2 := Lib.hid hr.in
    obtain ⟨e1, e2⟩ := HZ.out
    rw [HSA.out.1] at e1 e2
    have hcn := HSA.out.2.1
    have hcl := HSA.out.2.2
    clear hr hg HSc
    rcases hcase with ⟨rfl, h1, h2⟩ | ⟨rfl, h1, h2⟩
    · rw [List.nil_append] at h1
      subst h1
      have h4 : ¬ 4096 < q2 := by omega
      rw [if_neg h4] at e1 e2
      obtain rfl : zs = ys := e1.symm
      obtain rfl : z2 = 0 := e2.symm
      rw [HK.out]
      clear e1 e2 hcn hcl h2 h4 HSA
      go_wp2_with fail
      go_ret2
      exact ⟨⟨va', vc', rfl, HR2.out⟩, HB2.out⟩
    · have h1' : 4096 < W.length := by simpa using h1
      have h4 : 4096 < q2 := by omega
      rw [if_pos h4] at e1 e2
      obtain rfl : zs = [] := e1.symm
      obtain rfl : K = 0 := HK.out.symm
      obtain rfl : z2 = 3 := e2.symm
      obtain ⟨K2, hK2⟩ : ∃ K, ys.length = K := ⟨_, rfl⟩
      rw [hK2]
      clear e1 e2 hcn hcl h1 h1' h2 h4 HSA hK2
      go_wp2_with fail
      go_ret2
      exact ⟨⟨none, 0, rfl, fun h => by simp at h⟩, HB2.out⟩
  · have hsz : szA S l = (0, 0, oxA S l) := by unfold szA; rw [if_neg h0]
    have hsA : pieA S l = ([], oxA S l) := by unfold pieA; rw [if_neg h0]
    rw [hsz] at HC
    obtain ⟨E, hE⟩ : ∃ E : Int, (oxA S l : Int) = E := ⟨_, rfl⟩
    have hE0 : (E == 0) = false := by rw [← hE]; simp; exact h0
    have hE1 : (E != 0) = true := by simp [bne, hE0]
    obtain ⟨e1, e2⟩ := HZ.out
    rw [hsA] at e1 e2
    obtain rfl : zs = [] := e1.symm
    obtain rfl : K = 0 := HK.out.symm
    obtain rfl : z2 = E := by rw [← hE]; exact e2.symm
    rw [hE] at HC
    obtain ⟨N, hN⟩ : ∃ N, S.length = N := ⟨_, rfl⟩
    rw [hN] at HC ⊢
    clear h0 hsz hsA hE e1 e2 hN hc hS hSl hlm hI
    go_enter Tryz.func19, Tryz.ntmps19
    go_wp2_with fail
    refine HC.out.mono ?_
    rintro e w1 ⟨rfl, hb⟩
    have HB1 := Lib.hid hb
    clear hb HC
    go_wp2_with fail
    go_ret2
    exact ⟨⟨none, 0, rfl, fun h => by simp at h⟩, HB1.out⟩
/-- A struct of that name is the one that is found. -/
theorem at_name {S : List StP} {nm : List UInt8} {i : Nat} {st : StP} (h0 : (loA S).2.1 = 0) (hs : S[i]? = some st) (hn : (st.name == nm) = true) : idxS S nm = some i ∧ ∃ x, findL (loA S).2.2 nm = some x := by
  obtain ⟨hm, hl, _⟩ := lo_mt h0
  have hiL : i < (loA S).2.2.length := by rw [hl]; exact (List.getElem?_eq_some_iff.1 hs).1
  have hxi : (loA S).2.2[i]? = some (loA S).2.2[i] := List.getElem?_eq_getElem hiL
  obtain ⟨s, k1, k2, k3⟩ := hm i _ hxi
  rw [hs] at k1
  cases k1
  have hnone := (nx_ok k2).2.1
  refine ⟨idx_at hs hn fun j y hj hy => ?_, ?_⟩
  · cases hb : (y.name == nm) with
    | false => rfl
    | true =>
      have hjL : j < (loA S).2.2.length := by omega
      obtain ⟨y', e1, e2⟩ := mt_name hm (List.getElem?_eq_getElem hjL)
      rw [hy] at e1
      cases e1
      unfold findL at hnone
      rw [List.find?_eq_none] at hnone
      have hmem : (loA S).2.2[j] ∈ (loA S).2.2.take i := List.mem_of_getElem? (i := j) (by rw [List.getElem?_take_of_lt hj]; exact List.getElem?_eq_getElem hjL)
      have := hnone _ hmem
      rw [← e2] at this
      have h1 : y.name = nm := by simpa using hb
      have h2 : st.name = nm := by simpa using hn
      rw [h1, h2] at this
      simp at this
  · have hf : (findL (loA S).2.2 nm).isSome = true := by
      unfold findL
      rw [List.find?_isSome]
      refine ⟨(loA S).2.2[i], List.getElem_mem hiL, ?_⟩
      obtain ⟨y', e1, e2⟩ := mt_name hm hxi
      rw [hs] at e1
      cases e1
      rw [← e2]
      exact hn
    exact Option.isSome_iff_exists.1 hf
theorem mb_none {S : List StP} {nm n : List UInt8} (h0 : (loA S).2.1 = 0) (h : ∀ (j : Nat) (y : StP), S[j]? = some y → (y.name == nm) = false) : mbA S nm n = (0, [], 4) := by
  obtain ⟨hm, hl, _⟩ := lo_mt h0
  have : findL (loA S).2.2 nm = none := findS_no hm (fun j y hy => h j y hy)
  unfold mbA
  rw [if_pos h0, this]
  rfl
/-- A struct's members, one by one. -/
theorem mem_tok {L : List LayP} {S : List StP} (hL : GdL L) (hm : MtL L S) {i : Nat} {x : LayP} (hx : L[i]? = some x) {y : MemP} (hy : y ∈ x.mems) : TOk L L.length y.ty ∧ y.at' + (extT L y.ty).1 ≤ 65536 ∧ 1 ≤ (extT L y.ty).2.1 ∧ (extT L y.ty).2.1 ≤ 4 := by
  have hlo := mt_lok hL hm hx
  obtain ⟨k1, k2, k3, k4⟩ := hlo.m y hy
  obtain ⟨p1, p2, p3⟩ := k1.all
  have e := ext_take (L := L) (k := i) y.ty p3
  have hok : TOk L L.length y.ty := ⟨k1.wf, k1.len, p1, p2, lack_mono (by have := (List.getElem?_eq_some_iff.1 hx).1; omega) y.ty p3⟩
  have hGA : GdA L := by
    have := mt_gdA hL hm L.length
    rwa [List.take_length] at this
  have ha := (al_t hGA y.ty hok.wf hok.ob hok.bad hok.full).1
  refine ⟨hok, ?_, ?_⟩
  · rw [e]
    have := hlo.le
    omega
  · unfold A124 at ha
    omega
set_option maxHeartbeats 8000000 in
theorem c_rMemberX (S : List StP) (a : Option Addr) (c : Nat) (hc : S.length ≤ c) (hS : SzS S) (hSl : S.length ≤ 4503599627370496) (nm n : List UInt8) (w : World) (hI : StIn S a w) :
    Calls Tryz.prog 21 #[.slice a S.length c, .string ⟨nm.toArray⟩, .string ⟨n.toArray⟩] w fun e w' => e = .returned (.tuple #[.int .i64 (mbA S nm n).1, .string ⟨(mbA S nm n).2.1.toArray⟩, .int .i64 (mbA S nm n).2.2]) ∧ Below w.heap.size w w' := by
  have HC := Lib.hid (c_rStructs S a c hc hS hSl w hI)
  obtain ⟨z0, z1, z2, hz⟩ : ∃ (z0 : Int) (z1 : ByteArray) (z2 : Int), ((mbA S nm n).1 : Int) = z0 ∧ (⟨(mbA S nm n).2.1.toArray⟩ : ByteArray) = z1 ∧ ((mbA S nm n).2.2 : Int) = z2 := ⟨_, _, _, rfl, rfl, rfl⟩
  have HZ := Lib.hid hz
  rw [hz.1, hz.2.1, hz.2.2]
  obtain ⟨f0, hf0⟩ : ∃ f0 : Int, ((loA S).1 : Int) = f0 := ⟨_, rfl⟩
  rw [hf0] at HC
  have HSt := Lib.hid (fun w' (hb : Below w.heap.size w w') => hI.next hb)
  obtain ⟨N, hN⟩ : ∃ N, S.length = N := ⟨_, rfl⟩
  have HN := Lib.hid hN
  clear hz hf0
  by_cases h0 : (loA S).2.1 = 0
  · rw [h0] at HC
    have HSz := Lib.hid (fun (t : Ty) (hok : TOk (loA S).2.2 (loA S).2.2.length t) w' (h : Below w.heap.size w w') => c_rsize (loA S).2.2 (lo_gd S) S hS hSl (lo_mt h0).1 t hok.wf hok.len hok.full hok.ob hok.bad a c w' (hI.next h))
    have H0 := Lib.hid h0
    rw [hN] at HC HSz hc ⊢
    have HNl : Hid (N ≤ 4503599627370496) := by rw [← hN]; exact hSl
    clear h0 hN hc hS hSl hI
    go_enter Tryz.func21, Tryz.ntmps21
    go_wp2_with fail
    refine HC.out.mono ?_
    rintro e w1 ⟨rfl, hb⟩
    have HB1 := Lib.hid hb
    clear hb HC
    go_wp2_with fail
    have HA := Lib.hid (HB1.out.alloc HB1.out.size (.cells #[.int .i64 f0, .int .i64 0] 27))
    go_loopg [10] N (fun g v10 wr => ∃ i : Nat, i + g = N ∧ v10 = .int .i64 (i : Int) ∧ Hid (Below w.heap.size w wr ∧ ∀ (j : Nat) (y : StP), j < i → S[j]? = some y → (y.name == nm) = true → mbA S nm n = (0, [], 4)))
    case atStart => exact ⟨0, by omega, rfl, HA.out, fun j y hj => by omega⟩
    case round =>
      obtain ⟨i, hi, rfl, HR⟩ := hrel
      by_cases hlt : i < N
      · have hd : decide ((i : Int) < (N : Int)) = true := by simp; omega
        have hdn : decide (i < N) = true := by simp; omega
        have HM : Hid (N - (i + 1) < gk ∧ i + 1 + (N - (i + 1)) = N) := ⟨by omega, by omega⟩
        obtain ⟨st, hs⟩ : ∃ st, S[i]? = some st := ⟨_, List.getElem?_eq_getElem (by have := HN.out; omega)⟩
        obtain ⟨gb, gof, hgab, hgb, hrow⟩ := HSt.out w (Below.refl _ _) (by have := HN.out; omega)
        obtain ⟨ma, mc, c0, c1, hmm⟩ := hrow i st hs
        have HD := Lib.hid (And.intro c0 (And.intro c1 hgb))
        have eg := HR.out.1.block gb hgb
        replace c0 := (cell_of_blk eg _).trans c0
        replace c1 := (cell_of_blk eg _).trans c1
        clear eg
        have HS1 := Lib.hid (And.intro hs hmm)
        obtain ⟨sn, hsn⟩ : ∃ x, st.name = x := ⟨_, rfl⟩
        obtain ⟨ML, hML⟩ : ∃ x, st.mems.length = x := ⟨_, rfl⟩
        rw [hsn] at c0
        rw [hML] at c1
        have HSn := Lib.hid (And.intro hsn hML)
        have hq0 : (0 : Int) ≤ (i : Int) := by omega
        have hql : (i : Int) < (N : Int) := by omega
        have hwm : IntKind.i64.wrap ((i : Int) + 1) = ((i + 1 : Nat) : Int) := by rw [IntKind.wrap_i64]; have := HNl.out; omega
        have hgbw : gb < wr.heap.size := Nat.lt_of_lt_of_le hgb HR.out.1.size
        have hia : i ≤ N := by omega
        subst hgab
        clear hrow hs hmm hsn hML hi hgb
        cases hne : (sn == nm)
        · have hne2 : (sn != nm) = true := by simp [bne, hne]
          have HNe := Lib.hid hne
          go_wp2_with fail
          go_roundg (N - (i + 1))
          case measure => exact HM.out.1
          case rel =>
            refine ⟨i + 1, HM.out.2, rfl, HR.out.1, fun j y hj hy hyn => ?_⟩
            by_cases e : j = i
            · subst e
              rw [HS1.out.1] at hy
              cases hy
              rw [HSn.out.1, HNe.out] at hyn
              cases hyn
            · exact HR.out.2 j y (by omega) hy hyn
        · have hne2 : (sn != nm) = false := by simp [bne, hne]
          have HNe := Lib.hid hne
          obtain ⟨hix, x, hfx⟩ := at_name H0.out HS1.out.1 (by rw [HSn.out.1]; exact HNe.out)
          obtain ⟨i', st', e, g1, g2, g3, g4, g5, g6, g7⟩ := st_mem (lo_gd S) (lo_mt H0.out).1 hfx
          rw [hix] at g3
          obtain rfl : i = i' := Option.some.inj g3
          rw [HS1.out.1] at g1
          obtain rfl : st = st' := Option.some.inj g1
          have HMb : Hid (mbA S nm n = mbF x.mems n) := by show _ = _; unfold mbA; rw [if_pos H0.out, hfx]
          have HE := Lib.hid (And.intro g4 (And.intro g5 (And.intro g6 g7)))
          have HTk := Lib.hid (fun y hy => mem_tok (lo_gd S) (lo_mt H0.out).1 g2 (y := y) hy)
          clear hix hfx g1 g2 g3 g4 g5 g6 g7
          go_wp2_with fail
          have HP := Lib.hid (And.intro hq0 (And.intro hql (And.intro hwm hia)))
          clear hd hdn c0 c1 hgbw hwm hia hne hne2
          go_loopg [11, 12] ML (fun g v11 v12 wr => ∃ (k A2 : Nat), k + g = ML ∧ v12 = .int .i64 (k : Int) ∧ v11 = .int .i64 (A2 : Int) ∧ Hid (Below w.heap.size w wr ∧ A2 = e k ∧ ∀ (j : Nat) (z : MemP), j < k → x.mems[j]? = some z → (z.name == n) = false))
          case atStart => exact ⟨0, 0, by omega, rfl, rfl, HR.out.1, HE.out.2.2.1.symm, fun j z hj => by omega⟩
          case round =>
            obtain ⟨k, A2, hk, rfl, rfl, HRi⟩ := hrel
            have eg := HRi.out.1.block gb HD.out.2.2
            have c1 := (cell_of_blk eg (gof + i * 2 + 1)).trans HD.out.2.1
            rw [HSn.out.2] at c1
            have hgbw : gb < wr.heap.size := Nat.lt_of_lt_of_le HD.out.2.2 HRi.out.1.size
            clear eg
            by_cases hlt2 : k < ML
            · have hd : decide ((k : Int) < (ML : Int)) = true := by simp; omega
              have hdn : decide (k < ML) = true := by simp; omega
              have HMk : Hid (ML - (k + 1) < gk ∧ k + 1 + (ML - (k + 1)) = ML) := ⟨by omega, by omega⟩
              obtain ⟨y, hy⟩ : ∃ y, x.mems[k]? = some y := ⟨_, List.getElem?_eq_getElem (by have := HE.out.1; have := HSn.out.2; omega)⟩
              obtain ⟨m, hm1, hm2, hm3, hm4, hm5⟩ := HE.out.2.2.2 k y hy
              obtain ⟨t1, t2, t3, t4⟩ := HTk.out y (List.mem_of_getElem? hy)
              obtain ⟨gm, gmo, hma, hgm, hrow⟩ := HS1.out.2.next HRi.out.1 (by have := HSn.out.2; omega)
              obtain ⟨x0, x1⟩ := hrow k m hm1
              rw [hm3] at x0
              rw [hm2] at x1
              have HY := Lib.hid hy
              have hSz := Lib.hid (fun w' h => HSz.out y.ty t1 w' h)
              have hA2 : A2 = e k := HRi.out.2.1
              have hup0 := (up_bd (e k) (extT (loA S).2.2 y.ty).2.1 t3 t4).1
              have hup := Lib.hid (fun w' => c_rup A2 (extT (loA S).2.2 y.ty).2.1 (by omega) t3 t4 w')
              rw [hA2, ← hm4, ← hA2] at hup
              obtain ⟨b0, b1, b2, b3, hbq⟩ : ∃ b0 b1 b2 b3, extT (loA S).2.2 y.ty = (b0, b1, b2, b3) := ⟨_, _, _, _, rfl⟩
              rw [hbq] at hSz hup t2 hm5
              obtain ⟨yc, hyc⟩ : ∃ c, (⟨y.ty.code.toArray⟩ : ByteArray) = c := ⟨_, rfl⟩
              obtain ⟨yn, hyn⟩ : ∃ c, y.name = c := ⟨_, rfl⟩
              rw [hyc] at x1 hSz
              rw [hyn] at x0
              have hw1 := at_small y.at' b0 t2
              have hw2 := at_small64 y.at' b0 t2
              have hwm : IntKind.i64.wrap ((k : Int) + 1) = ((k + 1 : Nat) : Int) := at_small k 1 (by have := HE.out.2.1; have := HSn.out.2; omega)
              obtain ⟨A, hA⟩ : ∃ A, y.at' = A := ⟨_, rfl⟩
              rw [hA] at hw1 hw2 hup hm5
              have HFs := Lib.hid (And.intro hm5 (And.intro hyc (And.intro hyn hA)))
              have hq0 := HP.out.1
              have hql := HP.out.2.1
              have hk0 : (0 : Int) ≤ (k : Int) := by omega
              have hkl : (k : Int) < (ML : Int) := by omega
              have hgmw := hgm
              subst hma
              clear hrow hm1 hm2 hm3 hm4 hm5 t1 t2 t3 t4 hup0 hA2 hbq hyc hyn hA hlt2 hk hy hgm
              go_wp2_with fail
              have HAm := Lib.hid (below_a wr (.cells #[.string ⟨yn.toArray⟩, .string yc] 77))
              have HZm := Lib.hid (heap_alloc_new wr (.cells #[.string ⟨yn.toArray⟩, .string yc] 77))
              refine (hSz.out _ (below_on HRi.out.1 HAm.out HRi.out.1.size)).mono ?_
              rintro e5 w5 ⟨rfl, hb5⟩
              have HB5 := Lib.hid (below_on (below_on HRi.out.1 HAm.out HRi.out.1.size) hb5 (below_on HRi.out.1 HAm.out HRi.out.1.size).size)
              have hz5 := blk_next HZm.out hb5
              have hlz : wr.heap.size < w5.heap.size := (Array.getElem?_eq_some_iff.1 hz5).1
              have y0 : w5.cell? ⟨wr.heap.size, 0, none⟩ = some (.string ⟨yn.toArray⟩) := by rw [Lib.cell_of_heap hz5]; rfl
              have y1 : w5.cell? ⟨wr.heap.size, 1, none⟩ = some (.string yc) := by rw [Lib.cell_of_heap hz5]; rfl
              clear x0 x1 c1 hgbw hb5 hz5 hgmw
              go_wp2_with fail
              refine (hup.out _).mono ?_
              rintro e6 w6 ⟨rfl, rfl⟩
              cases hne3 : (yn == n)
              · have HNn := Lib.hid hne3
                go_wp2_with fail
                go_roundg (ML - (k + 1))
                case measure => exact HMk.out.1
                case rel =>
                  refine ⟨k + 1, A + b0, HMk.out.2, rfl, rfl, HB5.out, HFs.out.1.symm, fun j z hj hz => ?_⟩
                  by_cases e9 : j = k
                  · subst e9
                    rw [HY.out] at hz
                    cases hz
                    rw [HFs.out.2.2.1]
                    exact HNn.out
                  · exact HRi.out.2.2 j z (by omega) hz
              · have hv : mbA S nm n = (y.at', y.ty.code, 0) := HMb.out.trans (mbF_at HY.out (by rw [HFs.out.2.2.1]; exact hne3) HRi.out.2.2)
                obtain rfl : z0 = (A : Int) := by have := HZ.out.1; rw [hv] at this; rw [← HFs.out.2.2.2]; exact this.symm
                obtain rfl : z1 = yc := by have := HZ.out.2.1; rw [hv] at this; rw [← HFs.out.2.1]; exact this.symm
                obtain rfl : z2 = 0 := by have := HZ.out.2.2; rw [hv] at this; exact this.symm
                clear hv
                go_wp2_with fail
                go_region
                all_goals
                  go_wp2_with fail
                  go_ret3
                  exact ⟨rfl, HB5.out.drew⟩
            · have hd : decide ((k : Int) < (ML : Int)) = false := by simp; omega
              have hdn : decide (k < ML) = false := by simp; omega
              have hwm := HP.out.2.2.1
              have hq0 := HP.out.1
              have hql := HP.out.2.1
              have HV : Hid (mbA S nm n = (0, [], 4)) := HMb.out.trans (mbF_no (fun j z hz => HRi.out.2.2 j z (by have := (List.getElem?_eq_some_iff.1 hz).1; have := HE.out.1; have := HSn.out.2; omega) hz))
              go_wp2_with fail
              go_roundg (N - (i + 1))
              case measure => exact HM.out.1
              case rel =>
                exact ⟨i + 1, HM.out.2, rfl, HRi.out.1, fun j y hj hy hyn => HV.out⟩
      · have hd : decide ((i : Int) < (N : Int)) = false := by simp; omega
        have hdn : decide (i < N) = false := by simp; omega
        have hv : mbA S nm n = (0, [], 4) := by
          by_cases hex : ∃ (j : Nat) (y : StP), S[j]? = some y ∧ (y.name == nm) = true
          · obtain ⟨j, y, h1, h2⟩ := hex
            exact HR.out.2 j y (by have := (List.getElem?_eq_some_iff.1 h1).1; have := HN.out; omega) h1 h2
          · exact mb_none H0.out (fun j y hy => by
              cases hb : (y.name == nm) with
              | false => rfl
              | true => exact absurd ⟨j, y, hy, hb⟩ hex)
        obtain rfl : z0 = 0 := by have := HZ.out.1; rw [hv] at this; exact this.symm
        obtain rfl : z1 = ⟨#[]⟩ := by have := HZ.out.2.1; rw [hv] at this; exact this.symm
        obtain rfl : z2 = 4 := by have := HZ.out.2.2; rw [hv] at this; exact this.symm
        clear hv
        go_wp2_with fail
        go_ret3
        exact ⟨rfl, HR.out.1⟩
  · obtain ⟨E, hE⟩ : ∃ E : Int, ((loA S).2.1 : Int) = E := ⟨_, rfl⟩
    have hE0 : (E == 0) = false := by rw [← hE]; simp; exact h0
    have hE1 : (E != 0) = true := by simp [bne, hE0]
    have hv : mbA S nm n = (0, [], (loA S).2.1) := by unfold mbA; rw [if_neg h0]
    obtain rfl : z0 = 0 := by have := HZ.out.1; rw [hv] at this; exact this.symm
    obtain rfl : z1 = ⟨#[]⟩ := by have := HZ.out.2.1; rw [hv] at this; exact this.symm
    obtain rfl : z2 = E := by have := HZ.out.2.2; rw [hv] at this; rw [← hE]; exact this.symm
    rw [hE] at HC
    rw [hN] at HC ⊢
    clear h0 hv hE hN hc hS hSl hI
    go_enter Tryz.func21, Tryz.ntmps21
    go_wp2_with fail
    refine HC.out.mono ?_
    rintro e w1 ⟨rfl, hb⟩
    have HB1 := Lib.hid hb
    clear hb HC
    go_wp2_with fail
    first
      | (go_ret3; exact ⟨rfl, by first | exact HB1.out | exact HB1.out.alloc HB1.out.size _⟩)
      | (go_region; all_goals (go_wp2_with fail; go_ret3; exact ⟨rfl, (HB1.out.alloc HB1.out.size _).drew⟩))
end Go.Proofs.YtacbjhbiaaieoaaGreatDoor
namespace Go.Proofs.YtacbjhbiaaieoaaGreatDoor
set_option linter.unusedVariables false
set_option linter.unusedSimpArgs false
set_option maxRecDepth 100000
open Go.RowKit

theorem pieA_len (S : List StP) (l : List UInt8) : (pieA S l).1.length ≤ 4096 := by
  unfold pieA
  split
  · rename_i h0
    split
    · simp
    · rename_i h4
      have hch : chA S l = 0 := by
        by_cases h1 : chA S l = 0
        · exact h1
        · rw [ch_ne h1] at h0; exact absurd h0 h1
      obtain ⟨h1, h2, h3⟩ := ch_eq hch
      obtain ⟨t, ht1, ht2, ht3⟩ := oja_eq h2
      have htD : tkD l = t := by unfold tkD; rw [ht1]; rfl
      obtain ⟨hok, _⟩ := ox_okT h1 ht1 (by rw [← h3]; exact h0)
      obtain ⟨cn, cn1, cn2⟩ := sc_len (lo_gd S) (lo_mt h1).1 _ t hok
      rw [htD] at h4 ⊢
      show (scT _ _ t 0).length ≤ 4096
      rw [cn1]
      omega
  · simp
set_option maxHeartbeats 16000000 in
theorem c_Sizes (B : Nat) (l nm n : List UInt8) (a : Option Addr) (c : Nat) (S : List StP) (w : World) (hE : Env B w) (hB : B ≤ w.heap.size) (hl : l.length ≤ 9223372036854775807) (hS : SzL S) (hr : S.length * 40 ≤ 140737488351232) (hc : S.length ≤ c) (hI : StL S a w) :
    Calls Tryz.prog 4 #[.string ⟨l.toArray⟩, .slice a S.length c, .string ⟨nm.toArray⟩, .string ⟨n.toArray⟩] w fun e w' => e = .returned (.bool true) ∧ Below w.heap.size w w' := by
  have up : ∀ w', Below w.heap.size w w' → Env B w' ∧ B ≤ w'.heap.size := fun w' h => ⟨hE.next (h.mono hB), Nat.le_trans hB h.size⟩
  have hl52 : S.length ≤ 4503599627370496 := by omega
  obtain ⟨z0, z1, z2, hz⟩ : ∃ z0 z1 z2 : Int, ((szA S l).1 : Int) = z0 ∧ ((szA S l).2.1 : Int) = z1 ∧ ((szA S l).2.2 : Int) = z2 := ⟨_, _, _, rfl, rfl, rfl⟩
  obtain ⟨m0, m1, m2, hm⟩ : ∃ (z0 : Int) (z1 : ByteArray) (z2 : Int), ((mbA S nm n).1 : Int) = z0 ∧ (⟨(mbA S nm n).2.1.toArray⟩ : ByteArray) = z1 ∧ ((mbA S nm n).2.2 : Int) = z2 := ⟨_, _, _, rfl, rfl, rfl⟩
  obtain ⟨ps, p2, hp⟩ : ∃ (zs : List (Nat × List UInt8)) (z2 : Int), (pieA S l).1 = zs ∧ ((pieA S l).2 : Int) = z2 := ⟨_, _, rfl, rfl⟩
  have hpl := pieA_len S l
  rw [hp.1] at hpl
  have H0 := Lib.hid (fun w' (h : Below w.heap.size w w') => c_lent S a c hS hr w' (hI.next h))
  have H1 := Lib.hid (fun w' (h : Below w.heap.size w w') a' c' hI' => c_SizeX B S a' c' hS.in hl52 l w' (up w' h).1 (up w' h).2 hl hI')
  have H2 := Lib.hid (fun w' (h : Below w.heap.size w w') => c_rSizeX S a c hc hS.in hl52 l hl w' (hI.next h).in)
  have H3 := Lib.hid (fun w' (h : Below w.heap.size w w') a' c' hI' => c_ScalarsX B S a' c' hS.in hl52 l w' (up w' h).1 (up w' h).2 hl hI')
  have H4 := Lib.hid (fun w' (h : Below w.heap.size w w') => c_rScalarsX S a c hc hS.in hl52 l hl w' (hI.next h).in)
  have H5 := Lib.hid (fun w' (h : Below w.heap.size w w') a' c' hI' => c_MemberX B S a' c' hS.in hl52 nm n w' (up w' h).1 (up w' h).2 hI')
  have H6 := Lib.hid (fun w' (h : Below w.heap.size w w') => c_rMemberX S a c hc hS.in hl52 nm n w' (hI.next h).in)
  have H7 := Lib.hid (fun w' (h : Below w.heap.size w w') a' c' hI' => c_kept S a' c' a c hS hr w' hI' (hI.next h).in)
  have HW : Hid (∀ w', Below w.heap.size w w' → Calls Tryz.prog 15 #[] w' fun e w'' => e = .returned (.bool true) ∧ Below w'.heap.size w' w'') := fun w' h => c_works B w' (up w' h).1 (up w' h).2
  rw [hz.1, hz.2.1, hz.2.2] at H1 H2
  rw [hm.1, hm.2.1, hm.2.2] at H5 H6
  rw [hp.1, hp.2] at H3 H4
  obtain ⟨N, hN⟩ : ∃ N, S.length = N := ⟨_, rfl⟩
  obtain ⟨K, hK⟩ : ∃ K, ps.length = K := ⟨_, rfl⟩
  have HK := Lib.hid (And.intro hK hpl)
  rw [hK] at H3 H4
  rw [hN] at H0 H1 H2 H3 H4 H5 H6 H7 ⊢
  clear up hE hB hl hS hr hc hI hl52 hz hm hp hpl hN hK
  go_enter Tryz.func4, Tryz.ntmps4
  go_wp2_with fail
  refine (H0.out _ (Below.refl _ _)).mono ?_
  rintro e w1 ⟨⟨a', c', rfl, hI'⟩, hb⟩
  have HB1 := Lib.hid hb
  have HKs := Lib.hid (fun w' (h : Below w1.heap.size w1 w') => hI'.next h)
  clear hb hI'
  go_wp2_with fail
  refine (H1.out _ HB1.out a' c' (HKs.out _ (Below.refl _ _))).mono ?_
  rintro e w2 ⟨rfl, hb⟩
  have HK2 := Lib.hid hb
  have HB2 := Lib.hid (below_on HB1.out hb HB1.out.size)
  clear hb
  go_wp2_with fail
  refine (H2.out _ HB2.out).mono ?_
  rintro e w3 ⟨rfl, hb⟩
  have HK3 := Lib.hid (below_on HK2.out hb HK2.out.size)
  have HB3 := Lib.hid (below_on HB2.out hb HB2.out.size)
  clear hb
  go_wp2_with fail
  refine (H3.out _ HB3.out a' c' (HKs.out _ HK3.out)).mono ?_
  rintro e w4 ⟨⟨pa, pc, rfl, hP⟩, hb⟩
  have HK4 := Lib.hid (below_on HK3.out hb HK3.out.size)
  have HB4 := Lib.hid (below_on HB3.out hb HB3.out.size)
  have HP := Lib.hid (fun w' (h : Below w4.heap.size w4 w') => hP.next h)
  clear hb hP
  go_wp2_with fail
  refine (H4.out _ HB4.out).mono ?_
  rintro e w5 ⟨⟨qa, qc, rfl, hQ⟩, hb⟩
  have HK5 := Lib.hid (below_on HK4.out hb HK4.out.size)
  have HB5 := Lib.hid (below_on HB4.out hb HB4.out.size)
  have HP5 := Lib.hid hb
  have HQ := Lib.hid (fun w' (h : Below w5.heap.size w5 w') => hQ.next h)
  clear hb hQ
  go_wp2_with fail
  go_loopg [80] K (fun g v80 wr => ∃ q : Nat, q + g = K ∧ v80 = .int .i64 (q : Int) ∧ Hid (Below w5.heap.size w5 wr))
  case atStart => exact ⟨0, by omega, rfl, Below.refl _ _⟩
  case round =>
    obtain ⟨q, hq, rfl, HR⟩ := hrel
    have HBr := Lib.hid (below_on HB5.out HR.out HB5.out.size)
    have HKr := Lib.hid (below_on HK5.out HR.out HK5.out.size)
    by_cases hlt : q < K
    · have hd : decide ((q : Int) < (K : Int)) = true := by simp; omega
      have hdn : decide (q < K) = true := by simp; omega
      obtain ⟨p, hp⟩ : ∃ p, ps[q]? = some p := ⟨_, List.getElem?_eq_getElem (by have := HK.out.1; omega)⟩
      obtain ⟨pg, hpa, hpg, hpr⟩ := HP.out wr (below_on HP5.out HR.out HP5.out.size) (by have := HK.out.1; omega)
      obtain ⟨qg, hqa, hqg, hqr⟩ := HQ.out wr HR.out (by have := HK.out.1; omega)
      obtain ⟨x0, x1⟩ := hpr q p hp
      obtain ⟨y0, y1⟩ := hqr q p hp
      obtain ⟨p1, pt⟩ := p
      simp only at x0 x1 y0 y1
      obtain ⟨pI, hpI⟩ : ∃ z : Int, (p1 : Int) = z := ⟨_, rfl⟩
      obtain ⟨pS, hpS⟩ : ∃ z, (⟨pt.toArray⟩ : ByteArray) = z := ⟨_, rfl⟩
      rw [hpI] at x0 y0
      rw [hpS] at x1 y1
      have hq0 : (0 : Int) ≤ (q : Int) := by omega
      have hql : (q : Int) < (K : Int) := by omega
      have hwm : IntKind.i64.wrap ((q : Int) + 1) = ((q + 1 : Nat) : Int) := at_small q 1 (by have := HK.out.1; have := HK.out.2; omega)
      have HM : Hid (K - (q + 1) < gk ∧ q + 1 + (K - (q + 1)) = K) := ⟨by omega, by omega⟩
      subst hpa hqa
      clear hpr hqr hp hpI hpS hlt hq
      go_wp2_with fail
      go_quiet (fail)
      go_wp2_with fail
      go_roundg (K - (q + 1))
      case measure => exact HM.out.1
      case rel => exact ⟨q + 1, HM.out.2, rfl, below_drewN HR.out _⟩
    · have hd : decide ((q : Int) < (K : Int)) = false := by simp; omega
      have hdn : decide (q < K) = false := by simp; omega
      clear hlt hq
      go_wp2_with fail
      refine (H5.out _ HBr.out a' c' (HKs.out _ HKr.out)).mono ?_
      rintro e w6 ⟨rfl, hb⟩
      have HK6 := Lib.hid (below_on HKr.out hb HKr.out.size)
      have HB6 := Lib.hid (below_on HBr.out hb HBr.out.size)
      clear hb
      go_wp2_with fail
      refine (H6.out _ HB6.out).mono ?_
      rintro e w7 ⟨rfl, hb⟩
      have HK7 := Lib.hid (below_on HK6.out hb HK6.out.size)
      have HB7 := Lib.hid (below_on HB6.out hb HB6.out.size)
      clear hb
      go_wp2_with fail
      refine (H7.out _ HB7.out _ _ (HKs.out _ HK7.out)).mono ?_
      rintro e w8 ⟨rfl, hb⟩
      have HB8 := Lib.hid (below_on HB7.out hb HB7.out.size)
      clear hb
      go_wp2_with fail
      refine (HW.out _ HB8.out).mono ?_
      rintro e w9 ⟨rfl, hb⟩
      have HB9 := Lib.hid (below_on HB8.out hb HB8.out.size)
      clear hb
      go_wp2_with fail
      go_ret
      exact ⟨rfl, HB9.out⟩
end Go.Proofs.YtacbjhbiaaieoaaGreatDoor
namespace Go.Proofs.YtacbjhbiaaieoaaGreatDoor.typesSizes
set_option linter.unusedVariables false
set_option linter.unusedSimpArgs false
open Go.ChangeShapes Go.WideShapes Go.ChangeAt Go.WideElems Go.RowKit
open Go.ChangeMaps (open_string shut_string)

/-! ### The row's step -/
theorem door_met (os : Os) (args : Array Value) : laidMetH Tryz.prog Rows.typesSizesRow.laid ((World.laidAll Tryz.prog os Rows.typesSizesRow.laid).forCall (fun _ _ => 0) ⟨#[], args, []⟩).memory := by
  rw [MakeChecks.laidMetH_plain _ _ _ (by kernel_rfl)]
  exact laidMet_laidAll _ (by kernel_rfl) (by kernel_rfl)
abbrev wArgs : Array Value := #[.string ByteArray.empty, .slice none 0 0, .string ByteArray.empty, .string ByteArray.empty]
theorem reads (os : Os) {H : Type} (enc : TypeId × Value → H) : ∃ places, DataW.whole enc Tryz.prog ((World.laidAll Tryz.prog os Rows.typesSizesRow.laid).forCall (fun _ _ => 0) ⟨#[], wArgs, []⟩).memory Tryz.f4.params.toList Rows.typesSizesSpec.vars false wArgs.toList 8 = some ([.lit (.string []), .nil, .lit (.string []), .lit (.string [])], [], places) :=
  ⟨[], by kernel_rfl⟩
set_option maxRecDepth 100000 in
theorem lifted (os : Os) (started : os.Started) (H : Type) (enc : TypeId × Value → H) (F : Stop.Interp) :
    ReturnsInHanded {} Tryz.checked os 4 .any ((OpenSpec.ofChange Rows.typesSizesSpec).preRow enc Tryz.prog Tryz.f4 Rows.typesSizesRow.domain false Rows.typesSizesRow.laid) (((OpenSpec.ofChange Rows.typesSizesSpec).at F).post enc Tryz.prog Tryz.f4 false true false false) := by
  obtain ⟨places, hx⟩ := reads os enc
  have hok : Input.okWideB Tryz.prog ((World.laidAll Tryz.prog os Rows.typesSizesRow.laid).forCall (fun _ _ => 0) ⟨#[], wArgs, []⟩) 4 ⟨#[], wArgs, []⟩ = true := by kernel_rfl
  refine returnsInHanded_of_row (C := Tryz.checked) (s := OpenSpec.ofChange Rows.typesSizesSpec) own started (by kernel_rfl) Tryz.func4
    ⟨World.laidAll Tryz.prog os Rows.typesSizesRow.laid, fun _ _ => 0, ⟨#[], wArgs, []⟩, World.laidAll_os _ _ _, World.shaped_of_ZipB (by kernel_rfl) (by kernel_rfl), (Input.okWide_of_okWideB (base := 0) hok).1, (Input.okWide_of_okWideB hok).2,
      OpenSpec.preRow_of_cond 8 hx (by kernel_rfl) (fun k hk => by cases hk) (by kernel_rfl) (door_met os _), by
        simp only [Assume.holds]
        exact ⟨by simp, by simp, fun _ => Modest.zero, by simp, by simp⟩⟩ ?_
  intro W base args ds gs before hval0 hW _ hcond hreach0 hL hsh _
  have hreach : (DataW.weightsEach Tryz.prog (Tryz.f4.params.toList ++ Rows.typesSizesSpec.plain.varTypes Tryz.prog) (ds ++ gs)).all (· ≤ reachBytes) = true := hreach0
  clear hreach0
  have hval : ∀ (j : Nat) t v, Tryz.f4.params[j]? = some t → args[j]? = some v → Value.okWide Tryz.prog W .any base t v := hval0
  have hW' := hW
  obtain ⟨p, q, hA0, hV, rfl, hfz, hnd⟩ := hW
  have hA : DataW.TrodAll enc Tryz.prog W 0 (fun _ => true) true Tryz.f4.params.toList args.toList ds p := hA0
  rw [Tryz.params4] at hA hval hreach
  obtain ⟨v0, vs0, d0, ds0, p0, q0, hargs, rfl, rfl, h0, r0⟩ := trodAll_cons hA
  obtain ⟨v1, vs1, d1, ds1, p1, q1, rfl, rfl, rfl, h1, r1⟩ := trodAll_cons r0
  obtain ⟨v2, vs2, d2, ds2, p2, q2, rfl, rfl, rfl, h2, r2⟩ := trodAll_cons r1
  obtain ⟨v3, vs3, d3, ds3, p3, q3, rfl, rfl, rfl, h3, r3⟩ := trodAll_cons r2
  obtain ⟨rfl, rfl, rfl⟩ := trodAll_nil r3
  obtain rfl : args = #[v0, v1, v2, v3] := by cases args; simp_all
  obtain ⟨rfl, rfl⟩ := trodVars_none hV
  obtain ⟨s0, rfl, rfl, rfl, w0⟩ := open_string Tryz.underlying22 (hval 0 22 v0 rfl rfl) h0
  obtain ⟨a1, len1, cap1, rfl⟩ := okWide_slice Tryz.underlying23 (hval 1 23 v1 rfl rfl)
  obtain ⟨s2, rfl, rfl, rfl, w2⟩ := open_string Tryz.underlying9 (hval 2 9 v2 rfl rfl) h2
  obtain ⟨s3, rfl, rfl, rfl, w3⟩ := open_string Tryz.underlying9 (hval 3 9 v3 rfl rfl) h3
  have k1 := h1
  have lt1 : ∀ x ∈ p1, x.block < W.heap.size := by obtain ⟨m, hm⟩ := k1; exact DataW.trod_lt m _ _ _ hm
  obtain ⟨S, hS1, hS2, hS3, hS4, hS5⟩ : ∃ S : List StP, S.length = len1 ∧ StL S a1 W ∧ SzL S ∧ len1 * 40 ≤ 140737488351232 ∧ len1 ≤ cap1 := by
    obtain ⟨fuel, hf⟩ := h1
    exact open_structs hf hreach (j := 1) rfl rfl
  clear hA0 hval0
  rw [MakeChecks.laidMetH_plain _ _ _ (by kernel_rfl)] at hL
  have hg := env_of hL hsh
  obtain ⟨l, rfl⟩ : ∃ l : List UInt8, s0 = ⟨l.toArray⟩ := ⟨s0.data.toList, by simp⟩
  have hm : l.length ≤ 9223372036854775807 := by
    have e : (⟨l.toArray⟩ : ByteArray).size = l.length := by show l.toArray.size = _; simp
    rw [← e]
    unfold maxLen at w0
    exact w0
  obtain ⟨nm, rfl⟩ : ∃ l : List UInt8, s2 = ⟨l.toArray⟩ := ⟨s2.data.toList, by simp⟩
  obtain ⟨n, rfl⟩ : ∃ l : List UInt8, s3 = ⟨l.toArray⟩ := ⟨s3.data.toList, by simp⟩
  subst hS1
  refine (c_Sizes W.heap.size l nm n a1 cap1 S W hg (Nat.le_refl _) hm hS3 hS4 hS5 hS2).mono fun e W' ⟨he, bel⟩ => ?_
  subst he
  exact ⟨_, rfl, _, _, _, [], _, [], hW', trodAll_mk1 (shut_bool Tryz.underlying4 _), (trodAll_cons_mk (shut_string Tryz.underlying22 w0) (trodAll_cons_mk (Below.trod laidOut (by kernel_rfl) (of_decide_eq_true (by kernel_rfl)) k1 bel lt1) (trodAll_cons_mk (shut_string Tryz.underlying9 w2) (trodAll_cons_mk (shut_string Tryz.underlying9 w3) trodAll_mk0)))), rfl, bel.frame _, fun h => by cases h⟩
theorem row_holds : Rows.TypesSizesSaid :=
  OpenClaim.holds_of_cond 4 Tryz.f4 rfl rfl rfl rfl rfl rfl rfl ⟨rfl, rfl, rfl, rfl, rfl⟩ rfl rfl rfl rfl rfl (by kernel_rfl) Tryz.func4 (by kernel_rfl)
    (of_decide_eq_true (by kernel_rfl)) (by unfold Func.isWrapper; first | (rw [if_pos (by decide +kernel)]; kernel_rfl) | (rw [if_neg (by decide +kernel)]; exact ⟨rfl, rfl⟩))
    (fun os started H enc _ F => by rw [OpenClaim.pre_eq_preRow]; exact lifted os started H enc F)
/-- The statement. -/
theorem proved : Rows.TypesSizesCardSaid :=
  Claim7.holds_tied_plain_at .later [] _ _ _ _
    row_holds (fun _ h => by cases h) (by kernel_rfl) (fun _ h => by cases h) typesSizes_row_tie rfl ⟨rfl, rfl⟩ (by kernel_rfl) rfl
    (fun f fn hf hfn => by
      obtain rfl : f = 4 := (Option.some.inj ((show Tryz.prog.funcNamed Rows.typesSizesRow.func = some 4 by kernel_rfl).symm.trans hf)).symm
      obtain rfl : fn = Tryz.f4 := (Option.some.inj (Tryz.func4.symm.trans hfn)).symm
      exact ⟨by kernel_rfl, fun j t ht => by
        rw [Tryz.params4] at ht
        have hm : t ∈ [22, 23, 9, 9] := by simpa using Array.mem_of_getElem? ht
        have hall : ([22, 23, 9, 9].all fun u => !Tryz.prog.wantsStandIn u) = true := by kernel_rfl
        exact (show Tryz.prog.wantsStandIn t = false by simpa using List.all_eq_true.1 hall t hm)⟩)
    (by kernel_rfl)
#print axioms proved
end Go.Proofs.YtacbjhbiaaieoaaGreatDoor.typesSizes
