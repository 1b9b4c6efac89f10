/-
  The contracts of Clone and SortFunc at banks, in the code.
-/
import Derived.Test.YtbfimedgichiiaaMemChg
namespace Go.Proofs.Ytbfimedgichiiaa
set_option linter.unusedVariables false
set_option linter.unusedSimpArgs false
set_option maxRecDepth 100000
open Go.ChangeShapes Go.WideShapes Go.ChangeAt Go.RowKit

/-- The cells of the banks stand in a row. -/
def BkRow (w : World) (g nb : Nat) (B : Nat → List Value) : Prop := ∀ i c, i < nb → c < 7 → w.cell? ⟨g, i * 7 + c, none⟩ = (B i)[c]?
theorem isAggBk (w : World) : (isAgg 69).run Try.prog w = .ok true w := Try.isAgg69 w
theorem sizeBk (w : World) : (Go.sizeOf 69).run Try.prog w = .ok 7 w := Try.sizeOf69 w
theorem row_of {w : World} {g nb : Nat} {B : Nat → List Value} (hB : ∀ i, (B i).length = 7) (h : BkRow w g nb B) : ∀ (j : Nat) (u : Value), (fl B nb)[j]? = some u → w.cell? ((⟨g, 0, none⟩ : Addr).add j) = some u := by
  intro j u hu
  have hj : j < nb * 7 := by
    have := (List.getElem?_eq_some_iff.1 hu).1
    rwa [fl_len B 7 hB] at this
  have hadd : (⟨g, 0, none⟩ : Addr).add j = ⟨g, j, none⟩ := by unfold Addr.add; split <;> simp_all
  have e : j = j / 7 * 7 + j % 7 := by omega
  rw [hadd, e, h (j / 7) (j % 7) (by omega) (Nat.mod_lt _ (by decide)), ← fl_get B 7 hB (j % 7) (Nat.mod_lt _ (by decide)) nb (j / 7) (by omega), ← e]
  exact hu
theorem fl_one {B : Nat → List Value} (h1 : ∀ i, ∀ v ∈ B i, v.oneCell' = true) (k : Nat) : ∀ u ∈ fl B k, u.oneCell' = true := by
  intro u hu
  unfold fl at hu
  obtain ⟨i, _, hi⟩ := List.mem_flatMap.1 hu
  exact h1 i u hi
set_option maxHeartbeats 1000000 in
theorem c_CloneBanks (g n cap : Nat) (B : Nat → List Value) (w : World) (hn : n ≤ 16) (hB : ∀ i, (B i).length = 7) (h1 : ∀ i, ∀ v ∈ B i, v.oneCell' = true) (hc : BkRow w g n B) :
    Calls Try.prog 44 #[.slice (some ⟨g, 0, none⟩) n cap] w fun e w' => ∃ g' cap', e = .returned (.slice (some ⟨g', 0, none⟩) n cap') ∧ w.heap.size ≤ g' ∧ g' < w'.heap.size ∧ (∀ k, w'.frozen? ⟨g', k, none⟩ = false) ∧ BkRow w' g' n B ∧ n ≤ cap' ∧ Below w.heap.size w w' := by
  obtain ⟨i0, hi, hz0, hz1, hz2⟩ := info_parts infoBk
  have HC := Lib.hid hc
  have HN := Lib.hid hn
  have HB7 := Lib.hid hB
  have HSrc : Hid (∀ o, ∀ (j : Nat) (u : Value), (fl B n)[j]? = some u → (w.alloc o).cell? ((⟨g, 0, none⟩ : Addr).add j) = some u) := fun o j u hu => by
    have h := row_of hB hc j u hu
    exact ((below_new w o).cell (cell_lt h)).trans h
  have HOne := Lib.hid (fl_one h1 n)
  have HLen : Hid ((fl B n).length = n * 7) := fl_len B 7 hB n
  have hnil : ∀ w' : World, (binOp .eql 64 (.slice (some ⟨g, 0, none⟩) n cap) (.slice none 0 0)).run Try.prog w' = .ok (.bool false) w' := fun w' => Go.run_eql_slice_nil w' 64 69 _ _ _ Try.underlying64
  clear hc hB h1
  go_enter Try.func44, Try.ntmps44
  go_wp2_with (at_builtin; refine wpList_append_own _ rfl _ _ 64 rfl w.heap.size 69 i0 _ 7 88 Try.underlying64 hi hz0 hz1 hz2 rfl (by decide) _ 0 [] rfl (World.ownsRow_made w #[] 0 (Nat.le_refl _) (by decide) rfl) ⟨g, 0, none⟩ n cap (fl B n) rfl HLen.out (HSrc.out _) HOne.out (by unfold maxLen; omega) (by omega) (by simp) ?_)
  intro v' w1 hown hgrow hnn
  have hown' : w1.ownsRow w.heap.size 69 7 v' n (fl B n) := by simpa using hown
  have HB : Hid (Below w.heap.size w w1) := (below_new w _).grown hgrow (by simp) (fun k hk => by simp [Value.ownBlock] at hk; omega)
  obtain ⟨g', cap', rfl, hg, hl, hf, hr, hle⟩ : ∃ g' cap', v' = .slice (some ⟨g', 0, none⟩) n cap' ∧ w.heap.size ≤ g' ∧ g' < w1.heap.size ∧ (∀ k, w1.frozen? ⟨g', k, none⟩ = false) ∧ BkRow w1 g' n B ∧ n ≤ cap' := by
    rcases hown'.2 with ⟨h1, _⟩ | ⟨g', cap', cur, rfl, hg, hh, hle, _⟩
    · exact absurd h1 hnn
    · refine ⟨g', cap', rfl, hg, (Array.getElem?_eq_some_iff.1 hh).1, fun k => hown'.frozenAt k, fun i c hi hc => ?_, hle⟩
      rw [hown'.cellAt (i * 7 + c) (by omega)]
      exact fl_get B 7 HB7.out c hc n i hi
  have HF := Lib.hid (And.intro hf hr)
  clear hown hgrow hnn hown' hf hr
  go_wp2
  go_ret
  exact ⟨_, _, rfl, hg, hl, HF.out.1, HF.out.2, hle, HB.out⟩
/-! ### The order -/
open Go.Sort in
theorem swoFr (F : Nat → Int) : SWO (ltOf fun x y : Nat => Lib.compareInt (F x) (F y)) := by
  have e : ∀ x y, ltOf (fun x y : Nat => Lib.compareInt (F x) (F y)) x y = decide (F x < F y) := by
    intro x y
    unfold ltOf Lib.compareInt
    by_cases h1 : F x < F y
    · simp [h1]
    · by_cases h2 : F x > F y <;> simp [h1, h2]
  exact ⟨fun x => by rw [e]; simp, fun x y z h1 h2 => by rw [e] at *; simp at *; omega, fun x y z h1 h2 => by rw [e] at *; simp at *; omega⟩
set_option maxHeartbeats 1000000 in
theorem c_cmp (r s : Rg) (a b c d e a' b' c' d' e' : Nat) (W : World) : Calls Try.prog 46 #[.agg (bkC r a b c d e).toArray, .agg (bkC s a' b' c' d' e').toArray] W fun e w' => e = .returned (.int .i64 (Lib.compareInt r.fr s.fr)) ∧ ∃ q os', w' = Go.Sort.grow (W.drewN q) os' := by
  have hcon : ∀ W', Calls Try.prog 47 #[.int .i64 r.fr, .int .i64 s.fr] W' fun e w' => e = .returned (.int .i64 (Lib.compareInt r.fr s.fr)) ∧ w' = W' := fun W' => Any.cmp_Compare_int Try.lays122 r.fr s.fr W'
  generalize Lib.compareInt r.fr s.fr = x at hcon ⊢
  unfold bkC
  go_enter Try.func46, Try.ntmps46
  go_wp2_with (go_at_call 47; refine (hcon _).mono ?_; rintro e w' ⟨rfl, rfl⟩)
  go_ret
  exact ⟨rfl, 0, _, by rw [Go.Sort.alloc_eq_grow, Go.Sort.alloc_eq_grow, Go.Sort.grow_grow]; rfl⟩
/-- A permutation of the first n numbers. -/
def Prm (n : Nat) (d : Nat → Nat) : Prop := (∀ i, i < n → d i < n) ∧ (∀ i j, i < n → j < n → d i = d j → i = j) ∧ ∀ j, j < n → ∃ i, i < n ∧ d i = j
theorem prm_of {n : Nat} {d : Array Nat} (hs : d.size = n) (hp : d.toList.Perm (List.range n)) : Prm n (fun i => d[i]!) := by
  have hlen : d.toList.length = n := by simp [hs]
  have hat : ∀ i (h : i < n), d[i]! = d.toList[i]'(by omega) := fun i h => by
    rw [getElem!_pos d i (by omega)]
    simp
  refine ⟨fun i hi => ?_, fun i j hi hj e => ?_, fun j hj => ?_⟩
  · have hm : d.toList[i]'(by omega) ∈ List.range n := hp.mem_iff.1 (List.getElem_mem _)
    show d[i]! < n
    rw [hat i hi]
    simpa using hm
  · have hn : d.toList.Nodup := hp.nodup_iff.2 List.nodup_range
    have e' : d.toList[i]'(by omega) = d.toList[j]'(by omega) := by
      rw [← hat i hi, ← hat j hj]; exact e
    exact (List.getElem_inj hn).1 e'
  · have hm : j ∈ d.toList := hp.mem_iff.2 (by simpa using hj)
    obtain ⟨i, hi, h⟩ := List.mem_iff_getElem.1 hm
    exact ⟨i, by omega, by show d[i]! = j; rw [hat i (by omega)]; exact h⟩
theorem sort_fr {enc : Nat → List Value} {k sb m : Nat} {d : Array Nat} {os : Array Obj} {w : World} (hsb : sb < w.heap.size) : Fr (fun b => b = sb) w (Go.Proofs.sortWorldK enc k w sb 0 m d os) := by
  have hsz : (Go.Sort.putRowK enc k (Go.Sort.ahead w m) sb 0 d).heap.size = w.heap.size := by
    show (w.heap.modify _ _).size = _
    simp
  refine ⟨rfl, rfl, rfl, ?_, fun b hb hn => ?_⟩
  · show w.heap.size ≤ (Go.Sort.grow _ _).heap.size
    rw [Go.Sort.size_grow, hsz]
    omega
  · show (Go.Sort.grow _ _).heap[b]? = _
    rw [Go.Sort.heap_grow_old _ _ (by rw [hsz]; exact hb)]
    show (w.heap.modify _ _)[b]? = _
    rw [Array.getElem?_modify, if_neg (fun e => hn e.symm)]
open Go.Sort in
set_option maxHeartbeats 1000000 in
theorem c_SortBanks (sb nb cap : Nat) (R : Nat → Rg) (np gn cn gt ct : Nat → Nat) (w : World) (hnb : 0 < nb) (hn : nb ≤ 16) (hsb : sb < w.heap.size) (hf : ∀ k, w.frozen? ⟨sb, k, none⟩ = false) (hc : BkRow w sb nb (fun i => bkC (R i) (np i) (gn i) (cn i) (gt i) (ct i))) :
    Calls Try.prog 45 #[.slice (some ⟨sb, 0, none⟩) nb cap, .func (.func 46) #[] #[]] w fun e w' => e = .returned (.tuple #[]) ∧
      ∃ d : Nat → Nat, Prm nb d ∧ (∀ i j, i < j → j < nb → (R (d i)).fr ≤ (R (d j)).fr) ∧ BkRow w' sb nb (fun i => bkC (R (d i)) (np (d i)) (gn (d i)) (cn (d i)) (gt (d i)) (ct (d i))) ∧ Fr (fun b => b = sb) w w' := by
  let enc : Nat → List Value := fun i => bkC (R i) (np i) (gn i) (cn i) (gt i) (ct i)
  have hk : ∀ x, (enc x).length = 7 := fun x => rfl
  have h1 : ∀ x, ∀ v ∈ enc x, v.oneCell' = true := fun x => bkC_one _ _ _ _ _ _
  have hsz : (Array.range nb).size = nb := by simp
  have hH : HoldsK enc 7 w sb 0 (Array.range nb) := by
    intro t ht
    rw [size_flatK, hsz] at ht
    rw [get_flatK enc 7 _ t (by rw [hsz]; exact ht), Nat.zero_add]
    refine ⟨?_, hf t⟩
    have hb : t / 7 < nb := by omega
    have hd : (Array.range nb)[t / 7]! = t / 7 := by rw [getElem!_pos (Array.range nb) (t / 7) (by rw [hsz]; exact hb)]; simp
    have e : t = t / 7 * 7 + t % 7 := by omega
    have hcc := hc (t / 7) (t % 7) hb (Nat.mod_lt _ (by decide))
    rw [← e] at hcc
    rw [hcc, hd]
    show (enc (t / 7))[t % 7]? = some ((enc (t / 7))[t % 7]!)
    have hl : t % 7 < (enc (t / 7)).length := by rw [hk]; exact Nat.mod_lt _ (by decide)
    rw [getElem!_pos (enc (t / 7)) (t % 7) hl, List.getElem?_eq_getElem hl]
  have eg : ∀ args w, (callFunc 46 args).run Try.prog w = .ok (.enter 46 args) w := enters_of Try.func46 (by kernel_rfl) rfl
  have hcmp : CmpLays Try.prog 46 #[] enc 7 (fun x y => Lib.compareInt (R x).fr (R y).fr) sb 0 (Array.range nb).size w := fun m os dk _ x y => c_cmp _ _ _ _ _ _ _ _ _ _ _ _ _
  have h := AnyQ.slices_SortFunc Try.laysSlF06_f45 7 isAggBk sizeBk enc hk h1 (fun x y => Lib.compareInt (R x).fr (R y).fr) (swoFr fun i => (R i).fr) 46 #[] sb 0 cap (Array.range nb) w eg hcmp hH hsb (by rw [hsz]; omega)
  rw [hsz] at h
  refine Calls.mono h ?_
  rintro e w' ⟨rfl, d', n, os, hp, hs, rfl⟩
  obtain ⟨hp1, _, hp3⟩ := hp
  rw [hsz] at hp1
  have hx : (d'.extract 0 nb) = d' := by rw [← hp1]; simp
  have hy : ((Array.range nb).extract 0 nb) = Array.range nb := by
    have := hsz
    apply Array.ext' ; simp
  rw [hx, hy] at hp3
  have hprm := prm_of hp1 (by simpa using hp3)
  have hH' : HoldsK enc 7 (sortWorldK enc 7 w sb 0 n d' os) sb 0 d' := holdsK_sortWorldK_c enc 7 w sb 0 (Array.range nb) d' n os hH hsb (by rw [hp1, hsz])
  refine ⟨rfl, fun i => d'[i]!, hprm, fun i j hij hj => ?_, fun i c hi hc => ?_, sort_fr hsb⟩
  · have := hs i j (Nat.zero_le _) hij hj
    unfold ltOf Lib.compareInt at this
    simp at this
    show (R d'[i]!).fr ≤ (R d'[j]!).fr
    split at this
    · simp at this
    · omega
  · have := (hH'.cell (i := i) (c := c) (by rw [hp1]; exact hi) hc).1
    rw [Nat.zero_add] at this
    rw [this]
    have hl : c < (enc d'[i]!).length := by rw [hk]; exact hc
    show some ((enc d'[i]!)[c]!) = (enc d'[i]!)[c]?
    rw [getElem!_pos (enc d'[i]!) c hl, List.getElem?_eq_getElem hl]
end Go.Proofs.Ytbfimedgichiiaa
