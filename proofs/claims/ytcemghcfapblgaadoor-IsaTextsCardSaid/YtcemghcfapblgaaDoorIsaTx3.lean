/-
  The contracts of cut and number, in the document's answers: a text cut at blanks; the number that digits are.
-/
import Derived.Test.YtcemghcfapblgaaDoorIsaTx1
import Derived.Laws.AppendOwn
import Derived.OwnWalk
import Derived.WalkSmall
namespace Go.Proofs.YtcemghcfapblgaaDoor
set_option linter.unusedVariables false
set_option linter.unusedSimpArgs false
open Go.ChangeShapes Go.WideShapes Go.ChangeAt Go.RowKit

/-- What is cut off already, and what is read of the next part. -/
def spF (l : List UInt8) : List (List UInt8) × List UInt8 := l.foldl (fun p c => if c = 32 then (p.1 ++ [p.2], []) else (p.1, p.2 ++ [c])) ([], [])
theorem spF_snoc (l : List UInt8) (c : UInt8) : spF (l ++ [c]) = if c = 32 then ((spF l).1 ++ [(spF l).2], []) else ((spF l).1, (spF l).2 ++ [c]) := by
  unfold spF
  rw [List.foldl_append]
  rfl
def cutL (l : List UInt8) : List (List UInt8) := (spF l).1 ++ [(spF l).2]
theorem spF_suffix : ∀ (n : Nat) (l : List UInt8), l.length = n → ∃ p, l = p ++ (spF l).2
  | 0, l, h => ⟨[], by rw [List.length_eq_zero_iff.1 h]; rfl⟩
  | n + 1, l, h => by
    have hne : l ≠ [] := by rintro rfl; simp at h
    have e : l = l.dropLast ++ [l.getLast hne] := (List.dropLast_concat_getLast hne).symm
    obtain ⟨p, hp⟩ := spF_suffix n l.dropLast (by rw [List.length_dropLast]; omega)
    rw [e, spF_snoc]
    split
    · exact ⟨_, (List.append_nil _).symm⟩
    · refine ⟨p, ?_⟩
      show _ = p ++ ((spF l.dropLast).2 ++ _)
      rw [← List.append_assoc, ← hp]
theorem spF_len (l : List UInt8) : (spF l).1.length ≤ l.length := by
  have : ∀ (n : Nat) (l : List UInt8), l.length = n → (spF l).1.length ≤ l.length := by
    intro n
    induction n with
    | zero => intro l h; rw [List.length_eq_zero_iff.1 h]; simp [spF]
    | succ n ih =>
      intro l h
      have hne : l ≠ [] := by rintro rfl; simp at h
      have e : l = l.dropLast ++ [l.getLast hne] := (List.dropLast_concat_getLast hne).symm
      have := ih l.dropLast (by rw [List.length_dropLast]; omega)
      rw [e, spF_snoc]
      split
      · simp at this ⊢; omega
      · simp at this ⊢; omega
  exact this _ l rfl
theorem byte_at (l : List UInt8) (k : Nat) (h : k < (ByteArray.mk l.toArray).size) : (((ByteArray.mk l.toArray)[k]'h).toNat : Int) = ((l[k]?.getD 0).toNat : Int) := by
  have h' : k < l.length := h
  rw [List.getElem?_eq_getElem h']
  simp [ByteArray.getElem_eq_getElem_data]
theorem infoS : (Tryd.prog.info? 9).map (fun i => (i.zero, i.size, i.bytes)) = some (some (.string ByteArray.empty), 1, 16) := by kernel_rfl
def strs (ts : List (List UInt8)) : List Value := ts.map fun t => Value.string ⟨t.toArray⟩
/-- What holds of a cut at a round's head: i letters read. -/
def CutAt (l : List UInt8) (w0 : World) (i : Nat) (v : Value) (from_ : Nat) (wr : World) : Prop :=
  from_ + (spF (l.take i)).2.length = i ∧ wr.ownsRow w0.heap.size 9 1 v (spF (l.take i)).1.length (strs (spF (l.take i)).1) ∧ Below w0.heap.size w0 wr
theorem cut_piece {l : List UInt8} {k fr : Nat} (hk : k ≤ l.length) (h : fr + (spF (l.take k)).2.length = k) : (ByteArray.mk l.toArray).extract fr k = ⟨(spF (l.take k)).2.toArray⟩ := by
  obtain ⟨p, hp⟩ := spF_suffix _ (l.take k) rfl
  have hlen := congrArg List.length hp
  rw [List.length_append, List.length_take, Nat.min_eq_left hk] at hlen
  have hpf : p.length = fr := by omega
  apply ByteArray.ext
  rw [ByteArray.data_extract]
  apply Array.toList_inj.1
  have e : (spF (l.take k)).2 = (l.take k).drop fr := by
    rw [hp, ← hpf, List.drop_left]
    rw [← hp]
  rw [e]
  simp [Array.toList_extract, List.extract_eq_take_drop, List.drop_take]
theorem take_one (l : List UInt8) (k : Nat) (h : k < l.length) : l.take (k + 1) = l.take k ++ [l[k]?.getD 0] := by
  rw [List.take_add_one, List.getElem?_eq_getElem h]
  rfl
theorem str_at (w : World) (x : Value) : ∀ (j : Nat) (u : Value), [x][j]? = some u → (w.alloc (.cells #[x] 9)).cell? ((⟨w.heap.size, 0, none⟩ : Addr).add j) = some u := by
  intro j u hu
  have hj : j = 0 := by
    have := (List.getElem?_eq_some_iff.1 hu).1
    simp at this
    omega
  subst hj
  simp at hu
  subst hu
  simp [go_sem]
theorem one_str (x : ByteArray) : ∀ u ∈ [Value.string x], u.oneCell' = true := by
  intro u hu
  simp at hu
  subst hu
  rfl
theorem cut_on {l : List UInt8} {w0 w w3 : World} {k fr : Nat} {v v' : Value} {o : Obj} (hk : k ≤ l.length) (h : CutAt l w0 k v fr w) (hx : w3.ownsRow w0.heap.size 9 1 v' ((spF (l.take k)).1.length + 1) (strs (spF (l.take k)).1 ++ [.string ((ByteArray.mk l.toArray).extract fr k)]))
    (hgrow : (w.alloc o).grownBy w3 v.ownBlock) : w3.ownsRow w0.heap.size 9 1 v' ((spF (l.take k)).1 ++ [(spF (l.take k)).2]).length (strs ((spF (l.take k)).1 ++ [(spF (l.take k)).2])) ∧ Below w0.heap.size w0 w3 := by
  obtain ⟨h1, h2, h3⟩ := h
  refine ⟨?_, (h3.alloc h3.size o).grown hgrow (by have := h3.size; simp; omega) (fun k hk => by have := h2.lt _ hk; omega)⟩
  rw [cut_piece hk h1] at hx
  simpa [strs] using hx
set_option maxRecDepth 100000 in
set_option maxHeartbeats 2000000 in
theorem c_rCut (l : List UInt8) (w : World) (hl : l.length ≤ 65536) :
    Calls Tryd.prog 30 #[.string ⟨l.toArray⟩] w fun e w' => ∃ v, e = .returned v ∧ w'.ownsRow w.heap.size 9 1 v (cutL l).length (strs (cutL l)) ∧ Below w.heap.size w w' := by
  obtain ⟨i0, hi, hz0, hz1, hz2⟩ := info_parts infoS
  go_enter Tryd.func30, Tryd.ntmps30
  go_wp2
  go_loopw [3, 4, 5] (fun v f i wr => ∃ (k : Nat) (fr : Nat), i = .int .i64 k ∧ f = .int .i64 fr ∧ (k ≤ l.length ∧ fr ≤ k ∧ Hid (CutAt l w k v fr wr) ∨ k = l.length + 1 ∧ Hid (wr.ownsRow w.heap.size 9 1 v (cutL l).length (strs (cutL l)) ∧ Below w.heap.size w wr))) (fun _ _ i _ => l.length + 1 - (intOf i).toNat)
  case atStart =>
    refine ⟨0, 0, rfl, rfl, .inl ⟨Nat.zero_le _, Nat.le_refl _, rfl, ?_, below_new _ _⟩⟩
    exact World.ownsRow_made w #[] 0 (Nat.le_refl _) (by decide) rfl
  case round =>
    obtain ⟨k, fr, rfl, rfl, ⟨hk, hfr, HC⟩ | ⟨hk, HC⟩⟩ := hrel
    · have HKL := Lib.hid hk
      have HS := Lib.hid HC.out.2.2.size
      have HLn := Lib.hid (show (spF (l.take k)).1.length ≤ 65536 by have := spF_len (l.take k); rw [List.length_take] at this; omega)
      by_cases hlt : k < l.length
      · have hby := byte_at l k
        have heq : ((k : Int) == (l.length : Int)) = false := by simp; omega
        have HT := Lib.hid (take_one l k hlt)
        by_cases h32 : l[k]?.getD 0 = 32
        · have h32' : ((l[k]?.getD 0).toNat : Int) = 32 := by rw [h32]; rfl
          have H32 := Lib.hid h32
          rw [h32'] at hby
          clear h32' h32
          go_wp2_with (at_builtin; refine wpList_append_own _ rfl _ _ 54 rfl w.heap.size 9 i0 (.string ByteArray.empty) 1 16 Tryd.underlying54 hi hz0 hz1 hz2 rfl (by decide) _ (spF (l.take k)).1.length (strs (spF (l.take k)).1) rfl (HC.out.2.1.alloc _) ⟨wr.heap.size, 0, none⟩ 1 1 [.string ((ByteArray.mk l.toArray).extract fr k)] rfl rfl (str_at _ _) (one_str _) ?c3 ?c4 ?c5 ?_)
          case c3 => have := HLn.out; unfold maxLen; omega
          case c4 => have := HLn.out; omega
          case c5 => have := HS.out; simp; omega
          intro v' w3 hown hgrow _
          have HN : Hid (CutAt l w (k + 1) v' (k + 1) w3) := by
            obtain ⟨h1, h2⟩ := cut_on HKL.out HC.out hown hgrow
            unfold CutAt
            rw [HT.out, spF_snoc, if_pos H32.out]
            exact ⟨rfl, h1, h2⟩
          clear hown hgrow
          go_wp2
          go_roundw
          case rel => exact ⟨k + 1, k + 1, by go_num, by go_num, .inl ⟨by omega, Nat.le_refl _, HN⟩⟩
          case measure => simp [intOf]; omega
        · have h32' : (((l[k]?.getD 0).toNat : Int) == 32) = false := by
            simp only [beq_eq_false_iff_ne, ne_eq]
            intro e
            apply h32
            apply UInt8.toNat_inj.1
            show _ = 32
            omega
          have H32 := Lib.hid h32
          have hlk : (((l[k]'hlt).toNat : Int) == 32) = false := by
            rw [List.getElem?_eq_getElem hlt] at h32'
            exact h32'
          have hby' : ∀ h, (((ByteArray.mk l.toArray)[k]'h).toNat : Int) = ((l[k]'hlt).toNat : Int) := fun h => by
            rw [byte_at l k h, List.getElem?_eq_getElem hlt]
            rfl
          clear h32 h32' hby
          go_wp2
          go_roundw
          case rel =>
            refine ⟨k + 1, fr, by go_num, rfl, .inl ⟨by omega, by omega, ?_⟩⟩
            show CutAt l w (k + 1) _ fr wr
            obtain ⟨h1, h2, h3⟩ := HC.out
            unfold CutAt
            rw [HT.out, spF_snoc, if_neg H32.out]
            exact ⟨by simp; omega, h2, h3⟩
          case measure => simp [intOf]; omega
      · have heq : ((k : Int) == (l.length : Int)) = true := by simp; omega
        have HK := Lib.hid (show k = l.length by omega)
        clear hlt
        go_wp2_with (at_builtin; refine wpList_append_own _ rfl _ _ 54 rfl w.heap.size 9 i0 (.string ByteArray.empty) 1 16 Tryd.underlying54 hi hz0 hz1 hz2 rfl (by decide) _ (spF (l.take k)).1.length (strs (spF (l.take k)).1) rfl (HC.out.2.1.alloc _) ⟨wr.heap.size, 0, none⟩ 1 1 [.string ((ByteArray.mk l.toArray).extract fr k)] rfl rfl (str_at _ _) (one_str _) ?c6 ?c7 ?c8 ?_)
        case c6 => have := HLn.out; unfold maxLen; omega
        case c7 => have := HLn.out; omega
        case c8 => have := HS.out; simp; omega
        intro v' w3 hown hgrow _
        have HN : Hid (w3.ownsRow w.heap.size 9 1 v' (cutL l).length (strs (cutL l)) ∧ Below w.heap.size w w3) := by
          have h := cut_on HKL.out HC.out hown hgrow
          have e : l.take k = l := by rw [HK.out]; simp
          rw [e] at h
          exact h
        clear hown hgrow
        go_wp2
        go_roundw
        case rel => exact ⟨k + 1, k + 1, by go_num, by go_num, .inr ⟨by have := HK.out; omega, HN⟩⟩
        case measure => simp [intOf]; have := HK.out; omega
    · have hge : decide (k ≤ l.length) = false := by simp; omega
      clear hk
      go_wp2
      go_ret
      exact ⟨_, rfl, HC.out.1, HC.out.2⟩
end Go.Proofs.YtcemghcfapblgaaDoor
