/-
  The contracts of Lines, of a copy of texts and of texts held against each other.
-/
import Derived.Test.YthekokjmdjokgaaDoorAsmCon
import Derived.Shelf.Strings.OnBuilder
import Derived.Laws.AppendOwnNone
namespace Go.Proofs.YthekokjmdjokgaaDoor
set_option linter.unusedVariables false
set_option linter.unusedSimpArgs false
set_option maxRecDepth 100000
open Go.ChangeShapes Go.WideShapes Go.ChangeAt Go.RowKit

theorem extra156 : Builder.Extra Tryd.prog Tryd.lays156_ren where
  sizeBuilder := by kernel_rfl
  liesBuilder := by kernel_rfl
  t5 := Tryd.underlying5
  a5 := Tryd.isAgg5
  z5 := Tryd.sizeOf5
  v5 := Tryd.zeroValue5
  infoByte := by kernel_rfl
  cellsByte := by kernel_rfl
  sizeByte := by kernel_rfl
  neB5 := by decide
/-- A slice of texts. -/
def StrIn (w : World) (a : Option Addr) (L : List (List UInt8)) : Prop := 0 < L.length → ∃ b off, a = some ⟨b, off, none⟩ ∧ ∀ (k : Nat) s, L[k]? = some s → w.cell? ⟨b, off + k, none⟩ = some (.string ⟨s.toArray⟩)
theorem StrIn.next {w w' : World} {a : Option Addr} {L : List (List UInt8)} (h : StrIn w a L) (hb : Below w.heap.size w w') : StrIn w' a L := fun h0 => by
  obtain ⟨b, off, h1, h2⟩ := h h0
  exact ⟨b, off, h1, fun k s hs => (hb.cell (cell_lt (h2 k s hs))).trans (h2 k s hs)⟩
/-- Lines, each with a line feed. -/
def linL (L : List (List UInt8)) : List UInt8 := L.flatMap fun s => s ++ [10]
theorem linL_snoc (L : List (List UInt8)) (s : List UInt8) : linL (L ++ [s]) = linL L ++ (s ++ [10]) := by
  unfold linL
  rw [List.flatMap_append]
  simp
theorem join_lin : ∀ (L : List (List UInt8)), L ≠ [] → Lib.join L [10] ++ [10] = linL L
  | [], h => absurd rfl h
  | [x], _ => by rw [Lib.join_one]; simp [linL]
  | x :: y :: r, _ => by
    have ih := join_lin (y :: r) (by simp)
    rw [Lib.join_cons] at ih ⊢
    have e : Lib.joinTail [10] (y :: r) = 10 :: (y ++ Lib.joinTail [10] r) := by simp [Lib.joinTail]
    rw [e]
    have e2 : linL (x :: y :: r) = x ++ [10] ++ linL (y :: r) := by simp [linL]
    rw [e2, ← ih]
    simp
theorem linL_take_le (L : List (List UInt8)) (k : Nat) : (linL (L.take k)).length ≤ (linL L).length := by
  have e : linL L = linL (L.take k) ++ linL (L.drop k) := by
    unfold linL
    rw [← List.flatMap_append, List.take_append_drop]
  rw [e, List.length_append]
  omega
theorem linL_len (L : List (List UInt8)) : L.length ≤ (linL L).length := by
  induction L with
  | nil => simp [linL]
  | cons s l ih =>
    have e : linL (s :: l) = s ++ [10] ++ linL l := by simp [linL]
    rw [e]
    simp
    omega
theorem ba_app' (l m : List UInt8) : (⟨(l ++ m).toArray⟩ : ByteArray) = ⟨l.toArray⟩ ++ ⟨m.toArray⟩ := (ba_app l m).symm
set_option maxHeartbeats 1000000 in
theorem c_Lines (a : Option Addr) (n cap : Nat) (L : List (List UInt8)) (w : World) (hn : L.length = n) (hc : n ≤ cap) (hS : StrIn w a L) (hb : (linL L).length ≤ 4194304) :
    Calls Tryd.prog 9 #[.slice a n cap] w fun e w' => e = .returned (.string ⟨(linL L).toArray⟩) ∧ Below w.heap.size w w' := by
  by_cases h0 : L = []
  · subst h0
    obtain rfl : n = 0 := hn.symm
    go_enter Tryd.func9, Tryd.ntmps9
    go_wp2_with fail
    go_ret
    exact ⟨rfl, Below.refl _ _⟩
  · have hpos : 0 < L.length := List.length_pos_iff.2 h0
    obtain ⟨b, off, rfl, hcell⟩ := hS hpos
    have hz : ((n : Int) == 0) = false := by simp; omega
    have hz2 : (n == 0) = false := by simp; omega
    have HJ := Lib.hid (join_lin L h0)
    have hll := linL_len L
    have hmap : (L.map (fun s => (⟨s.toArray⟩ : ByteArray))).map (·.data.toList) = L := by
      rw [List.map_map]
      conv => rhs; rw [← List.map_id L]
      rfl
    have hjl : (Lib.join L [10]).length ≤ 140737488355328 := by
      have := congrArg List.length (join_lin L h0)
      simp at this
      omega
    have HC : Hid (∀ wx, Below w.heap.size w wx → Calls Tryd.prog 21 #[.slice (some ⟨b, off, none⟩) n cap, .string ⟨#[10]⟩] wx fun e w' => e = .returned (.string ⟨(Lib.join L [10]).toArray⟩) ∧ Below wx.heap.size wx w') := by
      intro wx hbx
      have hbk : b < w.heap.size := by
        obtain ⟨s, hs⟩ : ∃ s, L[0]? = some s := ⟨_, List.getElem?_eq_getElem hpos⟩
        exact cell_lt (hcell 0 s hs)
      have h := Any.strings_Join Tryd.lays156 extra156 b off cap (L.map (fun s => (⟨s.toArray⟩ : ByteArray))) ⟨#[10]⟩ wx (fun j x hx => by
        rw [List.getElem?_map] at hx
        cases hs : L[j]? with
        | none => rw [hs] at hx; cases hx
        | some s =>
          rw [hs] at hx
          simp at hx
          subst hx
          exact (hbx.cell (cell_lt (hcell j s hs))).trans (hcell j s hs)) (Nat.lt_of_lt_of_le hbk hbx.size) (by simp; omega) (by simp; omega) (by rw [hmap]; exact hjl)
      rw [hmap, List.length_map, hn] at h
      exact h
    have hq : ¬ 9223372036854775807 < (Lib.join L [10]).length + 1 := by omega
    clear hmap hjl hcell hS
    rw [← HJ.out, ba_app']
    generalize Lib.join L [10] = q at HC hq ⊢
    clear HJ hb hll
    go_enter Tryd.func9, Tryd.ntmps9
    go_wp2_with fail
    refine Calls.mono (HC.out _ (Below.refl _ _)) ?_
    rintro e w1 ⟨rfl, hb1⟩
    go_wp2_with fail
    go_ret
    exact ⟨rfl, hb1⟩
set_option maxHeartbeats 1000000 in
theorem c_rLines (a : Option Addr) (n cap : Nat) (L : List (List UInt8)) (w : World) (hn : L.length = n) (hc : n ≤ cap) (hS : StrIn w a L) (hb : (linL L).length ≤ 4194304) :
    Calls Tryd.prog 10 #[.slice a n cap] w fun e w' => e = .returned (.string ⟨(linL L).toArray⟩) ∧ Below w.heap.size w w' := by
  have hll := linL_len L
  have hn2 : n ≤ 4194304 := by omega
  have HS := Lib.hid hS
  have HN := Lib.hid hn
  have HLe := Lib.hid (linL_take_le L)
  have HB := Lib.hid hb
  clear hS hn hb hll
  go_enter Tryd.func10, Tryd.ntmps10
  go_wp2_with fail
  go_loop [3, 4] (fun s i => ∃ k : Nat, k ≤ n ∧ i = .int .i64 k ∧ s = .string ⟨(linL (L.take k)).toArray⟩) (fun _ i => n - (intOf i).toNat)
  case atStart => exact ⟨0, Nat.zero_le _, rfl, rfl⟩
  case round =>
    obtain ⟨k, hk, rfl, rfl⟩ := hrel
    by_cases hlt : k < n
    · obtain ⟨s, hs⟩ : ∃ s, L[k]? = some s := ⟨_, List.getElem?_eq_getElem (by rw [HN.out]; exact hlt)⟩
      obtain ⟨b, off, rfl, hcell⟩ := HS.out (by rw [HN.out]; omega)
      have hc1 := hcell k s hs
      have HNx : Hid (linL (L.take (k + 1)) = linL (L.take k) ++ (s ++ [10])) := by
        show _ = _
        rw [List.take_add_one, hs]
        exact linL_snoc _ _
      have hk0 : (0 : Int) ≤ (k : Int) := by omega
      have hk1 : (k : Int) < (n : Int) := by omega
      have hlen := HLe.out (k + 1)
      have hB := HB.out
      rw [HNx.out] at hlen
      simp only [List.length_append, List.length_cons, List.length_nil] at hlen
      have hq1 : ¬ 9223372036854775807 < s.length + 1 := by omega
      have hq2 : ¬ 9223372036854775807 < (linL (L.take k)).length + (s.length + 1) := by omega
      clear hcell hs hlen hB
      generalize linL (L.take k) = q at HNx hq2 ⊢
      go_wp2_with fail
      go_round
      case rel => exact ⟨k + 1, by omega, by go_num, by rw [HNx.out, ba_app', ba_app' s]⟩
      case measure => simp [intOf]; omega
    · have hge : decide (k < n) = false := by simp; omega
      have HT : Hid (L.take k = L) := List.take_of_length_le (by rw [HN.out]; omega)
      rw [HT.out]
      clear hk hlt
      go_wp2_with fail
      go_ret
      exact ⟨rfl, Below.refl _ _⟩
theorem infoStr : (Tryd.prog.info? 9).map (fun i => (i.zero, i.size, i.bytes)) = some (some (.string ByteArray.empty), 1, 16) := by kernel_rfl
def strV (L : List (List UInt8)) : List Value := L.map fun s => .string ⟨s.toArray⟩
theorem strV_one (L : List (List UInt8)) : ∀ u ∈ strV L, u.oneCell' = true := by
  intro u hu
  unfold strV at hu
  rw [List.mem_map] at hu
  obtain ⟨s, _, rfl⟩ := hu
  rfl
theorem row_strIn {w : World} {base : Nat} {v : Value} {L : List (List UInt8)} (h : w.ownsRow base 9 1 v L.length (strV L)) : ∃ a cap, v = .slice a L.length cap ∧ L.length ≤ cap ∧ StrIn w a L := by
  have h0 := h
  rcases h.2 with ⟨rfl, hn⟩ | ⟨g, cap, cur, rfl, hg, hh, hle, _⟩
  · exact ⟨none, 0, by rw [hn], by omega, fun h => by omega⟩
  · refine ⟨_, cap, rfl, hle, fun _ => ⟨g, 0, rfl, fun k s hs => ?_⟩⟩
    have hk : k < L.length := (List.getElem?_eq_some_iff.1 hs).1
    rw [Nat.zero_add, h0.cellAt k (by omega)]
    unfold strV
    rw [List.getElem?_map, hs]
    rfl
set_option maxHeartbeats 1000000 in
theorem c_Texts (a : Option Addr) (n cap : Nat) (L : List (List UInt8)) (w : World) (hn : L.length = n) (hc : n ≤ cap) (hS : StrIn w a L) (hb : n ≤ 4194304) (hA : a = none → cap = 0) :
    Calls Tryd.prog 8 #[.slice a n cap] w fun e w' => ∃ v, e = .returned v ∧ w'.ownsRow w.heap.size 9 1 v L.length (strV L) ∧ Below w.heap.size w w' := by
  obtain ⟨i0, hi, hz0, hz1, hz3⟩ := info_parts infoStr
  by_cases h0 : n = 0
  · subst h0
    obtain rfl : L = [] := List.eq_nil_of_length_eq_zero hn
    cases a with
    | none =>
      obtain rfl : cap = 0 := hA rfl
      go_enter Tryd.func8, Tryd.ntmps8
      go_wp2_with (at_builtin; refine wpList_append_own_none rfl _ _ 22 rfl w.heap.size 9 i0 1 Tryd.underlying22 hi _ 0 [] rfl (World.ownsRow_made w #[] 0 (Nat.le_refl _) (by decide) rfl) rfl ?_)
      go_ret
      exact ⟨_, rfl, World.ownsRow_made w #[] 0 (Nat.le_refl _) (by decide) rfl, below_new w _⟩
    | some ad =>
      clear hS hA
      go_enter Tryd.func8, Tryd.ntmps8
      go_wp2_with (at_builtin; refine wpList_append_own _ rfl _ _ 22 rfl w.heap.size 9 i0 (.string ByteArray.empty) 1 16 Tryd.underlying22 hi hz0 hz1 hz3 rfl (by decide) _ 0 [] rfl (World.ownsRow_made w #[] 0 (Nat.le_refl _) (by decide) rfl) ad 0 cap [] rfl rfl (fun j u hj => by simp at hj) (fun u hu => by simp at hu) (by decide) (by decide) ?c5 ?_)
      case c5 => simp
      intro v' w3 hown hgrow _
      have HB3 : Hid (Below w.heap.size w w3) := below_grown (below_new w _) (below_new w _).size hgrow (fun b e => by
        have e' : w.heap.size = b := Option.some.inj e
        omega)
      have HR : Hid (w3.ownsRow w.heap.size 9 1 v' 0 []) := by
        show World.ownsRow _ _ _ _ _ _ _
        simpa using hown
      clear hown hgrow
      go_wp2_with fail
      go_ret
      exact ⟨_, rfl, HR.out, HB3.out⟩
  · have hpos : 0 < L.length := by omega
    obtain ⟨b, off, rfl, hcell⟩ := hS hpos
    go_enter Tryd.func8, Tryd.ntmps8
    go_wp2_with (at_builtin; refine wpList_append_own _ rfl _ _ 22 rfl w.heap.size 9 i0 (.string ByteArray.empty) 1 16 Tryd.underlying22 hi hz0 hz1 hz3 rfl (by decide) _ 0 [] rfl (World.ownsRow_made w #[] 0 (Nat.le_refl _) (by decide) rfl) ⟨b, off, none⟩ n cap (strV L) rfl ?c1 ?c2 (strV_one L) ?c3 ?c4 ?c5 ?_)
    case c1 => unfold strV; simp; omega
    case c2 =>
      intro j u hj
      unfold strV at hj
      rw [List.getElem?_map] at hj
      cases hs : L[j]? with
      | none => rw [hs] at hj; cases hj
      | some s =>
        rw [hs] at hj
        simp at hj
        subst hj
        have e : (⟨b, off, none⟩ : Addr).add j = ⟨b, off + j, none⟩ := by unfold Addr.add; split <;> simp_all
        rw [e]
        exact ((below_new w _).cell (cell_lt (hcell j s hs))).trans (hcell j s hs)
    case c3 => unfold maxLen; omega
    case c4 => omega
    case c5 => simp
    intro v' w3 hown hgrow _
    have HB3 : Hid (Below w.heap.size w w3) := below_grown (below_new w _) (below_new w _).size hgrow (fun b e => by
      have e' : w.heap.size = b := Option.some.inj e
      omega)
    have HR : Hid (w3.ownsRow w.heap.size 9 1 v' L.length (strV L)) := by
      show World.ownsRow _ _ _ _ _ _ _
      rw [hn]
      simpa using hown
    clear hown hgrow
    go_wp2_with fail
    go_ret
    exact ⟨_, rfl, HR.out, HB3.out⟩
set_option maxHeartbeats 1000000 in
theorem c_SameTexts (a a2 : Option Addr) (n cap cap2 : Nat) (L : List (List UInt8)) (w : World) (hn : L.length = n) (hc : n ≤ cap) (hc2 : n ≤ cap2) (hS : StrIn w a L) (hS2 : StrIn w a2 L) (hb : n ≤ 4194304) :
    Calls Tryd.prog 11 #[.slice a n cap, .slice a2 n cap2] w fun e w' => e = .returned (.bool true) ∧ Below w.heap.size w w' := by
  have HS := Lib.hid hS
  have HS2 := Lib.hid hS2
  have HN := Lib.hid hn
  clear hS hS2 hn
  go_enter Tryd.func11, Tryd.ntmps11
  go_wp2_with fail
  go_loopw [5] (fun i wr => ∃ k : Nat, k ≤ n ∧ i = .int .i64 k ∧ Hid (Below w.heap.size w wr)) (fun i _ => n - (intOf i).toNat)
  case atStart => exact ⟨0, Nat.zero_le _, rfl, Below.refl _ _⟩
  case round =>
    obtain ⟨k, hk, rfl, HB⟩ := hrel
    by_cases hlt : k < n
    · obtain ⟨s, hs⟩ : ∃ s, L[k]? = some s := ⟨_, List.getElem?_eq_getElem (by rw [HN.out]; exact hlt)⟩
      obtain ⟨b, off, rfl, hcell⟩ := (HS.out.next HB.out) (by rw [HN.out]; omega)
      obtain ⟨b2, off2, rfl, hcell2⟩ := (HS2.out.next HB.out) (by rw [HN.out]; omega)
      have hc1 := hcell k s hs
      have hd1 := hcell2 k s hs
      have hk0 : (0 : Int) ≤ (k : Int) := by omega
      have hk1 : (k : Int) < (n : Int) := by omega
      clear hcell hcell2 hs
      go_wp2_with fail
      go_quiet (fail)
      go_wp2_with fail
      go_roundw
      case rel => exact ⟨k + 1, by omega, by go_num, below_drewN HB.out _⟩
      case measure => simp [intOf]; omega
    · have hge : decide (k < n) = false := by simp; omega
      obtain rfl : k = n := by omega
      clear hk hlt
      go_wp2_with fail
      go_ret
      exact ⟨rfl, HB.out⟩
end Go.Proofs.YthekokjmdjokgaaDoor
