
/-
  Contracts of the calls that read a text's parts: Cut, TrimPrefix, Atoi of the library, number and opOf of the code.
-/
import Derived.Test.YthekokjmdjokgaaDoorIsaText
import Derived.Test.YthekokjmdjokgaaDoorIsaDec
import Derived.Lib.AtoiErrMem
import Derived.LaidEql
namespace Go.Proofs.YthekokjmdjokgaaDoor
set_option linter.unusedVariables false
set_option linter.unusedSimpArgs false
open Go.ChangeShapes Go.WideShapes Go.ChangeAt Go.RowKit

/-- What the walks lean on: the code's words, the library's powers of ten, its search bound, its two errors. -/
def GW (w : World) : Prop := NmH w ∧ PwH w ∧ (∃ m, w.cell? ⟨1, 0, none⟩ = some (.int .i64 m)) ∧ (∃ te pe, w.cell? ⟨4, 0, none⟩ = some (.iface te pe)) ∧ (∃ te pe, w.cell? ⟨5, 0, none⟩ = some (.iface te pe))
theorem kcell {N : Nat} {w1 w2 : World} {p : Addr} {x : Value} (hb0 : Below N w1 w2) (hN : N = w1.heap.size) (h : w1.cell? p = some x) : w2.cell? p = some x := by
  subst hN
  exact (hb0.cell (cell_lt h)).trans h
theorem GW.next {N : Nat} {w w' : World} (h : GW w) (hb : Below N w w') (hN : N = w.heap.size) : GW w' := by
  obtain ⟨h1, h2, ⟨m, h3⟩, ⟨t, p, h4⟩, ⟨t', p', h5⟩⟩ := h
  exact ⟨h1.next hb hN, h2.next hb hN, ⟨m, kcell hb hN h3⟩, ⟨t, p, kcell hb hN h4⟩, ⟨t', p', kcell hb hN h5⟩⟩
theorem c_cut (l : List UInt8) (w : World) (hl : l.length ≤ 65536) (hg : GW w) :
    Calls Tryd.prog 50 #[.string ⟨l.toArray⟩, .string ⟨#[32]⟩] w fun e w' => e = .returned (.tuple #[.string ⟨(Lib.cut l [32]).1.toArray⟩, .string ⟨(Lib.cut l [32]).2.1.toArray⟩, .bool (Lib.cut l [32]).2.2]) ∧ Below w.heap.size w w' := by
  obtain ⟨m, hm⟩ := hg.2.2.1
  refine (Any.strings_Cut Tryd.lays145 ⟨l.toArray⟩ ⟨#[32]⟩ m w (by show l.toArray.size < _; simp; omega) hm).mono ?_
  rintro e w' ⟨rfl, n, rfl⟩
  exact ⟨rfl, below_drewN (Below.refl _ _) n⟩
theorem c_trim (l : List UInt8) (w : World) :
    Calls Tryd.prog 61 #[.string ⟨l.toArray⟩, .string ⟨#[114]⟩] w fun e w' => e = .returned (.string ⟨(Lib.trimPrefix l [114]).toArray⟩) ∧ w = w' := by
  refine (Any.strings_TrimPrefix Tryd.lays101 ⟨l.toArray⟩ ⟨#[114]⟩ w).mono ?_
  rintro e w' ⟨rfl, rfl⟩
  exact ⟨rfl, rfl⟩
def Bad (w : World) (e : Ending) (w' : World) : Prop := ∃ (n : Int) (a : Addr), e = .returned (.tuple #[.int .i64 n, .iface 103 (.pointer (some a))]) ∧ Below w.heap.size w w'
theorem c_atoi_bad (l : List UInt8) (w : World) (hl : l.length ≤ 65536) (hg : GW w) (h : ∀ v, Lib.atoiAll l ≠ .ok v) :
    Calls Tryd.prog 60 #[.string ⟨l.toArray⟩] w (Bad w) := by
  obtain ⟨te, pe, h4⟩ := hg.2.2.2.1
  obtain ⟨te', pe', h5⟩ := hg.2.2.2.2
  cases hc : Lib.atoiAll l with
  | ok v => exact absurd hc (h v)
  | _ =>
    first
      | (refine (Any.strconv_Atoi_syntax Tryd.laysC172 ⟨l.toArray⟩ (by show l.toArray.size ≤ _; simp; omega) hc _ w h4 (.inr ⟨te, pe, rfl⟩)).mono ?_
         rintro e w' ⟨N, rfl, _, _, hb⟩
         exact ⟨_, _, rfl, hb⟩)
      | (refine (Any.strconv_Atoi_range Tryd.laysC172 ⟨l.toArray⟩ (by show l.toArray.size ≤ _; simp; omega) hc _ w h5 (.inr ⟨te', pe', rfl⟩)).mono ?_
         rintro e w' ⟨N, rfl, _, _, hb⟩
         exact ⟨_, _, rfl, hb⟩)
theorem c_atoi_ok (l : List UInt8) (w : World) (v : Int) (hl : l.length ≤ 65536) (h : Lib.atoiAll l = .ok v) :
    Calls Tryd.prog 60 #[.string ⟨l.toArray⟩] w fun e w' => e = .returned (.tuple #[.int .i64 v, .nilIface]) ∧ Below w.heap.size w w' := by
  refine (Any.strconv_Atoi_ok Tryd.laysC172 ⟨l.toArray⟩ (by show l.toArray.size ≤ _; simp; omega) v h w).mono ?_
  rintro e w' ⟨rfl, hw⟩
  refine ⟨rfl, ?_⟩
  rcases hw with rfl | ⟨t, rfl⟩
  · exact Below.refl _ _
  · exact Lib.bytesWorld_below _ _ _
theorem numV_eq (l : List UInt8) : numV l = match Lib.atoiAll (Lib.trimPrefix (Lib.cut l [32]).1 [114]) with
  | .ok v => v
  | _ => 0 := by unfold numV; rfl
theorem trim_le (l p : List UInt8) : (Lib.trimPrefix l p).length ≤ l.length := by
  unfold Lib.trimPrefix
  split
  · rw [List.length_drop]; omega
  · exact Nat.le_refl _
theorem cut_le1 (l s : List UInt8) : (Lib.cut l s).1.length ≤ l.length := by
  unfold Lib.cut
  split
  · rw [List.length_take]; omega
  · exact Nat.le_refl _
theorem cut_le2 (l s : List UInt8) : (Lib.cut l s).2.1.length ≤ l.length := by
  unfold Lib.cut
  split
  · rw [List.length_drop]; omega
  · simp
theorem ret_is {a b : Int} {s t : ByteArray} (h : a = b) (g : s = t) : Ending.returned (.tuple #[.int .i64 a, .string s]) = .returned (.tuple #[.int .i64 b, .string t]) := by rw [h, g]
theorem c_number (l : List UInt8) (w : World) (hl : l.length ≤ 65536) (hg : GW w) :
    Calls Tryd.prog 52 #[.string ⟨l.toArray⟩] w fun e w' => e = .returned (.tuple #[.int .i64 (numV l), .string ⟨(numR l).toArray⟩]) ∧ Below w.heap.size w w' := by
  have h1 := cut_le1 l [32]
  have h2 := trim_le (Lib.cut l [32]).1 [114]
  have HV := Lib.hid (numV_eq l)
  have HR := Lib.hid (show numR l = (Lib.cut l [32]).2.1 from rfl)
  have HC := Lib.hid (c_cut l)
  have HG := Lib.hid hg
  clear hg
  generalize (Lib.cut l [32]).1 = part at *
  generalize (Lib.cut l [32]).2.1 = rest at *
  have HT := Lib.hid (c_trim part)
  generalize Lib.trimPrefix part [114] = q at *
  by_cases hok : ∃ v, Lib.atoiAll q = .ok v
  · obtain ⟨v, hv⟩ := hok
    have HA := Lib.hid (fun w => c_atoi_ok q w v (by omega) hv)
    rw [hv] at HV
    clear hv
    go_enter Tryd.func52, Tryd.ntmps52
    go_wp2_with fail
    refine (HC.out _ hl HG.out).mono ?_
    rintro e w1 ⟨rfl, hb1⟩
    have hB1 := Lib.hid hb1
    clear hb1
    go_wp2_with fail
    refine (HT.out _).mono ?_
    rintro e w2 ⟨rfl, rfl⟩
    go_wp2_with fail
    refine (HA.out _).mono ?_
    rintro e w3 ⟨rfl, hb3⟩
    have hB3 := Lib.hid (below_on hB1.out hb3 hB1.out.size)
    clear hb3
    go_wp2_with fail
    go_ret2
    exact ⟨ret_is HV.out.symm (by rw [HR.out]), hB3.out⟩
  · have hno : ∀ v, Lib.atoiAll q ≠ .ok v := fun v e => hok ⟨v, e⟩
    have hz : numV l = 0 := by
      rw [HV.out]
      cases hc : Lib.atoiAll q with
      | ok v => exact absurd hc (hno v)
      | _ => rfl
    have HZ := Lib.hid hz
    have HA := Lib.hid (fun w hg => c_atoi_bad q w (by omega) hg hno)
    clear hok hno hz HV
    go_enter Tryd.func52, Tryd.ntmps52
    go_wp2_with fail
    refine (HC.out _ hl HG.out).mono ?_
    rintro e w1 ⟨rfl, hb1⟩
    have hB1 := Lib.hid hb1
    clear hb1
    go_wp2_with fail
    refine (HT.out _).mono ?_
    rintro e w2 ⟨rfl, rfl⟩
    go_wp2_with fail
    refine (HA.out _ (HG.out.next hB1.out rfl)).mono ?_
    rintro e w3 ⟨n, ad, rfl, hb3⟩
    have hB3 := Lib.hid (below_on hB1.out hb3 hB1.out.size)
    clear hb3
    go_wp2_with fail
    go_ret2
    exact ⟨ret_is HZ.out.symm (by rw [HR.out]), hB3.out⟩
theorem opL_none (l : List UInt8) (h : ∀ j : Nat, 1 ≤ j → j < 43 → nm (j : Int) ≠ l) : opL l = 0 := by
  unfold opL
  have : (((List.range 43).drop 1).find? fun (k : Nat) => nm (k : Int) == l) = none := by
    rw [List.find?_eq_none]
    intro x hx
    have hx1 : x ∈ (List.range 43).drop 1 := hx
    have hm : 1 ≤ x ∧ x < 43 := by
      have h0 : ∀ y ∈ (List.range 43).drop 1, 1 ≤ y ∧ y < 43 := by decide
      exact h0 x hx1
    simpa using h x hm.1 hm.2
  rw [this]
  rfl
theorem c_opOf (l : List UInt8) (w : World) (hn : NmH w) :
    Calls Tryd.prog 51 #[.string ⟨l.toArray⟩] w fun e w' => e = .returned (.int .i64 (opL l)) ∧ w = w' := by
  have HN := Lib.hid (fun k h0 h1 => nm_cell k w hn h0 h1)
  clear hn
  go_enter Tryd.func51, Tryd.ntmps51
  go_wp2
  go_loop [3] (fun t => ∃ k : Nat, 1 ≤ k ∧ k ≤ 43 ∧ t = .int .i64 k ∧ Hid (∀ j : Nat, 1 ≤ j → j < k → nm (j : Int) ≠ l)) (fun t => 43 - (intOf t).toNat)
  case atStart => exact ⟨1, by omega, by omega, rfl, Lib.hid (fun j h1 h2 => by omega)⟩
  case round =>
    obtain ⟨k, hk1, hk2, rfl, hno⟩ := hrel
    by_cases hlt : k < 43
    · have hcell := HN.out k (by omega) (by omega)
      rw [Int.toNat_natCast] at hcell
      by_cases he : nm (k : Int) = l
      · have HO := Lib.hid (show opL l = (k : Int) by rw [← he]; exact op_nm k (by omega) (by omega))
        have e1 : (nm (k : Int) == l) = true := by simp [he]
        clear he
        go_wp2
        go_ret
        exact ⟨ret_i HO.out.symm, rfl⟩
      · have e1 : (nm (k : Int) == l) = false := by simpa using he
        have HE := Lib.hid he
        clear he
        go_wp2
        go_round
        case rel => exact ⟨k + 1, by omega, by omega, by go_num, Lib.hid fun j h1 h2 => by
          by_cases hj : j < k
          · exact hno.out j h1 hj
          · obtain rfl : j = k := by omega
            exact HE.out⟩
        case measure => simp [intOf]; omega
    · have HO := Lib.hid (opL_none l fun j h1 h2 => hno.out j h1 (by omega))
      go_wp2
      go_ret
      exact ⟨ret_i HO.out.symm, rfl⟩
end Go.Proofs.YthekokjmdjokgaaDoor
