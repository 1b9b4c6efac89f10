/-
  Plain facts on digits, bytes and texts of a word of 32 bits, for the statement on bytes and texts: nothing of the program.
-/
import Derived.Test.YtlmdbpdfjjfapaaRows
import Derived.WalkKit
import Derived.ProofKit
import Derived.OpenShut
import Derived.Below
import Derived.Handy
import Derived.Lib.Hide
import Derived.Laws.BytesArg
namespace Go.Proofs.Ytlmdbpdfjjfapaa
set_option linter.unusedVariables false
open Go.ChangeShapes Go.WideShapes Go.ChangeAt Go.RowKit

/-! ### Plain facts on digits and texts -/
def hexN (d : Int) : Int := if d < 10 then 48 + d else 87 + d
theorem hex_cases (d : Int) (h0 : 0 ≤ d) (h1 : d < 16) : d = 0 ∨ d = 1 ∨ d = 2 ∨ d = 3 ∨ d = 4 ∨ d = 5 ∨ d = 6 ∨ d = 7 ∨ d = 8 ∨ d = 9 ∨ d = 10 ∨ d = 11 ∨ d = 12 ∨ d = 13 ∨ d = 14 ∨ d = 15 := by omega
theorem hexAt (d : Int) (h0 : 0 ≤ d) (h1 : d < 16) (h : d.toNat < (ByteArray.mk #[48, 49, 50, 51, 52, 53, 54, 55, 56, 57, 97, 98, 99, 100, 101, 102]).size) :
    (((ByteArray.mk #[48, 49, 50, 51, 52, 53, 54, 55, 56, 57, 97, 98, 99, 100, 101, 102])[d.toNat]'h).toNat : Int) = hexN d := by
  rcases hex_cases d h0 h1 with rfl | rfl | rfl | rfl | rfl | rfl | rfl | rfl | rfl | rfl | rfl | rfl | rfl | rfl | rfl | rfl <;> rfl
theorem hexN_bd (d : Int) (h0 : 0 ≤ d) (h1 : d < 16) : 48 ≤ hexN d ∧ hexN d ≤ 102 := by unfold hexN; split <;> omega
@[irreducible] def hexS (a : Int) : ByteArray := ByteArray.mk #[48, 120] ++ strOfNums [hexN (a / 268435456 % 16), hexN (a / 16777216 % 16), hexN (a / 1048576 % 16), hexN (a / 65536 % 16), hexN (a / 4096 % 16), hexN (a / 256 % 16), hexN (a / 16 % 16), hexN (a % 16)]
theorem str_cons (x : Int) (l : List Int) : strOfNums [x] ++ strOfNums l = strOfNums (x :: l) := by
  apply bytes_inj
  simp [strOfNums]
theorem str_nil : strOfNums [] = ByteArray.mk #[] := rfl
def goodD (c : Int) : Bool := (decide (48 ≤ c) && decide (c ≤ 57)) || (decide (97 ≤ c) && decide (c ≤ 102))
def digV (c : Int) : Int := if c ≤ 57 then c - 48 else c - 87
def refD (c : Int) : Int := if 97 ≤ c then c - 97 + 10 else c - 48
theorem goodD_or (c : Int) (h : goodD c = true) : (48 ≤ c ∧ c ≤ 57) ∨ (97 ≤ c ∧ c ≤ 102) := by simpa [goodD] using h
theorem goodD_mk (c : Int) (h : (48 ≤ c ∧ c ≤ 57) ∨ (97 ≤ c ∧ c ≤ 102)) : goodD c = true := by simpa [goodD] using h
theorem goodD_no (c : Int) (h : ¬ ((48 ≤ c ∧ c ≤ 57) ∨ (97 ≤ c ∧ c ≤ 102))) : goodD c = false := by
  cases hg : goodD c
  · rfl
  · exact absurd (goodD_or c hg) h
theorem digV_bd (c : Int) (h : goodD c = true) : 0 ≤ digV c ∧ digV c ≤ 15 := by
  have := goodD_or c h
  unfold digV; split <;> omega
theorem refD_good (c : Int) (h : goodD c = true) : refD c % 16 = digV c := by
  have := goodD_or c h
  unfold refD digV; split <;> split <;> omega
theorem hexN_digV (c : Int) (h : goodD c = true) : hexN (digV c) = c := by
  have := goodD_or c h
  unfold hexN digV; split <;> split <;> omega
theorem goodD_hexN (d : Int) (h0 : 0 ≤ d) (h1 : d < 16) : goodD (hexN d) = true := by
  apply goodD_mk
  unfold hexN; split <;> omega
def byteI (s : ByteArray) (k : Nat) : Int := ((s.data.toList[k]?.getD 0).toNat : Int)
theorem byteI_bd (s : ByteArray) (k : Nat) : 0 ≤ byteI s k ∧ byteI s k ≤ 255 := by
  unfold byteI
  have := (s.data.toList[k]?.getD 0).toNat_lt
  omega
theorem byteI_eq (s : ByteArray) (k : Nat) (h : k < s.size) : ((s[k]'h).toNat : Int) = byteI s k := by
  have e : s.data.toList[k]? = some (s[k]'h) := by
    have hk : k < s.data.toList.length := by simpa using h
    rw [List.getElem?_eq_getElem hk]
    rfl
  unfold byteI
  rw [e]
  rfl
def pN (s : ByteArray) : Nat → Int
  | 0 => 0
  | j + 1 => pN s j * 16 + digV (byteI s (j + 2))
def refN (s : ByteArray) : Nat → Int
  | 0 => 0
  | j + 1 => refN s j * 16 % 4294967296 + refD (byteI s (j + 2)) % 16
def okS (s : ByteArray) : Prop := s.size = 10 ∧ byteI s 0 = 48 ∧ byteI s 1 = 120 ∧ ∀ j, j < 8 → goodD (byteI s (j + 2)) = true
@[irreducible] noncomputable def parseV (s : ByteArray) : Int := @ite _ (okS s) (Classical.propDecidable _) (pN s 8) 0
@[irreducible] noncomputable def parseE (s : ByteArray) : Int := @ite _ (okS s) (Classical.propDecidable _) 0 2
theorem parseV_ok (s : ByteArray) (h : okS s) : parseV s = pN s 8 := by unfold parseV; rw [if_pos h]
theorem parseE_ok (s : ByteArray) (h : okS s) : parseE s = 0 := by unfold parseE; rw [if_pos h]
theorem parseV_no (s : ByteArray) (h : ¬ okS s) : parseV s = 0 := by unfold parseV; rw [if_neg h]
theorem parseE_no (s : ByteArray) (h : ¬ okS s) : parseE s = 2 := by unfold parseE; rw [if_neg h]
theorem pN_bd (s : ByteArray) (j : Nat) (hg : ∀ i, i < j → goodD (byteI s (i + 2)) = true) : 0 ≤ pN s j ∧ pN s j < 16 ^ j := by
  induction j with
  | zero => simp [pN]
  | succ j ih =>
    have h1 := ih fun i hi => hg i (by omega)
    have h2 := digV_bd _ (hg j (by omega))
    unfold pN
    rw [Int.pow_succ]
    omega
theorem pow16 (j : Nat) (h : j ≤ 7) : (16 : Int) ^ j ≤ 268435456 := by
  have : j = 0 ∨ j = 1 ∨ j = 2 ∨ j = 3 ∨ j = 4 ∨ j = 5 ∨ j = 6 ∨ j = 7 := by omega
  rcases this with rfl | rfl | rfl | rfl | rfl | rfl | rfl | rfl <;> decide
theorem refN_good (s : ByteArray) (j : Nat) (hj : j ≤ 8) (hg : ∀ i, i < j → goodD (byteI s (i + 2)) = true) : refN s j = pN s j := by
  induction j with
  | zero => rfl
  | succ j ih =>
    have h1 := ih (by omega) fun i hi => hg i (by omega)
    have h2 := pN_bd s j fun i hi => hg i (by omega)
    have h3 := pow16 j (by omega)
    have h4 := digV_bd _ (hg j (by omega))
    have h5 := refD_good _ (hg j (by omega))
    unfold refN pN
    rw [h1, h5]
    omega
theorem refN_bd (s : ByteArray) (j : Nat) : 0 ≤ refN s j ∧ refN s j ≤ 4294967295 := by
  cases j with
  | zero => simp [refN]
  | succ j => unfold refN; omega
theorem ten {s : ByteArray} (h : s.size = 10) : ∃ x0 x1 x2 x3 x4 x5 x6 x7 x8 x9 : UInt8, s.data.toList = [x0, x1, x2, x3, x4, x5, x6, x7, x8, x9] := by
  have hl : s.data.toList.length = 10 := by simpa using h
  match hm : s.data.toList, hl with
  | [x0, x1, x2, x3, x4, x5, x6, x7, x8, x9], _ => exact ⟨x0, x1, x2, x3, x4, x5, x6, x7, x8, x9, rfl⟩
theorem hexS_data (a : Int) : (hexS a).data.toList = [48, 120, UInt8.ofNat (hexN (a / 268435456 % 16)).toNat, UInt8.ofNat (hexN (a / 16777216 % 16)).toNat, UInt8.ofNat (hexN (a / 1048576 % 16)).toNat, UInt8.ofNat (hexN (a / 65536 % 16)).toNat, UInt8.ofNat (hexN (a / 4096 % 16)).toNat, UInt8.ofNat (hexN (a / 256 % 16)).toNat, UInt8.ofNat (hexN (a / 16 % 16)).toNat, UInt8.ofNat (hexN (a % 16)).toNat] := by
  unfold hexS
  simp [strOfNums]
theorem byte_back (d : Int) (h0 : 0 ≤ d) (h1 : d < 16) : ((UInt8.ofNat (hexN d).toNat).toNat : Int) = hexN d := by
  have := hexN_bd d h0 h1
  rw [UInt8.toNat_ofNat']
  omega
theorem hexS_ok (a : Int) : okS (hexS a) := by
  have hd := hexS_data a
  refine ⟨?_, ?_, ?_, ?_⟩
  · have : (hexS a).data.toList.length = 10 := by rw [hd]; rfl
    simpa using this
  · simp [byteI, hd]
  · simp [byteI, hd]
  · intro j hj
    have : j = 0 ∨ j = 1 ∨ j = 2 ∨ j = 3 ∨ j = 4 ∨ j = 5 ∨ j = 6 ∨ j = 7 := by omega
    rcases this with rfl | rfl | rfl | rfl | rfl | rfl | rfl | rfl <;>
      (simp only [byteI, hd]; simp only [Nat.reduceAdd, List.getElem?_cons_succ, List.getElem?_cons_zero, Option.getD_some]; rw [byte_back _ (by omega) (by omega)]; exact goodD_hexN _ (by omega) (by omega))
theorem ofNat_back (x : UInt8) : UInt8.ofNat ((x.toNat : Int)).toNat = x := by simp
theorem hex_of_ok (s : ByteArray) (h : okS s) : hexS (pN s 8) = s := by
  obtain ⟨hs, h0, h1, hg⟩ := h
  obtain ⟨x0, x1, x2, x3, x4, x5, x6, x7, x8, x9, hx⟩ := ten hs
  have g0 := hg 0 (by omega)
  have g1 := hg 1 (by omega)
  have g2 := hg 2 (by omega)
  have g3 := hg 3 (by omega)
  have g4 := hg 4 (by omega)
  have g5 := hg 5 (by omega)
  have g6 := hg 6 (by omega)
  have g7 := hg 7 (by omega)
  simp only [byteI, hx, Nat.reduceAdd, List.getElem?_cons_succ, List.getElem?_cons_zero, Option.getD_some] at h0 h1 g0 g1 g2 g3 g4 g5 g6 g7
  have e : pN s 8 = ((((((digV x2.toNat * 16 + digV x3.toNat) * 16 + digV x4.toNat) * 16 + digV x5.toNat) * 16 + digV x6.toNat) * 16 + digV x7.toNat) * 16 + digV x8.toNat) * 16 + digV x9.toNat := by
    simp only [pN, byteI, hx, Nat.reduceAdd, List.getElem?_cons_succ, List.getElem?_cons_zero, Option.getD_some]
    omega
  have b0 := digV_bd _ g0
  have b1 := digV_bd _ g1
  have b2 := digV_bd _ g2
  have b3 := digV_bd _ g3
  have b4 := digV_bd _ g4
  have b5 := digV_bd _ g5
  have b6 := digV_bd _ g6
  have b7 := digV_bd _ g7
  have q0 : pN s 8 / 268435456 % 16 = digV x2.toNat := by omega
  have q1 : pN s 8 / 16777216 % 16 = digV x3.toNat := by omega
  have q2 : pN s 8 / 1048576 % 16 = digV x4.toNat := by omega
  have q3 : pN s 8 / 65536 % 16 = digV x5.toNat := by omega
  have q4 : pN s 8 / 4096 % 16 = digV x6.toNat := by omega
  have q5 : pN s 8 / 256 % 16 = digV x7.toNat := by omega
  have q6 : pN s 8 / 16 % 16 = digV x8.toNat := by omega
  have q7 : pN s 8 % 16 = digV x9.toNat := by omega
  apply bytes_inj
  rw [hexS_data, q0, q1, q2, q3, q4, q5, q6, q7, hexN_digV _ g0, hexN_digV _ g1, hexN_digV _ g2, hexN_digV _ g3, hexN_digV _ g4, hexN_digV _ g5, hexN_digV _ g6, hexN_digV _ g7, hx]
  have p0 : x0 = 48 := by apply UInt8.toNat_inj.1; simpa using (by omega : x0.toNat = 48)
  have p1 : x1 = 120 := by apply UInt8.toNat_inj.1; simpa using (by omega : x1.toNat = 120)
  simp [p0, p1]
theorem hex_iff (s : ByteArray) (hs : s.size = 10) : (okS s → ((hexS (refN s 8)).toList == s.toList) = true) ∧ (¬ okS s → ((hexS (refN s 8)).toList == s.toList) = false) := by
  constructor
  · intro h
    rw [refN_good s 8 (by omega) h.2.2.2, hex_of_ok s h]
    simp
  · intro h
    cases hh : (hexS (refN s 8)).toList == s.toList with
    | false => rfl
    | true =>
      exfalso
      apply h
      have e1 : (hexS (refN s 8)).toList = s.toList := by simpa using hh
      rw [ByteArray.toList_eq, ByteArray.toList_eq] at e1
      have e2 : hexS (refN s 8) = s := bytes_inj e1
      rw [← e2]
      exact hexS_ok _
end Go.Proofs.Ytlmdbpdfjjfapaa
