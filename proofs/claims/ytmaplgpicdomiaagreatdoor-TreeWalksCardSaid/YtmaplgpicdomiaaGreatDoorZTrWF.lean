/-
  A tree and whole numbers that came in, opened.
-/
import Derived.Test.YtmaplgpicdomiaaGreatDoorZTrWu
import Derived.Test.YtmaplgpicdomiaaGreatDoorZTrWs
import Derived.Test.YtmaplgpicdomiaaGreatDoorZTrFr
namespace Go.Proofs.YtmaplgpicdomiaaGreatDoor
set_option linter.unusedVariables false
set_option linter.unusedSimpArgs false
open Go.ChangeShapes Go.WideShapes Go.ChangeAt Go.WideElems Go.RowKit

/-- Whole numbers that came in. -/
theorem open_ints {H : Type} {enc : TypeId × Value → H} {W : World} {sp : Nat → Bool} {held : Bool} {fuel : Nat} {a : Option Addr} {len cap : Nat} {x : DataW H × List MemPlace} {ts : List TypeId} {ds : List (DataW H)} {j : Nat}
    (h : DataW.trod enc Tryz.prog W 0 sp held fuel 27 (Value.slice a len cap).cells.toList = some x) (hsz : (DataW.weightsEach Tryz.prog ts ds).all (· ≤ reachBytes) = true) (ht : ts[j]? = some 27) (hd : ds[j]? = some x.1) :
    ∃ t : List Int, t.length = len ∧ IzIn t a W ∧ len * 8 ≤ 140737488351232 ∧ len ≤ cap ∧ (a = none → len = 0 ∧ cap = 0) := by
  rcases Go.Deep.open_slice Tryz.underlying27 h with ⟨hcs, _⟩ | ⟨a', len', cap', m, n, D, Pl, hcs, hb, hl, hm, hmm, hx, hi⟩
  · simp [Value.cells] at hcs
    obtain ⟨rfl, rfl, rfl⟩ := hcs
    exact ⟨[], rfl, fun h => (by cases h), by omega, by omega, fun _ => ⟨rfl, rfl⟩⟩
  · simp [Value.cells] at hcs
    obtain ⟨rfl, rfl, rfl⟩ := hcs
    have hlm : len ≤ m := by rw [hmm]; split <;> omega
    have cI : Tryz.prog.cellsOf 3 = 1 := by kernel_rfl
    obtain ⟨S, hS1, hS2⟩ := choose_list (p := fun i (y : Int) => W.cell? (a'.add (i * 1)) = some (.int .i64 y)) len (fun i hil => by
      obtain ⟨cs', hc, ht'⟩ := hi i (by omega)
      rw [cI] at hc
      obtain ⟨_, hcl, hat⟩ := World.cells?_some hc
      obtain ⟨v0, e0, _, w0⟩ := DataW.trod_int Tryz.underlying3 ht'
      refine ⟨v0, ?_⟩
      have h1 := hat 0 (by omega)
      have q0 : cs'[0]? = some (.int .i64 v0) := by rw [e0]; rfl
      rw [q0] at h1
      simpa [Addr.add] using h1)
    refine ⟨S, hS1, fun h0 => ?_, ?_, hl, fun h => by cases h⟩
    · obtain ⟨b, off, spot⟩ := a'
      obtain ⟨q0, hq0⟩ : ∃ q, S[0]? = some q := ⟨_, List.getElem?_eq_getElem h0⟩
      have hx0 := hS2 0 q0 hq0
      have hspot : spot = none := by
        have := World.cell?_spot hx0
        simpa [Addr.add] using this
      subst hspot
      have hadd : ∀ i, ((⟨b, off, none⟩ : Addr).add (i * 1)) = ⟨b, off + i, none⟩ := by
        intro i
        unfold Addr.add
        split <;> simp_all
      rw [hadd] at hx0
      refine ⟨b, off, rfl, cell_blt hx0, fun k s hk => ?_⟩
      have := hS2 k s hk
      rw [hadd] at this
      exact this
    · have hs := sized_slice hsz (j := j) (t := 27) (e := 3) ht (by rw [hd, hx]) Tryz.underlying27
      have bI : Tryz.prog.bytesOf 3 = 8 := by kernel_rfl
      rw [bI] at hs
      unfold reachBytes at hs
      simp at hs
      have : len * 8 ≤ (len + (m - len)) * 8 := Nat.mul_le_mul_right _ (by omega)
      omega
end Go.Proofs.YtmaplgpicdomiaaGreatDoor
