/-
  The contracts of what is asked of any type's tree where no struct is given, in the code.
-/
import Derived.Test.YtgplonfhmemhiaaGreatDoorTyWl
import Derived.Test.YtgplonfhmemhiaaGreatDoorTyMt
import Derived.Deep.RegionHeld3
namespace Go.Proofs.YtgplonfhmemhiaaGreatDoor
set_option linter.unusedVariables false
set_option linter.unusedSimpArgs false
set_option maxRecDepth 100000
open Go.RowKit

/-- All parts of a type, as they lie. -/
def PaO (S : Nat → Prop) (A : List Ty) (ao : Option Addr) (w : World) : Prop := A = [] ∨ ∃ g L, ao = some ⟨g, 0, none⟩ ∧ PaAt S A g L w
theorem Nd.allp {S : Nat → Prop} {w : World} {t : Ty} {ao : Option Addr} {n c : Nat} (h : Nd S w t (.slice ao n c)) : n = t.parts.length ∧ t.parts.length ≤ c ∧ PaO S t.parts ao w := by
  cases h with
  | leaf t h => exact ⟨by rw [h]; rfl, by rw [h]; exact Nat.le_refl _, .inl h⟩
  | row t g cap L h1 h2 h3 h4 h5 h6 =>
    refine ⟨by rw [h1, List.length_map], by rw [h1, List.length_map]; exact h3, .inr ⟨g, L, rfl, ⟨h1.symm, h4, fun k p hk i x hx => ?_, h6⟩⟩⟩
    obtain ⟨t2, v2⟩ := p
    have hi : i < 5 := by
      have := (List.getElem?_eq_some_iff.1 hx).1
      rwa [ndC_len] at this
    exact h5 _ _ ((ndCs_at L k t2 v2 hk i hi).trans hx)
theorem parts_sub : ∀ (t u : Ty), u ∈ t.parts → u.size < t.size
  | .base c, u, h => by cases h
  | .str s, u, h => by cases h
  | .ptr t, u, h => by
    have e : u = t := by simpa [Ty.parts] using h
    subst e
    show u.size < u.size + 1
    omega
  | .arr n t, u, h => by
    have e : u = t := by simpa [Ty.parts] using h
    subst e
    show u.size < u.size + 1
    omega
  | .fn ps r, u, h => by
    rcases List.mem_append.1 (show u ∈ ps.list ++ [r] from h) with h | h
    · have := lst_size_le ps u h
      show u.size < ps.size + r.size + 2
      omega
    · rw [List.mem_singleton] at h
      subst h
      show u.size < ps.size + u.size + 2
      omega
theorem parts_wf : ∀ (t u : Ty), t.wf → u ∈ t.parts → u.wf
  | .base c, u, _, h => by cases h
  | .str s, u, _, h => by cases h
  | .ptr t, u, hw, h => by
    have e : u = t := by simpa [Ty.parts] using h
    subst e
    exact hw
  | .arr n t, u, hw, h => by
    have e : u = t := by simpa [Ty.parts] using h
    subst e
    exact hw.2
  | .fn ps r, u, hw, h => by
    rcases List.mem_append.1 (show u ∈ ps.list ++ [r] from h) with h | h
    · exact lst_wf ps u hw.1 h
    · rw [List.mem_singleton] at h
      subst h
      exact hw.2
/-- A part, in a world further on. -/
theorem PaO.at {S : Nat → Prop} {A : List Ty} {ao : Option Addr} {w wr : World} (h : PaO S A ao w) (hS : ∀ j, S j → j < w.heap.size) (hb : ∀ j, j < w.heap.size → wr.heap[j]? = w.heap[j]?) (hs : w.heap.size ≤ wr.heap.size) {k : Nat} {u : Ty} (hk : A[k]? = some u) :
    ∃ g a n c, ao = some ⟨g, 0, none⟩ ∧ NdIn u (.slice a n c) wr ∧ g < wr.heap.size ∧ wr.cell? ⟨g, k * 5, none⟩ = some (.int .u8 u.letter.toNat) ∧ wr.cell? ⟨g, k * 5 + 1, none⟩ = some (.string ⟨u.code.toArray⟩) ∧ wr.cell? ⟨g, k * 5 + 2, none⟩ = some (.int .i64 u.count) ∧ wr.cell? ⟨g, k * 5 + 3, none⟩ = some (.string ⟨u.tag.toArray⟩) ∧ wr.cell? ⟨g, k * 5 + 4, none⟩ = some (.slice a n c) := by
  rcases h with h | ⟨g, L, h1, h2⟩
  · rw [h] at hk
    cases hk
  · obtain ⟨a, n, c, hn, hg, n0, n1, n2, n3, n4⟩ := (h2.keep (w' := wr) (fun j hj => hb j (hS j hj))).at hk
    exact ⟨g, a, n, c, h1, hn.mono (fun j hj => Nat.lt_of_lt_of_le (hS j hj) hs) (fun _ _ => rfl), hg, n0, n1, n2, n3, n4⟩
abbrev nT (t : Ty) (a : Option Addr) (n c : Nat) : Value := nV t.letter.toNat ⟨t.code.toArray⟩ t.count ⟨t.tag.toArray⟩ a n c
def DpC (m : Nat) : Prop := ∀ (t : Ty) (a : Option Addr) (n c : Nat) (w : World), t.size ≤ m → NdIn t (.slice a n c) w → t.size ≤ 65536 →
  Calls Tryz.prog 90 #[nT t a n c] w fun e w' => (∃ d : Int, e = .returned (.int .i64 d)) ∧ Below w.heap.size w w'
set_option maxHeartbeats 4000000 in
theorem depth_succ (m : Nat) (hD : DpC m) : DpC (m + 1) := fun t a n c w hsz hN hbig => by
  obtain ⟨rfl, hc, hP⟩ := hN.allp
  have HP := Lib.hid hP
  have HD := Lib.hid hD
  have HSz := Lib.hid (And.intro hsz hbig)
  have hlen : t.parts.length ≤ 65536 := Nat.le_trans (parts_le t) hbig
  obtain ⟨x0, hx0⟩ : ∃ x0 : Int, (t.letter.toNat : Int) = x0 := ⟨_, rfl⟩
  obtain ⟨x2, hx2⟩ : ∃ x2 : Int, (t.count : Int) = x2 := ⟨_, rfl⟩
  obtain ⟨s1, hs1⟩ : ∃ s1, (⟨t.code.toArray⟩ : ByteArray) = s1 := ⟨_, rfl⟩
  obtain ⟨s3, hs3⟩ : ∃ s3, (⟨t.tag.toArray⟩ : ByteArray) = s3 := ⟨_, rfl⟩
  unfold nT
  rw [hx0, hx2, hs1, hs3]
  have HB0 := Lib.hid (below_a w (.cells #[.int .u8 x0, .string s1, .int .i64 x2, .string s3, .slice a t.parts.length c] 61))
  clear hN hP hD hsz hbig hx0 hx2 hs1 hs3
  go_enter Tryz.func90, Tryz.ntmps90
  go_wp2_with fail
  go_loopg [3, 9] t.parts.length (fun g v3 v9 wr => ∃ (q : Nat) (d : Int), q + g = t.parts.length ∧ v9 = .int .i64 (q : Int) ∧ v3 = .int .i64 d ∧ Hid (Below w.heap.size w wr))
  case atStart => exact ⟨0, 0, by omega, rfl, rfl, HB0.out⟩
  case round =>
    obtain ⟨q, d, hq, rfl, rfl, HR⟩ := hrel
    by_cases hlt : q < t.parts.length
    · have hd : decide ((q : Int) < (t.parts.length : Int)) = true := by simp; omega
      obtain ⟨u, hu⟩ : ∃ u, t.parts[q]? = some u := ⟨_, List.getElem?_eq_getElem hlt⟩
      obtain ⟨g, a3, n3', c3, ha, hn, hg, n0, n1, n2, n3, n4⟩ := HP.out.at (fun j hj => hj) (fun j hj => HR.out.block j hj) HR.out.size hu
      have hus := parts_sub t u (List.mem_of_getElem? hu)
      have HDu := Lib.hid (fun o => HD.out u a3 n3' c3 (wr.alloc o) (by have := HSz.out.1; omega) (hn.next (below_a _ _)) (by have := HSz.out.2; omega))
      unfold nT at HDu
      obtain ⟨z0, hz0⟩ : ∃ z : Int, (u.letter.toNat : Int) = z := ⟨_, rfl⟩
      obtain ⟨z2, hz2⟩ : ∃ z : Int, (u.count : Int) = z := ⟨_, rfl⟩
      rw [hz0] at n0 HDu
      rw [hz2] at n2 HDu
      have hq0 : (0 : Int) ≤ (q : Int) := by omega
      have hql : (q : Int) < (t.parts.length : Int) := by omega
      have hwm : IntKind.i64.wrap ((q : Int) + 1) = ((q + 1 : Nat) : Int) := by rw [IntKind.wrap_i64]; omega
      have HM : Hid (t.parts.length - (q + 1) < gk ∧ q + 1 + (t.parts.length - (q + 1)) = t.parts.length) := ⟨by omega, by omega⟩
      subst ha
      clear hu hn hz0 hz2 hus
      go_wp2_with fail
      refine (HDu.out _).mono ?_
      rintro e w5 ⟨⟨d', rfl⟩, hb⟩
      have HB5 := Lib.hid (below_on (HR.out.alloc HR.out.size (.cells #[.int .u8 z0, .string ⟨u.code.toArray⟩, .int .i64 z2, .string ⟨u.tag.toArray⟩, .slice a3 n3' c3] 61)) hb (HR.out.alloc HR.out.size _).size)
      clear hb n0 n1 n2 n3 n4
      go_wp2_with fail
      go_roundg (t.parts.length - (q + 1))
      case measure => exact HM.out.1
      case rel => exact ⟨q + 1, _, HM.out.2, rfl, rfl, HB5⟩
    · have hd : decide ((q : Int) < (t.parts.length : Int)) = false := by simp; omega
      go_wp2_with fail
      go_ret
      exact ⟨⟨_, rfl⟩, HR.out⟩
theorem depth_zero : DpC 0 := fun t a n c w hsz => by
  have : 1 ≤ t.size := by cases t <;> (unfold Ty.size; omega)
  omega
theorem c_depth : ∀ m, DpC m
  | 0 => depth_zero
  | m + 1 => depth_succ m (c_depth m)
def LkC (m : Nat) : Prop := ∀ (t : Ty) (a : Option Addr) (n c : Nat) (w : World), t.size ≤ m → t.wf → NdIn t (.slice a n c) w →
  Calls Tryz.prog 92 #[.slice none 0 0, nT t a n c] w fun e w' => (∃ d : Bool, e = .returned (.bool d)) ∧ Below w.heap.size w w'
set_option maxHeartbeats 4000000 in
theorem lacks_succ (m : Nat) (hD : LkC m) : LkC (m + 1) := fun t a n c w hsz hwf hN => by
  have hz : ∀ x0 : Int, (t.letter.toNat : Int) = x0 → (x0 == 97) = false → (x0 == 83) = false → Calls Tryz.prog 92 #[.slice none 0 0, nT t a n c] w fun e w' => (∃ d : Bool, e = .returned (.bool d)) ∧ Below w.heap.size w w' := fun x0 hx0 h1 h2 => by
    unfold nT
    rw [hx0]
    obtain ⟨x2, hx2⟩ : ∃ x2 : Int, (t.count : Int) = x2 := ⟨_, rfl⟩
    obtain ⟨s1, hs1⟩ : ∃ s1, (⟨t.code.toArray⟩ : ByteArray) = s1 := ⟨_, rfl⟩
    obtain ⟨s3, hs3⟩ : ∃ s3, (⟨t.tag.toArray⟩ : ByteArray) = s3 := ⟨_, rfl⟩
    rw [hx2, hs1, hs3]
    clear hN hD hsz hwf hx0 hx2 hs1 hs3
    go_enter Tryz.func92, Tryz.ntmps92
    go_wp2_with fail
    go_ret
    exact ⟨⟨_, rfl⟩, below_a _ _⟩
  cases t with
  | ptr u => exact hz 112 rfl rfl rfl
  | fn ps r => exact hz 102 rfl rfl rfl
  | base x =>
    have hc : baseC x = true := hwf
    unfold baseC at hc
    simp at hc
    rcases hc with ((((hc | hc) | hc) | hc) | hc) | hc <;> (subst hc; exact hz _ rfl rfl rfl)
  | str s =>
    have HF := Lib.hid (fun w => c_find0 ⟨s.toArray⟩ w)
    obtain ⟨s1, hs1⟩ : ∃ s1, (⟨(Ty.str s).code.toArray⟩ : ByteArray) = s1 := ⟨_, rfl⟩
    show Calls _ _ #[_, nV 83 ⟨(Ty.str s).code.toArray⟩ 0 ⟨s.toArray⟩ a n c] w _
    rw [hs1]
    clear hz hN hD hsz hwf hs1
    go_enter Tryz.func92, Tryz.ntmps92
    go_wp2_with fail
    refine (HF.out _).mono ?_
    rintro e w2 ⟨rfl, hb⟩
    have HB := Lib.hid (below_on (below_a w (.cells #[.int .u8 83, .string s1, .int .i64 0, .string ⟨s.toArray⟩, .slice a n c] 61)) hb (by simp))
    clear hb
    go_wp2_with fail
    go_ret
    exact ⟨⟨_, rfl⟩, HB.out.alloc HB.out.size _⟩
  | arr k u =>
    have HI := Lib.hid (c_inner (fun j => j < w.heap.size) (.arr k u) (.slice a n c) (w.alloc (.cells #[.int .u8 97, .string ⟨(Ty.arr k u).code.toArray⟩, .int .i64 (k : Int), .string ⟨#[]⟩, .slice a n c] 61)) (Nd.mono hN (fun j hj => hj) (fun j hj => Below.heap_alloc _ _ _ hj)) [] u rfl (by simp))
    have HD := Lib.hid (fun a n c w hn => hD u a n c w (by have h : u.size + 1 ≤ m + 1 := hsz; omega) hwf.2 hn)
    have HI' : Hid (Calls Tryz.prog 41 #[nV 97 ⟨(Ty.arr k u).code.toArray⟩ (k : Int) ⟨#[]⟩ a n c] (w.alloc (.cells #[.int .u8 97, .string ⟨(Ty.arr k u).code.toArray⟩, .int .i64 (k : Int), .string ⟨#[]⟩, .slice a n c] 61)) fun e w' => (∃ a n c, e = .returned (ndV u (.slice a n c)) ∧ NdIn u (.slice a n c) w') ∧ Below w.heap.size w w') := HI.out.mono fun e w' h => by
      obtain ⟨⟨a', n', c', h1, h2⟩, h3⟩ := h
      have h4 := below_on (below_a w _) h3 (by simp)
      exact ⟨⟨a', n', c', h1, Nd.mono h2 (fun j hj => Nat.lt_of_lt_of_le hj h4.size) (fun j hj => by
        have h5 := h3.block j (by simp; omega)
        exact h5)⟩, h4⟩
    obtain ⟨x2, hx2⟩ : ∃ x2 : Int, (k : Int) = x2 := ⟨_, rfl⟩
    obtain ⟨s1, hs1⟩ : ∃ s1, (⟨(Ty.arr k u).code.toArray⟩ : ByteArray) = s1 := ⟨_, rfl⟩
    show Calls _ _ #[_, nV 97 ⟨(Ty.arr k u).code.toArray⟩ (k : Int) ⟨#[]⟩ a n c] w _
    rw [hx2, hs1] at HI' ⊢
    clear hz hN hD hsz hwf hs1 hx2 HI
    go_enter Tryz.func92, Tryz.ntmps92
    go_wp2_with fail
    refine HI'.out.mono ?_
    rintro e w2 ⟨⟨a', n', c', rfl, hn⟩, hb⟩
    have HB := Lib.hid hb
    have HDn := Lib.hid (HD.out a' n' c' w2 hn)
    clear hb hn HI'
    unfold nT at HDn
    rw [nd_nV]
    obtain ⟨z0, hz0⟩ : ∃ z : Int, (u.letter.toNat : Int) = z := ⟨_, rfl⟩
    obtain ⟨z2, hz2⟩ : ∃ z : Int, (u.count : Int) = z := ⟨_, rfl⟩
    rw [hz0, hz2] at HDn ⊢
    clear hz0 hz2
    go_wp2_with fail
    refine HDn.out.mono ?_
    rintro e w5 ⟨⟨d', rfl⟩, hb⟩
    have HB5 := Lib.hid (below_on HB.out hb HB.out.size)
    clear hb
    go_wp2_with fail
    go_ret
    exact ⟨⟨_, rfl⟩, HB5.out⟩
theorem c_lacks : ∀ m, LkC m
  | 0 => fun t a n c w hsz => by
    have : 1 ≤ t.size := by cases t <;> (unfold Ty.size; omega)
    omega
  | m + 1 => lacks_succ m (c_lacks m)
/-- Some extent. -/
def ExR (e : Ending) : Prop := ∃ (x y z : Int) (q : Bool), e = .returned (.tuple #[.agg #[.int .i64 x, .int .i64 y, .int .i64 z], .bool q])
def ExC (m : Nat) : Prop := ∀ (t : Ty) (a : Option Addr) (n c : Nat) (w : World), t.size ≤ m → t.wf → NdIn t (.slice a n c) w →
  Calls Tryz.prog 27 #[.slice none 0 0, nT t a n c] w fun e w' => ExR e ∧ Below w.heap.size w w'
set_option maxHeartbeats 2000000 in
theorem c_timesA (x y z n : Int) (w : World) : Calls Tryz.prog 49 #[.agg #[.int .i64 x, .int .i64 y, .int .i64 z], .int .i64 n] w fun e w' => (∃ x y z : Int, e = .returned (.agg #[.int .i64 x, .int .i64 y, .int .i64 z])) ∧ Below w.heap.size w w' := by
  go_enter Tryz.func49, Tryz.ntmps49
  go_wp2_with fail
  refine bodyPost_ret (v := .agg #[.int .i64 (min (wrap64 (x * n)) 65537), .int .i64 y, .int .i64 (min (wrap64 (z * n)) 65537)]) (by simp [results, Tryz.results49, go_sem]) rfl ?_
  exact ⟨⟨_, _, _, rfl⟩, (below_a _ _).alloc (by simp) _⟩
end Go.Proofs.YtgplonfhmemhiaaGreatDoor
