/-
  Contracts of the calls that make and read bytes of words and slices, and the walk of the law on bytes and texts over them: it returns true and writes nothing that was there.
-/
import Derived.Test.YtlmdbpdfjjfapaaTextParts
import Derived.Deep.QuietTactic
import Derived.BigQuiet
import Derived.OwnWalk
import Derived.WalkSmall
import Derived.Laws.AppendOwn
import Derived.Laws.AppendOwnNone
namespace Go.Proofs.Ytlmdbpdfjjfapaa
set_option linter.unusedVariables false
open Go.ChangeShapes Go.WideShapes Go.ChangeAt Go.RowKit

/-- A slice of bytes that reads as the numbers ns. -/
def SB (w : World) (a : Option Addr) (len : Nat) (ns : List Int) : Prop :=
  ns.length = len ∧ (∀ i, i < len → 0 ≤ ns.getD i 0 ∧ ns.getD i 0 ≤ 255) ∧
  (len = 0 ∨ ∃ b off, a = some ⟨b, off, none⟩ ∧ ∀ i, i < len → w.cell? ⟨b, off + i, none⟩ = some (.int .u8 (ns.getD i 0)))
theorem cell_lt {w : World} {p : Addr} {v : Value} (h : w.cell? p = some v) : p.block < w.heap.size := by
  unfold World.cell? at h
  cases hb : w.heap[p.block]? with
  | none => rw [hb] at h; cases h
  | some o => exact (Array.getElem?_eq_some_iff.1 hb).1
theorem SB.next {w w' : World} {a : Option Addr} {len : Nat} {ns : List Int} (h : SB w a len ns) (hb : Below w.heap.size w w') : SB w' a len ns := by
  refine ⟨h.1, h.2.1, ?_⟩
  rcases h.2.2 with hn | ⟨b, off, rfl, hc⟩
  · exact .inl hn
  · exact .inr ⟨b, off, rfl, fun i hi => by rw [hb.cell (cell_lt (hc i hi))]; exact hc i hi⟩
theorem conv_none (w : World) (a : Option Addr) (cap : Nat) : (convert 31 9 (.slice a 0 cap)).run Try.prog w = .ok (.string (strOfNums [])) w := by
  cases a with
  | none => exact run_convert_bytes_nil w 31 5 Try.underlying31 Try.underlying5 0 cap 9 Try.underlying9
  | some x =>
    rw [run_convert_bytes_string w 31 9 5 _ 0 cap Try.underlying31 Try.underlying5 Try.underlying9, run_bytesToString w x 0 cap [] (run_loadCells_list w x [] (fun j v hj => by simp at hj))]
    rfl
theorem SB.conv {w : World} {a : Option Addr} {len : Nat} {ns : List Int} (h : SB w a len ns) (cap : Nat) : (convert 31 9 (.slice a len cap)).run Try.prog w = .ok (.string (strOfNums ns)) w := by
  rcases h.2.2 with h0 | ⟨b, off, rfl, hc⟩
  · have e : ns = [] := List.length_eq_zero_iff.1 (h.1.trans h0)
    subst e; subst h0
    exact conv_none w a cap
  · exact run_convert_bytes_arg w 31 5 Try.underlying31 Try.underlying5 b off len cap ns h.1 hc 9 Try.underlying9
theorem c26 (a1 a2 : Option Addr) (len1 len2 cap1 cap2 : Nat) (ns : List Int) (w : World) (h1 : SB w a1 len1 ns) (h2 : SB w a2 len2 ns) :
    Calls Try.prog 26 #[.slice a1 len1 cap1, .slice a2 len2 cap2] w fun e w' => e = .returned (.bool true) ∧ w = w' := by
  have k1 := h1.conv cap1
  have k2 := h2.conv cap2
  go_enter Try.func26, Try.ntmps26
  go_wp2
  go_ret
  exact ⟨rfl, rfl⟩

/-! ### From -/
@[irreducible] def fromV (ns : List Int) : Int := if ns.length = 4 then ns.getD 0 0 + ns.getD 1 0 * 256 + ns.getD 2 0 * 65536 + ns.getD 3 0 * 16777216 else 0
@[irreducible] def fromE (ns : List Int) : Int := if ns.length = 4 then 0 else 3
theorem or_high (x y : Int) (k : Nat) (h0 : 0 ≤ x) (h1 : x < 2 ^ k) (h2 : 0 ≤ y) (h3 : y * 2 ^ k ≤ 4294967295) (h4 : x ≤ 4294967295) : bits BinOp.or IntKind.u32 x (y * 2 ^ k) = x + y * 2 ^ k := by
  have hp : (0 : Int) ≤ y * 2 ^ k := Int.mul_nonneg h2 (Int.pow_nonneg (by decide))
  rw [u32_or _ _ h0 (by omega) hp (by omega)]
  have e : (y * 2 ^ k).toNat = 2 ^ k * y.toNat := by
    have : y * 2 ^ k = ((2 ^ k * y.toNat : Nat) : Int) := by
      rw [Int.natCast_mul, Int.natCast_pow, Int.toNat_of_nonneg h2, Int.mul_comm]
      rfl
    rw [this, Int.toNat_natCast]
  have hx : x.toNat < 2 ^ k := by
    have : (x.toNat : Int) < ((2 ^ k : Nat) : Int) := by
      rw [Int.natCast_pow, Int.toNat_of_nonneg h0]
      exact h1
    exact Int.ofNat_lt.1 this
  rw [e, Nat.or_comm, ← Nat.two_pow_add_eq_or_of_lt hx y.toNat, ← e]
  have e2 : ((y * 2 ^ k).toNat : Int) = y * 2 ^ k := Int.toNat_of_nonneg hp
  omega
theorem or4 (z0 z1 z2 z3 : Int) (g0 : 0 ≤ z0) (l0 : z0 ≤ 255) (g1 : 0 ≤ z1) (l1 : z1 ≤ 255) (g2 : 0 ≤ z2) (l2 : z2 ≤ 255) (g3 : 0 ≤ z3) (l3 : z3 ≤ 255) :
    bits BinOp.or IntKind.u32 (bits BinOp.or IntKind.u32 (bits BinOp.or IntKind.u32 z0 (z1 * 256)) (z2 * 65536)) (z3 * 16777216) = z0 + z1 * 256 + z2 * 65536 + z3 * 16777216 := by
  rw [show bits BinOp.or IntKind.u32 z0 (z1 * 256) = z0 + z1 * 256 from or_high z0 z1 8 g0 (by omega) g1 (by omega) (by omega)]
  rw [show bits BinOp.or IntKind.u32 (z0 + z1 * 256) (z2 * 65536) = z0 + z1 * 256 + z2 * 65536 from or_high (z0 + z1 * 256) z2 16 (by omega) (by omega) g2 (by omega) (by omega)]
  exact or_high (z0 + z1 * 256 + z2 * 65536) z3 24 (by omega) (by omega) g3 (by omega) (by omega)
theorem fromV_four (z0 z1 z2 z3 : Int) : fromV [z0, z1, z2, z3] = z0 + z1 * 256 + z2 * 65536 + z3 * 16777216 := by unfold fromV; rfl
theorem fromE_four (z0 z1 z2 z3 : Int) : fromE [z0, z1, z2, z3] = 0 := by unfold fromE; rfl
theorem c22_four (b off cap : Nat) (z0 z1 z2 z3 : Int) (w : World) (h0 : w.cell? ⟨b, off, none⟩ = some (.int .u8 z0)) (h1 : w.cell? ⟨b, off + 1, none⟩ = some (.int .u8 z1)) (h2 : w.cell? ⟨b, off + 2, none⟩ = some (.int .u8 z2)) (h3 : w.cell? ⟨b, off + 3, none⟩ = some (.int .u8 z3))
   (g0 : 0 ≤ z0) (l0 : z0 ≤ 255) (g1 : 0 ≤ z1) (l1 : z1 ≤ 255) (g2 : 0 ≤ z2) (l2 : z2 ≤ 255) (g3 : 0 ≤ z3) (l3 : z3 ≤ 255) :
    Calls Try.prog 22 #[.slice (some ⟨b, off, none⟩) 4 cap] w fun e w' => e = .returned (.tuple #[.int .u32 (fromV [z0, z1, z2, z3]), .int .i64 (fromE [z0, z1, z2, z3])]) ∧ Below w.heap.size w w' := by
  have HV := Lib.hid ((fromV_four z0 z1 z2 z3).trans (or4 z0 z1 z2 z3 g0 l0 g1 l1 g2 l2 g3 l3).symm)
  have HE := Lib.hid (fromE_four z0 z1 z2 z3)
  go_enter Try.func22, Try.ntmps22
  go_wp2
  go_quiet (fail)
  go_wp2
  go_ret2
  exact ⟨ret_ue HV.out.symm HE.out.symm, below_drewN (Below.refl _ _) _⟩
theorem c23_four (b off cap : Nat) (z0 z1 z2 z3 : Int) (w : World) (h0 : w.cell? ⟨b, off, none⟩ = some (.int .u8 z0)) (h1 : w.cell? ⟨b, off + 1, none⟩ = some (.int .u8 z1)) (h2 : w.cell? ⟨b, off + 2, none⟩ = some (.int .u8 z2)) (h3 : w.cell? ⟨b, off + 3, none⟩ = some (.int .u8 z3))
   (g0 : 0 ≤ z0) (l0 : z0 ≤ 255) (g1 : 0 ≤ z1) (l1 : z1 ≤ 255) (g2 : 0 ≤ z2) (l2 : z2 ≤ 255) (g3 : 0 ≤ z3) (l3 : z3 ≤ 255) :
    Calls Try.prog 23 #[.slice (some ⟨b, off, none⟩) 4 cap] w fun e w' => e = .returned (.tuple #[.int .u32 (fromV [z0, z1, z2, z3]), .int .i64 (fromE [z0, z1, z2, z3])]) ∧ Below w.heap.size w w' := by
  have HV := Lib.hid (fromV_four z0 z1 z2 z3)
  have HE := Lib.hid (fromE_four z0 z1 z2 z3)
  go_enter Try.func23, Try.ntmps23
  go_wp2
  go_quiet (fail)
  go_wp2
  go_ret2
  exact ⟨ret_ue HV.out.symm HE.out.symm, below_drewN (Below.refl _ _) _⟩
theorem c22_other (a : Option Addr) (len cap : Nat) (ns : List Int) (w : World) (hn : ns.length = len) (h : ¬ len = 4) (hm : len ≤ maxLen) :
    Calls Try.prog 22 #[.slice a len cap] w fun e w' => e = .returned (.tuple #[.int .u32 (fromV ns), .int .i64 (fromE ns)]) ∧ Below w.heap.size w w' := by
  have HV : Hid (fromV ns = 0) := by unfold fromV Hid; rw [if_neg (by omega)]
  have HE : Hid (fromE ns = 3) := by unfold fromE Hid; rw [if_neg (by omega)]
  have HN := Lib.hid hn
  clear hn
  unfold maxLen at hm
  go_enter Try.func22, Try.ntmps22
  go_wp2_with fail
  all_goals first
    | (exfalso; omega)
    | (go_ret2; exact ⟨ret_ue HV.out.symm HE.out.symm, Below.refl _ _⟩)
theorem c23_other (a : Option Addr) (len cap : Nat) (ns : List Int) (w : World) (hn : ns.length = len) (h : ¬ len = 4) (hm : len ≤ maxLen) :
    Calls Try.prog 23 #[.slice a len cap] w fun e w' => e = .returned (.tuple #[.int .u32 (fromV ns), .int .i64 (fromE ns)]) ∧ Below w.heap.size w w' := by
  have HV : Hid (fromV ns = 0) := by unfold fromV Hid; rw [if_neg (by omega)]
  have HE : Hid (fromE ns = 3) := by unfold fromE Hid; rw [if_neg (by omega)]
  have HN := Lib.hid hn
  clear hn
  unfold maxLen at hm
  go_enter Try.func23, Try.ntmps23
  go_wp2_with fail
  all_goals first
    | (exfalso; omega)
    | (go_ret2; exact ⟨ret_ue HV.out.symm HE.out.symm, Below.refl _ _⟩)
theorem four {ns : List Int} (h : ns.length = 4) : ∃ z0 z1 z2 z3, ns = [z0, z1, z2, z3] := by
  match ns, h with
  | [z0, z1, z2, z3], _ => exact ⟨z0, z1, z2, z3, rfl⟩
theorem c22 (a : Option Addr) (len cap : Nat) (ns : List Int) (w : World) (h : SB w a len ns) (hm : len ≤ maxLen) :
    Calls Try.prog 22 #[.slice a len cap] w fun e w' => e = .returned (.tuple #[.int .u32 (fromV ns), .int .i64 (fromE ns)]) ∧ Below w.heap.size w w' := by
  by_cases h4 : len = 4
  · subst h4
    obtain ⟨hl, hw, hc⟩ := h
    obtain ⟨z0, z1, z2, z3, rfl⟩ := four hl
    rcases hc with h0 | ⟨b, off, rfl, hc⟩
    · omega
    · have w0 := hw 0 (by omega)
      have w1 := hw 1 (by omega)
      have w2 := hw 2 (by omega)
      have w3 := hw 3 (by omega)
      exact c22_four b off cap z0 z1 z2 z3 w (hc 0 (by omega)) (hc 1 (by omega)) (hc 2 (by omega)) (hc 3 (by omega)) w0.1 w0.2 w1.1 w1.2 w2.1 w2.2 w3.1 w3.2
  · exact c22_other a len cap ns w h.1 h4 hm
theorem c23 (a : Option Addr) (len cap : Nat) (ns : List Int) (w : World) (h : SB w a len ns) (hm : len ≤ maxLen) :
    Calls Try.prog 23 #[.slice a len cap] w fun e w' => e = .returned (.tuple #[.int .u32 (fromV ns), .int .i64 (fromE ns)]) ∧ Below w.heap.size w w' := by
  by_cases h4 : len = 4
  · subst h4
    obtain ⟨hl, hw, hc⟩ := h
    obtain ⟨z0, z1, z2, z3, rfl⟩ := four hl
    rcases hc with h0 | ⟨b, off, rfl, hc⟩
    · omega
    · have w0 := hw 0 (by omega)
      have w1 := hw 1 (by omega)
      have w2 := hw 2 (by omega)
      have w3 := hw 3 (by omega)
      exact c23_four b off cap z0 z1 z2 z3 w (hc 0 (by omega)) (hc 1 (by omega)) (hc 2 (by omega)) (hc 3 (by omega)) w0.1 w0.2 w1.1 w1.2 w2.1 w2.2 w3.1 w3.2
  · exact c23_other a len cap ns w h.1 h4 hm

/-! ### Bytes of a slice -/
theorem info5 : (Try.prog.info? 5).map (fun i => (i.zero, i.size, i.bytes)) = some (some (.int .u8 0), 1, 1) := by kernel_rfl
def Own (w : World) (v : Value) (len : Nat) (ns : List Int) : Prop := ∃ a cap, v = .slice a len cap ∧ SB w a len ns
theorem c21_none (w : World) (l c : Nat) (hl : l = 0) (hc : c = 0) :
    Calls Try.prog 21 #[.slice none l c] w fun e w' => ∃ v, e = .returned v ∧ Own w' v 0 [] ∧ Below w.heap.size w w' := by
  subst hl; subst hc
  obtain ⟨i0, hi, hz0, hz1, hz2⟩ := info_parts info5
  go_enter Try.func21, Try.ntmps21
  go_wp2_with (at_builtin; refine wpList_append_own_none rfl _ _ 31 rfl w.heap.size 5 i0 1 Try.underlying31 hi _ 0 [] rfl (World.ownsRow_made w #[] 0 (Nat.le_refl _) (by decide) rfl) rfl ?_)
  go_ret
  exact ⟨_, rfl, ⟨_, _, rfl, rfl, fun i hi => by omega, .inr ⟨_, _, rfl, fun i hi => by omega⟩⟩, (Below.refl _ _).alloc (Nat.le_refl _) _⟩
theorem own_of_row {w1 : World} {base len : Nat} {v : Value} {ns : List Int} (hn : ns.length = len) (hw : ∀ i, i < len → 0 ≤ ns.getD i 0 ∧ ns.getD i 0 ≤ 255) (hown : w1.ownsRow base 5 1 v len (ns.map (Value.int .u8))) : Own w1 v len ns := by
  have hown0 := hown
  rcases hown.2 with ⟨rfl, h0⟩ | ⟨g, cap, cur, rfl, hg, hh, hle, hcap, hsz, htake⟩
  · subst h0
    exact ⟨none, 0, rfl, hn, hw, .inl rfl⟩
  · refine ⟨_, cap, rfl, hn, hw, .inr ⟨g, 0, rfl, fun i hi => ?_⟩⟩
    rw [Nat.zero_add, hown0.cellAt i (by simp; omega)]
    have hi' : i < ns.length := by omega
    simp [List.getD, List.getElem?_eq_getElem hi']
theorem one_cells (ns : List Int) : ∀ u ∈ ns.map (Value.int IntKind.u8), u.oneCell' = true := by
  intro u hu
  obtain ⟨n, _, rfl⟩ := List.mem_map.1 hu
  rfl
theorem news_at {w : World} {b off len : Nat} {ns : List Int} (hn : ns.length = len) (hc : ∀ i, i < len → w.cell? ⟨b, off + i, none⟩ = some (.int .u8 (ns.getD i 0))) (o : Obj) :
    ∀ j u, (ns.map (Value.int IntKind.u8))[j]? = some u → (w.alloc o).cell? ((⟨b, off, none⟩ : Addr).add j) = some u := by
  intro j u hu
  have hj : j < ns.length := by
    rcases Nat.lt_or_ge j ns.length with h | h
    · exact h
    · rw [List.getElem?_eq_none (by simpa using h)] at hu
      cases hu
  have hp : (⟨b, off, none⟩ : Addr).add j = ⟨b, off + j, none⟩ := by unfold Addr.add; split <;> simp_all
  have h1 := hc j (by omega)
  have h2 : (w.alloc o).cell? ⟨b, off + j, none⟩ = w.cell? ⟨b, off + j, none⟩ := ((Below.refl w.heap.size w).alloc (Nat.le_refl _) o).cell (cell_lt h1)
  rw [hp, h2, h1]
  rw [List.getElem?_map, List.getElem?_eq_getElem hj] at hu
  simp at hu
  subst hu
  simp [List.getD, List.getElem?_eq_getElem hj]
theorem c21_some (x : Addr) (len cap : Nat) (ns : List Int) (w : World) (hn : ns.length = len) (hw : ∀ i, i < len → 0 ≤ ns.getD i 0 ∧ ns.getD i 0 ≤ 255) (hc : ∀ o, ∀ j u, (ns.map (Value.int IntKind.u8))[j]? = some u → (w.alloc o).cell? (x.add j) = some u) (hr : len ≤ 140737488351232) :
    Calls Try.prog 21 #[.slice (some x) len cap] w fun e w' => ∃ v, e = .returned v ∧ Own w' v len ns ∧ Below w.heap.size w w' := by
  obtain ⟨i0, hi, hz0, hz1, hz2⟩ := info_parts info5
  have HW := Lib.hid hw
  have HC := Lib.hid hc
  have HN := Lib.hid hn
  clear hw hc hn
  go_enter Try.func21, Try.ntmps21
  go_wp2_with (at_builtin; refine wpList_append_own _ rfl _ _ 31 rfl w.heap.size 5 i0 (.int .u8 0) 1 1 Try.underlying31 hi hz0 hz1 hz2 rfl (by decide) _ 0 [] rfl (World.ownsRow_made w #[] 0 (Nat.le_refl _) (by decide) rfl) x len cap (ns.map (Value.int IntKind.u8)) rfl (by simp [HN.out]) (HC.out _) (one_cells ns) (by unfold maxLen; omega) (by omega) (by simp) ?_)
  intro v' w1 hown hgrow _
  have HO : Hid (Own w1 v' len ns) := own_of_row HN.out HW.out (by simpa using hown)
  have HB : Hid (Below w.heap.size w w1) := ((Below.refl w.heap.size w).alloc (Nat.le_refl _) _).grown hgrow (by simp) (fun k hk => by simp [Value.ownBlock] at hk; omega)
  clear hown hgrow
  go_wp2
  go_ret
  exact ⟨_, rfl, HO.out, HB.out⟩
theorem c21 (a : Option Addr) (len cap : Nat) (ns : List Int) (w : World) (h : SB w a len ns) (hr : len ≤ 140737488351232) (h0 : a = none → len = 0 ∧ cap = 0) :
    Calls Try.prog 21 #[.slice a len cap] w fun e w' => ∃ v, e = .returned v ∧ Own w' v len ns ∧ Below w.heap.size w w' := by
  obtain ⟨hn, hw, hc⟩ := h
  cases a with
  | none =>
    obtain ⟨h1, h2⟩ := h0 rfl
    subst h1
    obtain rfl : ns = [] := List.length_eq_zero_iff.1 hn
    exact c21_none w 0 cap rfl h2
  | some x =>
    refine c21_some x len cap ns w hn hw ?_ hr
    rcases hc with hl | ⟨b, off, hx, hc⟩
    · subst hl
      obtain rfl : ns = [] := List.length_eq_zero_iff.1 hn
      intro o j u hu
      simp at hu
    · cases hx
      exact fun o => news_at hn hc o

/-! ### Bytes of a word, as slices that read -/
def bytesL (a : Int) : List Int := [a % 256, a / 256 % 256, a / 65536 % 256, a / 16777216]
theorem own_four (w : World) (a : Int) (h0 : 0 ≤ a) (h1 : a ≤ 4294967295) : Own (w.alloc (.cells #[.int .u8 (a % 256), .int .u8 (a / 256 % 256), .int .u8 (a / 65536 % 256), .int .u8 (a / 16777216)] 5)) (.slice (some ⟨w.heap.size, 0, none⟩) 4 4) 4 (bytesL a) := by
  refine ⟨_, 4, rfl, rfl, ?_, .inr ⟨w.heap.size, 0, rfl, ?_⟩⟩
  · intro i hi
    have : i = 0 ∨ i = 1 ∨ i = 2 ∨ i = 3 := by omega
    rcases this with rfl | rfl | rfl | rfl <;> simp [bytesL] <;> omega
  · intro i hi
    have : i = 0 ∨ i = 1 ∨ i = 2 ∨ i = 3 := by omega
    rcases this with rfl | rfl | rfl | rfl <;> simp [bytesL, go_sem]
theorem c27o (a : Int) (w : World) (h0 : 0 ≤ a) (h1 : a ≤ 4294967295) :
    Calls Try.prog 27 #[.int .u32 a] w fun e w' => ∃ v, e = .returned v ∧ Own w' v 4 (bytesL a) ∧ Below w.heap.size w w' :=
  (c27 a w h0 h1).mono fun e w' h => ⟨_, h.1, by rw [h.2]; exact own_four w a h0 h1, by rw [h.2]; exact (Below.refl _ _).alloc (Nat.le_refl _) _⟩
theorem c28o (a : Int) (w : World) (h0 : 0 ≤ a) (h1 : a ≤ 4294967295) :
    Calls Try.prog 28 #[.int .u32 a] w fun e w' => ∃ v, e = .returned v ∧ Own w' v 4 (bytesL a) ∧ Below w.heap.size w w' :=
  (c28 a w h0 h1).mono fun e w' h => ⟨_, h.1, by rw [h.2]; exact own_four w a h0 h1, by rw [h.2]; exact (Below.refl _ _).alloc (Nat.le_refl _) _⟩
theorem below_on {w w1 w2 : World} (h : Below w.heap.size w w1) (k : Below w1.heap.size w1 w2) : Below w.heap.size w w2 := h.trans (k.mono h.size)

/-! ### The law -/
theorem law_walk (a0 : Int) (a1 : Option Addr) (len1 cap1 : Nat) (ns : List Int) (a2 : ByteArray) (w : World) (p0 : 0 ≤ a0) (q0 : a0 ≤ 4294967295) (hsb : SB w a1 len1 ns) (hr : len1 ≤ 140737488351232) (hn : a1 = none → len1 = 0 ∧ cap1 = 0) (hm : a2.size ≤ maxLen) :
    Calls Try.prog 4 #[.int .u32 a0, .slice a1 len1 cap1, .string a2] w fun e w' => e = .returned (.bool true) ∧ Below w.heap.size w w' := by
  have HN := Lib.hid hn
  have hl : len1 ≤ maxLen := by unfold maxLen; omega
  have HL := Lib.hid hl
  have HM := Lib.hid hm
  clear hn hl hm
  go_enter Try.func4, Try.ntmps4
  go_wp2_with fail
  refine (c21 a1 len1 cap1 ns _ hsb hr HN.out).mono ?_
  rintro e w1 ⟨v, rfl, ⟨b1, d1, rfl, hs1⟩, hb1⟩
  go_wp2_with fail
  refine (c22 b1 len1 d1 ns _ hs1 HL.out).mono ?_
  rintro e w2 ⟨rfl, hb2⟩
  go_wp2_with fail
  refine (c23 a1 len1 cap1 ns _ (hsb.next (below_on hb1 hb2)) HL.out).mono ?_
  rintro e w3 ⟨rfl, hb3⟩
  go_wp2_with fail
  refine (c24 a2 _ HM.out).mono ?_
  rintro e w4 ⟨rfl, rfl⟩
  go_wp2_with fail
  refine (c25 a2 _ HM.out).mono ?_
  rintro e w5 ⟨rfl, hb5⟩
  go_wp2_with fail
  refine (c27o a0 _ p0 q0).mono ?_
  rintro e w6 ⟨v6, rfl, ⟨b6, d6, rfl, hs6⟩, hb6⟩
  go_wp2_with fail
  refine (c28o a0 _ p0 q0).mono ?_
  rintro e w7 ⟨v7, rfl, ⟨b7, d7, rfl, hs7⟩, hb7⟩
  go_wp2_with fail
  refine (c26 b6 b7 4 4 d6 d7 (bytesL a0) _ (hs6.next hb7) hs7).mono ?_
  rintro e w8 ⟨rfl, rfl⟩
  go_wp2_with fail
  refine (c29 a0 _ p0 q0).mono ?_
  rintro e w9 ⟨rfl, hb9⟩
  go_wp2_with fail
  refine (c30 a0 _ p0 q0).mono ?_
  rintro e w10 ⟨rfl, hb10⟩
  go_wp2_with fail
  have hb := below_on hb2 (below_on hb3 (below_on hb5 (below_on hb6 (below_on hb7 (below_on hb9 hb10)))))
  refine (c26 b1 a1 len1 len1 d1 cap1 ns _ (hs1.next hb) (hsb.next (below_on hb1 hb))).mono ?_
  rintro e w11 ⟨rfl, rfl⟩
  go_wp2_with fail
  go_ret
  exact ⟨rfl, below_on hb1 hb⟩
end Go.Proofs.Ytlmdbpdfjjfapaa
