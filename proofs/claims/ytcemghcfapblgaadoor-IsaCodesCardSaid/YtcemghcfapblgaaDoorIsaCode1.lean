/-
  The contract of Code, in the code.
-/
import Derived.Test.YtcemghcfapblgaaDoorIsaCode0
import Derived.Test.YtcemghcfapblgaaDoorIsaDec
namespace Go.Proofs.YtcemghcfapblgaaDoor
set_option linter.unusedVariables false
set_option linter.unusedSimpArgs false
open Go.ChangeShapes Go.WideShapes Go.ChangeAt Go.RowKit

theorem infoU8 : (Tryd.prog.info? 5).map (fun i => (i.zero, i.size, i.bytes)) = some (some (.int .u8 0), 1, 1) := by kernel_rfl
theorem c_Bytes (a : Int) (w : World) (h0 : 0 ≤ a) (h1 : a ≤ 4294967295) :
    Calls Tryd.prog 40 #[.int .u32 a] w fun e w' => e = .returned (.slice (some ⟨w.heap.size, 0, none⟩) 4 4) ∧ w' = w.alloc (.cells #[.int .u8 (a % 256), .int .u8 (a / 256 % 256), .int .u8 (a / 65536 % 256), .int .u8 (a / 16777216)] 5) := by
  go_enter Tryd.func40, Tryd.ntmps40
  go_wp2
  go_ret
  exact ⟨rfl, rfl⟩
/-- Two numbers in a block of their own. -/
def Two (w : World) (g : Nat) (x y : Int) : Prop := w.cell? ⟨g, 0, none⟩ = some (.int .i64 x) ∧ w.cell? ⟨g, 1, none⟩ = some (.int .i64 y) ∧ ∀ o, w.frozen? ⟨g, o, none⟩ = false
theorem Two.next {N : Nat} {w w2 : World} {g : Nat} {x y : Int} (h : Two w g x y) (hb0 : Below N w w2) (hN : g < N) : Two w2 g x y :=
  ⟨(hb0.cell (p := ⟨g, 0, none⟩) hN).trans h.1, (hb0.cell (p := ⟨g, 1, none⟩) hN).trans h.2.1, fun o => (hb0.frozen (p := ⟨g, o, none⟩) hN).trans (h.2.2 o)⟩
theorem Two.new (w : World) (x y : Int) (T : TypeId) : Two (w.alloc (.cells #[.int .i64 x, .int .i64 y] T)) w.heap.size x y := by
  refine ⟨?_, ?_, fun o => ?_⟩ <;> simp [go_sem]
theorem Two.lt {w : World} {g : Nat} {x y : Int} (h : Two w g x y) : g < w.heap.size := cell_lt h.1
theorem Two.alloc {w : World} {g : Nat} {x y : Int} (h : Two w g x y) (o : Obj) : Two (w.alloc o) g x y := h.next (below_new w o) h.lt
theorem Two.grown {w w2 : World} {g : Nat} {x y : Int} {row : Option Nat} (h : Two w g x y) (hg : w.grownBy w2 row) (hr : some g ≠ row) : Two w2 g x y := by
  have e : w2.heap[g]? = w.heap[g]? := hg.block g h.lt hr
  exact ⟨(World.cell?_of_block (a := ⟨g, 0, none⟩) e).trans h.1, (World.cell?_of_block (a := ⟨g, 1, none⟩) e).trans h.2.1, fun o => (World.frozen?_of_block (a := ⟨g, o, none⟩) e).trans (h.2.2 o)⟩
/-- What holds of the bytes of the first k at a round's head. -/
def CodeAt (X : Nat → Nat → Int) (n : Nat) (w0 : World) (k : Nat) (v : Value) (wr : World) : Prop :=
  (∀ j, j < k → chkX X j = true) ∧ wr.ownsRow (w0.heap.size + 1) 5 1 v (4 * k) ((codeL X k).map (Value.int .u8)) ∧ Two wr w0.heap.size 0 0 ∧ Below w0.heap.size w0 wr
theorem four_at (w : World) (a b c d : Int) (o : Nat) (ho : o = w.heap.size) : ∀ (j : Nat) (u : Value), [Value.int .u8 a, .int .u8 b, .int .u8 c, .int .u8 d][j]? = some u → (w.alloc (.cells #[.int .u8 a, .int .u8 b, .int .u8 c, .int .u8 d] 5)).cell? ((⟨o, 0, none⟩ : Addr).add j) = some u := by
  subst ho
  intro j u hu
  have hj : j = 0 ∨ j = 1 ∨ j = 2 ∨ j = 3 := by
    have := (List.getElem?_eq_some_iff.1 hu).1
    simp at this
    omega
  rcases hj with rfl | rfl | rfl | rfl <;> simp at hu <;> subst hu <;> simp [go_sem]
theorem four_one (a b c d : Int) : ∀ u ∈ [Value.int .u8 a, .int .u8 b, .int .u8 c, .int .u8 d], u.oneCell' = true := by
  intro u hu
  simp at hu
  rcases hu with rfl | rfl | rfl | rfl <;> rfl
theorem code_step {X : Nat → Nat → Int} {k : Nat} : (codeL X (k + 1)).map (Value.int .u8) = (codeL X k).map (Value.int .u8) ++ [.int .u8 (encX X k % 256), .int .u8 (encX X k / 256 % 256), .int .u8 (encX X k / 65536 % 256), .int .u8 (encX X k / 16777216)] := by
  show (codeL X k ++ bytesL (encX X k)).map _ = _
  rw [List.map_append, bytesL_eq]
  rfl
theorem own_below {w w2 : World} {base : Nat} {e : TypeId} {size : Nat} {v : Value} {n : Nat} {xs : List Value} (h : w.ownsRow base e size v n xs) (hb : Below w.heap.size w w2) : w2.ownsRow base e size v n xs :=
  h.kept (row := none) ⟨hb.os, hb.tape, hb.output, hb.size, fun i hi _ => hb.block i hi⟩ (by cases v.ownBlock <;> simp)
theorem only_setCell {a w : World} {g : Nat} (h : a.grownBy w (some g)) {p : Addr} (hp : p.block = g) (u : Value) : a.grownBy (w.setCell p u) (some g) :=
  ⟨h.os, h.tape, h.output, by simpa [World.setCell] using h.size, fun i hi hne => (Below.heap_setCell w p u i (by
    rintro rfl
    exact hne (by rw [hp]))).trans (h.block i hi hne)⟩
theorem only_two (w : World) (g : Nat) (u v : Value) : w.grownBy ((w.setCell ⟨g, 0, none⟩ u).setCell ⟨g, 1, none⟩ v) (some g) :=
  only_setCell (p := ⟨g, 1, none⟩) (only_setCell (p := ⟨g, 0, none⟩) (World.grownBy.refl w _) rfl _) rfl _
theorem below_on2 {w wr : World} {u v : Value} (h : Below w.heap.size w wr) : Below w.heap.size w ((wr.setCell ⟨w.heap.size, 0, none⟩ u).setCell ⟨w.heap.size, 1, none⟩ v) :=
  (h.setCell (Nat.le_refl _) _).setCell (Nat.le_refl _) _
def Got (X : Nat → Nat → Int) (n : Nat) (w : World) (e : Ending) (w' : World) : Prop :=
  ∃ v a c, e = .returned (.tuple #[v, .agg #[.int .i64 a, .int .i64 c]]) ∧ CodeIs X n w' v a c ∧ Below w.heap.size w w'
theorem enc_at (X : Nat → Nat → Int) (k : Nat) : encR (X k 0) (X k 1) (X k 2) (X k 3) (X k 4) = encX X k ∧ errI (chkB (X k 0) (X k 1) (X k 2) (X k 3) (X k 4)) = errI (chkX X k) := by
  unfold encX chkX
  exact ⟨rfl, rfl⟩
set_option maxHeartbeats 2000000 in
theorem c_Code_long (a : Option Addr) (n cap : Nat) (X : Nat → Nat → Int) (w : World) (hn : 4096 < n) (hm : n ≤ maxLen) :
    Calls Tryd.prog 18 #[.slice a n cap] w (Got X n w) := by
  have hd : decide ((4096 : Int) < (n : Int)) = true := by simp; omega
  clear hm
  have HN := Lib.hid hn
  clear hn
  go_enter Tryd.func18, Tryd.ntmps18
  go_wp2
  refine bodyPost_ret (v := .tuple #[.slice none 0 0, .agg #[.int .i64 0, .int .i64 3]]) (by simp [results, Tryd.results18, go_sem]) rfl ?_
  exact ⟨_, _, _, rfl,   .inl ⟨HN.out, rfl, rfl, rfl⟩, by go_grown⟩
set_option maxHeartbeats 4000000 in
theorem c_Code_short (b off n cap : Nat) (X : Nat → Nat → Int) (w : World) (hn : n ≤ 4096) (hX : Ins w b off n X) (hbd : ∀ i j, i < n → j < 5 → -9223372036854775808 ≤ X i j ∧ X i j ≤ 9223372036854775807) (hb : b < w.heap.size) :
    Calls Tryd.prog 18 #[.slice (some ⟨b, off, none⟩) n cap] w (Got X n w) := by
  obtain ⟨i0, hi, hz0, hz1, hz2⟩ := info_parts infoU8
  have HX := Lib.hid hX
  have HBD := Lib.hid hbd
  have hd : decide ((4096 : Int) < (n : Int)) = false := by simp; omega
  have HN := Lib.hid hn
  clear hX hbd hn
  go_enter Tryd.func18, Tryd.ntmps18
  go_wp2
  go_loopw [4, 15] (fun v i wr => ∃ k : Nat, k ≤ n ∧ i = .int .i64 k ∧ Hid (CodeAt X n w k v wr)) (fun _ i _ => n - (intOf i).toNat)
  case atStart =>
    refine ⟨0, Nat.zero_le _, rfl, ?_⟩
    exact ⟨fun j hj => absurd hj (by omega), World.ownsRow_nil _ _ _ _, Two.new _ _ _ _, below_new _ _⟩
  case round =>
    obtain ⟨k, hk, rfl, HR⟩ := hrel
    by_cases hlt : k < n
    · obtain ⟨x0, x1, x2, x3, x4⟩ := HX.out.next HR.out.2.2.2 k hlt
      have ⟨v0, V0⟩ := HBD.out k 0 hlt (by decide)
      have ⟨v1, V1⟩ := HBD.out k 1 hlt (by decide)
      have ⟨v2, V2⟩ := HBD.out k 2 hlt (by decide)
      have ⟨v3, V3⟩ := HBD.out k 3 hlt (by decide)
      have ⟨v4, V4⟩ := HBD.out k 4 hlt (by decide)
      have HE := Lib.hid (enc_at X k)
      have ⟨e0, e1⟩ := encX_bd X k
      go_wp2_with fail
      refine (c_Encode _ _ _ _ _ _ ⟨v0, V0⟩ ⟨v1, V1⟩ ⟨v2, V2⟩ ⟨v3, V3⟩ ⟨v4, V4⟩).mono ?_
      rw [HE.out.1, HE.out.2]
      rintro e w1 ⟨rfl, hb1⟩
      have hB1 := Lib.hid (below_on (below_on HR.out.2.2.2 (below_new wr _) HR.out.2.2.2.size) hb1 (by have := HR.out.2.2.2.size; simp; omega))
      have hO1 := Lib.hid (own_below (HR.out.2.1.alloc _) hb1)
      have ⟨t0, t1, tf⟩ := (HR.out.2.2.1.next (below_new wr _) HR.out.2.2.1.lt).next hb1 (by have := HR.out.2.2.1.lt; simp; omega)
      clear hb1 x0 x1 x2 x3 x4 v0 V0 v1 V1 v2 V2 v3 V3 v4 V4
      cases hc : chkX X k
      · have HC := Lib.hid hc
        clear hc
        rw [errI_no]
        go_wp2_with fail
        refine bodyPost_ret (v := .tuple #[.slice none 0 0, .agg #[.int .i64 k, .int .i64 20]]) (by simp [results, Tryd.results18, go_sem, t0, t1, tf]) rfl ?_
        exact ⟨_, _, _, rfl, .inr (.inl ⟨HN.out, k, hlt, HR.out.1, HC.out, rfl, rfl, rfl⟩), by have HB := hB1.out; go_grown⟩
      · have HC := Lib.hid hc
        clear hc
        rw [errI_yes]
        go_wp2_with fail
        refine (c_Bytes _ _ e0 e1).mono ?_
        rintro e w2 ⟨rfl, rfl⟩
        have HT := Lib.hid (Two.alloc (show Two w1 w.heap.size 0 0 from ⟨t0, t1, tf⟩) (.cells #[.int .u8 (encX X k % 256), .int .u8 (encX X k / 256 % 256), .int .u8 (encX X k / 65536 % 256), .int .u8 (encX X k / 16777216)] 5))
        have HS := Lib.hid hB1.out.size
        have HN4 : 4 * k + 4 ≤ 16384 := by have := HN.out; omega
        clear t0 t1 tf
        go_wp2_with (at_builtin; refine wpList_append_own _ rfl _ _ 39 rfl (w.heap.size + 1) 5 i0 (.int .u8 0) 1 1 Tryd.underlying39 hi hz0 hz1 hz2 rfl (by decide) _ (4 * k) ((codeL X k).map (Value.int .u8)) rfl (hO1.out.alloc _) ⟨w1.heap.size, 0, none⟩ 4 4 [.int .u8 (encX X k % 256), .int .u8 (encX X k / 256 % 256), .int .u8 (encX X k / 65536 % 256), .int .u8 (encX X k / 16777216)] rfl rfl (four_at _ _ _ _ _ _ rfl) (four_one _ _ _ _) ?c3 ?c4 ?c5 ?_)
        case c3 => unfold maxLen; omega
        case c4 => omega
        case c5 => have := HS.out; simp; omega
        intro v' w3 hown hgrow _
        have HA : Hid (CodeAt X n w (k + 1) v' w3) := by
          refine ⟨fun j hj => ?_, ?_, ?_, ?_⟩
          · rcases Nat.lt_or_ge j k with h | h
            · exact HR.out.1 j h
            · rw [show j = k by omega]; exact HC.out
          · rw [code_step]; exact hown
          · exact HT.out.grown hgrow (fun e => by have := hO1.out.lt _ e.symm; omega)
          · exact (hB1.out.alloc HS.out _).grown hgrow (by have := HS.out; simp; omega) (fun k hk => by have := hO1.out.lt _ hk; omega)
        clear hown hgrow
        go_wp2
        go_roundw
        case rel => exact ⟨k + 1, by omega, by go_num, HA⟩
        case measure => simp [intOf]; omega
    · have hge : decide (k < n) = false := by simp; omega
      have HK := Lib.hid (show k = n by omega)
      have ⟨t0, t1, tf⟩ := HR.out.2.2.1
      have HF : Hid (∀ w', wr.grownBy w' (some w.heap.size) → Own w' u4 (4 * k) (codeL X k)) := fun w' hg => own_of_row (codeL_len X k) (HR.out.2.1.kept hg (.inr fun e => by have := HR.out.2.1.lt _ e; omega))
      clear hk hlt hd
      go_wp2_with fail
      refine bodyPost_ret (v := .tuple #[u4, .agg #[.int .i64 0, .int .i64 0]]) (by simp [results, Tryd.results18, go_sem, t0, t1, tf]) rfl ?_
      have hK := HK.out
      subst hK
      refine ⟨_, _, _, rfl, .inr (.inr ⟨HN.out, HR.out.1, HF.out _ ?_, rfl, rfl⟩), ?_⟩
      · exact only_two wr _ _ _
      · exact below_on2 HR.out.2.2.2
theorem ins_nil (w : World) (X : Nat → Nat → Int) : Ins w 0 0 0 X := fun i hi => absurd hi (by omega)
set_option maxHeartbeats 1000000 in
theorem c_Code_none (a : Option Addr) (cap : Nat) (X : Nat → Nat → Int) (w : World) (n : Nat) (hn : n = 0) :
    Calls Tryd.prog 18 #[.slice a n cap] w (Got X n w) := by
  subst hn
  go_enter Tryd.func18, Tryd.ntmps18
  go_wp2
  go_rounds 1
  go_wp2
  refine bodyPost_ret (v := .tuple #[.slice none 0 0, .agg #[.int .i64 0, .int .i64 0]]) (by simp [results, Tryd.results18, go_sem]) rfl ?_
  exact ⟨_, _, _, rfl, .inr (.inr ⟨Nat.zero_le _, fun i hi => absurd hi (by omega), own_nil _, rfl, rfl⟩), by go_grown⟩
/-- The instructions that a slice holds, nil too. -/
def InsO (w : World) (a : Option Addr) (n : Nat) (X : Nat → Nat → Int) : Prop := n = 0 ∨ ∃ b off, a = some ⟨b, off, none⟩ ∧ Ins w b off n X ∧ b < w.heap.size
theorem InsO.next {w w' : World} {a : Option Addr} {n : Nat} {X : Nat → Nat → Int} (h : InsO w a n X) (k : Below w.heap.size w w') : InsO w' a n X := by
  rcases h with h | ⟨b, off, ha, h, hb⟩
  · exact .inl h
  · exact .inr ⟨b, off, ha, h.next k, Nat.lt_of_lt_of_le hb k.size⟩
theorem c_Code (a : Option Addr) (n cap : Nat) (X : Nat → Nat → Int) (w : World) (hm : n ≤ maxLen) (hX : InsO w a n X) (hbd : ∀ i j, i < n → j < 5 → -9223372036854775808 ≤ X i j ∧ X i j ≤ 9223372036854775807) :
    Calls Tryd.prog 18 #[.slice a n cap] w (Got X n w) := by
  by_cases hn : n ≤ 4096
  · rcases hX with h0 | ⟨b, off, rfl, hX, hb⟩
    · exact c_Code_none a cap X w n h0
    · exact c_Code_short b off n cap X w hn hX hbd hb
  · exact c_Code_long a n cap X w (by omega) hm
end Go.Proofs.YtcemghcfapblgaaDoor
