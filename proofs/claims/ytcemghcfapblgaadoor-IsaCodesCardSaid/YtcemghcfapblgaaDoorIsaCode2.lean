/-
  The contract of Code, in the document's answers.
-/
import Derived.Test.YtcemghcfapblgaaDoorIsaCode1
namespace Go.Proofs.YtcemghcfapblgaaDoor
set_option linter.unusedVariables false
set_option linter.unusedSimpArgs false
open Go.ChangeShapes Go.WideShapes Go.ChangeAt Go.RowKit

set_option maxHeartbeats 2000000 in
theorem c_rCode_long (a : Option Addr) (n cap : Nat) (X : Nat → Nat → Int) (w : World) (hn : 4096 < n) (hm : n ≤ maxLen) :
    Calls Tryd.prog 19 #[.slice a n cap] w (Got X n w) := by
  have hd : decide ((4096 : Int) < (n : Int)) = true := by simp; omega
  clear hm
  have HN := Lib.hid hn
  clear hn
  go_enter Tryd.func19, Tryd.ntmps19
  go_wp2
  refine bodyPost_ret (v := .tuple #[.slice none 0 0, .agg #[.int .i64 0, .int .i64 3]]) (by simp [results, Tryd.results19, go_sem]) rfl ?_
  exact ⟨_, _, _, rfl,  .inl ⟨HN.out, rfl, rfl, rfl⟩, by go_grown⟩
@[irreducible] def PL (X : Nat → Nat → Int) (k j : Nat) : List Value := (codeL X k ++ (bytesL (encX X k)).take j).map (Value.int .u8)
/-- What holds in the midst of a round: the first k whole, and j bytes of the next. -/
def Part (X : Nat → Nat → Int) (w0 : World) (k j : Nat) (v : Value) (wr : World) : Prop :=
  wr.ownsRow (w0.heap.size + 1) 5 1 v (4 * k + j) (PL X k j) ∧ Two wr w0.heap.size 0 0 ∧ Below w0.heap.size w0 wr
theorem part_step {X : Nat → Nat → Int} {w0 w w3 : World} {v v' : Value} {k j : Nat} {x : Int} {o : Obj} (h : Part X w0 k j v w) (hx : (bytesL (encX X k))[j]? = some x)
    (hown : w3.ownsRow (w0.heap.size + 1) 5 1 v' (4 * k + j + 1) (PL X k j ++ [.int .u8 x])) (hgrow : (w.alloc o).grownBy w3 v.ownBlock) : Part X w0 k (j + 1) v' w3 := by
  obtain ⟨h1, h2, h3⟩ := h
  refine ⟨?_, (h2.alloc o).grown hgrow (fun e => by have := h1.lt _ e.symm; omega), (h3.alloc h3.size o).grown hgrow (by have := h3.size; simp; omega) (fun k hk => by have := h1.lt _ hk; omega)⟩
  have e : PL X k (j + 1) = PL X k j ++ [.int .u8 x] := by
    unfold PL
    rw [List.take_add_one, hx]
    simp
  rw [e]
  exact hown
theorem byte_0 (a : Int) : (bytesL a)[0]? = some (a % 256) := by rw [bytesL_eq]; rfl
theorem byte_1 (a : Int) : (bytesL a)[1]? = some (a / 256 % 256) := by rw [bytesL_eq]; rfl
theorem byte_2 (a : Int) : (bytesL a)[2]? = some (a / 65536 % 256) := by rw [bytesL_eq]; rfl
theorem byte_3 (a : Int) : (bytesL a)[3]? = some (a / 16777216) := by rw [bytesL_eq]; rfl
theorem one_at (w : World) (x : Value) (T : TypeId) : ∀ (j : Nat) (u : Value), [x][j]? = some u → (w.alloc (.cells #[x] T)).cell? ((⟨w.heap.size, 0, none⟩ : Addr).add j) = some u := by
  intro j u hu
  have hj : j = 0 := by
    have := (List.getElem?_eq_some_iff.1 hu).1
    simp at this
    omega
  subst hj
  simp at hu
  subst hu
  simp [go_sem]
theorem one_u8 (x : Int) : ∀ u ∈ [Value.int .u8 x], u.oneCell' = true := by
  intro u hu
  simp at hu
  subst hu
  rfl
set_option maxRecDepth 100000 in
set_option maxHeartbeats 4000000 in
theorem c_rCode_short (b off n cap : Nat) (X : Nat → Nat → Int) (w : World) (hn : n ≤ 4096) (hX : Ins w b off n X) (hbd : ∀ i j, i < n → j < 5 → -9223372036854775808 ≤ X i j ∧ X i j ≤ 9223372036854775807) (hb : b < w.heap.size) :
    Calls Tryd.prog 19 #[.slice (some ⟨b, off, none⟩) n cap] w (Got X n w) := by
  obtain ⟨i0, hi, hz0, hz1, hz2⟩ := info_parts infoU8
  have HX := Lib.hid hX
  have HBD := Lib.hid hbd
  have hd : decide ((4096 : Int) < (n : Int)) = false := by simp; omega
  have HN := Lib.hid hn
  clear hX hbd hn
  go_enter Tryd.func19, Tryd.ntmps19
  go_wp2
  go_loopw [4, 5] (fun v i wr => ∃ k : Nat, k ≤ n ∧ i = .int .i64 k ∧ Hid (CodeAt X n w k v wr)) (fun _ i _ => n - (intOf i).toNat)
  case atStart =>
    refine ⟨0, Nat.zero_le _, rfl, ?_⟩
    refine ⟨fun j hj => absurd hj (by omega), ?_, (Two.new w _ _ _).alloc _, (below_new _ _).alloc (by simp) _⟩
    have h := World.ownsRow_made (base := w.heap.size + 1) (w.alloc (.cells #[.int .i64 0, .int .i64 0] 41)) #[] 0 (by simp) (by decide) rfl (e := 5) (size := 1)
    rw [show (w.alloc (.cells #[.int .i64 0, .int .i64 0] 41)).heap.size = w.heap.size + 1 by simp] at h
    exact h
  case round =>
    obtain ⟨k, hk, rfl, HR⟩ := hrel
    by_cases hlt : k < n
    · obtain ⟨x0, x1, x2, x3, x4⟩ := HX.out.next HR.out.2.2.2 k hlt
      have ⟨v0, V0⟩ := HBD.out k 0 hlt (by decide)
      have ⟨v1, V1⟩ := HBD.out k 1 hlt (by decide)
      have ⟨v2, V2⟩ := HBD.out k 2 hlt (by decide)
      have ⟨v3, V3⟩ := HBD.out k 3 hlt (by decide)
      have ⟨v4, V4⟩ := HBD.out k 4 hlt (by decide)
      have HE := Lib.hid (enc_at X k)
      have ⟨e0, e1⟩ := encX_bd X k
      go_wp2_with fail
      refine (c_rEncode _ _ _ _ _ _ ⟨v0, V0⟩ ⟨v1, V1⟩ ⟨v2, V2⟩ ⟨v3, V3⟩ ⟨v4, V4⟩).mono ?_
      rw [HE.out.1, HE.out.2]
      rintro e w1 ⟨rfl, hb1⟩
      have hB1 := Lib.hid (below_on HR.out.2.2.2 hb1 HR.out.2.2.2.size)
      have hO1 := Lib.hid (own_below HR.out.2.1 hb1)
      have ⟨t0, t1, tf⟩ := HR.out.2.2.1.next hb1 HR.out.2.2.1.lt
      clear hb1 x0 x1 x2 x3 x4 v0 V0 v1 V1 v2 V2 v3 V3 v4 V4
      cases hc : chkX X k
      · have HC := Lib.hid hc
        clear hc
        rw [errI_no]
        go_wp2_with fail
        refine bodyPost_ret (v := .tuple #[.slice none 0 0, .agg #[.int .i64 k, .int .i64 20]]) (by simp [results, Tryd.results19, go_sem, t0, t1, tf]) rfl ?_
        exact ⟨_, _, _, rfl, .inr (.inl ⟨HN.out, k, hlt, HR.out.1, HC.out, rfl, rfl, rfl⟩), by have HB := hB1.out; go_grown⟩
      · have HC := Lib.hid hc
        have HT := Lib.hid (show Two w1 w.heap.size 0 0 from ⟨t0, t1, tf⟩)
        clear hc t0 t1 tf
        rw [errI_yes]
        have HN4 := Lib.hid (show 4 * k + 4 ≤ 16384 by have := HN.out; omega)
        clear hd
        go_wp2_with fail
        refine wp_loop_rounds 5 ?_
        have HP0 : Hid (Part X w k 0 u4 w1) := ⟨by unfold PL; simpa using hO1.out, HT.out, hB1.out⟩
        clear hO1 HT hB1
        rw [rounds_succ]
        go_wp2_with (at_builtin; refine wpList_append_own _ rfl _ _ 39 rfl (w.heap.size + 1) 5 i0 (.int .u8 0) 1 1 Tryd.underlying39 hi hz0 hz1 hz2 rfl (by decide) _ (4 * k + 0) (PL X k 0) rfl (HP0.out.1.alloc _) ⟨w1.heap.size, 0, none⟩ 1 1 [.int .u8 _] rfl rfl (one_at _ _ _) (one_u8 _) ?c30 ?c40 ?c50 ?_)
        case c30 => have := HN4.out; unfold maxLen; omega
        case c40 => have := HN4.out; omega
        case c50 => have := HP0.out.2.2.size; have := HP0.out.2.1.lt; simp; omega
        intro p1 q1 hown hgrow _
        have HP1 : Hid (Part X w k 1 p1 q1) := part_step HP0.out (byte_0 _) hown hgrow
        clear hown hgrow HP0
        go_wp2_with fail
        rw [rounds_succ]
        go_wp2_with (at_builtin; refine wpList_append_own _ rfl _ _ 39 rfl (w.heap.size + 1) 5 i0 (.int .u8 0) 1 1 Tryd.underlying39 hi hz0 hz1 hz2 rfl (by decide) _ (4 * k + 1) (PL X k 1) rfl (HP1.out.1.alloc _) ⟨q1.heap.size, 0, none⟩ 1 1 [.int .u8 _] rfl rfl (one_at _ _ _) (one_u8 _) ?c31 ?c41 ?c51 ?_)
        case c31 => have := HN4.out; unfold maxLen; omega
        case c41 => have := HN4.out; omega
        case c51 => have := HP1.out.2.2.size; have := HP1.out.2.1.lt; simp; omega
        intro p2 q2 hown hgrow _
        have HP2 : Hid (Part X w k 2 p2 q2) := part_step HP1.out (byte_1 _) hown hgrow
        clear hown hgrow HP1
        go_wp2_with fail
        rw [rounds_succ]
        go_wp2_with (at_builtin; refine wpList_append_own _ rfl _ _ 39 rfl (w.heap.size + 1) 5 i0 (.int .u8 0) 1 1 Tryd.underlying39 hi hz0 hz1 hz2 rfl (by decide) _ (4 * k + 2) (PL X k 2) rfl (HP2.out.1.alloc _) ⟨q2.heap.size, 0, none⟩ 1 1 [.int .u8 _] rfl rfl (one_at _ _ _) (one_u8 _) ?c32 ?c42 ?c52 ?_)
        case c32 => have := HN4.out; unfold maxLen; omega
        case c42 => have := HN4.out; omega
        case c52 => have := HP2.out.2.2.size; have := HP2.out.2.1.lt; simp; omega
        intro p3 q3 hown hgrow _
        have HP3 : Hid (Part X w k 3 p3 q3) := part_step HP2.out (byte_2 _) hown hgrow
        clear hown hgrow HP2
        go_wp2_with fail
        rw [rounds_succ]
        go_wp2_with (at_builtin; refine wpList_append_own _ rfl _ _ 39 rfl (w.heap.size + 1) 5 i0 (.int .u8 0) 1 1 Tryd.underlying39 hi hz0 hz1 hz2 rfl (by decide) _ (4 * k + 3) (PL X k 3) rfl (HP3.out.1.alloc _) ⟨q3.heap.size, 0, none⟩ 1 1 [.int .u8 _] rfl rfl (one_at _ _ _) (one_u8 _) ?c33 ?c43 ?c53 ?_)
        case c33 => have := HN4.out; unfold maxLen; omega
        case c43 => have := HN4.out; omega
        case c53 => have := HP3.out.2.2.size; have := HP3.out.2.1.lt; simp; omega
        intro p4 q4 hown hgrow _
        have HP4 : Hid (Part X w k 4 p4 q4) := part_step HP3.out (byte_3 _) hown hgrow
        clear hown hgrow HP3
        go_wp2_with fail
        rw [rounds_succ]
        have HA : Hid (CodeAt X n w (k + 1) p4 q4) := by
          refine ⟨fun j hj => ?_, ?_, HP4.out.2.1, HP4.out.2.2⟩
          · rcases Nat.lt_or_ge j k with h | h
            · exact HR.out.1 j h
            · rw [show j = k by omega]; exact HC.out
          · have h := HP4.out.1
            unfold PL at h
            rw [List.take_of_length_le (by rw [bytesL_eq]; simp)] at h
            exact h
        clear HP4
        have hk2 : k ≤ 4096 := by have := HN.out; omega
        go_wp2
        go_roundw
        case rel => exact ⟨k + 1, by omega, by go_num, HA⟩
        case measure => simp [intOf]; omega
    · have hge : decide (k < n) = false := by simp; omega
      have HK := Lib.hid (show k = n by omega)
      have ⟨t0, t1, tf⟩ := HR.out.2.2.1
      have HF : Hid (∀ w', wr.grownBy w' (some w.heap.size) → Own w' u4 (4 * k) (codeL X k)) := fun w' hg => own_of_row (codeL_len X k) (HR.out.2.1.kept hg (.inr fun e => by have := HR.out.2.1.lt _ e; omega))
      clear hk hlt hd
      go_wp2_with fail
      refine bodyPost_ret (v := .tuple #[u4, .agg #[.int .i64 0, .int .i64 0]]) (by simp [results, Tryd.results19, go_sem, t0, t1, tf]) rfl ?_
      have hK := HK.out
      subst hK
      refine ⟨_, _, _, rfl, .inr (.inr ⟨HN.out, HR.out.1, HF.out _ ?_, rfl, rfl⟩), ?_⟩
      · exact only_two wr _ _ _
      · exact below_on2 HR.out.2.2.2
set_option maxHeartbeats 1000000 in
theorem c_rCode_none (a : Option Addr) (cap : Nat) (X : Nat → Nat → Int) (w : World) (n : Nat) (hn : n = 0) :
    Calls Tryd.prog 19 #[.slice a n cap] w (Got X n w) := by
  subst hn
  go_enter Tryd.func19, Tryd.ntmps19
  go_wp2
  go_rounds 1
  go_wp2
  refine bodyPost_ret (v := .tuple #[.slice (some ⟨w.heap.size + 1, 0, none⟩) 0 0, .agg #[.int .i64 0, .int .i64 0]]) (by simp [results, Tryd.results19, go_sem]) rfl ?_
  exact ⟨_, _, _, rfl, .inr (.inr ⟨Nat.zero_le _, fun i hi => absurd hi (by omega), ⟨_, _, rfl, rfl, .inl rfl⟩, rfl, rfl⟩), by go_grown⟩
theorem c_rCode (a : Option Addr) (n cap : Nat) (X : Nat → Nat → Int) (w : World) (hm : n ≤ maxLen) (hX : InsO w a n X) (hbd : ∀ i j, i < n → j < 5 → -9223372036854775808 ≤ X i j ∧ X i j ≤ 9223372036854775807) :
    Calls Tryd.prog 19 #[.slice a n cap] w (Got X n w) := by
  by_cases hn : n ≤ 4096
  · rcases hX with h0 | ⟨b, off, rfl, hX, hb⟩
    · exact c_rCode_none a cap X w n h0
    · exact c_rCode_short b off n cap X w hn hX hbd hb
  · exact c_rCode_long a n cap X w (by omega) hm
end Go.Proofs.YtcemghcfapblgaaDoor
