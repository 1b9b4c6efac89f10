/-
  The contracts of piece and differing, in the code.
-/
import Derived.Test.YtbfimedgichiiaaMemWith
import Derived.Test.YtbfimedgichiiaaShelf
namespace Go.Proofs.Ytbfimedgichiiaa
set_option linter.unusedVariables false
set_option linter.unusedSimpArgs false
set_option maxRecDepth 100000
open Go.ChangeShapes Go.WideShapes Go.ChangeAt Go.RowKit

theorem slice_piece (g f : Nat) (hf : f + 64 ≤ 4096) (w : World) : (Instr.sliceAt 97 (.pointer (some ⟨g, 0, none⟩)) (some (.int .i64 (f : Int))) (some (.int .i64 ((f : Int) + 64))) (some (.int .i64 ((f : Int) + 64)))).run Try.prog w = .ok (.slice (some (if f + 64 = f then ⟨g, 0, none⟩ else (⟨g, 0, none⟩ : Addr).add f)) 64 64) w := by
  have hA : Try.prog.arrayLen 97 = 4096 := by kernel_rfl
  have hE : Try.prog.elem 97 = 5 := by kernel_rfl
  have ht : Try.prog.underlying 97 = some (.array (Try.prog.arrayLen 97) (Try.prog.elem 97)) := by kernel_rfl
  rw [run_sliceAt_array_lhm w 97 ⟨g, 0, none⟩ ht .i64 .i64 .i64 f (f + 64) (f + 64) (by omega) (by omega) (by omega) (by rw [hA]; omega), hE, Try.sizeOf5]
  show Result.ok (slicedAt ⟨g, 0, none⟩ ((f : Int)).toNat ((f : Int) + 64).toNat ((f : Int) + 64).toNat 1) w = _
  unfold slicedAt
  rw [Int.toNat_natCast, show ((f : Int) + 64).toNat = f + 64 by omega, Nat.mul_one, show f + 64 - f = 64 by omega]
theorem c_piece (g f : Nat) (hf : f + 64 ≤ 4096) (w : World) :
    Calls Try.prog 69 #[.pointer (some ⟨g, 0, none⟩), .int .i64 f] w fun e w' => e = .returned (.slice (some ⟨g, f, none⟩) 64 64) ∧ w = w' := by
  have hs := slice_piece g f hf
  have hw : wrap64 ((f : Int) + 64) = f + 64 := by simp only [wrap64]; omega
  have ha : (if f + 64 = f then (⟨g, 0, none⟩ : Addr) else (⟨g, 0, none⟩ : Addr).add f) = ⟨g, f, none⟩ := by
    rw [if_neg (by omega)]
    unfold Addr.add
    by_cases h0 : f = 0
    · subst h0; rfl
    · simp [h0]
  rw [ha] at hs
  clear ha
  go_enter Try.func69, Try.ntmps69
  go_wp2_with fail
  go_returns
  exact ⟨rfl, rfl⟩
/-- A list, and the addresses of two pieces that differ in their bytes. -/
def difL (c d : Nat → Int) (o : Nat) (a : Int) (L : List (Int × Int)) : Nat → List (Int × Int)
  | 0 => L
  | k + 1 => if c (o + k) = d (o + k) then difL c d o a L k else wth (difL c d o a L k) (a + k)
theorem difL_wf {c d : Nat → Int} {o : Nat} {a hi : Int} {L : List (Int × Int)} (h : Wf 0 L hi) (ha : hi ≤ a) : ∀ k, ∃ hi', Wf 0 (difL c d o a L k) hi' ∧ hi' ≤ a + k
  | 0 => ⟨hi, h, by omega⟩
  | k + 1 => by
    obtain ⟨hi', h1, h2⟩ := difL_wf (c := c) (d := d) (o := o) h ha k
    unfold difL
    split
    · exact ⟨hi', h1, by omega⟩
    · exact ⟨_, h1.wth h2, by omega⟩
theorem difL_eq {c d : Nat → Int} {o : Nat} {a : Int} {L : List (Int × Int)} : ∀ k, (∀ j, j < k → c (o + j) = d (o + j)) → difL c d o a L k = L
  | 0, _ => rfl
  | k + 1, h => by
    unfold difL
    rw [if_pos (h k (by omega))]
    exact difL_eq k (fun j hj => h j (by omega))
def pieceL (c : Nat → Int) (o : Nat) : List Int := (List.range 64).map fun k => c (o + k)
theorem pieceL_len (c : Nat → Int) (o : Nat) : (pieceL c o).length = 64 := by unfold pieceL; simp
theorem pieceL_at (c : Nat → Int) (o k : Nat) (h : k < 64) : (pieceL c o).getD k 0 = c (o + k) := by
  unfold pieceL
  rw [List.getD_eq_getElem?_getD, List.getElem?_map, List.getElem?_range h]
  rfl
theorem piece_in {w : World} {p o : Nat} {c : Nat → Int} (h : Pg w p c) (ho : o + 64 ≤ 4096) : Lib.BytesIn w (some ⟨p, o, none⟩) 64 (pieceL c o) := fun _ => ⟨p, o, rfl, fun k hk => by
  rw [pieceL_at c o k hk]
  exact pg_src h (o + k) (o + k) (by omega) rfl⟩
theorem Pg.bd {w : World} {p : Nat} {c : Nat → Int} (h : Pg w p c) : ∀ k, k < 4096 → 0 ≤ c k ∧ c k ≤ 255 := fun k hk => by
  obtain ⟨cs, T, _, hc⟩ := h
  exact (hc.2 k hk).2
def sameB (c d : Nat → Int) (o : Nat) : Bool := (List.range 64).all fun k => decide (c (o + k) = d (o + k))
theorem sameB_iff (c d : Nat → Int) (o : Nat) : sameB c d o = true ↔ ∀ k, k < 64 → c (o + k) = d (o + k) := by
  unfold sameB
  simp [List.all_eq_true]
theorem bytes_all {c d : Nat → Int} {o : Nat} (hc : ∀ k, k < 64 → 0 ≤ c (o + k) ∧ c (o + k) ≤ 255) (hd : ∀ k, k < 64 → 0 ≤ d (o + k) ∧ d (o + k) ≤ 255) :
    (Lib.bytesOf (pieceL c o) == Lib.bytesOf (pieceL d o)) = sameB c d o := by
  rw [Bool.eq_iff_iff]
  rw [beq_iff_eq, sameB_iff]
  unfold Lib.bytesOf pieceL
  rw [List.map_map, List.map_map]
  constructor
  · intro h k hk
    have h1 := congrArg (fun l => l[k]?) h
    simp only [List.getElem?_map, List.getElem?_range hk, Option.map_some, Function.comp] at h1
    have h2 := congrArg UInt8.toNat (Option.some.inj h1)
    have a1 := hc k hk
    have a2 := hd k hk
    rw [UInt8.toNat_ofNat', UInt8.toNat_ofNat'] at h2
    omega
  · intro h
    apply List.map_congr_left
    intro k hk
    simp only [Function.comp]
    rw [h k (by simpa using hk)]
set_option maxHeartbeats 2000000 in
theorem c_dif (v : Value) (L : List (Int × Int)) (p q o base : Nat) (c d : Nat → Int) (a hi : Int) (w : World) (hG : GL w base v L) (hW : Wf 0 L hi) (ha : hi ≤ a) (h4 : a + 64 ≤ 8589934000) (hp : Pg w p c) (hq : Pg w q d) (hpb : v.ownBlock ≠ some p) (hqb : v.ownBlock ≠ some q) (hb : base ≤ w.heap.size) (ho : o + 64 ≤ 4096) :
    Calls Try.prog 68 #[v, .int .i64 a, .slice (some ⟨p, o, none⟩) 64 64, .slice (some ⟨q, o, none⟩) 64 64] w fun e w' => ∃ v', e = .returned v' ∧ GL w' base v' (difL c d o a L 64) ∧ CR w w' v v' := by
  have h0 := hW.le
  have HG := Lib.hid hG
  have HP := Lib.hid hp
  have HQ := Lib.hid hq
  have HW := Lib.hid hW
  have HPB : Hid (v.ownBlock = some p → False) := hpb
  have HQB : Hid (v.ownBlock = some q → False) := hqb
  have HE : Hid (Calls Try.prog 83 #[.slice (some ⟨p, o, none⟩) 64 64, .slice (some ⟨q, o, none⟩) 64 64] w fun e w' => e = .returned (.bool (sameB c d o)) ∧ w' = w) := by
    have h := Any.bytes_Equal_all Try.laysnb115 (some ⟨p, o, none⟩) (some ⟨q, o, none⟩) 64 64 64 64 (pieceL c o) (pieceL d o) w (pieceL_len c o) (pieceL_len d o) (piece_in hp ho) (piece_in hq ho)
    rw [bytes_all (fun k hk => hp.bd _ (by omega)) (fun k hk => hq.bd _ (by omega))] at h
    exact h
  clear hG hp hq hW hpb hqb
  by_cases heq : ∀ k, k < 64 → c (o + k) = d (o + k)
  · have HD : Hid (difL c d o a L 64 = L) := difL_eq 64 heq
    have hdc : sameB c d o = true := (sameB_iff c d o).2 heq
    rw [hdc] at HE
    clear hdc heq
    go_enter Try.func68, Try.ntmps68
    go_wp2_with fail
    refine HE.out.mono ?_
    rintro e w1 ⟨rfl, rfl⟩
    go_wp2_with fail
    go_returns
    exact ⟨_, rfl, by rw [HD.out]; exact HG.out, CR.refl _ _⟩
  · have hdc : sameB c d o = false := by cases h : sameB c d o with
      | false => rfl
      | true => exact absurd ((sameB_iff c d o).1 h) heq
    rw [hdc] at HE
    clear hdc heq
    go_enter Try.func68, Try.ntmps68
    go_wp2_with fail
    refine HE.out.mono ?_
    rintro e w1 ⟨rfl, rfl⟩
    go_wp2_with fail
    clear HE
    go_loopw [0, 17] (fun l i wr => ∃ k : Nat, k ≤ 64 ∧ i = .int .i64 k ∧ Hid (GL wr base l (difL c d o a L k)) ∧ Hid (CR w1 wr v l)) (fun _ i _ => 64 - (intOf i).toNat)
    case atStart => exact ⟨0, by omega, rfl, HG, CR.refl _ _⟩
    case round =>
      obtain ⟨k, hk, rfl, HGr, HBr⟩ := hrel
      by_cases hlt : k < 64
      · obtain ⟨x, hx⟩ : ∃ x, c (o + k) = x := ⟨_, rfl⟩
        obtain ⟨y, hy⟩ : ∃ y, d (o + k) = y := ⟨_, rfl⟩
        have y0 := pg_src (HP.out.of_block (HBr.out.1.block p HP.out.lt HPB.out)) (o + k) (o + k) (by omega) rfl
        have y1 := pg_src (HQ.out.of_block (HBr.out.1.block q HQ.out.lt HQB.out)) (o + k) (o + k) (by omega) rfl
        have bx := HP.out.bd (o + k) (by omega)
        have by' := HQ.out.bd (o + k) (by omega)
        have HX := Lib.hid hx
        have HY := Lib.hid hy
        rw [hx] at y0 bx
        rw [hy] at y1 by'
        obtain ⟨bx0, bx1⟩ := bx
        obtain ⟨by0, by1⟩ := by'
        clear hx hy
        by_cases hxy : x = y
        · have HN : Hid (difL c d o a L (k + 1) = difL c d o a L k) := by
            show _ = _
            rw [show difL c d o a L (k + 1) = if c (o + k) = d (o + k) then difL c d o a L k else wth (difL c d o a L k) (a + k) from rfl, if_pos (by rw [HX.out, HY.out, hxy])]
          subst hxy
          go_wp2_with fail
          go_roundw
          case rel => exact ⟨k + 1, by omega, by go_num, by rw [show Hid (GL _ base _ (difL c d o a L (k + 1))) = GL _ base _ (difL c d o a L (k + 1)) from rfl, HN.out]; exact HGr.out, HBr⟩
          case measure => simp [intOf]; omega
        · have hxd : (x == y) = false := beq_no hxy
          have HN : Hid (difL c d o a L (k + 1) = wth (difL c d o a L k) (a + k)) := by
            show _ = _
            rw [show difL c d o a L (k + 1) = if c (o + k) = d (o + k) then difL c d o a L k else wth (difL c d o a L k) (a + k) from rfl, if_neg (by rw [HX.out, HY.out]; exact hxy)]
          have HXY : Hid ((x = y) = False) := eq_false hxy
          clear hxy
          go_wp2_with fail
          obtain ⟨hi', hW', hle'⟩ := difL_wf (c := c) (d := d) (o := o) HW.out ha k
          refine (c_with _ _ (a + k) hi' base _ HGr.out hW' hle' (by omega) (Nat.le_trans hb HBr.out.1.size)).mono ?_
          rintro e w2 ⟨v', rfl, hG2, hb2⟩
          have HG2 : Hid (GL w2 base v' (difL c d o a L (k + 1))) := by
            show GL _ _ _ _
            rw [HN.out]
            exact hG2
          have HB2 : Hid (CR w1 w2 v v') := HBr.out.trans hb2
          clear hG2 hb2 hW' hle'
          go_wp2_with fail
          go_roundw
          case rel => exact ⟨k + 1, by omega, by go_num, HG2, HB2⟩
          case measure => simp [intOf]; omega
      · obtain rfl : k = 64 := by omega
        clear hlt hk
        go_wp2_with fail
        go_returns
        exact ⟨_, rfl, HGr.out, HBr.out⟩
end Go.Proofs.Ytbfimedgichiiaa
