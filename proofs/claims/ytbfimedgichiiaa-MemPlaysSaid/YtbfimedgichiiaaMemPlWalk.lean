/-
  The walk of the law that memory answers whatever calls as the document says.
-/
import Derived.Test.YtbfimedgichiiaaMemPlay2
import Derived.Test.YtbfimedgichiiaaMemNewY
import Derived.Test.YtbfimedgichiiaaMemRanges
namespace Go.Proofs.Ytbfimedgichiiaa
set_option linter.unusedVariables false
set_option linter.unusedSimpArgs false
set_option maxRecDepth 100000
open Go.ChangeShapes Go.WideShapes Go.ChangeAt Go.RowKit

theorem Du.begin {w4 w5 : World} {N go gm gy nb : Nat} {R : Nat → Rg} {C D : Nat → Nat → Nat → Int} {c d : Nat → Nat → Int} (hM : Mm w4 (fun b => gm ≤ b) (fun b => gm ≤ b) gm nb R C D) (hY : Rm w5 (fun b => w4.heap.size ≤ b) (fun b => w4.heap.size ≤ b) gy nb R c d) (hb : Below w4.heap.size w4 w5) (hN : N ≤ go) (hg : go < gm) (hgs : gm ≤ w4.heap.size) : Du w5 (fun b => b = go) N gm gy nb R C D c d := by
  have hs := hb.size
  refine ⟨_, _, _, _, (hM.cut).next hb, hY.weak (Y' := fun b => w4.heap.size ≤ b ∧ b < w5.heap.size) (V' := fun b => w4.heap.size ≤ b ∧ b < w5.heap.size) (fun b h1 h2 => ⟨h2, h1⟩) (fun b h1 h2 => ⟨h2, h1⟩), fun b hb => ⟨fun e => ?_, ?_⟩, fun b hb => ⟨fun e => ?_, hb.2⟩, fun b hb => ⟨fun h => ?_, ?_, fun e => ?_, ?_⟩, fun b hb => ⟨fun h => ?_, ?_, fun e => ?_, hb.2⟩, by omega, fun b e => by rw [e]; omega⟩
  · have h1 : gm ≤ b := hb.1
    omega
  · have h1 := hb.2
    omega
  · have h1 := hb.1
    omega
  · have h1 := hb.2
    have h2 := h.1
    omega
  · have h1 : gm ≤ b := hb.1
    omega
  · have h1 : gm ≤ b := hb.1
    omega
  · have h1 := hb.2
    omega
  · have h1 := hb.1
    have h2 := h.2
    omega
  · have h1 := hb.1
    omega
  · have h1 := hb.1
    omega
theorem tie_zero (R : Nat → Rg) (nb : Nat) : TieB R nb zC (fun _ _ => 0) := fun i y _ _ => rfl
theorem c_lranges (b1 c1 c2 n : Nat) (a : Option Addr) (R : Nat → Rg) (w : World) (hn : n ≤ 281474976710656) (hc : n ≤ c1) (hA : RS w b1 0 n R) (hB : RSO w a n c2 R) :
    Calls Try.prog 10 #[.slice (some ⟨b1, 0, none⟩) n c1, .slice a n c2] w fun e w' => e = .returned (.bool true) ∧ Below w.heap.size w w' := by
  rcases hB with h0 | ⟨b, off, rfl, hd, hB⟩
  · subst h0
    exact c_lranges_none _ _ _ _ w
  · exact c_lranges_some b1 0 b off n c1 c2 R w hn hc hd hA hB
theorem RgOwn.row {w : World} {base g n cap : Nat} {R : Nat → Rg} (h : RgOwn w base g n cap R) : OwnR w g (n * 5) := by
  rcases h.2 with ⟨h', _⟩ | ⟨g', cap', cur, h', hb, hh, hle, hm, hs, _⟩
  · cases h'
  · injection h' with h1 h2 h3
    injection h1 with h1
    injection h1 with h1
    subst h1 h3
    exact ⟨cur, _, hh, by rw [hs]; exact Nat.mul_le_mul_right _ hle⟩
theorem c_lranges2 (a1 a2 : Option Addr) (c1 c2 n : Nat) (R : Nat → Rg) (w : World) (hn : n ≤ 281474976710656) (hA : RSO w a1 n c1 R) (hB : RSO w a2 n c2 R) :
    Calls Try.prog 10 #[.slice a1 n c1, .slice a2 n c2] w fun e w' => e = .returned (.bool true) ∧ Below w.heap.size w w' := by
  rcases hA with h0 | ⟨b1, o1, rfl, hc, hA⟩
  · subst h0
    exact c_lranges_none _ _ _ _ w
  · rcases hB with h0 | ⟨b, off, rfl, hd, hB⟩
    · subst h0
      exact c_lranges_none _ _ _ _ w
    · exact c_lranges_some b1 o1 b off n c1 c2 R w hn hc hd hA hB
/-- The ranges that Ranges tells. -/
theorem ranges_row {w : World} {base n : Nat} {v : Value} {R : Nat → Rg} (h : w.ownsRow base 34 5 v n (fl (fun i => rgC (R i)) n)) : ∃ a cap, v = .slice a n cap ∧ RSO w a n cap R ∧ (0 < n → ∃ g, a = some ⟨g, 0, none⟩ ∧ base ≤ g ∧ g < w.heap.size ∧ OwnR w g (n * 5)) := by
  have h0 := h
  rcases h.2 with ⟨rfl, h1⟩ | ⟨g, cap, cur, rfl, hg, hh, _⟩
  · subst h1
    exact ⟨none, 0, rfl, .inl rfl, fun h => by omega⟩
  · have ho : RgOwn w base g n cap R := h0
    exact ⟨_, cap, rfl, .inr ⟨g, 0, rfl, ho.info.1, ho.rs⟩, fun _ => ⟨g, rfl, hg, (Array.getElem?_eq_some_iff.1 hh).1, ho.row⟩⟩
/-- Acts that came in. -/
def AcIn (w : World) (aa : Option Addr) (na capa : Nat) (K A M V : Nat → Int) (P : Nat → Option Addr) (L Cp : Nat → Nat) (F : Nat → Nat → Int) : Prop :=
  na = 0 ∨ ∃ b off, aa = some ⟨b, off, none⟩ ∧ b < w.heap.size ∧ na ≤ capa ∧ ∀ i, i < na →
    (w.cell? ⟨b, off + i * 5, none⟩ = some (.int .i64 (K i)) ∧ w.cell? ⟨b, off + i * 5 + 1, none⟩ = some (.int .u32 (A i)) ∧ w.cell? ⟨b, off + i * 5 + 2, none⟩ = some (.int .i64 (M i)) ∧ w.cell? ⟨b, off + i * 5 + 3, none⟩ = some (.int .u32 (V i)) ∧ w.cell? ⟨b, off + i * 5 + 4, none⟩ = some (.slice (P i) (L i) (Cp i))) ∧
    ((-9223372036854775808 ≤ K i ∧ K i ≤ 9223372036854775807) ∧ (0 ≤ A i ∧ A i ≤ 4294967295) ∧ (-9223372036854775808 ≤ M i ∧ M i ≤ 9223372036854775807) ∧ (0 ≤ V i ∧ V i ≤ 4294967295)) ∧ ByIn w w.heap.size (P i) (L i) (Cp i) (F i)
/-- One of them, in whatever world stands behind. -/
theorem AcIn.at {w : World} {b off : Nat} {K A M V : Nat → Int} {P : Nat → Option Addr} {L Cp : Nat → Nat} {i : Nat} (hb : b < w.heap.size)
    (h : w.cell? ⟨b, off + i * 5, none⟩ = some (.int .i64 (K i)) ∧ w.cell? ⟨b, off + i * 5 + 1, none⟩ = some (.int .u32 (A i)) ∧ w.cell? ⟨b, off + i * 5 + 2, none⟩ = some (.int .i64 (M i)) ∧ w.cell? ⟨b, off + i * 5 + 3, none⟩ = some (.int .u32 (V i)) ∧ w.cell? ⟨b, off + i * 5 + 4, none⟩ = some (.slice (P i) (L i) (Cp i))) {w' : World} (hw : Below w.heap.size w w') :
    w'.cell? ⟨b, off + i * 5, none⟩ = some (.int .i64 (K i)) ∧ w'.cell? ⟨b, off + i * 5 + 1, none⟩ = some (.int .u32 (A i)) ∧ w'.cell? ⟨b, off + i * 5 + 2, none⟩ = some (.int .i64 (M i)) ∧ w'.cell? ⟨b, off + i * 5 + 3, none⟩ = some (.int .u32 (V i)) ∧ w'.cell? ⟨b, off + i * 5 + 4, none⟩ = some (.slice (P i) (L i) (Cp i)) :=
  ⟨(hw.cell (p := ⟨b, _, none⟩) hb).trans h.1, (hw.cell (p := ⟨b, _, none⟩) hb).trans h.2.1, (hw.cell (p := ⟨b, _, none⟩) hb).trans h.2.2.1, (hw.cell (p := ⟨b, _, none⟩) hb).trans h.2.2.2.1, (hw.cell (p := ⟨b, _, none⟩) hb).trans h.2.2.2.2⟩
set_option maxHeartbeats 16000000 in
theorem plays_walk (a : Option Addr) (n cap : Nat) (R : Nat → Rg) (aa : Option Addr) (na capa : Nat) (K A M V : Nat → Int) (P : Nat → Option Addr) (L Cp : Nat → Nat) (F : Nat → Nat → Int) (w : World) (hma : na ≤ maxLen) (hA : AcIn w aa na capa K A M V P L Cp F) (hr : n * 40 ≤ 140737488351232) (hm : n ≤ maxLen) (hR : RSO w a n cap R) (hnil : a = none → n = 0 ∧ cap = 0) (hbd : RgBd R n) :
    Calls Try.prog 3 #[.slice a n cap, .slice aa na capa] w fun e w' => e = .returned (.bool true) ∧ Below w.heap.size w w' := by
  have HR := Lib.hid hR
  have HBD := Lib.hid hbd
  have HMx := Lib.hid hm
  have HNil := Lib.hid hnil
  have HAc := Lib.hid hA
  unfold maxLen at hma
  clear hR hbd hm hnil hA
  go_enter Try.func3, Try.ntmps3
  go_wp2_with (at_builtin; refine wp_copyR rfl _ _ rfl w.heap.size w.heap.size rfl (World.ownsRow_made w #[] 0 (Nat.le_refl _) (by decide) rfl) a n cap R rfl (HR.out.next (below_new w _)) HNil.out (by omega) (by simp) ?_)
  intro go capo w1 hown hgrow
  have HOwn := Lib.hid hown
  have HB1 : Hid (Below w.heap.size w w1) := (below_new w _).grown hgrow (by simp) (fun k hk => by simp at hk; omega)
  clear hown hgrow
  go_wp2_with fail
  refine (c_Check (some ⟨go, 0, none⟩) n capo R _ HMx.out (.inr ⟨go, 0, rfl, HOwn.out.info.1, HOwn.out.rs⟩) HBD.out).mono ?_
  rintro e w2 ⟨rfl, hb2⟩
  have HB2 : Hid (Below w.heap.size w w2) := below_on HB1.out hb2 HB1.out.size
  have HOwn2 : Hid (RgOwn w2 w.heap.size go n capo R) := own_bl HOwn.out hb2
  have HLo : Hid (go < w1.heap.size ∧ w.heap.size ≤ go ∧ w1.heap.size ≤ w2.heap.size) := ⟨HOwn.out.info.2.2.1, HOwn.out.info.2.1, hb2.size⟩
  clear hb2 HOwn
  go_wp2_with fail
  refine (c_rCheck a n cap R _ HMx.out (HR.out.next HB2.out) HBD.out).mono ?_
  rintro e w3 ⟨rfl, hb3⟩
  have HB3 : Hid (Below w.heap.size w w3) := below_on HB2.out hb3 HB2.out.size
  have HOwn3 : Hid (RgOwn w3 w.heap.size go n capo R) := own_bl HOwn2.out hb3
  have HLo3 : Hid (go < w3.heap.size) := by have h1 := HLo.out; have h2 := hb3.size; show _ < _; omega
  clear hb3 HOwn2
  go_wp2_with fail
  refine (c_New (some ⟨go, 0, none⟩) n capo R _ HMx.out (.inr ⟨go, 0, rfl, HOwn3.out.info.1, HOwn3.out.rs⟩) HBD.out).mono ?_
  rintro e w4 hN
  rcases hN with ⟨hne, rfl, hb4⟩ | ⟨hc0, gm, rfl, hgm, hMm, hb4⟩
  · have HB4 : Hid (Below w.heap.size w w4) := below_on HB3.out hb4 HB3.out.size
    have HOwn4 : Hid (RgOwn w4 w.heap.size go n capo R) := own_bl HOwn3.out hb4
    have HNe := Lib.hid hne
    have hcd : (chkI R n == 0) = false := beq_no hne
    have hbn : (chkI R n != 0) = true := by simp [bne, hcd]
    clear hb4 hne HOwn3
    go_wp2_with fail
    refine (c_rNew_no a n cap R _ HMx.out (HR.out.next HB4.out) HBD.out HNe.out).mono ?_
    rintro e w5 ⟨rfl, hb5⟩
    have HB5 : Hid (Below w.heap.size w w5) := below_on HB4.out hb5 HB4.out.size
    have HOwn5 : Hid (RgOwn w5 w.heap.size go n capo R) := own_bl HOwn4.out hb5
    clear hb5 HOwn4
    go_wp2_with fail
    refine (c_lranges go capo cap n a R _ (by omega) HOwn5.out.info.1 HOwn5.out.rs (HR.out.next HB5.out)).mono ?_
    rintro e w6 ⟨rfl, hb6⟩
    have HB6 : Hid (Below w.heap.size w w6) := below_on HB5.out hb6 HB5.out.size
    clear hb6
    go_wp2_with fail
    go_ret
    exact ⟨rfl, HB6.out⟩
  · have HB4 : Hid (Below w.heap.size w w4) := below_on HB3.out hb4 HB3.out.size
    have HOwn4 : Hid (RgOwn w4 w.heap.size go n capo R) := own_bl HOwn3.out hb4
    have HLo4 : Hid (go < gm ∧ gm ≤ w4.heap.size) := ⟨by have := HLo3.out; omega, by obtain ⟨_, _, _, _, _, _, _, _, _, _, h1, _⟩ := hMm; exact Nat.le_of_lt (h1.foot_lt gm (.inl rfl))⟩
    have HMm := Lib.hid hMm
    have HC0 := Lib.hid hc0
    clear hb4 HOwn3 hMm hgm
    rw [hc0]
    clear hc0
    go_wp2_with fail
    refine (c_rNew_ok a n cap R _ HMx.out (HR.out.next HB4.out) HNil.out HBD.out HC0.out).mono ?_
    rintro e w5 ⟨gy, rfl, hRm, hb5⟩
    have HB5 : Hid (Below w.heap.size w w5) := below_on HB4.out hb5 HB4.out.size
    have HOwn5 : Hid (RgOwn w5 w.heap.size go n capo R) := own_bl HOwn4.out hb5
    have HDu : Hid (Du w5 (fun b => b = go) w.heap.size gm gy n R zC zC (fun _ _ => 0) (fun _ _ => 0)) := Du.begin HMm.out hRm hb5 HLo.out.2.1 HLo4.out.1 HLo4.out.2
    clear hb5 HOwn4 hRm
    have HRw := Lib.hid HOwn5.out.row
    have hn16 : n ≤ 16 := (chk_ok HC0.out).1
    have HOk := Lib.hid (chk_ok HC0.out).2
    have hcap : n ≤ capo := HOwn5.out.info.1
    have HLo5 := Lib.hid HLo.out.2.1
    clear HOwn5 HMm
    go_wp2_with fail
    go_loopw [10] (fun i wr => ∃ y : Nat, y ≤ n ∧ i = .int .i64 y ∧ Hid (OwnR wr go (n * 5)) ∧ Hid (Du wr (fun b => b = go) w.heap.size gm gy n R zC zC (fun _ _ => 0) (fun _ _ => 0)) ∧ Hid (Below w.heap.size w wr)) (fun i _ => n - (intOf i).toNat)
    case atStart => exact ⟨0, Nat.zero_le _, rfl, HRw, HDu, HB5⟩
    case round =>
      clear HDu HB5 HRw
      obtain ⟨y, hy, rfl, HRr, HDr, HBr⟩ := hrel
      by_cases hlt : y < n
      · obtain ⟨o0, ho0⟩ := HRr.out.there (y := y * 5) (by omega)
        obtain ⟨o1, ho1⟩ := HRr.out.there (y := y * 5 + 1) (by omega)
        obtain ⟨o2, ho2⟩ := HRr.out.there (y := y * 5 + 2) (by omega)
        obtain ⟨o3, ho3⟩ := HRr.out.there (y := y * 5 + 3) (by omega)
        obtain ⟨o4, ho4⟩ := HRr.out.there (y := y * 5 + 4) (by omega)
        have hf0 := HRr.out.fz (y * 5)
        have hf1 := HRr.out.fz (y * 5 + 1)
        have hf2 := HRr.out.fz (y * 5 + 2)
        have hf3 := HRr.out.fz (y * 5 + 3)
        have hf4 := HRr.out.fz (y * 5 + 4)
        have hy0 : (0 : Int) ≤ (y : Int) := by omega
        have hy1 : (y : Int) < (n : Int) := by omega
        have s0 := HRr.out.set (y * 5) (.string ⟨#[115, 112, 111, 105, 108, 116]⟩)
        have s1 := s0.1.set (y * 5 + 1) (.int .i64 0)
        have s2 := s1.1.set (y * 5 + 2) (.int .i64 0)
        have s3 := s2.1.set (y * 5 + 3) (.bool false)
        have s4 := s3.1.set (y * 5 + 4) (.bool false)
        have hfr := (((s0.2.trans s1.2).trans s2.2).trans s3.2).trans s4.2
        have HR5 := Lib.hid s4.1
        have HD5 := Lib.hid (HDr.out.frame hfr (fun b _ e => e))
        have HB6 := Lib.hid (HBr.out.trans (hfr.below HBr.out.size (fun b e => by rw [e]; exact HLo5.out)))
        clear s0 s1 s2 s3 s4 hfr
        go_wp2_with fail
        refine ⟨⟨y + 1, by omega, by go_num, HR5, HD5, HB6⟩, ?_⟩
        simp [intOf]; omega
      · have hge : decide (y < n) = false := by simp; omega
        clear hlt hy
        go_wp2_with fail
        have HBo : Hid (Both wr w.heap.size gm gy n R) := ⟨_, _, _, _, HDr.out.less (fun b h => h.elim), tie_zero R n, tie_zero R n⟩
        clear HDr HRr
        go_loopw [6, 11] (fun x i wr => ∃ q gm : Nat, q ≤ na ∧ i = .int .i64 q ∧ x = .pointer (some ⟨gm, 0, none⟩) ∧ Hid (Both wr w.heap.size gm gy n R) ∧ Hid (Below w.heap.size w wr)) (fun _ i _ => na - (intOf i).toNat)
        case atStart => exact ⟨0, gm, Nat.zero_le _, rfl, rfl, HBo, HBr⟩
        case round =>
          clear HBo HBr
          obtain ⟨q, gx, hq, rfl, rfl, HBo, HBr⟩ := hrel
          by_cases hlt : q < na
          · obtain ⟨b, off, rfl, hbl, hle, hAc⟩ : ∃ b off, aa = some ⟨b, off, none⟩ ∧ b < w.heap.size ∧ na ≤ capa ∧ _ := HAc.out.resolve_left (by omega)
            obtain ⟨hcs, ⟨⟨k0, k1⟩, ⟨a0, a1⟩, ⟨m0, m1⟩, ⟨v0, v1⟩⟩, hBy⟩ := hAc q hlt
            have HCs := Lib.hid (fun (wx : World) (hw : Below w.heap.size w wx) => AcIn.at hbl hcs hw)
            have HBy : Hid (∀ wx, Below w.heap.size w wx → ByIn wx w.heap.size (P q) (L q) (Cp q) (F q)) := fun wx hw => hBy.below hw
            obtain ⟨x0, x1, x2, x3, x4⟩ := HCs.out wr HBr.out
            have hq0 : (0 : Int) ≤ (q : Int) := by omega
            have hq1 : (q : Int) < (na : Int) := by omega
            clear hAc hcs hBy
            go_wp2_with fail
            refine (c_among (K q) 8 _ k0 k1 (by decide) (by decide)).mono ?_
            rintro e w9 ⟨rfl, rfl⟩
            have hab := amP_bd (K q) 8 (by decide)
            by_cases h7 : amP (K q) 8 = 7
            · rw [h7]
              clear hab h7
              go_wp2_with fail
              obtain ⟨C, D, c, d, hD, tC, tD⟩ := HBo.out
              have HTC := Lib.hid tC
              have HTD := Lib.hid tD
              refine (d_Clone (fun _ => False) w.heap.size gx gy n R C D c d _ hD).mono ?_
              rintro e w2' ⟨rfl, hT, hb⟩
              have HT := Lib.hid hT
              have HBc : Hid (Below w.heap.size w w2') := below_on HBr.out hb HBr.out.size
              have hgz : wr.heap.size = wr.heap.size := rfl
              generalize wr.heap.size = gz at HT ⊢
              obtain ⟨x0, x1, x2, x3, x4⟩ := HCs.out w2' HBc.out
              clear hD tC tD hT hb hgz
              go_wp2_with fail
              refine (t_Fill w.heap.size gx gz gy n R C D C D c d (A q) 3 3 w2'.heap.size 0 (fun k => if k = 0 then 1 else if k = 1 then 2 else 3) _ w2' HT.out (below_new w2' _) a0 a1 (by decide) (by decide) (by decide) (fun j hj => by
                have hj' : j = 0 ∨ j = 1 ∨ j = 2 := by omega
                rcases hj' with rfl | rfl | rfl <;> simp [go_sem]) (Nat.le_refl _) (fun k hk => by
                show 0 ≤ (if k = 0 then (1 : Int) else if k = 1 then 2 else 3) ∧ (if k = 0 then (1 : Int) else if k = 1 then 2 else 3) ≤ 255
                split
                · omega
                · split <;> omega)).mono ?_
              rintro e w3' ⟨kf, rfl, ⟨C', hT3⟩, hb3⟩
              have HT3 := Lib.hid hT3
              have HBf : Hid (Below w.heap.size w w3') := (HBc.out.trans ((below_new w2' _).mono HBc.out.size)).trans hb3
              clear hT3 hb3 x0 x1 x2 x3 x4
              go_wp2_with fail
              refine (t_Mark w.heap.size gx gz gy n R C' D C D c d _ HT3.out).mono ?_
              rintro e wt ⟨rfl, hDt, hbt⟩
              have HBt : Hid (Both wt w.heap.size gz gy n R) := ⟨C, D, c, d, hDt, HTC.out, HTD.out⟩
              have HBe : Hid (Below w.heap.size w wt) := HBf.out.trans hbt
              clear hDt hbt
              go_wp2_with fail
              · obtain ⟨C, D, c, d, hD, tC, tD⟩ := HBt.out
                have HD := Lib.hid hD
                have HTC := Lib.hid tC
                have HTD := Lib.hid tD
                clear hD tC tD
                obtain ⟨A4, M4, hM4⟩ := HD.out.fst
                refine (c_Changed A4 M4 gz n R C D _ hM4).mono ?_
                rintro e w6 ⟨v6, L6, hi, rfl, hG6, hW6, hcov, hb6⟩
                obtain ⟨a6, cap6, rfl, hcap6, hI6⟩ := hG6.gapIn
                have HB6 := Lib.hid hb6
                have HW6 := Lib.hid hW6
                have HCov := Lib.hid hcov
                have HTl := Lib.hid hM4.tail
                have HI6 := Lib.hid hI6
                clear hG6 hW6 hcov hb6 hI6 hM4
                go_wp2_with fail
                obtain ⟨gl, gN, gW, rn, rw', y1, y2, y3⟩ := (HD.out.next HB6.out).snd
                refine (c_rChanged gy gl gN gW n R rn rw' c d _ y1 y2 y3 hn16 HOk.out).mono ?_
                rintro e w7 ⟨g7, cap7, L7, rfl, hG7, hR7, hb7⟩
                have hu : L6 = L7 := RcS.uniq hR7 HOk.out HTl.out (fun i y hi hy => ⟨HTC.out i y hi hy, HTD.out i y hi hy⟩) HCov.out HW6.out
                subst hu
                have hlen := hR7.1.len0
                have hlen2 : L6.length ≤ 8589934592 := by omega
                obtain ⟨a7, cap7', he7, hcap7, hI7⟩ := GL.gapIn hG7
                injection he7 with h71 h72 h73
                subst h71 h73
                have HB7 := Lib.hid hb7
                have HI7 := Lib.hid hI7
                clear hG7 hR7 hb7 hI7 y1 y2 y3 hlen
                go_wp2_with fail
                refine (c_gaps a6 (some ⟨g7, 0, none⟩) cap6 cap7 L6 _ hlen2 hcap6 hcap7 (HI6.out.next HB7.out) HI7.out).mono ?_
                rintro e w8 ⟨rfl, hb8⟩
                have HBo8 : Hid (Both w8 w.heap.size gz gy n R) := ((HBt.out.next HB6.out).next HB7.out).next hb8
                have HBe8 : Hid (Below w.heap.size w w8) := below_on (below_on (below_on HBe.out HB6.out HBe.out.size) HB7.out (Nat.le_trans HBe.out.size HB6.out.size)) hb8 (Nat.le_trans (Nat.le_trans HBe.out.size HB6.out.size) HB7.out.size)
                clear hb8 hcap6 hcap7 hlen2
                go_wp2_with fail
                go_roundw
                case rel => exact ⟨q + 1, gz, by omega, by go_num, rfl, HBo8, HBe8⟩
                case measure => simp [intOf]; omega
              · first
                  | (go_roundw
                     case rel => exact ⟨q + 1, gz, by omega, by go_num, rfl, HBt, HBe⟩
                     case measure => simp [intOf]; omega)
                  | (refine ⟨⟨q + 1, gz, by omega, by go_num, rfl, HBt, HBe⟩, ?_⟩
                     simp [intOf]; omega)
            · have h7d : (amP (K q) 8 == 7) = false := by simp [h7]
              go_wp2_with fail
              refine (c_play w.heap.size gx gy n R (K q) (A q) (M q) (V q) (P q) (L q) (Cp q) (F q) _ HBo.out hn16 HOk.out k0 k1 a0 a1 m0 m1 v0 v1 (HBy.out _ HBr.out)).mono ?_
              rintro e wt ⟨rfl, hBt, hbt⟩
              have HBt := Lib.hid hBt
              have HBe : Hid (Below w.heap.size w wt) := HBr.out.trans hbt
              clear hBt hbt x0 x1 x2 x3 x4 h7 h7d hab
              go_wp2_with fail
              · obtain ⟨C, D, c, d, hD, tC, tD⟩ := HBt.out
                have HD := Lib.hid hD
                have HTC := Lib.hid tC
                have HTD := Lib.hid tD
                clear hD tC tD
                obtain ⟨A4, M4, hM4⟩ := HD.out.fst
                refine (c_Changed A4 M4 gx n R C D _ hM4).mono ?_
                rintro e w6 ⟨v6, L6, hi, rfl, hG6, hW6, hcov, hb6⟩
                obtain ⟨a6, cap6, rfl, hcap6, hI6⟩ := hG6.gapIn
                have HB6 := Lib.hid hb6
                have HW6 := Lib.hid hW6
                have HCov := Lib.hid hcov
                have HTl := Lib.hid hM4.tail
                have HI6 := Lib.hid hI6
                clear hG6 hW6 hcov hb6 hI6 hM4
                go_wp2_with fail
                obtain ⟨gl, gN, gW, rn, rw', y1, y2, y3⟩ := (HD.out.next HB6.out).snd
                refine (c_rChanged gy gl gN gW n R rn rw' c d _ y1 y2 y3 hn16 HOk.out).mono ?_
                rintro e w7 ⟨g7, cap7, L7, rfl, hG7, hR7, hb7⟩
                have hu : L6 = L7 := RcS.uniq hR7 HOk.out HTl.out (fun i y hi hy => ⟨HTC.out i y hi hy, HTD.out i y hi hy⟩) HCov.out HW6.out
                subst hu
                have hlen := hR7.1.len0
                have hlen2 : L6.length ≤ 8589934592 := by omega
                obtain ⟨a7, cap7', he7, hcap7, hI7⟩ := GL.gapIn hG7
                injection he7 with h71 h72 h73
                subst h71 h73
                have HB7 := Lib.hid hb7
                have HI7 := Lib.hid hI7
                clear hG7 hR7 hb7 hI7 y1 y2 y3 hlen
                go_wp2_with fail
                refine (c_gaps a6 (some ⟨g7, 0, none⟩) cap6 cap7 L6 _ hlen2 hcap6 hcap7 (HI6.out.next HB7.out) HI7.out).mono ?_
                rintro e w8 ⟨rfl, hb8⟩
                have HBo8 : Hid (Both w8 w.heap.size gx gy n R) := ((HBt.out.next HB6.out).next HB7.out).next hb8
                have HBe8 : Hid (Below w.heap.size w w8) := below_on (below_on (below_on HBe.out HB6.out HBe.out.size) HB7.out (Nat.le_trans HBe.out.size HB6.out.size)) hb8 (Nat.le_trans (Nat.le_trans HBe.out.size HB6.out.size) HB7.out.size)
                clear hb8 hcap6 hcap7 hlen2
                go_wp2_with fail
                go_roundw
                case rel => exact ⟨q + 1, gx, by omega, by go_num, rfl, HBo8, HBe8⟩
                case measure => simp [intOf]; omega
              · first
                  | (go_roundw
                     case rel => exact ⟨q + 1, gx, by omega, by go_num, rfl, HBt, HBe⟩
                     case measure => simp [intOf]; omega)
                  | (refine ⟨⟨q + 1, gx, by omega, by go_num, rfl, HBt, HBe⟩, ?_⟩
                     simp [intOf]; omega)
          · have hge : decide (q < na) = false := by simp; omega
            obtain rfl : q = na := by omega
            clear hlt hq
            go_wp2_with fail
            obtain ⟨C, D, c, d, hD, tC, tD⟩ := HBo.out
            have HD := Lib.hid hD
            have HTC := Lib.hid tC
            have HTD := Lib.hid tD
            clear hD tC tD HBo
            obtain ⟨A4, M4, hM4⟩ := HD.out.fst
            refine (c_mRanges A4 M4 gx n R C D _ hM4).mono ?_
            rintro e w6 ⟨v6, rfl, hrow, hb6⟩
            obtain ⟨ar, cr, rfl, hro, hrw⟩ := ranges_row hrow
            have HRo := Lib.hid hro
            obtain ⟨s9, hs9⟩ : ∃ s, s = wr.heap.size := ⟨_, rfl⟩
            rw [← hs9] at hrw
            have HRw := Lib.hid hrw
            have HS6 : Hid (Du w6 (fun b => False ∨ s9 ≤ b ∧ b < w6.heap.size) w.heap.size gx gy n R C D c d) := by rw [hs9]; exact HD.out.spare hb6
            have HB6 : Hid (Below w.heap.size w w6) := below_on HBr.out hb6 HBr.out.size
            have HNr : Hid (w.heap.size ≤ s9) := by rw [hs9]; exact HBr.out.size
            clear hrow hro hrw hb6 hM4 hs9
            go_wp2_with fail
            refine (c_lranges2 ar a cr cap n R _ (by omega) HRo.out (HR.out.next HB6.out)).mono ?_
            rintro e w7 ⟨rfl, hb7⟩
            have HB7 : Hid (Below w.heap.size w w7) := below_on HB6.out hb7 HB6.out.size
            have HS7 := Lib.hid (HS6.out.next hb7)
            have HRw7 : Hid (0 < n → ∃ g, ar = some ⟨g, 0, none⟩ ∧ s9 ≤ g ∧ g < w6.heap.size ∧ OwnR w7 g (n * 5)) := fun h => by
              obtain ⟨g, e, h1, h2, h3⟩ := HRw.out h
              exact ⟨g, e, h1, h2, h3.next (hb7.block g h2)⟩
            clear hb7 HRo HRw HS6
            go_wp2_with fail
            go_loopw [14] (fun i w9 => ∃ f : Nat, f ≤ n ∧ i = .int .i64 f ∧ Hid (0 < n → ∃ g, ar = some ⟨g, 0, none⟩ ∧ s9 ≤ g ∧ g < w6.heap.size ∧ OwnR w9 g (n * 5)) ∧ Hid (Du w9 (fun b => False ∨ s9 ≤ b ∧ b < w6.heap.size) w.heap.size gx gy n R C D c d) ∧ Hid (Below w.heap.size w w9)) (fun i _ => n - (intOf i).toNat)
            case atStart => exact ⟨0, Nat.zero_le _, rfl, HRw7, HS7, HB7⟩
            case round =>
              clear HRw7 HS7 HB7 HB6 HD
              obtain ⟨f, hf, rfl, HRr, HDr, HBf⟩ := hrel
              by_cases hlf : f < n
              · obtain ⟨g, rfl, hg1, hg2, hg3⟩ := HRr.out (by omega)
                obtain ⟨o1, ho1⟩ := hg3.there (y := f * 5 + 1) (by omega)
                have hf1 := hg3.fz (f * 5 + 1)
                have hf0 : (0 : Int) ≤ (f : Int) := by omega
                have hfi : (f : Int) < (n : Int) := by omega
                have s := hg3.set (f * 5 + 1) (.int .i64 7)
                have HRn : Hid (0 < n → ∃ g', (some ⟨g, 0, none⟩ : Option Addr) = some ⟨g', 0, none⟩ ∧ s9 ≤ g' ∧ g' < w6.heap.size ∧ OwnR (wr.setCell ⟨g, f * 5 + 1, none⟩ (.int .i64 7)) g' (n * 5)) := fun _ => ⟨g, rfl, hg1, hg2, s.1⟩
                have HDn := Lib.hid (HDr.out.frame s.2 (fun b _ e => .inr (by rw [e]; exact ⟨hg1, hg2⟩)))
                have HBn := Lib.hid (HBf.out.trans (s.2.below HBf.out.size (fun b e => by have := HNr.out; omega)))
                clear s hg1 hg2 hg3
                go_wp2_with fail
                go_roundw
                case rel => exact ⟨f + 1, by omega, by go_num, HRn, HDn, HBn⟩
                case measure => simp [intOf]; omega
              · have hge : decide (f < n) = false := by simp; omega
                have HDe := Lib.hid (HDr.out.less (S' := fun _ => False) (fun b h => h.elim))
                clear hlf hf HRr HDr
                go_wp2_with fail
                obtain ⟨A5, M5, hM5⟩ := HDe.out.fst
                refine (c_mRanges A5 M5 gx n R C D _ hM5).mono ?_
                rintro e w16 ⟨v16, rfl, hrow, hb16⟩
                obtain ⟨ar2, cr2, rfl, hro2, _⟩ := ranges_row hrow
                have HRo2 := Lib.hid hro2
                have HB16 : Hid (Below w.heap.size w w16) := below_on HBf.out hb16 HBf.out.size
                have HD16 := Lib.hid (HDe.out.next hb16)
                clear hrow hro2 hb16 hM5
                go_wp2_with fail
                refine (c_lranges2 ar2 a cr2 cap n R _ (by omega) HRo2.out (HR.out.next HB16.out)).mono ?_
                rintro e w17 ⟨rfl, hb17⟩
                have HBe : Hid (Below w.heap.size w w17) := below_on HB16.out hb17 HB16.out.size
                have HDx := Lib.hid (HD16.out.next hb17)
                clear hb17
                go_wp2_with fail
                obtain ⟨A4, M4, hM4⟩ := HDx.out.fst
                refine (c_Changed A4 M4 gx n R C D _ hM4).mono ?_
                rintro e w6 ⟨v6, L6, hi, rfl, hG6, hW6, hcov, hb6⟩
                obtain ⟨a6, cap6, rfl, hcap6, hI6⟩ := hG6.gapIn
                have HB6 := Lib.hid hb6
                have HW6 := Lib.hid hW6
                have HCov := Lib.hid hcov
                have HTl := Lib.hid hM4.tail
                have HI6 := Lib.hid hI6
                clear hG6 hW6 hcov hb6 hI6 hM4
                go_wp2_with fail
                obtain ⟨gl, gN, gW, rn, rw', y1, y2, y3⟩ := (HDx.out.next HB6.out).snd
                refine (c_rChanged gy gl gN gW n R rn rw' c d _ y1 y2 y3 hn16 HOk.out).mono ?_
                rintro e w7 ⟨g7, cap7, L7, rfl, hG7, hR7, hb7⟩
                have hu : L6 = L7 := RcS.uniq hR7 HOk.out HTl.out (fun i y hi hy => ⟨HTC.out i y hi hy, HTD.out i y hi hy⟩) HCov.out HW6.out
                subst hu
                have hlen := hR7.1.len0
                have hlen2 : L6.length ≤ 8589934592 := by omega
                obtain ⟨a7, cap7', he7, hcap7, hI7⟩ := GL.gapIn hG7
                injection he7 with h71 h72 h73
                subst h71 h73
                have HB7 := Lib.hid hb7
                have HI7 := Lib.hid hI7
                clear hG7 hR7 hb7 hI7 y1 y2 y3 hlen
                go_wp2_with fail
                refine (c_gaps a6 (some ⟨g7, 0, none⟩) cap6 cap7 L6 _ hlen2 hcap6 hcap7 (HI6.out.next HB7.out) HI7.out).mono ?_
                rintro e w8 ⟨rfl, hb8⟩
                have HBe8 : Hid (Below w.heap.size w w8) := below_on (below_on (below_on HBe.out HB6.out HBe.out.size) HB7.out (Nat.le_trans HBe.out.size HB6.out.size)) hb8 (Nat.le_trans (Nat.le_trans HBe.out.size HB6.out.size) HB7.out.size)
                clear hb8 hcap6 hcap7 hlen2
                go_wp2_with fail
                go_ret
                exact ⟨rfl, HBe8.out⟩
end Go.Proofs.Ytbfimedgichiiaa
