/-
  The contracts of the code's answers of integers and scalars, and of its parts of any type.
-/
import Derived.Test.YtjadckhngalmlaaGreatDoorZTyK1
import Derived.Deep.RegionHeld3
import Derived.Test.YtjadckhngalmlaaGreatDoorZTyRo
namespace Go.Proofs.YtjadckhngalmlaaGreatDoor
set_option linter.unusedVariables false
set_option linter.unusedSimpArgs false
set_option maxRecDepth 100000
open Go.RowKit

/-- Texts in a slice. -/
def StrIn (w : World) (a : Option Addr) (L : List (List UInt8)) : Prop := 0 < L.length → ∃ b off, a = some ⟨b, off, none⟩ ∧ ∀ (k : Nat) s, L[k]? = some s → w.cell? ⟨b, off + k, none⟩ = some (.string ⟨s.toArray⟩)
theorem StrIn.next {w w' : World} {a : Option Addr} {L : List (List UInt8)} (h : StrIn w a L) (hb : Below w.heap.size w w') : StrIn w' a L := fun h0 => by
  obtain ⟨b, off, h1, h2⟩ := h h0
  exact ⟨b, off, h1, fun k s hs => by
    have h3 := h2 k s hs
    have h4 : b < w.heap.size := World.block_lt_of_cell? w ⟨b, off + k, none⟩ h3
    exact (cell_of_blk (hb.block b h4) _).trans h3⟩
end Go.Proofs.YtjadckhngalmlaaGreatDoor
namespace Go.Proofs.YtjadckhngalmlaaGreatDoor
set_option linter.unusedVariables false
set_option linter.unusedSimpArgs false
set_option maxRecDepth 100000
open Go.RowKit

theorem infoType : (Tryz.prog.info? 40).map (fun i => (i.zero, i.size, i.bytes)) = some (some (.string ByteArray.empty), 1, 16) := by kernel_rfl
def tyCs (L : List (List UInt8)) : List Value := L.map fun l => .string ⟨l.toArray⟩
/-- While the parameters are gathered. -/
structure SgI (L : List (List UInt8)) (w2 : World) (q : Nat) (v : Value) (wr : World) : Prop where
  own : wr.ownsRow w2.heap.size 40 1 v q (tyCs (L.take q))
  bel : Below w2.heap.size w2 wr
set_option maxHeartbeats 4000000 in
theorem c_Sign (B : Nat) (l : List UInt8) (w : World) (hE : Env B w) (hB : B ≤ w.heap.size) (hm : l.length ≤ 9223372036854775807) (ps : Tys) (r : Ty) (ht : tk l = some (.fn ps r)) :
    Calls Tryz.prog 87 #[.string ⟨l.toArray⟩] w fun e w' => (∃ a c, e = .returned (.tuple #[.string ⟨r.code.toArray⟩, .slice a ps.list.length c, .int .i64 0]) ∧ StrIn w' a (ps.list.map Ty.code)) ∧ Below w.heap.size w w' := by
  have HT := Lib.hid (c_tkS B l w hE hB hm (.fn ps r) ht)
  obtain ⟨hwf, hlc, hlen⟩ := tk_some ht
  have hpl : ps.list.length ≤ 65536 := by
    have h1 := parts_le (.fn ps r)
    have h2 := size_code (.fn ps r)
    have h3 : (ps.list ++ [r]).length ≤ (Ty.fn ps r).size := h1
    rw [← hlc] at h2
    simp at h3
    omega
  have HI := Lib.hid (fun (a : Option Addr) (n c : Nat) (w1 : World) (hn : NdIn (.fn ps r) (.slice a n c) w1) => c_inner (fun j => j < w1.heap.size) (.fn ps r) (.slice a n c) w1 hn ps.list r rfl hpl)
  obtain ⟨s1, hs1⟩ : ∃ s1, (⟨(Ty.fn ps r).code.toArray⟩ : ByteArray) = s1 := ⟨_, rfl⟩
  have HI' : Hid (∀ (a : Option Addr) (n c : Nat) (w1 : World), NdIn (.fn ps r) (.slice a n c) w1 → Calls Tryz.prog 104 #[nV 102 s1 0 ⟨#[]⟩ a n c] w1 fun e w' => ∃ a n c y0 y2 y3, e = .returned (.agg #[.int .u8 y0, .string ⟨r.code.toArray⟩, .int .i64 y2, .string y3, .slice a n c]) ∧ Below w1.heap.size w1 w') := fun a n c w1 hn => by
    have h := HI.out a n c w1 hn
    rw [nd_nV, hs1] at h
    exact h.mono fun e w' h => by
      obtain ⟨⟨a', n', c', h1, _⟩, h2⟩ := h
      exact ⟨a', n', c', _, _, _, h1, h2⟩
  have HT' : Hid (Calls Tryz.prog 102 #[.string ⟨l.toArray⟩] w fun e w' => (∃ a n c, e = .returned (.tuple #[nV 102 s1 0 ⟨#[]⟩ a n c, .bool true]) ∧ Nd (Fm w.heap.size w') w' (.fn ps r) (.slice a n c)) ∧ Below w.heap.size w w') := by
    rw [hs1] at HT
    exact HT
  obtain ⟨i0, hi, hz0, hz1, hz2⟩ := info_parts infoType
  have HPl := Lib.hid hpl
  clear HT HI hE ht hs1 hwf hlc hlen
  go_enter Tryz.func87, Tryz.ntmps87
  go_wp2_with fail
  refine HT'.out.mono ?_
  rintro e w1 ⟨⟨a, n, c, rfl, hn⟩, hb⟩
  have HB := Lib.hid hb
  have hnI : NdIn (.fn ps r) (.slice a n c) w1 := hn.mono (fun j hj => hj.2) (fun _ _ => rfl)
  have HNd := Lib.hid hnI
  obtain ⟨g, cap, L, hv, hcap, hP⟩ := hnI.pars (A := ps.list) (u := r) rfl
  cases hv
  have HP := Lib.hid hP
  have HPa := Lib.hid (c_params ps.list.length 102 s1 0 ⟨#[]⟩ g c hcap hpl)
  have HA := Lib.hid (below_a w1 (.cells #[.int .u8 102, .string s1, .int .i64 0, .string ⟨#[]⟩, .slice (some ⟨g, 0, none⟩) (ps.list.length + 1) c] 173))
  have HN2 := Lib.hid (heap_alloc_new w1 (.cells #[.int .u8 102, .string s1, .int .i64 0, .string ⟨#[]⟩, .slice (some ⟨g, 0, none⟩) (ps.list.length + 1) c] 173))
  clear hb HT' hn hnI hP
  go_wp2_with fail
  refine (HPa.out _).mono ?_
  rintro e w3 ⟨rfl, hb⟩
  have HB3 := Lib.hid hb
  have HN3 := Lib.hid (blk_next HN2.out hb)
  clear hb HPa
  go_wp2_with fail
  have HPw : Hid (∀ wr, Below w3.heap.size w3 wr → PaAt (fun j => j < w1.heap.size) ps.list g L wr) := fun wr hb => HP.out.keep fun j hj => by
    have h1 := HA.out.block j hj
    have h2 := HB3.out.block j (by simp; omega)
    have h3 := hb.block j (by have := HB3.out.size; simp at this; omega)
    exact h3.trans (h2.trans h1)
  have hw3 : w1.heap.size < w3.heap.size := (Array.getElem?_eq_some_iff.1 HN3.out).1
  go_loopg [7, 25] ps.list.length (fun m v7 v25 wr => ∃ (q : Nat) (ao : Option Addr) (co : Nat), q + m = ps.list.length ∧ v25 = .int .i64 (q : Int) ∧ v7 = .slice ao q co ∧ Hid (SgI (ps.list.map Ty.code) w3 q (.slice ao q co) wr))
  case atStart => exact ⟨0, none, 0, by omega, rfl, rfl, ⟨World.ownsRow_nil _ _ _ _, Below.refl _ _⟩⟩
  case round =>
    obtain ⟨q, ao, co, hq, rfl, rfl, HR⟩ := hrel
    by_cases hlt : q < ps.list.length
    · have hd : decide ((q : Int) < (ps.list.length : Int)) = true := by simp; omega
      obtain ⟨u, hu⟩ : ∃ u, ps.list[q]? = some u := ⟨_, List.getElem?_eq_getElem hlt⟩
      obtain ⟨a3, n3', c3, hn, hg, n0, n1, n2, n3, n4⟩ := (HPw.out wr HR.out.bel).at hu
      have hq0 : (0 : Int) ≤ (q : Int) := by omega
      have hwm : IntKind.i64.wrap ((q : Int) + 1) = ((q + 1 : Nat) : Int) := by rw [IntKind.wrap_i64]; omega
      obtain ⟨z0, hz0'⟩ : ∃ z : Int, (u.letter.toNat : Int) = z := ⟨_, rfl⟩
      obtain ⟨z2, hz2'⟩ : ∃ z : Int, (u.count : Int) = z := ⟨_, rfl⟩
      rw [hz0'] at n0
      rw [hz2'] at n2
      have HU := Lib.hid hu
      clear hu hn hz0' hz2'
      have HT1 : Hid (tyCs ((ps.list.map Ty.code).take (q + 1)) = tyCs ((ps.list.map Ty.code).take q) ++ [.string ⟨u.code.toArray⟩]) := by
        have hk : (ps.list.map Ty.code)[q]? = some u.code := by rw [List.getElem?_map, HU.out]; rfl
        have hlk := (List.getElem?_eq_some_iff.1 hk).1
        show _ = _
        rw [List.take_succ_eq_append_getElem hlk, (List.getElem?_eq_some_iff.1 hk).2]
        simp [tyCs]
      have hsz : w3.heap.size ≤ wr.heap.size := HR.out.bel.size
      have HSz := Lib.hid hsz
      go_wp2_with (at_builtin; refine wpList_append_own _ rfl _ _ 161 rfl w3.heap.size 40 i0 (.string ByteArray.empty) 1 16 Tryz.underlying161 hi hz0 hz1 hz2 rfl (by decide) (.slice ao q co) q (tyCs ((ps.list.map Ty.code).take q)) rfl ((HR.out.own.alloc _).alloc _) ⟨wr.heap.size + 1, 0, none⟩ 1 1 [.string ⟨u.code.toArray⟩] rfl rfl ?cc1 ?cc2 ?cc3 ?cc4 ?cc5 ?_)
      case cc1 =>
        intro j x hx
        have h := World.news_of_block (heap_alloc_new (wr.alloc (.cells #[.int .u8 z0, .string ⟨u.code.toArray⟩, .int .i64 z2, .string ⟨u.tag.toArray⟩, .slice a3 n3' c3] 173)) (.cells #[.string ⟨u.code.toArray⟩] 40)) j x hx
        rw [show (wr.alloc (.cells #[.int .u8 z0, .string ⟨u.code.toArray⟩, .int .i64 z2, .string ⟨u.tag.toArray⟩, .slice a3 n3' c3] 173)).heap.size = wr.heap.size + 1 by simp] at h
        exact h
      case cc2 =>
        intro x hx
        rw [List.mem_singleton] at hx
        subst hx
        rfl
      case cc3 => unfold maxLen; omega
      case cc4 => omega
      case cc5 => simp; omega
      intro v1 wd hown hgrow _
      obtain ⟨a9, c9, rfl, hc9⟩ := slc_of hown
      have HN : Hid (SgI (ps.list.map Ty.code) w3 (q + 1) (.slice a9 (q + 1) c9) wd) := by
        refine ⟨?_, ((HR.out.bel.alloc HR.out.bel.size _).alloc (HR.out.bel.alloc HR.out.bel.size _).size _).grown hgrow (by simp; omega) (fun k hk => (HR.out.own.lt k hk).1)⟩
        rw [HT1.out]
        exact hown
      clear hown hgrow n0 n1 n2 n3 n4
      go_wp2_with fail
      go_roundg (ps.list.length - (q + 1))
      case measure => omega
      case rel => exact ⟨q + 1, a9, c9, by omega, rfl, rfl, HN⟩
    · have hd : decide ((q : Int) < (ps.list.length : Int)) = false := by simp; omega
      obtain rfl : q = ps.list.length := by omega
      have HNr : Hid (wr.heap[w1.heap.size]? = _) := (HR.out.bel.block _ hw3).trans HN3.out
      have hnr : NdIn (.fn ps r) (.slice (some ⟨g, 0, none⟩) (ps.list.length + 1) c) wr := Nd.mono HNd.out (fun j hj => by have := HR.out.bel.size; omega) (fun j hj => by
        have h1 := HA.out.block j hj
        have h2 := HB3.out.block j (by simp; omega)
        have h3 := HR.out.bel.block j (by omega)
        exact h3.trans (h2.trans h1))
      have HIr := Lib.hid (HI'.out _ _ _ wr hnr)
      obtain ⟨n0, n1, n2, n3, n4, nf⟩ := five_cells HNr.out
      have hfd : ∀ (y0 y2 : Int) (y3 : ByteArray) (a' : Option Addr) (n' c' : Nat) (W : World), (Instr.field 173 (.agg #[.int .u8 y0, .string ⟨r.code.toArray⟩, .int .i64 y2, .string y3, .slice a' n' c']) 1).run Tryz.prog W = .ok (.string ⟨r.code.toArray⟩) W := fun _ _ _ _ _ _ _ => by kernel_rfl
      clear nf hnr
      go_wp2_with fail
      refine HIr.out.mono ?_
      rintro e w5 ⟨a', n', c', y0, y2, y3, rfl, hb⟩
      have HB5 := Lib.hid hb
      clear hb n0 n1 n2 n3 n4
      go_wp2_with fail
      go_ret3
      have hbw : Below w.heap.size w wr := ((HB.out.trans (HA.out.mono HB.out.size)).trans (HB3.out.mono (below_on HB.out HA.out HB.out.size).size)).trans (HR.out.bel.mono (by have := HB.out.size; omega))
      refine ⟨⟨ao, co, rfl, ?_⟩, below_on hbw HB5.out hbw.size⟩
      intro h0
      rw [List.length_map] at h0
      rcases HR.out.own.2 with ⟨_, hz⟩ | ⟨g9, cap9, cur9, hv9, hr9⟩
      · omega
      · cases hv9
        refine ⟨g9, 0, rfl, fun k s hs => ?_⟩
        have hx := HR.out.own.cells (g := g9) rfl k (.string ⟨s.toArray⟩) (by
          unfold tyCs
          rw [List.take_of_length_le (by simp), List.getElem?_map, hs]
          rfl)
        have ea : (⟨g9, 0, none⟩ : Addr).add k = ⟨g9, 0 + k, none⟩ := by unfold Addr.add; split <;> simp_all
        rw [ea] at hx
        exact (cell_of_blk (HB5.out.block g9 (World.block_lt_of_cell? wr ⟨g9, 0 + k, none⟩ hx)) _).trans hx
end Go.Proofs.YtjadckhngalmlaaGreatDoor
namespace Go.Proofs.YtjadckhngalmlaaGreatDoor
set_option linter.unusedVariables false
set_option linter.unusedSimpArgs false
set_option maxRecDepth 100000
open Go.RowKit

end Go.Proofs.YtjadckhngalmlaaGreatDoor
namespace Go.Proofs.YtjadckhngalmlaaGreatDoor
set_option linter.unusedVariables false
set_option linter.unusedSimpArgs false
set_option maxRecDepth 100000
open Go.RowKit

/-- A row of nodes that the call owns, as it lies while the writer writes. -/
structure RoAt (b : Nat) (L : List (Ty × Value)) (g : Nat) (w : World) : Prop where
  blk : L ≠ [] → ∃ cur, w.heap[g]? = some (.cells cur 173 (0, 0)) ∧ g ≠ b
  cells : ∀ j u, (ndCs L)[j]? = some u → w.cell? ⟨g, j, none⟩ = some u
theorem RoAt.keep {B b g : Nat} {L : List (Ty × Value)} {w w' : World} (h : RoAt b L g w) (hf : FrB B b w w') : RoAt b L g w' := by
  by_cases hL : L = []
  · subst hL
    exact ⟨fun e => absurd rfl e, fun j u hu => by simp [ndCs] at hu⟩
  · obtain ⟨cur, h1, h2⟩ := h.blk hL
    have h3 := hf.keep h1 h2 (by decide)
    exact ⟨fun _ => ⟨cur, h3, h2⟩, fun j u hu => (cell_of_blk (h3.trans h1.symm) j).trans (h.cells j u hu)⟩
theorem RoAt.at {b g k : Nat} {L : List (Ty × Value)} {w : World} (h : RoAt b L g w) {S : Nat → Prop} {w0 : World} (hK : ∀ p ∈ L, Nd S w0 p.1 p.2) {u : Ty} (hk : (L.map Prod.fst)[k]? = some u) :
    ∃ a n c, Nd S w0 u (.slice a n c) ∧ g < w.heap.size ∧ w.cell? ⟨g, k * 5, none⟩ = some (.int .u8 u.letter.toNat) ∧ w.cell? ⟨g, k * 5 + 1, none⟩ = some (.string ⟨u.code.toArray⟩) ∧ w.cell? ⟨g, k * 5 + 2, none⟩ = some (.int .i64 u.count) ∧ w.cell? ⟨g, k * 5 + 3, none⟩ = some (.string ⟨u.tag.toArray⟩) ∧ w.cell? ⟨g, k * 5 + 4, none⟩ = some (.slice a n c) := by
  rw [List.getElem?_map] at hk
  obtain ⟨⟨u', v⟩, hp, hu⟩ := Option.map_eq_some_iff.1 hk
  have hu' : u' = u := hu
  subst hu'
  have hn := hK _ (List.mem_of_getElem? hp)
  obtain ⟨a, c, hv, _⟩ := hn.sl
  have hv' : v = .slice a u'.parts.length c := hv
  have hn' : Nd S w0 u' v := hn
  rw [hv'] at hn' hp
  have hx : ∀ i x, (ndC u' (.slice a u'.parts.length c))[i]? = some x → i < 5 → w.cell? ⟨g, k * 5 + i, none⟩ = some x := fun i x hx hi => h.cells _ _ ((ndCs_at L k u' _ hp i hi).trans hx)
  exact ⟨a, _, c, hn', World.block_lt_of_cell? w ⟨g, k * 5 + 0, none⟩ (hx 0 _ rfl (by decide)), hx 0 _ rfl (by decide), hx 1 _ rfl (by decide), hx 2 _ rfl (by decide), hx 3 _ rfl (by decide), hx 4 _ rfl (by decide)⟩
end Go.Proofs.YtjadckhngalmlaaGreatDoor
namespace Go.Proofs.YtjadckhngalmlaaGreatDoor
set_option linter.unusedVariables false
set_option linter.unusedSimpArgs false
set_option maxRecDepth 100000
open Go.RowKit

end Go.Proofs.YtjadckhngalmlaaGreatDoor
namespace Go.Proofs.YtjadckhngalmlaaGreatDoor
set_option linter.unusedVariables false
set_option linter.unusedSimpArgs false
set_option maxRecDepth 100000
open Go.RowKit

end Go.Proofs.YtjadckhngalmlaaGreatDoor
namespace Go.Proofs.YtjadckhngalmlaaGreatDoor
set_option linter.unusedVariables false
set_option linter.unusedSimpArgs false
set_option maxRecDepth 100000
open Go.RowKit

end Go.Proofs.YtjadckhngalmlaaGreatDoor
namespace Go.Proofs.YtjadckhngalmlaaGreatDoor
set_option linter.unusedVariables false
set_option linter.unusedSimpArgs false
set_option maxRecDepth 100000
open Go.RowKit

end Go.Proofs.YtjadckhngalmlaaGreatDoor
namespace Go.Proofs.YtjadckhngalmlaaGreatDoor
set_option linter.unusedVariables false
set_option linter.unusedSimpArgs false
set_option maxRecDepth 100000
open Go.RowKit

/-- What a function answers, and its parameters: the answer. -/
def sgT (t : Ty) : List UInt8 × List (List UInt8) × Int := match t with
  | .fn ps r => (r.code, ps.list.map Ty.code, 0)
  | _ => ([], [], 5)
def sgA (l : List UInt8) : List UInt8 × List (List UInt8) × Int := match tk l with
  | none => ([], [], 2)
  | some t => sgT t
abbrev SgR (x : List UInt8 × List (List UInt8) × Int) (w : World) (e : Ending) (w' : World) : Prop := (∃ a c, e = .returned (.tuple #[.string ⟨x.1.toArray⟩, .slice a x.2.1.length c, .int .i64 x.2.2]) ∧ StrIn w' a x.2.1) ∧ Below w.heap.size w w'
theorem StrIn.nil (w : World) : StrIn w none [] := fun h => by simp at h
end Go.Proofs.YtjadckhngalmlaaGreatDoor
namespace Go.Proofs.YtjadckhngalmlaaGreatDoor
set_option linter.unusedVariables false
set_option linter.unusedSimpArgs false
set_option maxRecDepth 100000
open Go.RowKit

set_option maxHeartbeats 4000000 in
theorem sg_no (B : Nat) (l : List UInt8) (t : Ty) (ho : tk l = some t) (xI : Int) (hxI : (t.letter.toNat : Int) = xI) (h1 : (xI == 102) = false) (w : World) (hE : Env B w) (hB : B ≤ w.heap.size) (hm : l.length ≤ 9223372036854775807) :
    Calls Tryz.prog 87 #[.string ⟨l.toArray⟩] w fun e w' => SgR ([], [], 5) w e w' := by
  have HT := Lib.hid (c_tkS B l w hE hB hm t ho)
  obtain ⟨x2, hx2⟩ : ∃ x2 : Int, (t.count : Int) = x2 := ⟨_, rfl⟩
  obtain ⟨s1, hs1⟩ : ∃ s1, (⟨t.code.toArray⟩ : ByteArray) = s1 := ⟨_, rfl⟩
  obtain ⟨s3, hs3⟩ : ∃ s3, (⟨t.tag.toArray⟩ : ByteArray) = s3 := ⟨_, rfl⟩
  rw [hxI, hx2, hs1, hs3] at HT
  have h3 : (xI != 102) = true := by simp [bne, h1]
  clear hxI hx2 hs1 hs3 hE ho
  go_enter Tryz.func87, Tryz.ntmps87
  go_wp2_with fail
  refine HT.out.mono ?_
  rintro e w1 ⟨⟨a, n, c, rfl, hn⟩, hb⟩
  have HB := Lib.hid hb
  clear hb HT hn
  go_wp2_with fail
  go_ret3
  exact ⟨⟨none, 0, rfl, StrIn.nil _⟩, HB.out.alloc HB.out.size _⟩
set_option maxHeartbeats 4000000 in
theorem c_SignA (B : Nat) (l : List UInt8) (w : World) (hE : Env B w) (hB : B ≤ w.heap.size) (hm : l.length ≤ 9223372036854775807) :
    Calls Tryz.prog 87 #[.string ⟨l.toArray⟩] w fun e w' => SgR (sgA l) w e w' := by
  rcases ho : tk l with _ | t
  · have HT := Lib.hid (c_tkN B l w hE hB hm ho)
    have hd : sgA l = ([], [], 2) := by unfold sgA; rw [ho]
    rw [hd]
    clear hE ho hd
    go_enter Tryz.func87, Tryz.ntmps87
    go_wp2_with fail
    refine HT.out.mono ?_
    rintro e w1 ⟨rfl, hb⟩
    have HB := Lib.hid hb
    clear hb HT
    go_wp2_with fail
    go_ret3
    exact ⟨⟨none, 0, rfl, StrIn.nil _⟩, HB.out.alloc HB.out.size _⟩
  · have hd : sgA l = sgT t := by unfold sgA; rw [ho]
    rw [hd]
    obtain ⟨hwf, hlc, hln⟩ := tk_some ho
    match t, ho, hwf with
    | .fn ps r, ho, _ => exact (c_Sign B l w hE hB hm ps r ho).mono fun e w' h => ⟨by
        obtain ⟨⟨a, c, h1, h2⟩, _⟩ := h
        exact ⟨a, c, by rw [h1]; simp [sgT], h2⟩, h.2⟩
    | .arr n u, ho, _ => exact sg_no B l _ ho 97 rfl rfl w hE hB hm
    | .ptr u, ho, _ => exact sg_no B l _ ho 112 rfl rfl w hE hB hm
    | .str s, ho, _ => exact sg_no B l _ ho 83 rfl rfl w hE hB hm
    | .base c, ho, hwf =>
      have hc : baseC c = true := hwf
      unfold baseC at hc
      simp at hc
      rcases hc with ((((hc | hc) | hc) | hc) | hc) | hc
      · subst hc; exact sg_no B l _ ho 118 rfl rfl w hE hB hm
      · subst hc; exact sg_no B l _ ho 99 rfl rfl w hE hB hm
      · subst hc; exact sg_no B l _ ho 115 rfl rfl w hE hB hm
      · subst hc; exact sg_no B l _ ho 105 rfl rfl w hE hB hm
      · subst hc; exact sg_no B l _ ho 117 rfl rfl w hE hB hm
      · subst hc; exact sg_no B l _ ho 106 rfl rfl w hE hB hm
end Go.Proofs.YtjadckhngalmlaaGreatDoor
