/-
  The contracts of what is lacking, of what a type takes, structs being laid out, in the code.
-/
import Derived.Test.YtacbjhbiaaieoaaGreatDoorTyTw
import Derived.Test.YtacbjhbiaaieoaaGreatDoorTyWl
import Derived.Test.YtacbjhbiaaieoaaGreatDoorTyMt
import Derived.Deep.RegionHeld3
namespace Go.Proofs.YtacbjhbiaaieoaaGreatDoor
set_option linter.unusedVariables false
set_option linter.unusedSimpArgs false

mutual
def Ty.dep : Ty → Nat
  | .base _ => 1
  | .str _ => 1
  | .ptr t => t.dep + 1
  | .arr _ t => t.dep + 1
  | .fn ps r => max ps.dep r.dep + 1
def Tys.dep : Tys → Nat
  | .nil => 0
  | .cons t ts => max t.dep ts.dep
end
def depL : List Ty → Nat
  | [] => 0
  | t :: l => max t.dep (depL l)
theorem depL_snoc : ∀ (l : List Ty) (u : Ty), depL (l ++ [u]) = max (depL l) u.dep
  | [], u => by show max u.dep 0 = max 0 u.dep; omega
  | t :: l, u => by
    show max t.dep (depL (l ++ [u])) = max (max t.dep (depL l)) u.dep
    rw [depL_snoc l u]
    omega
theorem depL_list : ∀ (ts : Tys), depL ts.list = ts.dep
  | .nil => rfl
  | .cons t ts => by
    show max t.dep (depL ts.list) = max t.dep ts.dep
    rw [depL_list ts]
theorem dep_parts (t : Ty) : t.dep = depL t.parts + 1 := by
  cases t with
  | base c => rfl
  | str s => rfl
  | ptr u => show u.dep + 1 = max u.dep 0 + 1; omega
  | arr n u => show u.dep + 1 = max u.dep 0 + 1; omega
  | fn ps r =>
    show max ps.dep r.dep + 1 = depL (ps.list ++ [r]) + 1
    rw [depL_snoc, depL_list]
theorem depL_take {l : List Ty} {q : Nat} {u : Ty} (h : l[q]? = some u) : depL (l.take (q + 1)) = max (depL (l.take q)) u.dep := by
  have hk := (List.getElem?_eq_some_iff.1 h).1
  rw [List.take_succ_eq_append_getElem hk, (List.getElem?_eq_some_iff.1 h).2, depL_snoc]
mutual
theorem dep_size : ∀ (t : Ty), t.dep ≤ t.size
  | .base _ => Nat.le_refl _
  | .str _ => Nat.le_refl _
  | .ptr t => by have := dep_size t; show t.dep + 1 ≤ t.size + 1; omega
  | .arr _ t => by have := dep_size t; show t.dep + 1 ≤ t.size + 1; omega
  | .fn ps r => by
    have h1 := deps_size ps
    have h2 := dep_size r
    show max ps.dep r.dep + 1 ≤ ps.size + r.size + 2
    omega
theorem deps_size : ∀ (ts : Tys), ts.dep ≤ ts.size
  | .nil => Nat.le_refl _
  | .cons t ts => by
    have h1 := dep_size t
    have h2 := deps_size ts
    show max t.dep ts.dep ≤ t.size + ts.size + 1
    omega
end
mutual
/-- Is a type, or one in it, such a one? -/
def anyT (f : Ty → Bool) : Ty → Bool
  | .base c => f (.base c)
  | .str s => f (.str s)
  | .ptr t => f (.ptr t) || anyT f t
  | .arr n t => f (.arr n t) || anyT f t
  | .fn ps r => f (.fn ps r) || (anyL f ps || anyT f r)
def anyL (f : Ty → Bool) : Tys → Bool
  | .nil => false
  | .cons t ts => anyT f t || anyL f ts
end
theorem anyL_list (f : Ty → Bool) : ∀ (ts : Tys), anyL f ts = ts.list.any (anyT f)
  | .nil => rfl
  | .cons t ts => by
    show (anyT f t || anyL f ts) = (anyT f t || ts.list.any (anyT f))
    rw [anyL_list f ts]
theorem anyT_eq (f : Ty → Bool) (t : Ty) : anyT f t = (f t || t.parts.any (anyT f)) := by
  cases t with
  | base c => show f _ = (f _ || false); simp
  | str s => show f _ = (f _ || false); simp
  | ptr u => show (f _ || anyT f u) = (f _ || (anyT f u || false)); simp
  | arr n u => show (f _ || anyT f u) = (f _ || (anyT f u || false)); simp
  | fn ps r =>
    show (f _ || (anyL f ps || anyT f r)) = (f _ || (ps.list ++ [r]).any (anyT f))
    rw [anyL_list, List.any_append]
    simp
theorem any_take {l : List Ty} {f : Ty → Bool} {q : Nat} {u : Ty} (h : l[q]? = some u) : (l.take (q + 1)).any f = ((l.take q).any f || f u) := by
  have hk := (List.getElem?_eq_some_iff.1 h).1
  rw [List.take_succ_eq_append_getElem hk, (List.getElem?_eq_some_iff.1 h).2, List.any_append]
  simp
/-- An array, a function that may not be. -/
def badT : Ty → Bool
  | .arr n u => !(decide (1 ≤ n) && decide (n ≤ 65536) && objI u.letter.toNat)
  | .fn ps r => !(ps.list.all (fun u => scaI u.letter.toNat) && decide (ps.list.length ≤ 8) && (scaI r.letter.toNat || (r.letter.toNat : Int) == 118))
  | _ => false
structure MemP where
  ty : Ty
  name : List UInt8
  at' : Nat
structure LayP where
  bytes : Nat
  align : Nat
  scal : Nat
  name : List UInt8
  mems : List MemP
def findL (L : List LayP) (s : List UInt8) : Option LayP := L.find? fun x => x.name == s
def lackT (L : List LayP) : Ty → Bool
  | .str s => (findL L s).isNone
  | .arr _ u => lackT L u
  | _ => false
/-- What an object takes: bytes, alignment, scalars; and whether it is one. -/
def extT (L : List LayP) : Ty → Nat × Nat × Nat × Bool
  | .base c => if c = 99 then (1, 1, 1, true) else if c = 115 then (2, 2, 1, true) else if c = 105 ∨ c = 117 then (4, 4, 1, true) else if c = 106 then (64, 4, 0, true) else (0, 0, 0, false)
  | .ptr _ => (4, 4, 1, true)
  | .str s => match findL L s with
    | some x => (x.bytes, x.align, x.scal, true)
    | none => (0, 0, 0, false)
  | .arr n u => (min ((extT L u).1 * n) 65537, (extT L u).2.1, min ((extT L u).2.2.1 * n) 65537, (extT L u).2.2.2)
  | .fn _ _ => (0, 0, 0, false)
/-- Structs that are laid out are not too great. -/
def GdL (L : List LayP) : Prop := ∀ x ∈ L, 1 ≤ x.align ∧ x.align ≤ 4 ∧ x.bytes ≤ 65536 ∧ x.scal ≤ x.bytes
theorem find_mem {L : List LayP} {s : List UInt8} {x : LayP} (h : findL L s = some x) : x ∈ L ∧ x.name = s := by
  unfold findL at h
  refine ⟨List.mem_of_find?_eq_some h, ?_⟩
  have := List.find?_some h
  simpa using this
theorem ext_bd {L : List LayP} (hL : GdL L) : ∀ (t : Ty), (extT L t).1 ≤ 65537 ∧ (extT L t).2.1 ≤ 4 ∧ (extT L t).2.2.1 ≤ (extT L t).1
  | .base c => by
    unfold extT
    (repeat' split) <;> simp
  | .ptr _ => by simp [extT]
  | .str s => by
    unfold extT
    split
    · rename_i x h
      have := hL x (find_mem h).1
      exact ⟨by show x.bytes ≤ _; omega, this.2.1, this.2.2.2⟩
    · simp
  | .arr n u => by
    have := ext_bd hL u
    have h2 := Nat.mul_le_mul_right n this.2.2
    show min _ 65537 ≤ 65537 ∧ (extT L u).2.1 ≤ 4 ∧ min _ 65537 ≤ min _ 65537
    omega
  | .fn _ _ => by simp [extT]
theorem ext_al {L : List LayP} (hL : GdL L) : ∀ (t : Ty), (extT L t).2.2.2 = true → 1 ≤ (extT L t).2.1
  | .base c => by
    unfold extT
    (repeat' split) <;> simp
  | .ptr _ => by simp [extT]
  | .str s => by
    unfold extT
    split
    · rename_i x h
      exact fun _ => (hL x (find_mem h).1).1
    · simp
  | .arr n u => fun h => ext_al hL u h
  | .fn _ _ => by simp [extT]
def grE (L : List LayP) (t : Ty) : Bool := (extT L t).2.2.2 && decide (65536 < (extT L t).1)
/-- What is wrong with a type, structs being given. -/
def rgT (L : List LayP) (t : Ty) : Nat := if 48 < t.dep then 3 else if anyT badT t = true then 5 else if lackT L t = true then 4 else if anyT (grE L) t = true then 3 else 0
def rgA (L : List LayP) (l : List UInt8) : Nat := match tk l with
  | none => 2
  | some t => rgT L t
def ojT (L : List LayP) (t : Ty) : Nat := if rgT L t = 0 then if objI t.letter.toNat = true then 0 else 5 else rgT L t
def ojA (L : List LayP) (l : List UInt8) : Nat := match tk l with
  | none => 2
  | some t => ojT L t
structure StP where
  name : List UInt8
  mems : List (List UInt8 × List UInt8)
structure AcP where
  mems : List MemP
  b : Nat
  a : Nat
  s : Nat
def upN (n a : Nat) : Nat := (n + a - 1) / a * a
def tkD (l : List UInt8) : Ty := (tk l).getD (.base 118)
def addM (L : List LayP) (x : AcP) (m : List UInt8 × List UInt8) : AcP :=
  ⟨x.mems ++ [⟨tkD m.2, m.1, upN x.b (extT L (tkD m.2)).2.1⟩], upN x.b (extT L (tkD m.2)).2.1 + (extT L (tkD m.2)).1, max x.a (extT L (tkD m.2)).2.1, x.s + (extT L (tkD m.2)).2.2.1⟩
def hasM (M : List MemP) (n : List UInt8) : Bool := M.any fun y => y.name == n
def memE (L : List LayP) (M : List MemP) (m : List UInt8 × List UInt8) : Nat := if nameB m.1 = true then if hasM M m.1 = true then 6 else ojA L m.2 else 2
def goM (L : List LayP) : AcP → List (List UInt8 × List UInt8) → Nat × AcP
  | x, [] => (0, x)
  | x, m :: ms => if memE L x.mems m = 0 then goM L (addM L x m) ms else (memE L x.mems m, x)
def ac0 : AcP := ⟨[], 0, 0, 0⟩
def layM (s : StP) (r : AcP) : LayP := ⟨upN r.b r.a, r.a, r.s, s.name, r.mems⟩
def nxE (L : List LayP) (s : StP) : Nat :=
  if nameB s.name = true then if (findL L s.name).isSome = true then 6 else if 64 < s.mems.length then 3 else if s.mems = [] then 5 else
    if (goM L ac0 s.mems).1 = 0 then if 65536 < upN (goM L ac0 s.mems).2.b (goM L ac0 s.mems).2.a then 3 else 0 else (goM L ac0 s.mems).1
  else 2
def nxL (L : List LayP) (s : StP) : LayP := layM s (goM L ac0 s.mems).2
def goS : List LayP → List StP → Nat × Nat × List LayP
  | L, [] => (0, 0, L)
  | L, s :: ss => if nxE L s = 0 then goS (L ++ [nxL L s]) ss else (L.length, nxE L s, [])
def loA (l : List StP) : Nat × Nat × List LayP := if 64 < l.length then (0, 3, []) else goS [] l
def chA (l : List StP) (t : List UInt8) : Nat := if (loA l).2.1 = 0 then rgA (loA l).2.2 t else (loA l).2.1
/-! ### Bounds -/
theorem up_bd (n a : Nat) (h : 1 ≤ a) (h4 : a ≤ 4) : n ≤ upN n a ∧ upN n a ≤ n + 3 := by
  unfold upN
  have : a = 1 ∨ a = 2 ∨ a = 3 ∨ a = 4 := by omega
  rcases this with rfl | rfl | rfl | rfl <;> omega
theorem oj_obj {L : List LayP} {t : Ty} (h : ojT L t = 0) : rgT L t = 0 ∧ objI t.letter.toNat = true := by
  unfold ojT at h
  split at h
  · rename_i h1
    split at h
    · rename_i h2
      exact ⟨h1, h2⟩
    · cases h
  · exact absurd h (by assumption)
theorem rg_ok {L : List LayP} {t : Ty} (h : rgT L t = 0) : t.dep ≤ 48 ∧ anyT badT t = false ∧ lackT L t = false ∧ anyT (grE L) t = false := by
  unfold rgT at h
  split at h
  · cases h
  · split at h
    · cases h
    · split at h
      · cases h
      · split at h
        · cases h
        · rename_i h1 h2 h3 h4
          exact ⟨by omega, by simpa using h2, by simpa using h3, by simpa using h4⟩
/-- An object of which nothing is lacking takes room. -/
theorem ext_obj {L : List LayP} : ∀ (t : Ty), t.wf → objI t.letter.toNat = true → anyT badT t = false → lackT L t = false → (extT L t).2.2.2 = true
  | .base c, hw, ho, hb, hl => by
    have hc : baseC c = true := hw
    unfold baseC at hc
    simp at hc
    rcases hc with ((((hc | hc) | hc) | hc) | hc) | hc <;> subst hc
    · exact absurd ho (by show ¬ objI (118 : Int) = true; decide)
    all_goals rfl
  | .ptr _, _, _, _, _ => rfl
  | .str s, _, _, _, hl => by
    have h1 : (findL L s).isNone = false := hl
    unfold extT
    cases h2 : findL L s with
    | none => rw [h2] at h1; cases h1
    | some x => rfl
  | .arr n u, hw, ho, hb, hl => by
    rw [anyT_eq] at hb
    have hb1 : badT (.arr n u) = false := by cases h : badT (.arr n u); rfl; rw [h] at hb; cases hb
    have hb2 : anyT badT u = false := by
      rw [hb1] at hb
      have : (false || ([u] : List Ty).any (anyT badT)) = false := hb
      simpa using this
    have ho2 : objI u.letter.toNat = true := by
      have : (!(decide (1 ≤ n) && decide (n ≤ 65536) && objI u.letter.toNat)) = false := hb1
      simp only [Bool.not_eq_false', Bool.and_eq_true] at this
      exact this.2
    exact ext_obj u hw.2 ho2 hb2 hl
  | .fn _ _, _, ho, _, _ => absurd ho (by show ¬ objI (102 : Int) = true; decide)
theorem ext_small {L : List LayP} {t : Ty} (h : anyT (grE L) t = false) (h2 : (extT L t).2.2.2 = true) : (extT L t).1 ≤ 65536 := by
  rw [anyT_eq] at h
  have h1 : grE L t = false := by cases hg : grE L t; rfl; rw [hg] at h; cases h
  unfold grE at h1
  rw [h2] at h1
  simpa using h1
/-- While members are laid out. -/
structure AcB (x : AcP) : Prop where
  b : x.b ≤ x.mems.length * 65539
  a : x.a ≤ 4
  a1 : 0 < x.mems.length → 1 ≤ x.a
  s : x.s ≤ x.b
theorem acb0 : AcB ac0 := ⟨Nat.zero_le _, Nat.zero_le _, fun h => by simp [ac0] at h, Nat.zero_le _⟩
/-- A member that is right. -/
theorem mem_ok {L : List LayP} (hL : GdL L) {M : List MemP} {m : List UInt8 × List UInt8} (h : memE L M m = 0) : ∃ t, tk m.2 = some t ∧ t.wf ∧ nameB m.1 = true ∧ hasM M m.1 = false ∧ ojT L t = 0 ∧ 1 ≤ (extT L t).2.1 ∧ (extT L t).1 ≤ 65536 ∧ tkD m.2 = t := by
  unfold memE at h
  split at h
  · rename_i h1
    split at h
    · cases h
    · rename_i h2
      unfold ojA at h
      cases ht : tk m.2 with
      | none => rw [ht] at h; cases h
      | some t =>
        rw [ht] at h
        obtain ⟨r1, r2⟩ := oj_obj h
        obtain ⟨g1, g2, g3, g4⟩ := rg_ok r1
        have hw := (tk_some ht).1
        have hx := ext_obj t hw r2 g2 g3
        exact ⟨t, rfl, hw, h1, by simpa using h2, h, ext_al hL t hx, ext_small g4 hx, by unfold tkD; rw [ht]; rfl⟩
  · cases h
theorem AcB.add {L : List LayP} (hL : GdL L) {x : AcP} (hx : AcB x) {m : List UInt8 × List UInt8} (h : memE L x.mems m = 0) : AcB (addM L x m) := by
  obtain ⟨t, _, _, _, _, _, h1, h2, h3⟩ := mem_ok hL h
  have hb := ext_bd hL t
  have hu := up_bd x.b (extT L t).2.1 h1 hb.2.1
  obtain ⟨b, a, a1, s⟩ := hx
  unfold addM
  rw [h3]
  refine ⟨?_, ?_, ?_, ?_⟩
  · show _ + _ ≤ (x.mems ++ [_]).length * 65539
    rw [List.length_append, List.length_singleton, Nat.add_mul]
    omega
  · show max _ _ ≤ 4
    omega
  · intro _
    show 1 ≤ max _ _
    omega
  · show _ + _ ≤ _ + _
    omega
theorem goM_len {L : List LayP} : ∀ (ms : List (List UInt8 × List UInt8)) (x : AcP), (goM L x ms).2.mems.length ≤ x.mems.length + ms.length
  | [], x => Nat.le_refl _
  | m :: ms, x => by
    unfold goM
    split
    · have := goM_len (L := L) ms (addM L x m)
      have h2 : (addM L x m).mems.length = x.mems.length + 1 := by unfold addM; simp
      rw [List.length_cons]
      omega
    · show x.mems.length ≤ _
      omega
theorem goM_b {L : List LayP} (hL : GdL L) : ∀ (ms : List (List UInt8 × List UInt8)) (x : AcP), AcB x → AcB (goM L x ms).2
  | [], x, h => h
  | m :: ms, x, h => by
    unfold goM
    split
    · rename_i h1
      exact goM_b hL ms _ (h.add hL h1)
    · exact h
theorem goM_all {L : List LayP} : ∀ (ms : List (List UInt8 × List UInt8)) (x : AcP), (goM L x ms).1 = 0 → (goM L x ms).2.mems.length = x.mems.length + ms.length
  | [], x, _ => rfl
  | m :: ms, x, h => by
    unfold goM at h ⊢
    split at h
    · rename_i h1
      rw [if_pos h1]
      have := goM_all ms _ h
      rw [this]
      unfold addM
      simp
      omega
    · rename_i h1
      exact absurd h h1
theorem nx_ok {L : List LayP} {s : StP} (h : nxE L s = 0) : nameB s.name = true ∧ findL L s.name = none ∧ s.mems.length ≤ 64 ∧ s.mems ≠ [] ∧ (goM L ac0 s.mems).1 = 0 ∧ upN (goM L ac0 s.mems).2.b (goM L ac0 s.mems).2.a ≤ 65536 := by
  unfold nxE at h
  split at h
  · rename_i h1
    split at h
    · cases h
    · rename_i h2
      split at h
      · cases h
      · split at h
        · cases h
        · rename_i h4
          split at h
          · rename_i h5
            split at h
            · cases h
            · exact ⟨h1, by simpa using h2, by omega, h4, h5, by omega⟩
          · exact absurd h (by assumption)
  · cases h
theorem GdL.add {L : List LayP} (hL : GdL L) {s : StP} (h : nxE L s = 0) : GdL (L ++ [nxL L s]) := fun x hx => by
  rcases List.mem_append.1 hx with hx | hx
  · exact hL x hx
  · rw [List.mem_singleton] at hx
    subst hx
    obtain ⟨_, _, h3, h4, h5, h6⟩ := nx_ok h
    have hb := goM_b hL s.mems ac0 acb0
    have hl := goM_all s.mems ac0 h5
    have h0 : ac0.mems.length = 0 := rfl
    have hp : 0 < s.mems.length := List.length_pos_iff.2 h4
    refine ⟨hb.a1 (by omega), hb.a, h6, ?_⟩
    have h7 : (goM L ac0 s.mems).2.b ≤ 65536 := Nat.le_trans (up_bd _ _ (hb.a1 (by omega)) hb.a).1 h6
    have := hb.s
    show (goM L ac0 s.mems).2.s ≤ upN _ _
    exact Nat.le_trans hb.s (up_bd _ _ (hb.a1 (by omega)) hb.a).1
end Go.Proofs.YtacbjhbiaaieoaaGreatDoor
namespace Go.Proofs.YtacbjhbiaaieoaaGreatDoor
set_option linter.unusedVariables false
set_option linter.unusedSimpArgs false
set_option maxRecDepth 100000
open Go.RowKit

/-- A row of members, as they lie. -/
def mbC (x : MemP) (v : Value) : List Value := [.int .u8 x.ty.letter.toNat, .string ⟨x.ty.code.toArray⟩, .int .i64 x.ty.count, .string ⟨x.ty.tag.toArray⟩, v, .string ⟨x.name.toArray⟩, .int .i64 x.at']
def MbS (S : Nat → Prop) (M : List MemP) (a : Option Addr) (w : World) : Prop := 0 < M.length → ∃ g, a = some ⟨g, 0, none⟩ ∧ S g ∧ ∀ (k : Nat) (x : MemP), M[k]? = some x → ∃ pa pn pc, Nd S w x.ty (.slice pa pn pc) ∧ ∀ i u, (mbC x (.slice pa pn pc))[i]? = some u → w.cell? ⟨g, k * 7 + i, none⟩ = some u
theorem MbS.mono {S S' : Nat → Prop} {M : List MemP} {a : Option Addr} {w w' : World} (h : MbS S M a w) (hS : ∀ j, S j → S' j) (hw : ∀ j, S j → w'.heap[j]? = w.heap[j]?) : MbS S' M a w' := fun h0 => by
  obtain ⟨g, h1, h2, h3⟩ := h h0
  refine ⟨g, h1, hS g h2, fun k x hx => ?_⟩
  obtain ⟨pa, pn, pc, hn, hc⟩ := h3 k x hx
  exact ⟨pa, pn, pc, hn.mono hS hw, fun i u hu => (cell_of_blk (hw g h2) _).trans (hc i u hu)⟩
def MbIn (M : List MemP) (a : Option Addr) (w : World) : Prop := MbS (fun j => j < w.heap.size) M a w
theorem MbIn.next {M : List MemP} {a : Option Addr} {w w' : World} (h : MbIn M a w) (hb : Below w.heap.size w w') : MbIn M a w' := MbS.mono h (fun j hj => Nat.lt_of_lt_of_le hj hb.size) (fun j hj => hb.block j hj)
/-- Structs laid out, as they lie. -/
def KnIn (L : List LayP) (a : Option Addr) (w : World) : Prop := 0 < L.length → ∃ g, a = some ⟨g, 0, none⟩ ∧ g < w.heap.size ∧ ∀ (k : Nat) (x : LayP), L[k]? = some x → ∃ ma mc, MbIn x.mems ma w ∧ x.mems.length ≤ mc ∧
  w.cell? ⟨g, k * 5, none⟩ = some (.int .i64 x.bytes) ∧ w.cell? ⟨g, k * 5 + 1, none⟩ = some (.int .i64 x.align) ∧ w.cell? ⟨g, k * 5 + 2, none⟩ = some (.int .i64 x.scal) ∧ w.cell? ⟨g, k * 5 + 3, none⟩ = some (.string ⟨x.name.toArray⟩) ∧ w.cell? ⟨g, k * 5 + 4, none⟩ = some (.slice ma x.mems.length mc)
theorem KnIn.next {L : List LayP} {a : Option Addr} {w w' : World} (h : KnIn L a w) (hb : Below w.heap.size w w') : KnIn L a w' := fun h0 => by
  obtain ⟨g, h1, h2, h3⟩ := h h0
  refine ⟨g, h1, Nat.lt_of_lt_of_le h2 hb.size, fun k x hx => ?_⟩
  obtain ⟨ma, mc, hm, hl, c0, c1, c2, c3, c4⟩ := h3 k x hx
  have e := hb.block g h2
  exact ⟨ma, mc, hm.next hb, hl, (cell_of_blk e _).trans c0, (cell_of_blk e _).trans c1, (cell_of_blk e _).trans c2, (cell_of_blk e _).trans c3, (cell_of_blk e _).trans c4⟩
theorem KnIn.nil (a : Option Addr) (w : World) : KnIn [] a w := fun h => by simp at h
/-- What find answers. -/
def FdR (L : List LayP) (nm : List UInt8) (w : World) (e : Ending) (w' : World) : Prop :=
  ((∃ x ma mc, findL L nm = some x ∧ e = .returned (.tuple #[lV x.bytes x.align x.scal ⟨x.name.toArray⟩ ma x.mems.length mc, .bool true]) ∧ MbIn x.mems ma w' ∧ x.mems.length ≤ mc) ∨ (findL L nm = none ∧ e = .returned (.tuple #[lV 0 0 0 ⟨#[]⟩ none 0 0, .bool false]))) ∧ Below w.heap.size w w'
theorem find_at {L : List LayP} {nm : List UInt8} {q : Nat} {x : LayP} (hx : L[q]? = some x) (hn : x.name = nm) (ha : ∀ (j : Nat) (y : LayP), j < q → L[j]? = some y → (y.name == nm) = false) : findL L nm = some x := by
  induction q generalizing L with
  | zero =>
    cases L with
    | nil => cases hx
    | cons y L =>
      cases hx
      unfold findL
      rw [List.find?_cons, hn]
      simp
  | succ q ih =>
    cases L with
    | nil => cases hx
    | cons y L =>
      have h0 := ha 0 y (by omega) rfl
      have h1 := ih (L := L) hx (fun j z hj hz => ha (j + 1) z (by omega) hz)
      unfold findL at h1 ⊢
      rw [List.find?_cons, h0]
      exact h1
theorem find_no {L : List LayP} {nm : List UInt8} (ha : ∀ (j : Nat) (y : LayP), L[j]? = some y → (y.name == nm) = false) : findL L nm = none := by
  unfold findL
  rw [List.find?_eq_none]
  intro x hx
  obtain ⟨j, hj⟩ := List.getElem?_of_mem hx
  rw [ha j x hj]
  simp
set_option maxHeartbeats 4000000 in
theorem c_findX (L : List LayP) (a : Option Addr) (c : Nat) (hc : L.length ≤ c) (nm : List UInt8) (w : World) (hK : KnIn L a w) (hl : L.length ≤ 65536) :
    Calls Tryz.prog 53 #[.slice a L.length c, .string ⟨nm.toArray⟩] w fun e w' => FdR L nm w e w' := by
  have HK := Lib.hid (fun w' (h : Below w.heap.size w w') => hK.next h)
  have HL := Lib.hid hl
  obtain ⟨N, hN⟩ : ∃ N, L.length = N := ⟨_, rfl⟩
  have HN := Lib.hid hN
  rw [hN] at HL hc ⊢
  clear hK hl hN
  go_enter Tryz.func53, Tryz.ntmps53
  go_wp2_with fail
  have HZ0 := Lib.hid (heap_alloc_new w (.cells #[.int .i64 0, .int .i64 0, .int .i64 0, .string ⟨#[]⟩, .slice none 0 0] 89))
  have HB0 := Lib.hid (below_a w (.cells #[.int .i64 0, .int .i64 0, .int .i64 0, .string ⟨#[]⟩, .slice none 0 0] 89))
  go_loopg [10] N (fun g v10 wr => ∃ q : Nat, q + g = N ∧ v10 = .int .i64 (q : Int) ∧ Hid (Below w.heap.size w wr ∧ wr.heap[w.heap.size]? = some (.cells #[.int .i64 0, .int .i64 0, .int .i64 0, .string ⟨#[]⟩, .slice none 0 0] 89) ∧ ∀ (j : Nat) (y : LayP), j < q → L[j]? = some y → (y.name == nm) = false))
  case atStart => exact ⟨0, by omega, rfl, HB0.out, HZ0.out, fun j y hj => by omega⟩
  case round =>
    obtain ⟨q, hq, rfl, HR⟩ := hrel
    have hbz := (Array.getElem?_eq_some_iff.1 HR.out.2.1).1
    obtain ⟨z0, z1, z2, z3, z4, zf⟩ := five_cells HR.out.2.1
    have zf0 := zf 0
    have zf1 := zf 1
    have zf2 := zf 2
    have zf3 := zf 3
    have zf4 := zf 4
    by_cases hlt : q < N
    · have hd : decide ((q : Int) < (N : Int)) = true := by simp; omega
      obtain ⟨x, hx⟩ : ∃ x, L[q]? = some x := ⟨_, List.getElem?_eq_getElem (by have := HN.out; omega)⟩
      obtain ⟨g, hag, hgw, hrow⟩ := HK.out w (Below.refl _ _) (by have := HN.out; omega)
      obtain ⟨ma, mc, hM, hmc, d0, d1, d2, d3, d4⟩ := hrow q x hx
      have eg := HR.out.1.block g hgw
      have c0 := (cell_of_blk eg _).trans d0
      have c1 := (cell_of_blk eg _).trans d1
      have c2 := (cell_of_blk eg _).trans d2
      have c3 := (cell_of_blk eg _).trans d3
      have c4 := (cell_of_blk eg _).trans d4
      have hg : g < wr.heap.size := Nat.lt_of_lt_of_le hgw HR.out.1.size
      clear d0 d1 d2 d3 d4 eg hgw
      have HX := Lib.hid hx
      have HM2 := Lib.hid (And.intro hM hmc)
      have hq0 : (0 : Int) ≤ (q : Int) := by omega
      have hql : (q : Int) < (N : Int) := by omega
      have hwm : IntKind.i64.wrap ((q : Int) + 1) = ((q + 1 : Nat) : Int) := by rw [IntKind.wrap_i64]; have := HL.out; omega
      have HM : Hid (N - (q + 1) < gk ∧ q + 1 + (N - (q + 1)) = N) := ⟨by omega, by omega⟩
      subst hag
      have hgne : g < wr.heap.size + 1 := by omega
      obtain ⟨x0, hx0⟩ : ∃ x0 : Int, (x.bytes : Int) = x0 := ⟨_, rfl⟩
      obtain ⟨x1, hx1⟩ : ∃ x1 : Int, (x.align : Int) = x1 := ⟨_, rfl⟩
      obtain ⟨x2, hx2⟩ : ∃ x2 : Int, (x.scal : Int) = x2 := ⟨_, rfl⟩
      obtain ⟨xn, hxn⟩ : ∃ xn, x.name = xn := ⟨_, rfl⟩
      obtain ⟨xl, hxl⟩ : ∃ xl, x.mems.length = xl := ⟨_, rfl⟩
      rw [hx0] at c0
      rw [hx1] at c1
      rw [hx2] at c2
      rw [hxn] at c3
      rw [hxl] at c4
      have HXs := Lib.hid (And.intro hx0 (And.intro hx1 (And.intro hx2 (And.intro hxn hxl))))
      clear hx hM hmc hrow zf hx0 hx1 hx2 hxn hxl
      cases hne : xn == nm
      · have HNe := Lib.hid hne
        have hne2 : (xn != nm) = true := by simp [bne, hne]
        go_wp2_with fail
        have HN1 : Hid (Below w.heap.size w (wr.alloc (.cells #[.int .i64 x0, .int .i64 x1, .int .i64 x2, .string ⟨xn.toArray⟩, .slice ma xl mc] 89)) ∧ (wr.alloc (.cells #[.int .i64 x0, .int .i64 x1, .int .i64 x2, .string ⟨xn.toArray⟩, .slice ma xl mc] 89)).heap[w.heap.size]? = some (.cells #[.int .i64 0, .int .i64 0, .int .i64 0, .string ⟨#[]⟩, .slice none 0 0] 89) ∧ ∀ (j : Nat) (y : LayP), j < q + 1 → L[j]? = some y → (y.name == nm) = false) := ⟨HR.out.1.alloc HR.out.1.size _, (Below.heap_alloc _ _ _ hbz).trans HR.out.2.1, fun j y hj hy => by
          by_cases e : j = q
          · subst e
            rw [HX.out] at hy
            cases hy
            rw [HXs.out.2.2.2.1]
            exact HNe.out
          · exact HR.out.2.2 j y (by omega) hy⟩
        clear c0 c1 c2 c3 c4 z0 z1 z2 z3 z4
        go_roundg (N - (q + 1))
        case measure => exact HM.out.1
        case rel => exact ⟨q + 1, HM.out.2, rfl, HN1⟩
      · have HNe := Lib.hid hne
        have hne2 : (xn != nm) = false := by simp [bne, hne]
        go_wp2_with fail
        have hst := Stp.five0 w.heap.size wr (.int .i64 x0) (.int .i64 x1) (.int .i64 x2) (.string ⟨xn.toArray⟩) (.slice ma xl mc)
        have hb9 := below_stp HR.out.1 hst (Nat.le_refl _)
        have hz9 := five_set HR.out.2.1 (.int .i64 x0) (.int .i64 x1) (.int .i64 x2) (.string ⟨xn.toArray⟩) (.slice ma xl mc)
        have hs9 := hst.size
        clear hst
        generalize ((((wr.setCell ⟨w.heap.size, 0, none⟩ (.int .i64 x0)).setCell ⟨w.heap.size, 1, none⟩ (.int .i64 x1)).setCell ⟨w.heap.size, 2, none⟩ (.int .i64 x2)).setCell ⟨w.heap.size, 3, none⟩ (.string ⟨xn.toArray⟩)).setCell ⟨w.heap.size, 4, none⟩ (.slice ma xl mc) = w9 at hb9 hz9 hs9 ⊢
        have hlt9 : w.heap.size < w9.heap.size := by rw [hs9]; exact hbz
        have hz10 := (Below.heap_alloc w9 (.cells #[.int .i64 x0, .int .i64 x1, .int .i64 x2, .string ⟨xn.toArray⟩, .slice ma xl mc] 89) _ hlt9).trans hz9
        have hb10 := hb9.alloc hb9.size (.cells #[.int .i64 x0, .int .i64 x1, .int .i64 x2, .string ⟨xn.toArray⟩, .slice ma xl mc] 89)
        generalize w9.alloc (.cells #[.int .i64 x0, .int .i64 x1, .int .i64 x2, .string ⟨xn.toArray⟩, .slice ma xl mc] 89) = wx at hb10 hz10 ⊢
        obtain ⟨y0, y1, y2, y3, y4, yf⟩ := five_cells hz10
        refine bodyPost_ret (v := .tuple #[lV x0 x1 x2 ⟨xn.toArray⟩ ma xl mc, .bool true]) (by simp [results, Tryz.results53, go_sem, y0, y1, y2, y3, y4]) rfl ?_
        obtain ⟨g0, g1, g2, g3, g4⟩ := HXs.out
        exact ⟨.inl ⟨x, ma, mc, find_at HX.out (by rw [g3]; simpa using HNe.out) HR.out.2.2, by rw [g0, g1, g2, g3, g4], HM2.out.1.next hb10, HM2.out.2⟩, hb10⟩
    · have hd : decide ((q : Int) < (N : Int)) = false := by simp; omega
      clear zf
      go_wp2_with fail
      have hst := Stp.five0 w.heap.size (wr) (.int .i64 0) (.int .i64 0) (.int .i64 0) (.string ⟨#[]⟩) (.slice none 0 0)
      have hb9 := below_stp HR.out.1 hst (Nat.le_refl _)
      have hz9 := five_set HR.out.2.1 (.int .i64 0) (.int .i64 0) (.int .i64 0) (.string ⟨#[]⟩) (.slice none 0 0)
      clear hst
      generalize ((((((wr)).setCell ⟨w.heap.size, 0, none⟩ (.int .i64 0)).setCell ⟨w.heap.size, 1, none⟩ (.int .i64 0)).setCell ⟨w.heap.size, 2, none⟩ (.int .i64 0)).setCell ⟨w.heap.size, 3, none⟩ (.string ⟨#[]⟩)).setCell ⟨w.heap.size, 4, none⟩ (.slice none 0 0) = w9 at hb9 hz9  ⊢
      obtain ⟨y0, y1, y2, y3, y4, yf⟩ := five_cells hz9
      refine bodyPost_ret (v := .tuple #[lV 0 0 0 ⟨#[]⟩ none 0 0, .bool false]) (by simp [results, Tryz.results53, go_sem, y0, y1, y2, y3, y4]) rfl ?_
      exact ⟨.inr ⟨find_no fun j y hy => HR.out.2.2 j y (by have := (List.getElem?_eq_some_iff.1 hy).1; have := HN.out; omega) hy, rfl⟩, hb9⟩
end Go.Proofs.YtacbjhbiaaieoaaGreatDoor
namespace Go.Proofs.YtacbjhbiaaieoaaGreatDoor
set_option linter.unusedVariables false
set_option linter.unusedSimpArgs false
set_option maxRecDepth 100000
open Go.RowKit

/-- All parts of a type, as they lie. -/
def PaO (S : Nat → Prop) (A : List Ty) (ao : Option Addr) (w : World) : Prop := A = [] ∨ ∃ g L, ao = some ⟨g, 0, none⟩ ∧ PaAt S A g L w
theorem Nd.allp {S : Nat → Prop} {w : World} {t : Ty} {ao : Option Addr} {n c : Nat} (h : Nd S w t (.slice ao n c)) : n = t.parts.length ∧ t.parts.length ≤ c ∧ PaO S t.parts ao w := by
  cases h with
  | leaf t h => exact ⟨by rw [h]; rfl, by rw [h]; exact Nat.le_refl _, .inl h⟩
  | row t g cap L h1 h2 h3 h4 h5 h6 =>
    refine ⟨by rw [h1, List.length_map], by rw [h1, List.length_map]; exact h3, .inr ⟨g, L, rfl, ⟨h1.symm, h4, fun k p hk i x hx => ?_, h6⟩⟩⟩
    obtain ⟨t2, v2⟩ := p
    have hi : i < 5 := by
      have := (List.getElem?_eq_some_iff.1 hx).1
      rwa [ndC_len] at this
    exact h5 _ _ ((ndCs_at L k t2 v2 hk i hi).trans hx)
theorem parts_sub : ∀ (t u : Ty), u ∈ t.parts → u.size < t.size
  | .base c, u, h => by cases h
  | .str s, u, h => by cases h
  | .ptr t, u, h => by
    have e : u = t := by simpa [Ty.parts] using h
    subst e
    show u.size < u.size + 1
    omega
  | .arr n t, u, h => by
    have e : u = t := by simpa [Ty.parts] using h
    subst e
    show u.size < u.size + 1
    omega
  | .fn ps r, u, h => by
    rcases List.mem_append.1 (show u ∈ ps.list ++ [r] from h) with h | h
    · have := lst_size_le ps u h
      show u.size < ps.size + r.size + 2
      omega
    · rw [List.mem_singleton] at h
      subst h
      show u.size < ps.size + u.size + 2
      omega
theorem parts_wf : ∀ (t u : Ty), t.wf → u ∈ t.parts → u.wf
  | .base c, u, _, h => by cases h
  | .str s, u, _, h => by cases h
  | .ptr t, u, hw, h => by
    have e : u = t := by simpa [Ty.parts] using h
    subst e
    exact hw
  | .arr n t, u, hw, h => by
    have e : u = t := by simpa [Ty.parts] using h
    subst e
    exact hw.2
  | .fn ps r, u, hw, h => by
    rcases List.mem_append.1 (show u ∈ ps.list ++ [r] from h) with h | h
    · exact lst_wf ps u hw.1 h
    · rw [List.mem_singleton] at h
      subst h
      exact hw.2
/-- A part, in a world further on. -/
theorem PaO.at {S : Nat → Prop} {A : List Ty} {ao : Option Addr} {w wr : World} (h : PaO S A ao w) (hS : ∀ j, S j → j < w.heap.size) (hb : ∀ j, j < w.heap.size → wr.heap[j]? = w.heap[j]?) (hs : w.heap.size ≤ wr.heap.size) {k : Nat} {u : Ty} (hk : A[k]? = some u) :
    ∃ g a n c, ao = some ⟨g, 0, none⟩ ∧ NdIn u (.slice a n c) wr ∧ g < wr.heap.size ∧ wr.cell? ⟨g, k * 5, none⟩ = some (.int .u8 u.letter.toNat) ∧ wr.cell? ⟨g, k * 5 + 1, none⟩ = some (.string ⟨u.code.toArray⟩) ∧ wr.cell? ⟨g, k * 5 + 2, none⟩ = some (.int .i64 u.count) ∧ wr.cell? ⟨g, k * 5 + 3, none⟩ = some (.string ⟨u.tag.toArray⟩) ∧ wr.cell? ⟨g, k * 5 + 4, none⟩ = some (.slice a n c) := by
  rcases h with h | ⟨g, L, h1, h2⟩
  · rw [h] at hk
    cases hk
  · obtain ⟨a, n, c, hn, hg, n0, n1, n2, n3, n4⟩ := (h2.keep (w' := wr) (fun j hj => hb j (hS j hj))).at hk
    exact ⟨g, a, n, c, h1, hn.mono (fun j hj => Nat.lt_of_lt_of_le (hS j hj) hs) (fun _ _ => rfl), hg, n0, n1, n2, n3, n4⟩
abbrev nT (t : Ty) (a : Option Addr) (n c : Nat) : Value := nV t.letter.toNat ⟨t.code.toArray⟩ t.count ⟨t.tag.toArray⟩ a n c
def LkX (L : List LayP) (ka : Option Addr) (kc : Nat) (m : Nat) : Prop := ∀ (t : Ty) (a : Option Addr) (n c : Nat) (w : World), t.size ≤ m → t.wf → NdIn t (.slice a n c) w → KnIn L ka w →
  Calls Tryz.prog 99 #[.slice ka L.length kc, nT t a n c] w fun e w' => e = .returned (.bool (lackT L t)) ∧ Below w.heap.size w w'
set_option maxHeartbeats 4000000 in
theorem lacksX_succ (L : List LayP) (ka : Option Addr) (kc : Nat) (hkc : L.length ≤ kc) (hL : GdL L) (hll : L.length ≤ 65536) (m : Nat) (hD : LkX L ka kc m) : LkX L ka kc (m + 1) := fun t a n c w hsz hwf hN hK => by
  have hz : ∀ x0 : Int, (t.letter.toNat : Int) = x0 → (x0 == 97) = false → (x0 == 83) = false → lackT L t = false → Calls Tryz.prog 99 #[.slice ka L.length kc, nT t a n c] w fun e w' => e = .returned (.bool (lackT L t)) ∧ Below w.heap.size w w' := fun x0 hx0 h1 h2 h3 => by
    unfold nT
    rw [hx0, h3]
    obtain ⟨x2, hx2⟩ : ∃ x2 : Int, (t.count : Int) = x2 := ⟨_, rfl⟩
    obtain ⟨s1, hs1⟩ : ∃ s1, (⟨t.code.toArray⟩ : ByteArray) = s1 := ⟨_, rfl⟩
    obtain ⟨s3, hs3⟩ : ∃ s3, (⟨t.tag.toArray⟩ : ByteArray) = s3 := ⟨_, rfl⟩
    rw [hx2, hs1, hs3]
    clear hN hD hsz hwf hx0 hx2 hs1 hs3 h3 hK hL hll hkc
    go_enter Tryz.func99, Tryz.ntmps99
    go_wp2_with fail
    go_ret
    exact ⟨rfl, below_a _ _⟩
  cases t with
  | ptr u => exact hz 112 rfl rfl rfl rfl
  | fn ps r => exact hz 102 rfl rfl rfl rfl
  | base x =>
    have hc : baseC x = true := hwf
    unfold baseC at hc
    simp at hc
    rcases hc with ((((hc | hc) | hc) | hc) | hc) | hc <;> (subst hc; exact hz _ rfl rfl rfl rfl)
  | str s =>
    have HF := Lib.hid (fun w' (hb : Below w.heap.size w w') => c_findX L ka kc hkc s w' (hK.next hb) hll)
    obtain ⟨s1, hs1⟩ : ∃ s1, (⟨(Ty.str s).code.toArray⟩ : ByteArray) = s1 := ⟨_, rfl⟩
    obtain ⟨N, hN1⟩ : ∃ N, L.length = N := ⟨_, rfl⟩
    show Calls _ _ #[_, nV 83 ⟨(Ty.str s).code.toArray⟩ 0 ⟨s.toArray⟩ a n c] w fun e w' => e = .returned (.bool (findL L s).isNone) ∧ Below w.heap.size w w'
    rw [hs1]
    rw [hN1] at HF ⊢
    obtain ⟨Q, hQ⟩ : ∃ Q, (findL L s).isNone = Q := ⟨_, rfl⟩
    rw [hQ]
    have HQ := Lib.hid hQ
    clear hz hN hD hsz hwf hs1 hK hL hll hkc hN1 hQ
    go_enter Tryz.func99, Tryz.ntmps99
    go_wp2_with fail
    refine (HF.out _ (below_a _ _)).mono ?_
    rintro e w2 ⟨hfd, hb⟩
    have HB := Lib.hid (below_on (below_a w (.cells #[.int .u8 83, .string s1, .int .i64 0, .string ⟨s.toArray⟩, .slice a n c] 68)) hb (by simp))
    clear hb
    rcases hfd with ⟨x, ma, mc, hx, rfl, _⟩ | ⟨hx, rfl⟩
    · have hq : Q = false := by rw [← HQ.out, hx]; rfl
      subst hq
      clear hx
      obtain ⟨x0, hx0⟩ : ∃ x0 : Int, (x.bytes : Int) = x0 := ⟨_, rfl⟩
      obtain ⟨x1, hx1⟩ : ∃ x1 : Int, (x.align : Int) = x1 := ⟨_, rfl⟩
      obtain ⟨x2, hx2⟩ : ∃ x2 : Int, (x.scal : Int) = x2 := ⟨_, rfl⟩
      rw [hx0, hx1, hx2]
      clear hx0 hx1 hx2
      go_wp2_with fail
      go_ret
      exact ⟨rfl, HB.out.alloc HB.out.size _⟩
    · have hq : Q = true := by rw [← HQ.out, hx]; rfl
      subst hq
      clear hx
      go_wp2_with fail
      go_ret
      exact ⟨rfl, HB.out.alloc HB.out.size _⟩
  | arr k u =>
    have HI := Lib.hid (c_inner (fun j => j < w.heap.size) (.arr k u) (.slice a n c) (w.alloc (.cells #[.int .u8 97, .string ⟨(Ty.arr k u).code.toArray⟩, .int .i64 (k : Int), .string ⟨#[]⟩, .slice a n c] 68)) (Nd.mono hN (fun j hj => hj) (fun j hj => Below.heap_alloc _ _ _ hj)) [] u rfl (by simp))
    have HD := Lib.hid (fun a n c w' (hb : Below w.heap.size w w') hn => hD u a n c w' (by have h : u.size + 1 ≤ m + 1 := hsz; omega) hwf.2 hn (hK.next hb))
    have HI' : Hid (Calls Tryz.prog 55 #[nV 97 ⟨(Ty.arr k u).code.toArray⟩ (k : Int) ⟨#[]⟩ a n c] (w.alloc (.cells #[.int .u8 97, .string ⟨(Ty.arr k u).code.toArray⟩, .int .i64 (k : Int), .string ⟨#[]⟩, .slice a n c] 68)) fun e w' => (∃ a n c, e = .returned (ndV u (.slice a n c)) ∧ NdIn u (.slice a n c) w') ∧ Below w.heap.size w w') := HI.out.mono fun e w' h => by
      obtain ⟨⟨a', n', c', h1, h2⟩, h3⟩ := h
      have h4 := below_on (below_a w _) h3 (by simp)
      exact ⟨⟨a', n', c', h1, Nd.mono h2 (fun j hj => Nat.lt_of_lt_of_le hj h4.size) (fun j hj => by
        have h5 := h3.block j (by simp; omega)
        exact h5)⟩, h4⟩
    obtain ⟨x2, hx2⟩ : ∃ x2 : Int, (k : Int) = x2 := ⟨_, rfl⟩
    obtain ⟨s1, hs1⟩ : ∃ s1, (⟨(Ty.arr k u).code.toArray⟩ : ByteArray) = s1 := ⟨_, rfl⟩
    show Calls _ _ #[_, nV 97 ⟨(Ty.arr k u).code.toArray⟩ (k : Int) ⟨#[]⟩ a n c] w fun e w' => e = .returned (.bool (lackT L u)) ∧ Below w.heap.size w w'
    obtain ⟨N, hN1⟩ : ∃ N, L.length = N := ⟨_, rfl⟩
    rw [hN1] at HD ⊢
    rw [hx2, hs1] at HI' ⊢
    clear hz hN hD hsz hwf hs1 hx2 HI hK hL hll hkc hN1
    go_enter Tryz.func99, Tryz.ntmps99
    go_wp2_with fail
    refine HI'.out.mono ?_
    rintro e w2 ⟨⟨a', n', c', rfl, hn⟩, hb⟩
    have HB := Lib.hid hb
    have HDn := Lib.hid (HD.out a' n' c' w2 hb hn)
    clear hb hn HI'
    unfold nT at HDn
    rw [nd_nV]
    obtain ⟨z0, hz0⟩ : ∃ z : Int, (u.letter.toNat : Int) = z := ⟨_, rfl⟩
    obtain ⟨z2, hz2⟩ : ∃ z : Int, (u.count : Int) = z := ⟨_, rfl⟩
    rw [hz0, hz2] at HDn ⊢
    clear hz0 hz2
    go_wp2_with fail
    refine HDn.out.mono ?_
    rintro e w5 ⟨rfl, hb⟩
    have HB5 := Lib.hid (below_on HB.out hb HB.out.size)
    clear hb
    go_wp2_with fail
    go_ret
    exact ⟨rfl, HB5.out⟩
theorem c_lacksX (L : List LayP) (ka : Option Addr) (kc : Nat) (hkc : L.length ≤ kc) (hL : GdL L) (hll : L.length ≤ 65536) : ∀ m, LkX L ka kc m
  | 0 => fun t a n c w hsz => by
    have : 1 ≤ t.size := by cases t <;> (unfold Ty.size; omega)
    omega
  | m + 1 => lacksX_succ L ka kc hkc hL hll m (c_lacksX L ka kc hkc hL hll m)
end Go.Proofs.YtacbjhbiaaieoaaGreatDoor
