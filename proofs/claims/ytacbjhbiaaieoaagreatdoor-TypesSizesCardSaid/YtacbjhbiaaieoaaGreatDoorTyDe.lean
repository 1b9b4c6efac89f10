/-
  Plain: declarations.
-/
import Derived.Test.YtacbjhbiaaieoaaGreatDoorTyPu
/-! Plain: what stands around a name in a declaration tells what it was put together of. -/
namespace Go.Proofs.YtacbjhbiaaieoaaGreatDoor
set_option linter.unusedVariables false
set_option linter.unusedSimpArgs false

/-- The bracket that opens what ends here, in a text that is read from behind: what stands ahead of it. -/
def mt : Nat → List UInt8 → List UInt8
  | _, [] => []
  | d, c :: r => if c = 41 then mt (d + 1) r else if c = 40 then (if d = 0 then r else mt (d - 1) r) else mt d r
def Bal (Q : List UInt8) : Prop := ∀ (d : Nat) (r : List UInt8), mt d (Q.reverse ++ r) = mt d r
theorem Bal.nil : Bal [] := fun _ _ => rfl
theorem Bal.app {P Q : List UInt8} (h : Bal P) (h2 : Bal Q) : Bal (P ++ Q) := fun d r => by
  rw [List.reverse_append, List.append_assoc, h2, h]
theorem Bal.one {c : UInt8} (h1 : c ≠ 41) (h2 : c ≠ 40) : Bal [c] := fun d r => by
  show mt d (c :: r) = _
  conv => lhs; unfold mt
  rw [if_neg h1, if_neg h2]
theorem Bal.flat : ∀ (l : List UInt8), (∀ c ∈ l, c ≠ 41 ∧ c ≠ 40) → Bal l
  | [], _ => Bal.nil
  | c :: l, h => (Bal.one (h c List.mem_cons_self).1 (h c List.mem_cons_self).2).app (Bal.flat l (fun x hx => h x (List.mem_cons_of_mem _ hx)))
theorem mt_open (Q r : List UInt8) (h : Bal Q) : mt 0 (Q.reverse ++ 40 :: r) = r := by
  rw [h]
  unfold mt
  rw [if_neg (by decide), if_pos rfl, if_pos rfl]
theorem Bal.br {Q : List UInt8} (h : Bal Q) : Bal (40 :: (Q ++ [41])) := fun d r => by
  have e : (40 :: (Q ++ [41])).reverse ++ r = 41 :: (Q.reverse ++ 40 :: r) := by simp
  rw [e]
  conv => lhs; unfold mt
  rw [if_pos rfl, h]
  conv => lhs; unfold mt
  rw [if_neg (by decide), if_pos rfl, if_neg (by omega)]
  rfl
inductive Op where
  | p
  | b
  | a (n : Nat)
  | f (Q : List UInt8)
def app : Op → List UInt8 → List UInt8
  | .p, x => 42 :: x
  | .b, x => 40 :: (42 :: x ++ [41])
  | .a n, x => x ++ 91 :: (Lib.decDigits n ++ [93])
  | .f Q, x => x ++ 40 :: (Q ++ [41])
/-- The last one first. -/
def E : List Op → List UInt8 → List UInt8
  | [], x => x
  | o :: l, x => app o (E l x)
def VL : List Op → Prop
  | [] => True
  | .p :: l => VL l ∧ l.head? ≠ some .b
  | .b :: l => VL l ∧ l.head? ≠ some .b
  | .a n :: l => VL l ∧ (l = [] ∨ l.head? = some .b ∨ ∃ m, l.head? = some (.a m))
  | .f Q :: l => VL l ∧ Bal Q ∧ Q ≠ [] ∧ Q.head? ≠ some 42 ∧ (l = [] ∨ l.head? = some .b)
theorem wrd_not {c : UInt8} (h : wrd8 c = true) : c ≠ 40 ∧ c ≠ 41 ∧ c ≠ 42 ∧ c ≠ 91 ∧ c ≠ 93 ∧ c ≠ 32 ∧ c ≠ 44 := by
  refine ⟨?_, ?_, ?_, ?_, ?_, ?_, ?_⟩ <;> (rintro rfl; revert h; decide)
theorem dec_not (n : Nat) {c : UInt8} (h : c ∈ Lib.decDigits n) : c ≠ 40 ∧ c ≠ 41 ∧ c ≠ 42 ∧ c ≠ 91 ∧ c ≠ 93 ∧ c ≠ 32 ∧ c ≠ 44 := by
  have hb := bk_digits n n (Nat.le_refl _) c h
  refine ⟨?_, ?_, ?_, ?_, ?_, ?_, ?_⟩ <;> (rintro rfl; revert hb; decide)
theorem bal_E (x : List UInt8) (hx : x.all wrd8 = true) : ∀ (l : List Op), VL l → Bal (E l x)
  | [], _ => Bal.flat x (fun c hc => by have := wrd_not (List.all_eq_true.1 hx c hc); exact ⟨this.2.1, this.1⟩)
  | .p :: l, h => (Bal.one (by decide) (by decide) : Bal [42]).app (bal_E x hx l h.1)
  | .b :: l, h => Bal.br ((Bal.one (by decide) (by decide) : Bal [42]).app (bal_E x hx l h.1))
  | .a n :: l, h => (bal_E x hx l h.1).app (Bal.flat _ (fun c hc => by
      rcases List.mem_cons.1 hc with rfl | hc
      · exact ⟨by decide, by decide⟩
      · rcases List.mem_append.1 hc with hc | hc
        · have := dec_not n hc; exact ⟨this.2.1, this.1⟩
        · rw [List.mem_singleton] at hc; rw [hc]; exact ⟨by decide, by decide⟩))
  | .f Q :: l, h => (bal_E x hx l h.1).app (Bal.br h.2.1)
theorem head_app {P Q : List UInt8} : (P ++ Q).head? = if P = [] then Q.head? else P.head? := by
  cases P with
  | nil => rfl
  | cons c P => simp
theorem x_star {x : List UInt8} (hx : x.all wrd8 = true) : x.head? ≠ some 42 := by
  cases x with
  | nil => simp
  | cons c x =>
    intro h
    have hc : c = 42 := by simpa using h
    rw [List.all_cons, Bool.and_eq_true] at hx
    exact (wrd_not hx.1).2.2.1 hc
/-- Only a pointer begins with a star. -/
theorem no_star (x : List UInt8) (hx : x.all wrd8 = true) : ∀ (l : List Op), VL l → l.head? ≠ some .p → (E l x).head? ≠ some 42
  | [], _, _ => x_star hx
  | .p :: l, _, h => absurd rfl h
  | .b :: l, _, _ => by show some 40 ≠ some 42; decide
  | .a n :: l, h, _ => by
    have ih : (E l x).head? ≠ some 42 := no_star x hx l h.1 (by
      rcases h.2 with rfl | h2 | ⟨m, h2⟩
      · simp
      · rw [h2]; simp
      · rw [h2]; simp)
    show (E l x ++ 91 :: _).head? ≠ _
    rw [head_app]
    split
    · simp
    · exact ih
  | .f Q :: l, h, _ => by
    have ih : (E l x).head? ≠ some 42 := no_star x hx l h.1 (by
      rcases h.2.2.2.2 with rfl | h2
      · simp
      · rw [h2]; simp)
    show (E l x ++ 40 :: _).head? ≠ _
    rw [head_app]
    split
    · simp
    · exact ih
theorem last_split {A B P Q : List UInt8} {c : UInt8} (h : A ++ c :: P = B ++ c :: Q) (hp : c ∉ P) (hq : c ∉ Q) : A = B ∧ P = Q := by
  have hlen := congrArg List.length h
  simp only [List.length_append, List.length_cons] at hlen
  rcases List.append_eq_append_iff.1 h with ⟨a', h1, h2⟩ | ⟨c', h1, h2⟩
  · cases a' with
    | nil => simp at h1 h2; exact ⟨h1.symm, h2⟩
    | cons d a' =>
      simp at h2
      exact absurd (show c ∈ P by rw [h2.2]; simp) hp
  · cases c' with
    | nil => simp at h1 h2; exact ⟨h1, h2.symm⟩
    | cons d c' =>
      simp at h2
      exact absurd (show c ∈ Q by rw [h2.2]; simp) hq
def valF (acc : Nat) : List UInt8 → Nat
  | [] => acc
  | c :: r => valF (acc * 10 + (c.toNat - 48)) r
theorem valF_app : ∀ (l m : List UInt8) (acc : Nat), valF acc (l ++ m) = valF (valF acc l) m
  | [], _, _ => rfl
  | c :: l, m, acc => valF_app l m _
theorem valF_dec : ∀ (n u : Nat), u ≤ n → valF 0 (Lib.decDigits u) = u
  | 0, u, h => by
    rw [bk_small u (by omega)]
    show 0 * 10 + ((UInt8.ofNat (48 + u)).toNat - 48) = u
    rw [bk_u8 u (by omega)]
    omega
  | n + 1, u, h => by
    by_cases h10 : u < 10
    · rw [bk_small u h10]
      show 0 * 10 + ((UInt8.ofNat (48 + u)).toNat - 48) = u
      rw [bk_u8 u h10]
      omega
    · rw [bk_great u h10, valF_app, valF_dec n (u / 10) (by omega)]
      show u / 10 * 10 + ((UInt8.ofNat (48 + u % 10)).toNat - 48) = u
      rw [bk_u8 _ (by omega)]
      omega
theorem dec_inj {n m : Nat} (h : Lib.decDigits n = Lib.decDigits m) : n = m := by
  have h1 := valF_dec n n (Nat.le_refl _)
  rw [h, valF_dec m m (Nat.le_refl _)] at h1
  exact h1.symm
end Go.Proofs.YtacbjhbiaaieoaaGreatDoor
/-! Plain: what stands around a name is put together in one way alone. -/
namespace Go.Proofs.YtacbjhbiaaieoaaGreatDoor
set_option linter.unusedVariables false
set_option linter.unusedSimpArgs false

theorem x_no {x : List UInt8} (hx : x.all wrd8 = true) {c : UInt8} (hc : wrd8 c = false) : c ∉ x := fun h => by
  have := List.all_eq_true.1 hx c h
  rw [hc] at this
  cases this
theorem app_last (P : List UInt8) (c : UInt8) : (P ++ [c]).getLast? = some c := by simp
theorem a_last (n : Nat) (y : List UInt8) : (app (.a n) y).getLast? = some 93 := by
  have e : app (.a n) y = (y ++ 91 :: Lib.decDigits n) ++ [93] := by
    show y ++ 91 :: (Lib.decDigits n ++ [93]) = _
    simp
  rw [e, app_last]
theorem b_last (y : List UInt8) : (app .b y).getLast? = some 41 := by
  have e : app .b y = (40 :: 42 :: y) ++ [41] := rfl
  rw [e, app_last]
theorem f_last (Q y : List UInt8) : (app (.f Q) y).getLast? = some 41 := by
  have e : app (.f Q) y = (y ++ 40 :: Q) ++ [41] := by
    show y ++ 40 :: (Q ++ [41]) = _
    simp
  rw [e, app_last]
theorem f_mt (Q y : List UInt8) (h : Bal Q) : mt 0 (((app (.f Q) y).reverse).drop 1) = y.reverse := by
  have e : (app (.f Q) y).reverse = 41 :: (Q.reverse ++ 40 :: y.reverse) := by
    show (y ++ 40 :: (Q ++ [41])).reverse = _
    simp
  rw [e]
  exact mt_open Q y.reverse h
theorem b_mt (y : List UInt8) (h : Bal y) : mt 0 (((app .b y).reverse).drop 1) = [] := by
  have e : (app .b y).reverse = 41 :: ((42 :: y).reverse ++ 40 :: []) := by
    show (40 :: (42 :: y ++ [41])).reverse = _
    simp
  rw [e]
  exact mt_open (42 :: y) [] ((Bal.one (by decide) (by decide) : Bal [42]).app h)
theorem E_ne (x : List UInt8) {o : Op} {l : List Op} : E (o :: l) x ≠ [] := by
  cases o <;> simp [E, app]
/-- A function's text ahead of its brackets: a name, or none, or brackets. -/
theorem f_b (x : List UInt8) (hx : x.all wrd8 = true) {Q : List UInt8} {l l' : List Op} (h : VL (.f Q :: l)) (h' : VL (.b :: l')) : E (.f Q :: l) x ≠ E (.b :: l') x := fun he => by
  have h1 := f_mt Q (E l x) h.2.1
  have h2 := b_mt (E l' x) (bal_E x hx l' h'.1)
  have he' : app (.f Q) (E l x) = app .b (E l' x) := he
  rw [he', h2] at h1
  have hnil : E l x = [] := by
    have := congrArg List.reverse h1
    simpa using this.symm
  have h3 : l = [] := by
    cases l with
    | nil => rfl
    | cons o l => exact absurd hnil (E_ne x)
  rw [hnil] at he'
  have h4 : (40 : UInt8) :: (Q ++ [41]) = 40 :: (42 :: E l' x ++ [41]) := he'
  have h5 := (List.cons.inj h4).2
  have hq := h.2.2.2.1
  cases Q with
  | nil => exact h.2.2.1 rfl
  | cons c Q =>
    have h6 : c = 42 := (List.cons.inj h5).1
    exact hq (by rw [h6]; rfl)
theorem nil_cons (x : List UInt8) (hx : x.all wrd8 = true) {o : Op} {l : List Op} : x ≠ E (o :: l) x := fun he => by
  cases o with
  | p => exact x_no hx (c := 42) (by decide) (by rw [he]; show 42 ∈ 42 :: _; simp)
  | b => exact x_no hx (c := 40) (by decide) (by rw [he]; show 40 ∈ 40 :: _; simp)
  | a n => exact x_no hx (c := 91) (by decide) (by rw [he]; show 91 ∈ _ ++ 91 :: _; simp)
  | f Q => exact x_no hx (c := 40) (by decide) (by rw [he]; show 40 ∈ _ ++ 40 :: _; simp)
theorem star_p {x : List UInt8} {l : List Op} : (E (.p :: l) x).head? = some 42 := rfl
/-- One way alone. -/
theorem dec_E (x : List UInt8) (hx : x.all wrd8 = true) : ∀ (l l' : List Op), VL l → VL l' → E l x = E l' x → l = l'
  | [], [], _, _, _ => rfl
  | [], o :: l', _, _, he => absurd he (nil_cons x hx)
  | o :: l, [], _, _, he => absurd he.symm (nil_cons x hx)
  | .p :: l, .p :: l', h, h', he => by
    rw [dec_E x hx l l' h.1 h'.1 (List.cons.inj (show (42 : UInt8) :: E l x = 42 :: E l' x from he)).2]
  | .p :: l, .b :: l', h, h', he => absurd (show (E (.b :: l') x).head? = some 42 by rw [← he]; rfl) (no_star x hx _ h' (by simp))
  | .p :: l, .a n :: l', h, h', he => absurd (show (E (.a n :: l') x).head? = some 42 by rw [← he]; rfl) (no_star x hx _ h' (by simp))
  | .p :: l, .f Q :: l', h, h', he => absurd (show (E (.f Q :: l') x).head? = some 42 by rw [← he]; rfl) (no_star x hx _ h' (by simp))
  | .b :: l, .p :: l', h, h', he => absurd (show (E (.b :: l) x).head? = some 42 by rw [he]; rfl) (no_star x hx _ h (by simp))
  | .a n :: l, .p :: l', h, h', he => absurd (show (E (.a n :: l) x).head? = some 42 by rw [he]; rfl) (no_star x hx _ h (by simp))
  | .f Q :: l, .p :: l', h, h', he => absurd (show (E (.f Q :: l) x).head? = some 42 by rw [he]; rfl) (no_star x hx _ h (by simp))
  | .b :: l, .b :: l', h, h', he => by
    have h1 := (List.cons.inj (show (40 : UInt8) :: (42 :: E l x ++ [41]) = 40 :: (42 :: E l' x ++ [41]) from he)).2
    have h2 := (List.cons.inj (List.append_cancel_right h1)).2
    rw [dec_E x hx l l' h.1 h'.1 h2]
  | .b :: l, .a n :: l', h, h', he => by
    have h1 := b_last (E l x)
    have h2 := a_last n (E l' x)
    have he' : app .b (E l x) = app (.a n) (E l' x) := he
    rw [he', h2] at h1
    exact absurd h1 (by decide)
  | .a n :: l, .b :: l', h, h', he => by
    have h1 := b_last (E l' x)
    have h2 := a_last n (E l x)
    have he' : app (.a n) (E l x) = app .b (E l' x) := he
    rw [← he', h2] at h1
    exact absurd h1 (by decide)
  | .b :: l, .f Q :: l', h, h', he => absurd he.symm (f_b x hx h' h)
  | .f Q :: l, .b :: l', h, h', he => absurd he (f_b x hx h h')
  | .a n :: l, .a m :: l', h, h', he => by
    have he' : E l x ++ 91 :: (Lib.decDigits n ++ [93]) = E l' x ++ 91 :: (Lib.decDigits m ++ [93]) := he
    have hno : ∀ k, (91 : UInt8) ∉ Lib.decDigits k ++ [93] := fun k hk => by
      rcases List.mem_append.1 hk with h1 | h1
      · exact (dec_not k h1).2.2.2.1 rfl
      · rw [List.mem_singleton] at h1; exact absurd h1 (by decide)
    obtain ⟨h1, h2⟩ := last_split he' (hno n) (hno m)
    rw [dec_E x hx l l' h.1 h'.1 h1, dec_inj (List.append_cancel_right h2)]
  | .a n :: l, .f Q :: l', h, h', he => by
    have h1 := f_last Q (E l' x)
    have h2 := a_last n (E l x)
    have he' : app (.a n) (E l x) = app (.f Q) (E l' x) := he
    rw [← he', h2] at h1
    exact absurd h1 (by decide)
  | .f Q :: l, .a n :: l', h, h', he => by
    have h1 := f_last Q (E l x)
    have h2 := a_last n (E l' x)
    have he' : app (.f Q) (E l x) = app (.a n) (E l' x) := he
    rw [he', h2] at h1
    exact absurd h1 (by decide)
  | .f Q :: l, .f R :: l', h, h', he => by
    have he' : app (.f Q) (E l x) = app (.f R) (E l' x) := he
    have h1 := f_mt Q (E l x) h.2.1
    have h2 := f_mt R (E l' x) h'.2.1
    rw [he', h2] at h1
    have h3 : E l x = E l' x := by
      have := congrArg List.reverse h1
      simpa using this.symm
    have h4 : E l x ++ 40 :: (Q ++ [41]) = E l' x ++ 40 :: (R ++ [41]) := he'
    rw [h3] at h4
    have h5 := (List.cons.inj (List.append_cancel_left h4)).2
    rw [dec_E x hx l l' h.1 h'.1 h3, List.append_cancel_right h5]
end Go.Proofs.YtacbjhbiaaieoaaGreatDoor
/-! Plain: right types that are not the same are not declared the same. -/
namespace Go.Proofs.YtacbjhbiaaieoaaGreatDoor
set_option linter.unusedVariables false
set_option linter.unusedSimpArgs false

def wordC (c : UInt8) : List UInt8 :=
  if c = 118 then [118, 111, 105, 100] else if c = 99 then [99, 104, 97, 114] else if c = 115 then [115, 104, 111, 114, 116] else if c = 105 then [105, 110, 116]
  else if c = 117 then [117, 110, 115, 105, 103, 110, 101, 100] else [106, 109, 112, 95, 98, 117, 102]
def tailD (x : List UInt8) : List UInt8 := if x = [] then [] else 32 :: x
def Ty.tight : Ty → Bool
  | .arr _ _ => true
  | .fn _ _ => true
  | _ => false
def Ty.scal : Ty → Bool
  | .base c => c == 99 || c == 115 || c == 105 || c == 117
  | .ptr _ => true
  | _ => false
def Ty.isFn : Ty → Bool
  | .fn _ _ => true
  | _ => false
mutual
/-- The declaration of what stands in x as a type. -/
def dcl : Ty → List UInt8 → List UInt8
  | .base c, x => wordC c ++ tailD x
  | .str s, x => [115, 116, 114, 117, 99, 116, 32] ++ (s ++ tailD x)
  | .ptr t, x => dcl t (app (if t.tight then .b else .p) x)
  | .arr n t, x => dcl t (app (.a n) x)
  | .fn .nil r, x => dcl r (app (.f [118, 111, 105, 100]) x)
  | .fn (.cons t ts) r, x => dcl r (app (.f (dcl t [] ++ parsT ts)) x)
def parsT : Tys → List UInt8
  | .nil => []
  | .cons t ts => 44 :: 32 :: (dcl t [] ++ parsT ts)
end
def pars : Tys → List UInt8
  | .nil => [118, 111, 105, 100]
  | .cons t ts => dcl t [] ++ parsT ts
theorem dcl_fn (ps : Tys) (r : Ty) (x : List UInt8) : dcl (.fn ps r) x = dcl r (app (.f (pars ps)) x) := by
  cases ps <;> rfl
mutual
def Ty.rt : Ty → Prop
  | .base c => baseC c = true
  | .str s => nameB s = true
  | .ptr t => t.rt
  | .arr _ t => t.rt ∧ t.isFn = false
  | .fn ps r => ps.rt ∧ r.rt ∧ r.tight = false
def Tys.rt : Tys → Prop
  | .nil => True
  | .cons t ts => (t.rt ∧ t.scal = true) ∧ ts.rt
end
/-- What stands ahead of the first comma that is in no brackets. -/
def sp : Nat → List UInt8 → List UInt8
  | _, [] => []
  | d, c :: r => if c = 44 ∧ d = 0 then [] else c :: sp (if c = 40 then d + 1 else if c = 41 then d - 1 else d) r
def NC (P : List UInt8) : Prop := ∀ (d : Nat) (r : List UInt8), sp d (P ++ r) = P ++ sp d r
def NC1 (P : List UInt8) : Prop := ∀ (d : Nat) (r : List UInt8), sp (d + 1) (P ++ r) = P ++ sp (d + 1) r
theorem NC.nil : NC [] := fun _ _ => rfl
theorem NC.app {P Q : List UInt8} (h : NC P) (h2 : NC Q) : NC (P ++ Q) := fun d r => by rw [List.append_assoc, h, h2, List.append_assoc]
theorem NC1.app {P Q : List UInt8} (h : NC1 P) (h2 : NC1 Q) : NC1 (P ++ Q) := fun d r => by rw [List.append_assoc, h, h2, List.append_assoc]
theorem NC.one {c : UInt8} (h1 : c ≠ 44) (h2 : c ≠ 40) (h3 : c ≠ 41) : NC [c] := fun d r => by
  show sp d (c :: r) = _
  conv => lhs; unfold sp
  rw [if_neg (fun h => h1 h.1), if_neg h2, if_neg h3]
  rfl
theorem NC.flat : ∀ (l : List UInt8), (∀ c ∈ l, c ≠ 44 ∧ c ≠ 40 ∧ c ≠ 41) → NC l
  | [], _ => NC.nil
  | c :: l, h => (NC.one (h c List.mem_cons_self).1 (h c List.mem_cons_self).2.1 (h c List.mem_cons_self).2.2).app (NC.flat l (fun x hx => h x (List.mem_cons_of_mem _ hx)))
theorem NC.to1 {P : List UInt8} (h : NC P) : NC1 P := fun d r => h (d + 1) r
theorem NC1.comma : NC1 [44] := fun d r => by
  show sp (d + 1) (44 :: r) = _
  conv => lhs; unfold sp
  rw [if_neg (by omega), if_neg (by decide), if_neg (by decide)]
  rfl
theorem NC1.br {Q : List UInt8} (h : NC1 Q) : NC (40 :: (Q ++ [41])) := fun d r => by
  have e : (40 :: (Q ++ [41])) ++ r = 40 :: (Q ++ 41 :: r) := by simp
  rw [e]
  conv => lhs; unfold sp
  rw [if_neg (fun h => absurd h.1 (by decide)), if_pos rfl, h]
  conv => lhs; unfold sp
  rw [if_neg (by omega), if_neg (by decide), if_pos rfl]
  simp
theorem op_NC {x : List UInt8} (h : NC x) : ∀ (o : Op), (∀ Q, o = .f Q → NC1 Q) → NC (app o x)
  | .p, _ => (NC.one (by decide) (by decide) (by decide) : NC [42]).app h
  | .b, _ => NC1.br ((NC.one (by decide) (by decide) (by decide) : NC [42]).app h).to1
  | .a n, _ => h.app (NC.flat _ (fun c hc => by
      rcases List.mem_cons.1 hc with rfl | hc
      · exact ⟨by decide, by decide, by decide⟩
      · rcases List.mem_append.1 hc with hc | hc
        · have := dec_not n hc; exact ⟨this.2.2.2.2.2.2, this.1, this.2.1⟩
        · rw [List.mem_singleton] at hc; rw [hc]; exact ⟨by decide, by decide, by decide⟩))
  | .f Q, hq => h.app (NC1.br (hq Q rfl))
theorem op_Bal {x : List UInt8} (h : Bal x) : ∀ (o : Op), (∀ Q, o = .f Q → Bal Q) → Bal (app o x)
  | .p, _ => (Bal.one (by decide) (by decide) : Bal [42]).app h
  | .b, _ => Bal.br ((Bal.one (by decide) (by decide) : Bal [42]).app h)
  | .a n, _ => h.app (Bal.flat _ (fun c hc => by
      rcases List.mem_cons.1 hc with rfl | hc
      · exact ⟨by decide, by decide⟩
      · rcases List.mem_append.1 hc with hc | hc
        · have := dec_not n hc; exact ⟨this.2.1, this.1⟩
        · rw [List.mem_singleton] at hc; rw [hc]; exact ⟨by decide, by decide⟩))
  | .f Q, hq => h.app (Bal.br (hq Q rfl))
theorem word_flat (c : UInt8) : ∀ d ∈ wordC c, d ≠ 44 ∧ d ≠ 40 ∧ d ≠ 41 ∧ d ≠ 32 ∧ d ≠ 42 := by
  unfold wordC
  (repeat' split) <;> decide
theorem name_flat {s : List UInt8} (h : nameB s = true) : ∀ d ∈ s, d ≠ 44 ∧ d ≠ 40 ∧ d ≠ 41 ∧ d ≠ 32 ∧ d ≠ 42 := fun d hd => by
  have := wrd_not (List.all_eq_true.1 (name_all h).2.2.1 d hd)
  exact ⟨this.2.2.2.2.2.2, this.1, this.2.1, this.2.2.2.2.2.1, this.2.2.1⟩
theorem tail_NC {x : List UInt8} (h : NC x) : NC (tailD x) := by
  unfold tailD
  split
  · exact NC.nil
  · exact (NC.one (by decide) (by decide) (by decide) : NC [32]).app h
theorem tail_Bal {x : List UInt8} (h : Bal x) : Bal (tailD x) := by
  unfold tailD
  split
  · exact Bal.nil
  · exact (Bal.one (by decide) (by decide) : Bal [32]).app h
mutual
theorem dcl_ok : ∀ (t : Ty) (x : List UInt8), t.rt → NC x → Bal x → NC (dcl t x) ∧ Bal (dcl t x)
  | .base c, x, h, hn, hb => by
    have hw := word_flat c
    show NC (wordC c ++ tailD x) ∧ Bal (wordC c ++ tailD x)
    exact ⟨(NC.flat _ (fun d hd => ⟨(hw d hd).1, (hw d hd).2.1, (hw d hd).2.2.1⟩)).app (tail_NC hn), (Bal.flat _ (fun d hd => ⟨(hw d hd).2.2.1, (hw d hd).2.1⟩)).app (tail_Bal hb)⟩
  | .str s, x, h, hn, hb => by
    have hw := name_flat (show nameB s = true from h)
    show NC ([115, 116, 114, 117, 99, 116, 32] ++ (s ++ tailD x)) ∧ Bal ([115, 116, 114, 117, 99, 116, 32] ++ (s ++ tailD x))
    exact ⟨(NC.flat _ (by decide)).app ((NC.flat _ (fun d hd => ⟨(hw d hd).1, (hw d hd).2.1, (hw d hd).2.2.1⟩)).app (tail_NC hn)), (Bal.flat _ (by decide)).app ((Bal.flat _ (fun d hd => ⟨(hw d hd).2.2.1, (hw d hd).2.1⟩)).app (tail_Bal hb))⟩
  | .ptr t, x, h, hn, hb => by
    have ho : ∀ Q, (if t.tight then Op.b else Op.p) = .f Q → False := fun Q e => by split at e <;> cases e
    exact dcl_ok t _ h (op_NC hn _ (fun Q e => (ho Q e).elim)) (op_Bal hb _ (fun Q e => (ho Q e).elim))
  | .arr n t, x, h, hn, hb => dcl_ok t _ h.1 (op_NC hn _ (fun Q e => by cases e)) (op_Bal hb _ (fun Q e => by cases e))
  | .fn .nil r, x, h, hn, hb => dcl_ok r _ h.2.1 (op_NC hn (.f [118, 111, 105, 100]) (fun Q e => by cases e; exact (NC.flat _ (by decide)).to1)) (op_Bal hb (.f [118, 111, 105, 100]) (fun Q e => by cases e; exact Bal.flat _ (by decide)))
  | .fn (.cons t ts) r, x, h, hn, hb => by
    obtain ⟨a1, a2⟩ := dcl_ok t [] h.1.1.1 NC.nil Bal.nil
    obtain ⟨b1, b2⟩ := parsT_ok ts h.1.2
    exact dcl_ok r _ h.2.1 (op_NC hn (.f (dcl t [] ++ parsT ts)) (fun Q e => by cases e; exact a1.to1.app b1)) (op_Bal hb (.f (dcl t [] ++ parsT ts)) (fun Q e => by cases e; exact a2.app b2))
theorem parsT_ok : ∀ (ts : Tys), ts.rt → NC1 (parsT ts) ∧ Bal (parsT ts)
  | .nil, _ => ⟨NC.nil.to1, Bal.nil⟩
  | .cons t ts, h => by
    obtain ⟨a1, a2⟩ := dcl_ok t [] h.1.1 NC.nil Bal.nil
    obtain ⟨b1, b2⟩ := parsT_ok ts h.2
    show NC1 ([44] ++ ([32] ++ (dcl t [] ++ parsT ts))) ∧ Bal ([44] ++ ([32] ++ (dcl t [] ++ parsT ts)))
    exact ⟨NC1.comma.app ((NC.one (by decide) (by decide) (by decide)).to1.app (a1.to1.app b1)), (Bal.one (by decide) (by decide)).app ((Bal.one (by decide) (by decide)).app (a2.app b2))⟩
end
end Go.Proofs.YtacbjhbiaaieoaaGreatDoor
/-! Plain: right types that are not the same are not declared the same: the end. -/
namespace Go.Proofs.YtacbjhbiaaieoaaGreatDoor
set_option linter.unusedVariables false
set_option linter.unusedSimpArgs false

def Ty.O : Ty → List Op
  | .ptr t => (if t.tight then .b else .p) :: t.O
  | .arr n t => .a n :: t.O
  | .fn ps r => .f (pars ps) :: r.O
  | .base _ => []
  | .str _ => []
def Ty.core : Ty → Ty
  | .ptr t => t.core
  | .arr _ t => t.core
  | .fn _ r => r.core
  | .base c => .base c
  | .str s => .str s
def DD : List Op → List UInt8 → List UInt8
  | [], x => x
  | o :: l, x => DD l (app o x)
def bwT : Ty → List UInt8
  | .base c => wordC c
  | .str s => [115, 116, 114, 117, 99, 116] ++ 32 :: s
  | _ => []
theorem dcl_O : ∀ (t : Ty) (x : List UInt8), dcl t x = bwT t.core ++ tailD (DD t.O x)
  | .base c, x => rfl
  | .str s, x => by
    show [115, 116, 114, 117, 99, 116, 32] ++ (s ++ tailD x) = [115, 116, 114, 117, 99, 116] ++ 32 :: s ++ tailD x
    simp
  | .ptr t, x => dcl_O t _
  | .arr n t, x => dcl_O t _
  | .fn ps r, x => by rw [dcl_fn]; exact dcl_O r _
theorem DD_E (x : List UInt8) : ∀ (os l : List Op), DD os (E l x) = E (os.reverse ++ l) x
  | [], l => rfl
  | o :: os, l => by
    rw [List.reverse_cons, List.append_assoc]
    exact DD_E x os (o :: l)
theorem app_ne (o : Op) (x : List UInt8) : app o x ≠ [] := by cases o <;> simp [app]
theorem DD_ne : ∀ (os : List Op) (x : List UInt8), x ≠ [] → DD os x ≠ []
  | [], x, h => h
  | o :: os, x, _ => DD_ne os _ (app_ne o x)
theorem core_form : ∀ (t : Ty), t.rt → (∃ c, t.core = .base c ∧ baseC c = true) ∨ (∃ s, t.core = .str s ∧ nameB s = true)
  | .base c, h => .inl ⟨c, rfl, h⟩
  | .str s, h => .inr ⟨s, rfl, h⟩
  | .ptr t, h => core_form t h
  | .arr _ t, h => core_form t h.1
  | .fn _ r, h => core_form r h.2.1
theorem word_head (t : Ty) (h : t.rt) : ∃ c r, bwT t.core = c :: r ∧ c ≠ 42 := by
  rcases core_form t h with ⟨c, e, hc⟩ | ⟨s, e, _⟩
  · rw [e]
    have hw := word_flat c
    show ∃ d r, wordC c = d :: r ∧ d ≠ 42
    cases hwc : wordC c with
    | nil => exfalso; revert hwc; unfold wordC; (repeat' split) <;> simp
    | cons d r => exact ⟨d, r, rfl, (hw d (by rw [hwc]; exact List.mem_cons_self)).2.2.2.2⟩
  · rw [e]
    exact ⟨115, _, rfl, by decide⟩
theorem pars_head (ps : Tys) (h : ps.rt) : pars ps ≠ [] ∧ (pars ps).head? ≠ some 42 := by
  cases ps with
  | nil => exact ⟨by decide, by decide⟩
  | cons t ts =>
    obtain ⟨c, r, hw, hc⟩ := word_head t h.1.1
    have e : pars (.cons t ts) = c :: (r ++ tailD (DD t.O []) ++ parsT ts) := by
      show dcl t [] ++ parsT ts = _
      rw [dcl_O, hw]
      rfl
    rw [e]
    exact ⟨by simp, fun e2 => hc (by simpa using e2)⟩
theorem pars_bal (ps : Tys) (h : ps.rt) : Bal (pars ps) := by
  cases ps with
  | nil => exact Bal.flat _ (by decide)
  | cons t ts => exact (dcl_ok t [] h.1.1 NC.nil Bal.nil).2.app (parsT_ok ts h.2).2
def Ty.isArr : Ty → Bool
  | .arr _ _ => true
  | _ => false
def Fit (t : Ty) (acc : List Op) : Prop := (t.isFn = true → acc = [] ∨ acc.head? = some .b) ∧ (t.isArr = true → acc = [] ∨ acc.head? = some .b ∨ ∃ m, acc.head? = some (.a m)) ∧ (t.tight = false → acc.head? ≠ some .b)
theorem vl_O : ∀ (t : Ty) (acc : List Op), t.rt → VL acc → Fit t acc → VL (t.O.reverse ++ acc)
  | .base c, acc, _, hv, _ => hv
  | .str s, acc, _, hv, _ => hv
  | .ptr t, acc, h, hv, hf => by
    show VL ((_ :: t.O).reverse ++ acc)
    rw [List.reverse_cons, List.append_assoc]
    have hb : acc.head? ≠ some .b := hf.2.2 rfl
    refine vl_O t _ h ?_ ?_
    · cases ht : t.tight
      · rw [if_neg (by simp)]; exact ⟨hv, hb⟩
      · rw [if_pos rfl]; exact ⟨hv, hb⟩
    · cases ht : t.tight
      · rw [if_neg (by simp)]
        refine ⟨fun e => ?_, fun e => ?_, fun _ => by simp⟩
        · cases t <;> first | (cases e; done) | (cases ht; done)
        · cases t <;> first | (cases e; done) | (cases ht; done)
      · rw [if_pos rfl]
        exact ⟨fun _ => .inr rfl, fun _ => .inr (.inl rfl), fun e => (by rw [ht] at e; cases e)⟩
  | .arr n t, acc, h, hv, hf => by
    show VL ((_ :: t.O).reverse ++ acc)
    rw [List.reverse_cons, List.append_assoc]
    refine vl_O t _ h.1 ⟨hv, hf.2.1 rfl⟩ ⟨fun e => (by rw [h.2] at e; cases e), fun _ => .inr (.inr ⟨n, rfl⟩), fun _ => by simp⟩
  | .fn ps r, acc, h, hv, hf => by
    show VL ((_ :: r.O).reverse ++ acc)
    rw [List.reverse_cons, List.append_assoc]
    obtain ⟨p1, p2⟩ := pars_head ps h.1
    refine vl_O r _ h.2.1 ⟨hv, pars_bal ps h.1, p1, p2, hf.1 rfl⟩ ⟨fun e => ?_, fun e => ?_, fun _ => by simp⟩
    · have := h.2.2
      cases r <;> first | (cases e; done) | (cases this; done)
    · have := h.2.2
      cases r <;> first | (cases e; done) | (cases this; done)
def Tl (T : List UInt8) : Prop := T = [] ∨ ∃ r, T = 32 :: r
theorem tl_tail (x : List UInt8) : Tl (tailD x) := by
  unfold tailD
  split
  · exact .inl rfl
  · exact .inr ⟨_, rfl⟩
theorem tail_inj {x y : List UInt8} (h : tailD x = tailD y) : x = y := by
  unfold tailD at h
  split at h
  · split at h
    · rename_i a b; rw [a, b]
    · cases h
  · split at h
    · cases h
    · exact (List.cons.inj h).2
theorem first_split {A B P Q : List UInt8} {c : UInt8} (h : A ++ c :: P = B ++ c :: Q) (hp : c ∉ A) (hq : c ∉ B) : A = B ∧ P = Q := by
  rcases List.append_eq_append_iff.1 h with ⟨a', h1, h2⟩ | ⟨c', h1, h2⟩
  · cases a' with
    | nil => simp at h1 h2; exact ⟨h1.symm, h2⟩
    | cons d a' =>
      simp at h2
      exact absurd (show c ∈ B by rw [h1, h2.1]; simp) hq
  · cases c' with
    | nil => simp at h1 h2; exact ⟨h1, h2.symm⟩
    | cons d c' =>
      simp at h2
      exact absurd (show c ∈ A by rw [h1, h2.1]; simp) hp
theorem cut32 {P P' T T' : List UInt8} (h : P ++ T = P' ++ T') (hp : (32 : UInt8) ∉ P) (hp' : (32 : UInt8) ∉ P') (ht : Tl T) (ht' : Tl T') : P = P' ∧ T = T' := by
  rcases ht with rfl | ⟨r, rfl⟩
  · rcases ht' with rfl | ⟨r', rfl⟩
    · simp at h; exact ⟨h, rfl⟩
    · rw [List.append_nil] at h
      exact absurd (show (32 : UInt8) ∈ P by rw [h]; simp) hp
  · rcases ht' with rfl | ⟨r', rfl⟩
    · rw [List.append_nil] at h
      exact absurd (show (32 : UInt8) ∈ P' by rw [← h]; simp) hp'
    · obtain ⟨a, b⟩ := first_split h hp hp'
      exact ⟨a, by rw [b]⟩
theorem base_mem {c : UInt8} (h : baseC c = true) : c ∈ ([118, 99, 115, 105, 117, 106] : List UInt8) := by
  unfold baseC at h
  simp only [Bool.or_eq_true, beq_iff_eq] at h
  simp only [List.mem_cons, List.not_mem_nil, or_false]
  rcases h with ((((h | h) | h) | h) | h) | h <;> simp [h]
theorem word_inj {t u : Ty} (ht : t.rt) (hu : u.rt) {D D' : List UInt8} (h : bwT t.core ++ tailD D = bwT u.core ++ tailD D') : t.core = u.core ∧ D = D' := by
  have w32 : ∀ c, (32 : UInt8) ∉ wordC c := fun c hc => (word_flat c 32 hc).2.2.2.1 rfl
  have hs : (32 : UInt8) ∉ ([115, 116, 114, 117, 99, 116] : List UInt8) := by decide
  rcases core_form t ht with ⟨c, e, hc⟩ | ⟨s, e, hn⟩
  · rcases core_form u hu with ⟨c', e', hc'⟩ | ⟨s', e', hn'⟩
    · rw [e, e'] at h ⊢
      obtain ⟨a, b⟩ := cut32 (show wordC c ++ _ = wordC c' ++ _ from h) (w32 c) (w32 c') (tl_tail _) (tl_tail _)
      have hi : ∀ c ∈ ([118, 99, 115, 105, 117, 106] : List UInt8), ∀ c' ∈ ([118, 99, 115, 105, 117, 106] : List UInt8), wordC c = wordC c' → c = c' := by decide
      rw [hi c (base_mem hc) c' (base_mem hc') a]
      exact ⟨rfl, tail_inj b⟩
    · rw [e, e'] at h
      have h' : wordC c ++ tailD D = [115, 116, 114, 117, 99, 116] ++ 32 :: (s' ++ tailD D') := by
        rw [show wordC c ++ tailD D = bwT (.base c) ++ tailD D from rfl, h]
        show [115, 116, 114, 117, 99, 116] ++ 32 :: s' ++ tailD D' = _
        simp
      obtain ⟨a, _⟩ := cut32 h' (w32 c) hs (tl_tail _) (.inr ⟨_, rfl⟩)
      have hi : ∀ c ∈ ([118, 99, 115, 105, 117, 106] : List UInt8), wordC c ≠ [115, 116, 114, 117, 99, 116] := by decide
      exact absurd a (hi c (base_mem hc))
  · rcases core_form u hu with ⟨c', e', hc'⟩ | ⟨s', e', hn'⟩
    · rw [e, e'] at h
      have h' : [115, 116, 114, 117, 99, 116] ++ 32 :: (s ++ tailD D) = wordC c' ++ tailD D' := by
        rw [show wordC c' ++ tailD D' = bwT (.base c') ++ tailD D' from rfl, ← h]
        show _ = [115, 116, 114, 117, 99, 116] ++ 32 :: s ++ tailD D
        simp
      obtain ⟨a, _⟩ := cut32 h' hs (w32 c') (.inr ⟨_, rfl⟩) (tl_tail _)
      have hi : ∀ c ∈ ([118, 99, 115, 105, 117, 106] : List UInt8), wordC c ≠ [115, 116, 114, 117, 99, 116] := by decide
      exact absurd a.symm (hi c' (base_mem hc'))
    · rw [e, e'] at h ⊢
      have h' : [115, 116, 114, 117, 99, 116] ++ 32 :: (s ++ tailD D) = [115, 116, 114, 117, 99, 116] ++ 32 :: (s' ++ tailD D') := by
        have h2 : [115, 116, 114, 117, 99, 116] ++ 32 :: s ++ tailD D = [115, 116, 114, 117, 99, 116] ++ 32 :: s' ++ tailD D' := h
        simpa using h2
      have h2 := (List.cons.inj (List.append_cancel_left h')).2
      obtain ⟨a, b⟩ := cut32 h2 (fun hm => (name_flat hn 32 hm).2.2.2.1 rfl) (fun hm => (name_flat hn' 32 hm).2.2.2.1 rfl) (tl_tail _) (tl_tail _)
      rw [a]
      exact ⟨rfl, tail_inj b⟩
theorem fit_nil (t : Ty) : Fit t [] := ⟨fun _ => .inl rfl, fun _ => .inl rfl, fun _ => by simp⟩
theorem red {t u : Ty} (ht : t.rt) (hu : u.rt) {x : List UInt8} (hx : x.all wrd8 = true) (h : dcl t x = dcl u x) : t.O = u.O ∧ t.core = u.core := by
  rw [dcl_O t x, dcl_O u x] at h
  obtain ⟨a, b⟩ := word_inj ht hu h
  refine ⟨?_, a⟩
  have h1 := DD_E x t.O []
  have h2 := DD_E x u.O []
  have b' : DD t.O (E [] x) = DD u.O (E [] x) := b
  rw [h1, h2] at b'
  have h3 := dec_E x hx _ _ (vl_O t [] ht trivial (fit_nil t)) (vl_O u [] hu trivial (fit_nil u)) b'
  rw [List.append_nil, List.append_nil] at h3
  exact List.reverse_inj.1 h3
theorem sp_pars (ts : Tys) : sp 0 (parsT ts) = [] := by
  cases ts with
  | nil => rfl
  | cons t ts =>
    show sp 0 (44 :: _) = []
    unfold sp
    rw [if_pos ⟨rfl, rfl⟩]
theorem pars_split {t u : Ty} {ts us : Tys} (ht : t.rt) (hu : u.rt) (h : dcl t [] ++ parsT ts = dcl u [] ++ parsT us) : dcl t [] = dcl u [] ∧ parsT ts = parsT us := by
  have h1 := congrArg (sp 0) h
  rw [(dcl_ok t [] ht NC.nil Bal.nil).1, (dcl_ok u [] hu NC.nil Bal.nil).1, sp_pars, sp_pars, List.append_nil, List.append_nil] at h1
  rw [h1] at h
  exact ⟨h1, List.append_cancel_left h⟩
theorem void_not {u : Ty} {us : Tys} (hu : u.rt) (hs : u.scal = true) (h : [118, 111, 105, 100] = dcl u [] ++ parsT us) : False := by
  have h1 := congrArg (sp 0) h
  rw [(dcl_ok u [] hu NC.nil Bal.nil).1, sp_pars, List.append_nil] at h1
  have h2 : dcl u [] = [118, 111, 105, 100] := by rw [← h1]; rfl
  cases u with
  | base c =>
    have hc : c = 99 ∨ c = 115 ∨ c = 105 ∨ c = 117 := by
      have h3 : (c == 99 || c == 115 || c == 105 || c == 117) = true := hs
      simp only [Bool.or_eq_true, beq_iff_eq] at h3
      rcases h3 with ((h3 | h3) | h3) | h3 <;> simp [h3]
    rcases hc with rfl | rfl | rfl | rfl <;> exact absurd h2 (by decide)
  | ptr t =>
    rw [dcl_O] at h2
    have h3 : DD (Ty.ptr t).O [] ≠ [] := by
      show DD t.O (app _ []) ≠ []
      exact DD_ne _ _ (app_ne _ _)
    have h4 : (32 : UInt8) ∈ ([118, 111, 105, 100] : List UInt8) := by
      rw [← h2]
      unfold tailD
      rw [if_neg h3]
      simp
    exact absurd h4 (by decide)
  | arr n t => cases hs
  | str s => cases hs
  | fn ps r => cases hs
theorem b_p (t : Ty) : (if t.tight then Op.b else Op.p) = .b ∨ (if t.tight then Op.b else Op.p) = .p := by
  cases t.tight <;> simp
mutual
theorem O_inj : ∀ (t u : Ty), t.rt → u.rt → t.O = u.O → t.core = u.core → t = u
  | .base c, u, _, _, hO, hc => by
    cases u with
    | base c' => exact hc
    | str s => exact hc
    | ptr u => cases hO
    | arr n u => cases hO
    | fn ps r => cases hO
  | .str s, u, _, _, hO, hc => by
    cases u with
    | base c' => exact hc
    | str s => exact hc
    | ptr u => cases hO
    | arr n u => cases hO
    | fn ps r => cases hO
  | .ptr t, u, ht, hu, hO, hc => by
    cases u with
    | base c' => cases hO
    | str s => cases hO
    | ptr u => rw [O_inj t u ht hu (List.cons.inj hO).2 hc]
    | arr n u =>
      have h1 := (List.cons.inj hO).1
      rcases b_p t with h2 | h2 <;> (rw [h2] at h1; cases h1)
    | fn ps r =>
      have h1 := (List.cons.inj hO).1
      rcases b_p t with h2 | h2 <;> (rw [h2] at h1; cases h1)
  | .arr n t, u, ht, hu, hO, hc => by
    cases u with
    | base c' => cases hO
    | str s => cases hO
    | ptr u =>
      have h1 := (List.cons.inj hO).1
      rcases b_p u with h2 | h2 <;> (rw [h2] at h1; cases h1)
    | arr m u =>
      have h1 : Op.a n = Op.a m := (List.cons.inj hO).1
      injection h1 with h1
      rw [h1, O_inj t u ht.1 hu.1 (List.cons.inj hO).2 hc]
    | fn ps r =>
      have h1 : Op.a n = Op.f _ := (List.cons.inj hO).1
      cases h1
  | .fn ps r, u, ht, hu, hO, hc => by
    cases u with
    | base c' => cases hO
    | str s => cases hO
    | ptr u =>
      have h1 := (List.cons.inj hO).1
      rcases b_p u with h2 | h2 <;> (rw [h2] at h1; cases h1)
    | arr m u =>
      have h1 : Op.f _ = Op.a m := (List.cons.inj hO).1
      cases h1
    | fn qs r' =>
      have h1 : Op.f (pars ps) = Op.f (pars qs) := (List.cons.inj hO).1
      injection h1 with h1
      rw [pars_inj ps qs ht.1 hu.1 h1, O_inj r r' ht.2.1 hu.2.1 (List.cons.inj hO).2 hc]
theorem pars_inj : ∀ (ps qs : Tys), ps.rt → qs.rt → pars ps = pars qs → ps = qs
  | .nil, qs, _, hq, h => by
    cases qs with
    | nil => rfl
    | cons u us => exact (void_not hq.1.1 hq.1.2 h).elim
  | .cons t ts, qs, hp, hq, h => by
    cases qs with
    | nil => exact (void_not hp.1.1 hp.1.2 h.symm).elim
    | cons u us =>
      obtain ⟨h1, h2⟩ := pars_split hp.1.1 hq.1.1 h
      obtain ⟨a, b⟩ := red hp.1.1 hq.1.1 (x := []) rfl h1
      rw [O_inj t u hp.1.1 hq.1.1 a b, parsT_inj ts us hp.2 hq.2 h2]
theorem parsT_inj : ∀ (ts us : Tys), ts.rt → us.rt → parsT ts = parsT us → ts = us
  | .nil, us, _, hq, h => by
    cases us with
    | nil => rfl
    | cons u us => cases h
  | .cons t ts, us, hp, hq, h => by
    cases us with
    | nil => cases h
    | cons u us =>
      have h0 := (List.cons.inj (List.cons.inj (show (44 : UInt8) :: 32 :: (dcl t [] ++ parsT ts) = 44 :: 32 :: (dcl u [] ++ parsT us) from h)).2).2
      obtain ⟨h1, h2⟩ := pars_split hp.1.1 hq.1.1 h0
      obtain ⟨a, b⟩ := red hp.1.1 hq.1.1 (x := []) rfl h1
      rw [O_inj t u hp.1.1 hq.1.1 a b, parsT_inj ts us hp.2 hq.2 h2]
end
/-- Right types that are declared the same are the same. -/
theorem dcl_inj {t u : Ty} (ht : t.rt) (hu : u.rt) {x : List UInt8} (hx : x.all wrd8 = true) (h : dcl t x = dcl u x) : t = u := by
  obtain ⟨a, b⟩ := red ht hu hx h
  exact O_inj t u ht hu a b
end Go.Proofs.YtacbjhbiaaieoaaGreatDoor
/-! Plain: a declaration as it is written, piece by piece; how long it is. -/
namespace Go.Proofs.YtacbjhbiaaieoaaGreatDoor
set_option linter.unusedVariables false
set_option linter.unusedSimpArgs false

/-- The types one within the other, from the outermost on, and the innermost one. -/
def spn : Ty → List Ty × Ty
  | .ptr t => (.ptr t :: (spn t).1, (spn t).2)
  | .arr n t => (.arr n t :: (spn t).1, (spn t).2)
  | .fn ps r => (.fn ps r :: (spn r).1, (spn r).2)
  | .base c => ([], .base c)
  | .str s => ([], .str s)
theorem spn_nil {t : Ty} (h : t.parts = []) : spn t = ([], t) := by
  cases t with
  | base c => rfl
  | str s => rfl
  | ptr t => cases h
  | arr n t => cases h
  | fn ps r => exact absurd h (by simp [Ty.parts])
theorem spn_cons {t : Ty} (h : t.parts ≠ []) : ∃ A u, t.parts = A ++ [u] ∧ spn t = (t :: (spn u).1, (spn u).2) ∧ u.size < t.size := by
  cases t with
  | base c => exact absurd rfl h
  | str s => exact absurd rfl h
  | ptr t => exact ⟨[], t, rfl, rfl, by show t.size < t.size + 1; omega⟩
  | arr n t => exact ⟨[], t, rfl, rfl, by show t.size < t.size + 1; omega⟩
  | fn ps r => exact ⟨ps.list, r, rfl, rfl, by show r.size < ps.size + r.size + 2; omega⟩
theorem parts_le (u : Ty) : u.parts.length ≤ u.size := by
  have hl : ∀ ts : Tys, ts.list.length ≤ ts.size := fun ts => by
    induction ts using Tys.rec (motive_1 := fun _ => True) with
    | nil => exact Nat.le_refl _
    | cons t ts _ ih => show ts.list.length + 1 ≤ t.size + ts.size + 1; omega
    | _ => trivial
  cases u with
  | base c => exact Nat.zero_le _
  | str s => exact Nat.zero_le _
  | ptr t => show 1 ≤ t.size + 1; omega
  | arr n t => show 1 ≤ t.size + 1; omega
  | fn ps r => show (ps.list ++ [r]).length ≤ ps.size + r.size + 2; have := hl ps; simp; omega
theorem spn_parts : ∀ (t : Ty) (u : Ty), u ∈ (spn t).1 → u.parts ≠ []
  | .base c, u, h => by cases h
  | .str s, u, h => by cases h
  | .ptr t, u, h => by
    rcases List.mem_cons.1 h with rfl | h
    · simp [Ty.parts]
    · exact spn_parts t u h
  | .arr n t, u, h => by
    rcases List.mem_cons.1 h with rfl | h
    · simp [Ty.parts]
    · exact spn_parts t u h
  | .fn ps r, u, h => by
    rcases List.mem_cons.1 h with rfl | h
    · simp [Ty.parts]
    · exact spn_parts r u h
theorem spn_base : ∀ (t : Ty), (spn t).2.parts = []
  | .base c => rfl
  | .str s => rfl
  | .ptr t => spn_base t
  | .arr n t => spn_base t
  | .fn ps r => spn_base r
theorem spn_wf : ∀ (t : Ty), t.wf → (spn t).2.wf
  | .base c, h => h
  | .str s, h => h
  | .ptr t, h => spn_wf t h
  | .arr n t, h => spn_wf t h.2
  | .fn ps r, h => spn_wf r h.2
theorem spn_all : ∀ (t : Ty), t.wf → ∀ u ∈ (spn t).1, u.wf ∧ u.size ≤ t.size
  | .base c, h, u, hu => by cases hu
  | .str s, h, u, hu => by cases hu
  | .ptr t, h, u, hu => by
    rcases List.mem_cons.1 hu with rfl | hu
    · exact ⟨h, Nat.le_refl _⟩
    · have := spn_all t h u hu
      exact ⟨this.1, by have := this.2; show _ ≤ t.size + 1; omega⟩
  | .arr n t, h, u, hu => by
    rcases List.mem_cons.1 hu with rfl | hu
    · exact ⟨h, Nat.le_refl _⟩
    · have := spn_all t h.2 u hu
      exact ⟨this.1, by have := this.2; show _ ≤ t.size + 1; omega⟩
  | .fn ps r, h, u, hu => by
    rcases List.mem_cons.1 hu with rfl | hu
    · exact ⟨h, Nat.le_refl _⟩
    · have := spn_all r h.2 u hu
      exact ⟨this.1, by have := this.2; show _ ≤ ps.size + r.size + 2; omega⟩
theorem spn_len : ∀ (t : Ty), (spn t).1.length ≤ t.size
  | .base c => Nat.zero_le _
  | .str s => Nat.zero_le _
  | .ptr t => by have := spn_len t; show (spn t).1.length + 1 ≤ t.size + 1; omega
  | .arr n t => by have := spn_len t; show (spn t).1.length + 1 ≤ t.size + 1; omega
  | .fn ps r => by have := spn_len r; show (spn r).1.length + 1 ≤ ps.size + r.size + 2; omega
/-- What of a type stands ahead of the name; what behind it. -/
def ahT : Ty → List UInt8
  | .ptr t => if t.tight then [40, 42] else [42]
  | _ => []
def bhT : Ty → List UInt8
  | .ptr t => if t.tight then [41] else []
  | .arr n _ => 91 :: (Lib.decDigits n ++ [93])
  | .fn ps _ => 40 :: (pars ps ++ [41])
  | _ => []
def ahR : List Ty → List UInt8
  | [] => []
  | t :: l => ahR l ++ ahT t
def bhL : List Ty → List UInt8
  | [] => []
  | t :: l => bhT t ++ bhL l
theorem ahR_drop : ∀ (L : List Ty) (i : Nat) (t : Ty), L[i]? = some t → ahR (L.drop i) = ahR (L.drop (i + 1)) ++ ahT t
  | [], i, t, h => by simp at h
  | u :: L, 0, t, h => by
    simp at h
    subst h
    rfl
  | u :: L, i + 1, t, h => ahR_drop L i t (by simpa using h)
theorem bhL_take : ∀ (L : List Ty) (i : Nat) (t : Ty), L[i]? = some t → bhL (L.take (i + 1)) = bhL (L.take i) ++ bhT t
  | [], i, t, h => by simp at h
  | u :: L, 0, t, h => by
    simp at h
    subst h
    simp [bhL]
  | u :: L, i + 1, t, h => by
    have := bhL_take L i t (by simpa using h)
    rw [List.take_succ_cons, List.take_succ_cons]
    show bhT u ++ bhL (L.take (i + 1)) = bhT u ++ bhL (L.take i) ++ bhT t
    rw [this, List.append_assoc]
theorem ahR_le : ∀ (L : List Ty) (i : Nat), (ahR (L.drop i)).length ≤ (ahR L).length
  | [], i => by simp
  | u :: L, 0 => Nat.le_refl _
  | u :: L, i + 1 => by
    have := ahR_le L i
    show (ahR (L.drop i)).length ≤ (ahR L ++ ahT u).length
    rw [List.length_append]
    omega
theorem bhL_le : ∀ (L : List Ty) (i : Nat), (bhL (L.take i)).length ≤ (bhL L).length
  | [], i => by simp
  | u :: L, 0 => Nat.zero_le _
  | u :: L, i + 1 => by
    have := bhL_le L i
    rw [List.take_succ_cons]
    show (bhT u ++ bhL (L.take i)).length ≤ (bhT u ++ bhL L).length
    rw [List.length_append, List.length_append]
    omega
def inD (t : Ty) (x : List UInt8) : List UInt8 := ahR (spn t).1 ++ (x ++ bhL (spn t).1)
theorem dcl_w : ∀ (t : Ty) (x : List UInt8), dcl t x = bwT (spn t).2 ++ tailD (inD t x)
  | .base c, x => by
    show wordC c ++ tailD x = wordC c ++ tailD ([] ++ (x ++ []))
    simp
  | .str s, x => by
    show [115, 116, 114, 117, 99, 116, 32] ++ (s ++ tailD x) = [115, 116, 114, 117, 99, 116] ++ 32 :: s ++ tailD ([] ++ (x ++ []))
    simp
  | .ptr t, x => by
    show dcl t (app (if t.tight then .b else .p) x) = bwT (spn t).2 ++ tailD (ahR (spn t).1 ++ ahT (.ptr t) ++ (x ++ (bhT (.ptr t) ++ bhL (spn t).1)))
    rw [dcl_w t]
    unfold inD
    have ha : ahT (.ptr t) = if t.tight then [40, 42] else [42] := rfl
    have hb : bhT (.ptr t) = if t.tight then [41] else [] := rfl
    rw [ha, hb]
    cases t.tight <;> simp [app]
  | .arr n t, x => by
    show dcl t (app (.a n) x) = bwT (spn t).2 ++ tailD (ahR (spn t).1 ++ ahT (.arr n t) ++ (x ++ (bhT (.arr n t) ++ bhL (spn t).1)))
    rw [dcl_w t]
    unfold inD ahT bhT
    simp [app]
  | .fn ps r, x => by
    show dcl (.fn ps r) x = bwT (spn r).2 ++ tailD (ahR (spn r).1 ++ ahT (.fn ps r) ++ (x ++ (bhT (.fn ps r) ++ bhL (spn r).1)))
    rw [dcl_fn, dcl_w r]
    unfold inD ahT bhT
    simp [app]
theorem in_ne {t : Ty} {x : List UInt8} (h : (spn t).1 ≠ [] ∨ x ≠ []) : tailD (inD t x) = 32 :: inD t x := by
  unfold tailD
  rw [if_neg]
  intro e
  unfold inD at e
  rw [List.append_eq_nil_iff, List.append_eq_nil_iff] at e
  rcases h with h | h
  · cases hA : (spn t).1 with
    | nil => exact h hA
    | cons u L =>
      have hp := spn_parts t u (by rw [hA]; exact List.mem_cons_self)
      rw [hA] at e
      obtain ⟨e1, _, e2⟩ := e
      have e3 := (List.append_eq_nil_iff.1 (show ahR L ++ ahT u = [] from e1)).2
      have e4 := (List.append_eq_nil_iff.1 (show bhT u ++ bhL L = [] from e2)).1
      cases u with
      | base c => exact hp rfl
      | str s => exact hp rfl
      | ptr t =>
        have ha : ahT (.ptr t) = if t.tight then [40, 42] else [42] := rfl
        rw [ha] at e3
        revert e3
        cases t.tight <;> simp
      | arr n t => revert e4; unfold bhT; simp
      | fn ps r => revert e4; unfold bhT; simp
  · exact h e.2.1
theorem in_nil {t : Ty} (h : (spn t).1 = []) : tailD (inD t []) = [] := by
  unfold inD
  rw [h]
  rfl
theorem word_le (c : UInt8) : (wordC c).length ≤ 8 := by
  unfold wordC
  (repeat' split) <;> decide
theorem tail_le (x : List UInt8) : (tailD x).length ≤ x.length + 1 := by
  unfold tailD
  split <;> simp
mutual
theorem dcl_len : ∀ (t : Ty) (x : List UInt8), (dcl t x).length ≤ 10 * t.code.length + x.length
  | .base c, x => by
    have h1 := word_le c
    have h2 := tail_le x
    show (wordC c ++ tailD x).length ≤ 10 * 1 + x.length
    rw [List.length_append]
    omega
  | .str s, x => by
    have h2 := tail_le x
    show ([115, 116, 114, 117, 99, 116, 32] ++ (s ++ tailD x)).length ≤ 10 * (83 :: (s ++ [59])).length + x.length
    simp only [List.length_append, List.length_cons, List.length_nil]
    omega
  | .ptr t, x => by
    have h1 := dcl_len t (app (if t.tight then .b else .p) x)
    have h2 : (app (if t.tight then .b else .p) x).length ≤ x.length + 3 := by cases t.tight <;> simp [app]
    show (dcl t _).length ≤ 10 * (112 :: t.code).length + x.length
    rw [List.length_cons]
    omega
  | .arr n t, x => by
    have h1 := dcl_len t (app (.a n) x)
    have h2 : (app (.a n) x).length = x.length + (Lib.decDigits n).length + 2 := by simp [app]; omega
    show (dcl t _).length ≤ 10 * (97 :: (Lib.decDigits n ++ 58 :: t.code)).length + x.length
    simp only [List.length_append, List.length_cons]
    omega
  | .fn .nil r, x => by
    have h1 := dcl_len r (app (.f [118, 111, 105, 100]) x)
    have h2 : (app (.f [118, 111, 105, 100]) x).length = x.length + 6 := by simp [app]
    show (dcl r _).length ≤ 10 * (102 :: 40 :: 41 :: r.code).length + x.length
    simp only [List.length_append, List.length_cons]
    omega
  | .fn (.cons t ts) r, x => by
    have h1 := dcl_len r (app (.f (dcl t [] ++ parsT ts)) x)
    have h2 : (app (.f (dcl t [] ++ parsT ts)) x).length = x.length + (dcl t []).length + (parsT ts).length + 2 := by simp [app]; omega
    have h3 := dcl_len t []
    have h4 := parsT_len ts
    show (dcl r _).length ≤ 10 * (102 :: 40 :: (t.code ++ (ts.code ++ 41 :: r.code))).length + x.length
    simp only [List.length_append, List.length_cons, List.length_nil] at h3 ⊢
    omega
theorem parsT_len : ∀ (ts : Tys), (parsT ts).length ≤ 10 * ts.code.length
  | .nil => Nat.zero_le _
  | .cons t ts => by
    have h3 := dcl_len t []
    have h4 := parsT_len ts
    show (44 :: 32 :: (dcl t [] ++ parsT ts)).length ≤ 10 * (44 :: (t.code ++ ts.code)).length
    simp only [List.length_append, List.length_cons, List.length_nil] at h3 ⊢
    omega
end
/-- A function's parameters as they are written. -/
def parsF : List Ty → List UInt8
  | [] => []
  | t :: l => dcl t [] ++ parsT (Tys.of l)
theorem of_lst : ∀ (ts : Tys), Tys.of ts.list = ts
  | .nil => rfl
  | .cons t ts => by show Tys.cons t (Tys.of ts.list) = _; rw [of_lst ts]
theorem parsF_pars (ps : Tys) (h : ps ≠ .nil) : pars ps = parsF ps.list := by
  cases ps with
  | nil => exact absurd rfl h
  | cons t ts => show dcl t [] ++ parsT ts = dcl t [] ++ parsT (Tys.of ts.list); rw [of_lst]
theorem parsT_app : ∀ (l : List Ty) (t : Ty), parsT (Tys.of (l ++ [t])) = parsT (Tys.of l) ++ 44 :: 32 :: dcl t []
  | [], t => by show 44 :: 32 :: (dcl t [] ++ []) = _; simp [parsT, Tys.of]
  | u :: l, t => by
    show 44 :: 32 :: (dcl u [] ++ parsT (Tys.of (l ++ [t]))) = 44 :: 32 :: (dcl u [] ++ parsT (Tys.of l)) ++ 44 :: 32 :: dcl t []
    rw [parsT_app l t]
    simp
theorem parsF_snoc (l : List Ty) (t : Ty) : parsF (l ++ [t]) = parsF l ++ ((if l = [] then [] else [44, 32]) ++ dcl t []) := by
  cases l with
  | nil => show dcl t [] ++ [] = [] ++ ([] ++ dcl t []); simp
  | cons u l =>
    rw [if_neg (by simp)]
    show dcl u [] ++ parsT (Tys.of (l ++ [t])) = dcl u [] ++ parsT (Tys.of l) ++ ([44, 32] ++ dcl t [])
    rw [parsT_app]
    simp
theorem parsF_take {L : List Ty} {k : Nat} {t : Ty} (h : L[k]? = some t) : parsF (L.take (k + 1)) = parsF (L.take k) ++ ((if k = 0 then [] else [44, 32]) ++ dcl t []) := by
  have hk := (List.getElem?_eq_some_iff.1 h).1
  rw [List.take_succ_eq_append_getElem hk, (List.getElem?_eq_some_iff.1 h).2, parsF_snoc]
  have hz : (L.take k = []) = (k = 0) := by
    apply propext
    constructor
    · intro e
      have := congrArg List.length e
      rw [List.length_take, List.length_nil] at this
      omega
    · rintro rfl
      rfl
  simp only [hz]
theorem parsT_take_le : ∀ (l : List Ty) (k : Nat), (parsT (Tys.of (l.take k))).length ≤ (parsT (Tys.of l)).length
  | [], k => by simp
  | u :: l, 0 => Nat.zero_le _
  | u :: l, k + 1 => by
    have := parsT_take_le l k
    rw [List.take_succ_cons]
    show (44 :: 32 :: (dcl u [] ++ parsT (Tys.of (l.take k)))).length ≤ (44 :: 32 :: (dcl u [] ++ parsT (Tys.of l))).length
    simp only [List.length_cons, List.length_append]
    omega
theorem parsF_take_le (L : List Ty) (k : Nat) : (parsF (L.take k)).length ≤ (parsF L).length := by
  cases L with
  | nil => simp
  | cons u l =>
    cases k with
    | zero => exact Nat.zero_le _
    | succ k =>
      have := parsT_take_le l k
      rw [List.take_succ_cons]
      show (dcl u [] ++ parsT (Tys.of (l.take k))).length ≤ (dcl u [] ++ parsT (Tys.of l)).length
      rw [List.length_append, List.length_append]
      omega
theorem parts_fn (ps : Tys) (r : Ty) : (Ty.fn ps r).parts = ps.list ++ [r] := rfl
theorem lst_size_le : ∀ (ts : Tys) (u : Ty), u ∈ ts.list → u.size < ts.size + 1
  | .nil, u, h => by cases h
  | .cons t ts, u, h => by
    rcases List.mem_cons.1 h with rfl | h
    · show u.size < u.size + ts.size + 1 + 1
      omega
    · have := lst_size_le ts u h
      show u.size < t.size + ts.size + 1 + 1
      omega
theorem lst_wf : ∀ (ts : Tys) (u : Ty), ts.wf → u ∈ ts.list → u.wf
  | .nil, u, hw, h => by cases h
  | .cons t ts, u, hw, h => by
    rcases List.mem_cons.1 h with rfl | h
    · exact hw.1
    · exact lst_wf ts u hw.2 h
theorem lst_code : ∀ (ts : Tys) (u : Ty), u ∈ ts.list → u.code.length ≤ ts.code.length
  | .nil, u, h => by cases h
  | .cons t ts, u, h => by
    rcases List.mem_cons.1 h with rfl | h
    · show u.code.length ≤ (44 :: (u.code ++ ts.code)).length
      simp
      omega
    · have := lst_code ts u h
      show u.code.length ≤ (44 :: (t.code ++ ts.code)).length
      simp
      omega
theorem lst_code_le (ps : Tys) (r u : Ty) (h : u ∈ ps.list) : u.code.length ≤ (Ty.fn ps r).code.length := by
  cases ps with
  | nil => cases h
  | cons t ts =>
    have e : (Ty.fn (.cons t ts) r).code.length = t.code.length + ts.code.length + r.code.length + 3 := by
      show (102 :: 40 :: (t.code ++ (ts.code ++ 41 :: r.code))).length = _
      simp
      omega
    rcases List.mem_cons.1 h with rfl | h
    · omega
    · have := lst_code ts u h
      omega
end Go.Proofs.YtacbjhbiaaieoaaGreatDoor
