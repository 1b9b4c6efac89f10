/-
  Plain: tokens that are laid are read as they were.
-/
import Derived.Test.YtbccabpcljkamaaDoorLexBk1
import Derived.Lib.ItoaMem
namespace Go.Proofs.YtbccabpcljkamaaDoor
set_option linter.unusedVariables false
set_option linter.unusedSimpArgs false

def Good (r : List UInt8) : Prop := r = [] ∨ ∃ t, r = 32 :: t
theorem tw_good {w r : List UInt8} (hw : w.all wrd8 = true) (hr : Good r) : (w ++ r).takeWhile wrd8 = w ∧ (w ++ r).drop w.length = r := by
  refine ⟨?_, by rw [List.drop_left]⟩
  rw [List.takeWhile_append_of_pos (fun a ha => List.all_eq_true.1 hw a ha)]
  rcases hr with rfl | ⟨t, rfl⟩
  · simp
  · rw [List.takeWhile_cons, if_neg (by decide), List.append_nil]
theorem app_first {w r : List UInt8} (hw : w ≠ []) : (w ++ r)[0]?.getD 0 = w[0]?.getD 0 := by
  cases w with
  | nil => exact absurd rfl hw
  | cons c t => rfl
theorem word_parts {w : List UInt8} (h : wordB w = true) : w ≠ [] ∧ ltr8 (w[0]?.getD 0) = true ∧ w.all wrd8 = true := by
  unfold wordB at h
  simp only [Bool.and_eq_true, decide_eq_true_eq] at h
  exact ⟨h.1.1, h.1.2, h.2⟩
theorem key_parts {w : List UInt8} (h : keyB w = true) : w ≠ [] ∧ ltr8 (w[0]?.getD 0) = true ∧ w.all wrd8 = true := by
  unfold keyB at h
  have h1 : w ∈ keyTab := by simpa using h
  have h2 : ∀ w ∈ keyTab, w ≠ [] ∧ ltr8 (w[0]?.getD 0) = true ∧ w.all wrd8 = true := by decide +kernel
  exact h2 w h1
theorem rd_word {w r : List UInt8} (h : w ≠ [] ∧ ltr8 (w[0]?.getD 0) = true ∧ w.all wrd8 = true) (hr : Good r) : tokR (w ++ r) = if keyB w then .ok 2 0 w r else if 31 < w.length then .bad 3 (w ++ r) else .ok 1 0 w r := by
  obtain ⟨h1, h2, h3⟩ := h
  obtain ⟨h4, h5⟩ := tw_good h3 hr
  unfold tokR wordT
  rw [app_first h1, h2, if_pos rfl, h4, h5]
/-! ### Numbers -/
theorem bk_u8 (k : Nat) (h : k < 10) : (UInt8.ofNat (48 + k)).toNat = 48 + k := by
  rw [UInt8.toNat_ofNat']
  omega
theorem bk_small (m : Nat) (h : m < 10) : Lib.decDigits m = [UInt8.ofNat (48 + m)] := by rw [Lib.decDigits, dif_pos h]
theorem bk_great (m : Nat) (h : ¬ m < 10) : Lib.decDigits m = Lib.decDigits (m / 10) ++ [UInt8.ofNat (48 + m % 10)] := by rw [Lib.decDigits, dif_neg h]
theorem bk_digits : ∀ (n u : Nat), u ≤ n → ∀ c ∈ Lib.decDigits u, 48 ≤ c.toNat ∧ c.toNat ≤ 57
  | 0, u, hu, c, hc => by
    rw [bk_small u (by omega), List.mem_singleton] at hc
    rw [hc, bk_u8 _ (by omega)]
    omega
  | n + 1, u, hu, c, hc => by
    by_cases h : u < 10
    · rw [bk_small u h, List.mem_singleton] at hc
      rw [hc, bk_u8 _ h]
      omega
    · rw [bk_great u h] at hc
      rcases List.mem_append.1 hc with h1 | h1
      · exact bk_digits n (u / 10) (by omega) c h1
      · rw [List.mem_singleton] at h1
        rw [h1, bk_u8 _ (by omega)]
        omega
theorem bk_dne (u : Nat) : Lib.decDigits u ≠ [] := by
  rw [Lib.decDigits]
  split <;> simp
theorem bk_head0 : ∀ (n u : Nat), u ≤ n → 1 ≤ u → (Lib.decDigits u)[0]?.getD 0 ≠ 48
  | 0, u, h, h1 => by omega
  | n + 1, u, h, h1 => by
    by_cases h10 : u < 10
    · rw [bk_small u h10]
      intro e
      have e2 : UInt8.ofNat (48 + u) = 48 := e
      have := bk_u8 u h10
      rw [e2] at this
      have : (48 : UInt8).toNat = 48 := rfl
      omega
    · have ih := bk_head0 n (u / 10) (by omega) (by omega)
      rw [bk_great u h10, app_first (bk_dne _)]
      exact ih
theorem parse_app (M : Nat) : ∀ (l m : List UInt8) (acc n : Nat), Lib.parseUintM M acc l = .ok n → Lib.parseUintM M acc (l ++ m) = Lib.parseUintM M n m
  | [], m, acc, n, h => by
    unfold Lib.parseUintM at h
    cases h
    rfl
  | b :: r, m, acc, n, h => by
    rw [List.cons_append]
    unfold Lib.parseUintM at h
    conv => lhs; unfold Lib.parseUintM
    split at h
    · rename_i h1
      rw [if_pos h1]
      split at h
      · cases h
      · rename_i h2
        rw [if_neg h2]
        split at h
        · cases h
        · rename_i h3
          rw [if_neg h3]
          exact parse_app M r m _ n h
    · cases h
theorem parse_one (M acc k : Nat) (hk : k < 10) (h1 : acc < 1844674407370955162) (h2 : acc * 10 + k ≤ M) : Lib.parseUintM M acc [UInt8.ofNat (48 + k)] = .ok (acc * 10 + k) := by
  unfold Lib.parseUintM
  have e := bk_u8 k hk
  rw [e, if_pos (by omega), if_neg (by omega), if_neg (by omega)]
  unfold Lib.parseUintM
  congr 1
  omega
theorem parse_digits (M : Nat) (hM : M ≤ 4294967295) : ∀ (n u : Nat), u ≤ n → u ≤ M → Lib.parseUintM M 0 (Lib.decDigits u) = .ok u
  | 0, u, hu, hm => by
    rw [bk_small u (by omega), parse_one M 0 u (by omega) (by omega) (by omega)]
    congr 1
    omega
  | n + 1, u, hu, hm => by
    by_cases h : u < 10
    · rw [bk_small u h, parse_one M 0 u h (by omega) (by omega)]
      congr 1
      omega
    · rw [bk_great u h, parse_app M _ _ 0 (u / 10) (parse_digits M hM n (u / 10) (by omega) (by omega)), parse_one M _ _ (by omega) (by omega) (by omega)]
      congr 1
      omega
theorem size_digits (u : Nat) (hu : u ≤ 4294967295) : sizeP (Lib.decDigits u) = some u := by
  have hd := bk_digits u u (Nat.le_refl _)
  have hp : ∀ c : UInt8, 57 < c.toNat → ([48, c] : List UInt8).isPrefixOf (Lib.decDigits u) = false := fun c hc => by
    rw [Bool.eq_false_iff]
    intro h
    have h1 : c ∈ Lib.decDigits u := (List.isPrefixOf_iff_prefix.1 h).subset (by simp)
    have := hd c h1
    omega
  unfold sizeP
  rw [hp 120 (by decide), hp 88 (by decide)]
  have h0 : ¬ (1 < (Lib.decDigits u).length ∧ (Lib.decDigits u)[0]?.getD 0 = 48) := by
    rintro ⟨h1, h2⟩
    by_cases hz : 1 ≤ u
    · exact bk_head0 u u (Nat.le_refl _) hz h2
    · rw [bk_small u (by omega)] at h1
      simp at h1
  rw [if_neg (by simp), if_neg h0]
  unfold Lib.parseUintB
  rw [if_neg (bk_dne u), parse_digits _ (by decide) u u (Nat.le_refl _) (by simpa using hu)]
  rfl
theorem trim_digits (u : Nat) (x : List UInt8) (hx : x = [] ∨ x = [117]) : trimU (Lib.decDigits u ++ x) = Lib.decDigits u := by
  have hd := bk_digits u u (Nat.le_refl _)
  unfold trimU
  rw [Lib.trimRightS_take (Lib.decDigits u ++ x) [117, 85] (Lib.decDigits u).length (by rw [List.length_append]; omega), List.take_left]
  · intro j b hj hb
    rw [List.getElem?_append_right hj] at hb
    rcases hx with rfl | rfl
    · simp at hb
    · have := List.mem_of_getElem? hb
      rw [List.mem_singleton] at this
      rw [this]
      rfl
  · intro b h0 hb
    rw [List.getElem?_append_left (by omega)] at hb
    have h1 := hd b (List.mem_of_getElem? hb)
    rw [Bool.eq_false_iff]
    intro h2
    have h3 : b = 117 ∨ b = 85 := by simpa using h2
    rcases h3 with rfl | rfl
    · have : (117 : UInt8).toNat = 117 := rfl
      omega
    · have : (85 : UInt8).toNat = 85 := rfl
      omega
theorem dig_first (u : Nat) : ∃ c t, Lib.decDigits u = c :: t ∧ dig8 c = true ∧ ltr8 c = false ∧ blk8 c = false ∧ c ≠ 34 ∧ c ≠ 47 ∧ c ≠ 39 := by
  have hd := bk_digits u u (Nat.le_refl _)
  cases h : Lib.decDigits u with
  | nil => exact absurd h (bk_dne u)
  | cons c t =>
    rw [h] at hd
    obtain ⟨h1, h2⟩ := hd c List.mem_cons_self
    have hall : ∀ c : UInt8, 48 ≤ c.toNat → c.toNat ≤ 57 → dig8 c = true ∧ ltr8 c = false ∧ blk8 c = false ∧ c ≠ 34 ∧ c ≠ 47 ∧ c ≠ 39 := by
      intro c h1 h2
      refine ⟨?_, ?_, ?_, ?_, ?_, ?_⟩
      · unfold dig8 digI; simp; omega
      · unfold ltr8 ltrI; simp; omega
      · unfold blk8 blkI; simp; omega
      · rintro rfl; exact absurd h1 (by decide)
      · rintro rfl; exact absurd h1 (by decide)
      · rintro rfl; exact absurd h1 (by decide)
    exact ⟨c, t, rfl, hall c h1 h2⟩
theorem rd_num (u : Nat) (hu : u ≤ 4294967295) (x r : List UInt8) (hx : x = [] ∨ x = [117]) (hr : Good r) : tokR ((Lib.decDigits u ++ x) ++ r) = .ok 3 u (if 2147483648 ≤ u ∨ x = [117] then [117] else []) r := by
  have hd := bk_digits u u (Nat.le_refl _)
  have ha : (Lib.decDigits u ++ x).all wrd8 = true := by
    rw [List.all_append, Bool.and_eq_true]
    refine ⟨List.all_eq_true.2 fun c hc => ?_, ?_⟩
    · obtain ⟨h1, h2⟩ := hd c hc
      unfold wrd8 dig8 digI
      simp
      omega
    · rcases hx with rfl | rfl <;> rfl
  obtain ⟨h4, h5⟩ := tw_good ha hr
  obtain ⟨c, t, hc, c1, c2, _⟩ := dig_first u
  have hf : ((Lib.decDigits u ++ x) ++ r)[0]?.getD 0 = c := by rw [hc]; rfl
  have hl : ¬ 1 < (Lib.decDigits u ++ x).length - (Lib.decDigits u).length := by
    rw [List.length_append]
    rcases hx with rfl | rfl
    · simp
    · simp
  unfold tokR
  rw [hf, c1, c2, if_neg (by simp), if_pos rfl]
  unfold numT
  rw [h4, trim_digits u x hx, size_digits u hu]
  simp only
  rw [if_neg hl, h5]
  congr 1
  have he : (Lib.decDigits u ≠ Lib.decDigits u ++ x) ↔ x = [117] := by
    rcases hx with rfl | rfl
    · simp
    · simp
  simp only [he]
/-! ### Pieces -/
theorem hex_back (x : Nat) (h : x < 16) : hexV (hexD x) = some x := by
  have : ∀ k : Fin 16, hexV (hexD k.val) = some k.val := by decide +kernel
  exact this ⟨x, h⟩
theorem rd_piece (q : UInt8) (hq : q = 39 ∨ q = 34) (most : Nat) (acc Y : List UInt8) (c : UInt8) (hl : acc.length < most) : pcsR q most acc (pc q c ++ Y) = pcsR q most (acc ++ [c]) Y := by
  have hn : ¬ acc.length = most := by omega
  have hq10 : q ≠ 10 := by rcases hq with rfl | rfl <;> decide
  have hq92 : (92 : UInt8) ≠ q := by rcases hq with rfl | rfl <;> decide
  have esc : ∀ (t : List UInt8), escP (t ++ Y) = some (c, Y) → pcsR q most acc ((92 :: t) ++ Y) = pcsR q most (acc ++ [c]) Y := by
    intro t ht
    rw [List.cons_append, pcsR_cons, if_neg (by decide), if_neg hq92]
    have : pieceP q (92 :: (t ++ Y)) = some (c, Y) := by unfold pieceP; simp only; rw [if_pos True.intro]; exact ht
    rw [this]
    simp only
    rw [if_neg hn]
  by_cases hp : plainI c.toNat q.toNat = true
  · rw [pc_plain q c hp, List.singleton_append, pcsR_cons]
    have hp2 := hp
    unfold plainI at hp2
    simp only [Bool.and_eq_true, decide_eq_true_eq, Bool.not_eq_true', beq_eq_false_iff_ne] at hp2
    have c10 : c ≠ 10 := by rintro rfl; exact absurd hp2.1.1.1 (by decide)
    have cq : c ≠ q := by rintro rfl; exact hp2.1.2 rfl
    have c92 : c ≠ 92 := by rintro rfl; exact hp2.2 (by decide)
    rw [if_neg c10, if_neg cq]
    have : pieceP q (c :: Y) = some (c, Y) := by unfold pieceP; simp only; rw [if_neg c92, if_pos hp]
    rw [this]
    simp only
    rw [if_neg hn]
  · have hp' : plainI c.toNat q.toNat = false := by simpa using hp
    by_cases h0 : c = 10
    · subst h0; rw [pc_10]; exact esc [110] rfl
    · by_cases h1 : c = 9
      · subst h1; rw [pc_9]; exact esc [116] rfl
      · by_cases h2 : c = 13
        · subst h2; rw [pc_13]; exact esc [114] rfl
        · by_cases h3 : c = 92 ∨ c = q
          · rw [pc_esc q c h0 h1 h2 h3]
            refine esc [c] ?_
            rcases h3 with rfl | rfl
            · rfl
            · rcases hq with rfl | rfl <;> rfl
          · have h3a : c ≠ 92 := fun e => h3 (.inl e)
            have h3b : c ≠ q := fun e => h3 (.inr e)
            rw [pc_hex q c hp' h0 h1 h2 h3a h3b]
            refine esc [120, hexD (c.toNat / 16), hexD (c.toNat % 16)] ?_
            show pairP (hexD (c.toNat / 16) :: hexD (c.toNat % 16) :: Y) = _
            have hc := c.toNat_lt
            have e1 := hex_back (c.toNat / 16) (by omega)
            have e2 := hex_back (c.toNat % 16) (by omega)
            unfold pairP
            simp only [e1, e2]
            have : c.toNat / 16 * 16 + c.toNat % 16 = c.toNat := by omega
            rw [this, UInt8.ofNat_toNat]
theorem rd_pieces (q : UInt8) (hq : q = 39 ∨ q = 34) (most : Nat) (r : List UInt8) : ∀ (l acc : List UInt8), acc.length + l.length ≤ most → pcsR q most acc (pcs q l ++ q :: r) = .ok (acc ++ l) r
  | [], acc, _ => by
    have hq10 : q ≠ 10 := by rcases hq with rfl | rfl <;> decide
    rw [pcs_nil, List.nil_append, pcsR_cons, if_neg hq10, if_pos rfl, List.append_nil]
  | c :: l, acc, h => by
    rw [List.length_cons] at h
    have e : pcs q (c :: l) = pc q c ++ pcs q l := by unfold pcs; rfl
    rw [e, List.append_assoc, rd_piece q hq most acc _ c (by omega), rd_pieces q hq most r l (acc ++ [c]) (by rw [List.length_append, List.length_singleton]; omega), List.append_assoc]
    rfl
theorem quo_app (q : UInt8) (l r : List UInt8) : quoL q l ++ r = q :: (pcs q l ++ q :: r) := by
  unfold quoL
  simp
theorem rd_char (n : Int) (r : List UInt8) (h1 : -128 ≤ n) (h2 : n < 0) : tokR (quoL 39 [UInt8.ofNat (n % 256).toNat] ++ r) = .ok 3 n [] r := by
  rw [quo_app]
  generalize hb : UInt8.ofNat (n % 256).toNat = b
  have hbn : b.toNat = (n % 256).toNat := by
    rw [← hb, UInt8.toNat_ofNat']
    omega
  have hc : tokR (39 :: (pcs 39 [b] ++ 39 :: r)) = charT (39 :: (pcs 39 [b] ++ 39 :: r)) := by
    unfold tokR
    rw [show (39 :: (pcs 39 [b] ++ 39 :: r))[0]?.getD 0 = 39 from rfl, if_neg (by decide), if_neg (by decide), if_pos rfl]
  rw [hc]
  unfold charT
  rw [List.drop_one, List.tail_cons, rd_pieces 39 (.inl rfl) 65536 r [b] [] (by simp)]
  simp only [List.nil_append]
  rw [if_pos (by rfl)]
  congr 1
  show i8 b = n
  unfold i8
  rw [hbn, if_neg (by omega)]
  omega
theorem rd_text (l r : List UInt8) (hl : l.length ≤ 4096) (h1 : (blR r).2 = true) (h2 : (blR r).1.head? ≠ some 34) : tokR (quoL 34 l ++ r) = .ok 4 0 l (blR r).1 := by
  rw [quo_app]
  have hc : tokR (34 :: (pcs 34 l ++ 34 :: r)) = textsR (34 :: (pcs 34 l ++ 34 :: r)) [] (34 :: (pcs 34 l ++ 34 :: r)) := by
    unfold tokR
    rw [show (34 :: (pcs 34 l ++ 34 :: r))[0]?.getD 0 = 34 from rfl, if_neg (by decide), if_neg (by decide), if_neg (by decide), if_pos rfl]
  rw [hc, textsR_step, if_pos (by rfl), List.drop_one, List.tail_cons, rd_pieces 34 (.inr rfl) _ r l [] (by simpa using hl)]
  simp only [List.nil_append]
  rw [if_pos h1, textsR_step, if_neg h2]
/-! ### Marks -/
theorem pre_good {r : List UInt8} (hr : Good r) : ∀ (m u : List UInt8), (32 : UInt8) ∉ m → m.isPrefixOf (u ++ r) = m.isPrefixOf u
  | [], u, _ => by cases u <;> rfl
  | c :: m, [], h => by
    rcases hr with rfl | ⟨t, rfl⟩
    · rfl
    · have hc : (c == 32) = false := by
        rw [beq_eq_false_iff_ne]
        rintro rfl
        exact h List.mem_cons_self
      show (c == 32 && m.isPrefixOf t) = false
      rw [hc]
      rfl
  | c :: m, d :: u, h => by
    show (c == d && m.isPrefixOf (u ++ r)) = (c == d && m.isPrefixOf u)
    rw [pre_good hr m u (fun h1 => h (List.mem_cons_of_mem _ h1))]
theorem find_same {p q : List UInt8 → Bool} : ∀ (T : List (List UInt8)), (∀ m ∈ T, p m = q m) → T.find? p = T.find? q
  | [], _ => rfl
  | x :: T, h => by
    rw [List.find?_cons, List.find?_cons, h x List.mem_cons_self, find_same T (fun m hm => h m (List.mem_cons_of_mem _ hm))]
theorem mark_parts {m : List UInt8} (h : markB m = true) : m ∈ markTab ∧ m ≠ [] ∧ ltr8 (m[0]?.getD 0) = false ∧ dig8 (m[0]?.getD 0) = false ∧ m[0]?.getD 0 ≠ 39 ∧ m[0]?.getD 0 ≠ 34 ∧ blk8 (m[0]?.getD 0) = false ∧ (m[0]?.getD 0 = 47 → m.drop 1 = [] ∨ m.drop 1 = [61]) ∧ markTab.find? (fun m' => m'.isPrefixOf m) = some m := by
  unfold markB at h
  have h1 : m ∈ markTab := by simpa using h
  have h2 : ∀ m ∈ markTab, m ≠ [] ∧ ltr8 (m[0]?.getD 0) = false ∧ dig8 (m[0]?.getD 0) = false ∧ m[0]?.getD 0 ≠ 39 ∧ m[0]?.getD 0 ≠ 34 ∧ blk8 (m[0]?.getD 0) = false ∧ (m[0]?.getD 0 = 47 → m.drop 1 = [] ∨ m.drop 1 = [61]) ∧ markTab.find? (fun m' => m'.isPrefixOf m) = some m := by decide +kernel
  exact ⟨h1, h2 m h1⟩
theorem rd_mark {m r : List UInt8} (h : markB m = true) (hr : Good r) : tokR (m ++ r) = .ok 5 0 m r := by
  obtain ⟨h1, h2, h3, h4, h5, h6, _, _, h7⟩ := mark_parts h
  have hb : ∀ m ∈ markTab, (32 : UInt8) ∉ m := by decide +kernel
  unfold tokR
  rw [app_first h2, h3, h4, if_neg (by simp), if_neg (by simp), if_neg h5, if_neg h6]
  unfold markT
  rw [find_same markTab (fun x hx => pre_good hr x m (hb x hx)), h7]
  simp only
  rw [List.drop_left]
/-! ### A token -/
theorem rd_one {k n : Int} {x r : List UInt8} (h : tokB k n x = true) (hr : Good r) (h4 : k = 4 → (blR r).2 = true ∧ (blR r).1.head? ≠ some 34) : tokR (wrdL k n x ++ r) = .ok k n x (if k = 4 then (blR r).1 else r) := by
  unfold tokB at h
  unfold wrdL
  by_cases k3 : k = 3
  · subst k3
    rw [if_pos rfl] at h
    rw [if_pos rfl, show (if (3 : Int) = 4 then (blR r).1 else r) = r from if_neg (by decide)]
    unfold numB at h
    simp only [Bool.and_eq_true, decide_eq_true_eq] at h
    obtain ⟨⟨h1, h2⟩, h3⟩ := h
    by_cases hn : n < 0
    · rw [if_pos hn] at h3 ⊢
      have hx : x = [] := by simpa using h3
      rw [hx]
      exact rd_char n r h1 hn
    · rw [if_neg hn] at h3 ⊢
      obtain ⟨u, rfl⟩ : ∃ u : Nat, n = u := ⟨n.toNat, by omega⟩
      have hi := Lib.itoa_nonneg u
      rw [hi]
      by_cases hb : 2147483648 ≤ (u : Int)
      · rw [if_pos hb] at h3
        have hx : x = [117] := by simpa using h3
        subst hx
        rw [if_neg (by omega)]
        have := rd_num u (by omega) [] r (.inl rfl) hr
        rw [List.append_nil, if_pos (.inl (by omega))] at this
        exact this
      · rw [if_neg hb] at h3
        have hx : x = [] ∨ x = [117] := by simpa using h3
        rcases hx with rfl | rfl
        · rw [if_neg (by simp)]
          have := rd_num u (by omega) [] r (.inl rfl) hr
          rw [List.append_nil, if_neg (by rintro (h | h); omega; cases h)] at this
          exact this
        · rw [if_pos ⟨rfl, by omega⟩]
          have := rd_num u (by omega) [117] r (.inr rfl) hr
          rw [if_pos (.inr rfl)] at this
          exact this
  · rw [if_neg k3] at h ⊢
    simp only [Bool.and_eq_true, beq_iff_eq] at h
    obtain ⟨rfl, h⟩ := h
    by_cases k1 : k = 1
    · subst k1
      rw [if_pos rfl] at h
      rw [if_neg (by decide), if_neg (by decide)]
      unfold nameB at h
      simp only [Bool.and_eq_true, decide_eq_true_eq, Bool.not_eq_true'] at h
      rw [rd_word (word_parts h.1.2) hr, h.2, if_neg (by simp), if_neg (by omega)]
    · rw [if_neg k1] at h
      by_cases k2 : k = 2
      · subst k2
        rw [if_pos rfl] at h
        rw [if_neg (by decide), if_neg (by decide), rd_word (key_parts h) hr, h, if_pos rfl]
      · rw [if_neg k2] at h
        by_cases k4 : k = 4
        · subst k4
          rw [if_pos rfl] at h
          rw [if_pos rfl, if_pos rfl]
          exact rd_text x r (by simpa using h) (h4 rfl).1 (h4 rfl).2
        · rw [if_neg k4] at h
          rw [if_neg k4, if_neg k4]
          by_cases k5 : k = 5
          · subst k5
            rw [if_pos rfl] at h
            exact rd_mark h hr
          · rw [if_neg k5] at h
            cases h
/-- How a token's word begins. -/
theorem wrd_first {k n : Int} {x : List UInt8} (h : tokB k n x = true) : ∃ c t, wrdL k n x = c :: t ∧ blk8 c = false ∧ (c = 34 → k = 4) ∧ (c = 47 → t = [] ∨ t = [61]) := by
  have hltr : ∀ {w : List UInt8}, w ≠ [] ∧ ltr8 (w[0]?.getD 0) = true ∧ w.all wrd8 = true → ∃ c t, w = c :: t ∧ blk8 c = false ∧ (c = 34 → k = 4) ∧ (c = 47 → t = [] ∨ t = [61]) := by
    rintro w ⟨h1, h2, _⟩
    cases w with
    | nil => exact absurd rfl h1
    | cons c t =>
      have hc : ltr8 c = true := by simpa using h2
      refine ⟨c, t, rfl, ?_, ?_, ?_⟩
      · unfold ltr8 ltrI at hc
        unfold blk8 blkI
        simp at hc ⊢
        omega
      · rintro rfl; exact absurd hc (by decide)
      · rintro rfl; exact absurd hc (by decide)
  unfold tokB at h
  unfold wrdL
  by_cases k3 : k = 3
  · subst k3
    rw [if_pos rfl] at h
    rw [if_pos rfl]
    by_cases hn : n < 0
    · rw [if_pos hn]
      refine ⟨39, _, by unfold quoL; rfl, by decide, fun e => absurd e (by decide), fun e => absurd e (by decide)⟩
    · rw [if_neg hn]
      obtain ⟨u, rfl⟩ : ∃ u : Nat, n = u := ⟨n.toNat, by omega⟩
      rw [Lib.itoa_nonneg u]
      obtain ⟨c, t, hc, _, _, h3, h4, h5, _⟩ := dig_first u
      rw [hc]
      split
      · exact ⟨c, _, rfl, h3, fun e => absurd e h4, fun e => absurd e h5⟩
      · exact ⟨c, _, rfl, h3, fun e => absurd e h4, fun e => absurd e h5⟩
  · rw [if_neg k3] at h ⊢
    simp only [Bool.and_eq_true, beq_iff_eq] at h
    obtain ⟨rfl, h⟩ := h
    by_cases k1 : k = 1
    · subst k1
      rw [if_pos rfl] at h
      rw [if_neg (by decide)]
      unfold nameB at h
      simp only [Bool.and_eq_true, decide_eq_true_eq, Bool.not_eq_true'] at h
      exact hltr (word_parts h.1.2)
    · rw [if_neg k1] at h
      by_cases k2 : k = 2
      · subst k2
        rw [if_pos rfl] at h
        rw [if_neg (by decide)]
        exact hltr (key_parts h)
      · rw [if_neg k2] at h
        by_cases k4 : k = 4
        · rw [if_pos k4]
          exact ⟨34, _, by unfold quoL; rfl, by decide, fun _ => k4, fun e => absurd e (by decide)⟩
        · rw [if_neg k4] at h ⊢
          by_cases k5 : k = 5
          · rw [if_pos k5] at h
            obtain ⟨h1, h2, h3, h4, h5, h6, h7, h8, _⟩ := mark_parts h
            cases x with
            | nil => exact absurd rfl h2
            | cons c t => exact ⟨c, t, rfl, h7, fun e => absurd e h6, h8⟩
          · rw [if_neg k5] at h
            cases h
theorem bl_word {k n : Int} {x r : List UInt8} (h : tokB k n x = true) (hr : Good r) : blR (wrdL k n x ++ r) = (wrdL k n x ++ r, true) := by
  obtain ⟨c, t, hw, h1, _, h2⟩ := wrd_first h
  rw [hw, List.cons_append]
  have hh : c = 47 → (t ++ r).head? ≠ some 47 ∧ (t ++ r).head? ≠ some 42 := fun e => by
    rcases h2 e with rfl | rfl
    · rcases hr with rfl | ⟨s, rfl⟩
      · exact ⟨by simp, by simp⟩
      · exact ⟨by simp, by simp⟩
    · exact ⟨by simp, by simp⟩
  exact blR_stop c _ h1 (fun e => (hh e.1).1 e.2) (fun e => (hh e.1).2 e.2)
/-! ### Tokens -/
theorem lay_good (L : List Tk) : Good (layP L) := by
  cases L with
  | nil => exact .inl rfl
  | cons t L => exact .inr ⟨_, rfl⟩
theorem layL_cons (t : Tk) (L : List Tk) : layL (t :: L) = t.word ++ layP L := by
  unfold layL layP
  simp
theorem bl_lay (L : List Tk) (h : ∀ t ∈ L, t.ok = true) : blR (layP L) = (layL L, true) := by
  cases L with
  | nil => rw [lay_nil]; rfl
  | cons t L =>
    have e : layP (t :: L) = 32 :: (t.word ++ layP L) := rfl
    rw [e, blR_blank 32 _ (by decide), layL_cons]
    exact bl_word (h t List.mem_cons_self) (lay_good L)
theorem bl_layL (L : List Tk) (h : ∀ t ∈ L, t.ok = true) : blR (layL L) = (layL L, true) := blR_idem (bl_lay L h)
def trP (t : Pt) : Int × Int × List UInt8 := (t.kind, t.int, t.text)
def trT (t : Tk) : Int × Int × List UInt8 := (t.kind, t.int, t.text)
theorem tks_lay : ∀ (L : List Tk) (A : List Pt) (r : List UInt8), (∀ t ∈ L, t.ok = true) → NoTwo (L.map (·.kind)) → blR r = (layL L, true) → A.length + L.length ≤ 16384 → ∃ M, tksR A r = .ok (A ++ M) ∧ M.map trP = L.map trT
  | [], A, r, _, _, hb, _ => by
    refine ⟨[], ?_, rfl⟩
    rw [tksR_step, hb, lay_nil, if_pos rfl, if_pos rfl, List.append_nil]
  | t :: L, A, r, hok, hN, hb, hl => by
    have hokL : ∀ u ∈ L, u.ok = true := fun u hu => hok u (List.mem_cons_of_mem _ hu)
    have ht : tokB t.kind t.int t.text = true := hok t List.mem_cons_self
    have hlay := bl_lay L hokL
    rw [List.length_cons] at hl
    have h4 : t.kind = 4 → (blR (layP L)).2 = true ∧ (blR (layP L)).1.head? ≠ some 34 := fun e => by
      rw [hlay]
      refine ⟨rfl, ?_⟩
      cases L with
      | nil => rw [lay_nil]; simp
      | cons u L =>
        obtain ⟨c, s, hw, _, hc, _⟩ := wrd_first (show tokB u.kind u.int u.text = true from hokL u List.mem_cons_self)
        rw [layL_cons]
        show ((wrdL u.kind u.int u.text) ++ _).head? ≠ _
        rw [hw]
        intro e2
        have e3 : c = 34 := by simpa using e2
        exact hN 0 (by simp [e]) (by simp [hc e3])
    have h1 : tokR (t.word ++ layP L) = _ := rd_one ht (lay_good L) h4
    have hne : t.word ++ layP L ≠ [] := by
      obtain ⟨c, s, hw, _⟩ := wrd_first ht
      show wrdL t.kind t.int t.text ++ _ ≠ []
      rw [hw]
      simp
    have hy : blR (if t.kind = 4 then (blR (layP L)).1 else layP L) = (layL L, true) := by
      split
      · rw [hlay]; exact bl_layL L hokL
      · exact hlay
    obtain ⟨M, hM, hM2⟩ := tks_lay L (A ++ [⟨t.kind, (t.word ++ layP L).length, t.int, t.text⟩]) _ hokL (fun i a b => hN (i + 1) (by simpa using a) (by simpa using b)) hy (by rw [List.length_append, List.length_singleton]; omega)
    refine ⟨⟨t.kind, (t.word ++ layP L).length, t.int, t.text⟩ :: M, ?_, ?_⟩
    · rw [tksR_step, hb, layL_cons, if_pos rfl, if_neg hne, if_neg (by omega)]
      simp only
      rw [h1]
      simp only
      rw [hM, List.append_assoc]
      rfl
    · rw [List.map_cons, List.map_cons, hM2]
      rfl
/-- What is laid of right tokens without two texts in a row is read as they were. -/
theorem T_back {L : List Tk} (h : ∀ t ∈ L, t.ok = true) (hN : NoTwo (L.map (·.kind))) (hl : L.length ≤ 16384) : ∃ M, tksR [] (layL L) = .ok M ∧ M.map trP = L.map trT := by
  obtain ⟨M, h1, h2⟩ := tks_lay L [] (layL L) h hN (bl_layL L h) (by simpa using hl)
  exact ⟨M, h1, h2⟩
end Go.Proofs.YtbccabpcljkamaaDoor
