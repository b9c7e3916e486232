/- Numbers as groups of seven bits, laid and read: lists of bytes alone, no program. -/
import Derived.Test.YtcgplonnhginiaaCom2
namespace Go.Proofs.Ytcgplonnhginiaa.Leb

/-- A number from its byte i on: the number, how many bytes it has in all, and the error's number. -/
def dec : Nat → Nat → Nat → List UInt8 → Nat × Nat × Int
  | 0, _, _, _ => (0, 0, 6)
  | _ + 1, _, _, [] => (0, 0, 5)
  | f + 1, i, acc, b :: rest =>
    if b = 0 ∧ 0 < i then (0, 0, 6)
    else if b.toNat < 128 then (acc + b.toNat % 128 * 128 ^ i, i + 1, 0)
    else dec f (i + 1) (acc + b.toNat % 128 * 128 ^ i) rest

/-- The number that bytes begin with. -/
def first (l : List UInt8) : Nat × Nat × Int := dec 9 0 0 l

/-- The text that bytes begin with. -/
def second (l : List UInt8) : List UInt8 × Nat × Int :=
  if (first l).2.2 = 0 then
    if l.length - (first l).2.1 < (first l).1 then ([], 0, 5) else ((l.drop (first l).2.1).take (first l).1, (first l).2.1 + (first l).1, 0)
  else ([], 0, (first l).2.2)

/-- A number's bytes. -/
def encF : Nat → Nat → List UInt8
  | 0, n => [UInt8.ofNat n]
  | f + 1, n => if n ≤ 127 then [UInt8.ofNat n] else UInt8.ofNat (n % 128 + 128) :: encF f (n / 128)

def enc (n : Nat) : List UInt8 := encF 8 n

set_option maxRecDepth 100000 in
theorem encF_len (f n : Nat) : 1 ≤ (encF f n).length ∧ (encF f n).length ≤ f + 1 := by
  induction f generalizing n with
  | zero => simp [encF]
  | succ f ih =>
    simp only [encF]
    split
    · simp
    · have := ih (n / 128)
      simp only [List.length_cons]
      omega

set_option maxRecDepth 100000 in
theorem enc_len (n : Nat) : 1 ≤ (enc n).length ∧ (enc n).length ≤ 9 := encF_len 8 n

set_option maxRecDepth 100000 in
theorem toNat_ofNat (n : Nat) (h : n < 256) : (UInt8.ofNat n).toNat = n := by
  rw [UInt8.toNat_ofNat']; omega

set_option maxRecDepth 100000 in
theorem ofNat_ne (n : Nat) (h : n < 256) (h0 : 0 < n) : UInt8.ofNat n ≠ 0 := by
  intro e
  have : (UInt8.ofNat n).toNat = 0 := by rw [e]; rfl
  rw [toNat_ofNat n h] at this
  omega

set_option maxRecDepth 100000 in
theorem dec_enc (f i acc m : Nat) (s : List UInt8) (hm : m < 128 ^ (f + 1)) (h0 : 0 < i → 0 < m) :
    dec (f + 1) i acc (encF f m ++ s) = (acc + m * 128 ^ i, i + (encF f m).length, 0) := by
  induction f generalizing i acc m with
  | zero =>
    have hm' : m < 128 := by simpa using hm
    have ht := toNat_ofNat m (by omega)
    have hz : ¬ (UInt8.ofNat m = 0 ∧ 0 < i) := by
      rintro ⟨a, b⟩
      exact ofNat_ne m (by omega) (h0 b) a
    simp only [encF, List.cons_append, List.nil_append, dec, if_neg hz, ht, if_pos hm', List.length_cons, List.length_nil, Nat.mod_eq_of_lt hm']
  | succ f ih =>
    simp only [encF]
    by_cases hs : m ≤ 127
    · rw [if_pos hs]
      have hm' : m < 128 := by omega
      have ht := toNat_ofNat m (by omega)
      have hz : ¬ (UInt8.ofNat m = 0 ∧ 0 < i) := by
        rintro ⟨a, b⟩
        exact ofNat_ne m (by omega) (h0 b) a
      simp only [List.cons_append, List.nil_append, dec, if_neg hz, ht, if_pos hm', List.length_cons, List.length_nil, Nat.mod_eq_of_lt hm']
    · rw [if_neg hs]
      have ht := toNat_ofNat (m % 128 + 128) (by omega)
      have hz : ¬ (UInt8.ofNat (m % 128 + 128) = 0 ∧ 0 < i) := by
        rintro ⟨a, b⟩
        exact ofNat_ne (m % 128 + 128) (by omega) (by omega) a
      have hd : m / 128 < 128 ^ (f + 1) := by
        rw [Nat.div_lt_iff_lt_mul (by omega), ← Nat.pow_succ]; exact hm
      have := ih (i + 1) (acc + (m % 128) * 128 ^ i) (m / 128) hd (fun _ => by omega)
      have e1 : (m % 128 + 128) % 128 = m % 128 := by omega
      have e2 : acc + m % 128 * 128 ^ i + m / 128 * 128 ^ (i + 1) = acc + m * 128 ^ i := by
        rw [Nat.pow_succ, Nat.mul_comm (128 ^ i) 128, ← Nat.mul_assoc, Nat.add_assoc, ← Nat.add_mul]
        congr 2
        omega
      rw [List.cons_append, dec, if_neg hz, ht, if_neg (by omega), e1, this, e2]
      simp only [List.length_cons]
      congr 2
      omega

set_option maxRecDepth 100000 in
theorem dec_only (f i acc : Nat) (s : List UInt8) (n k : Nat) (h : dec (f + 1) i acc s = (n, k, 0)) :
    ∃ m, n = acc + m * 128 ^ i ∧ m < 128 ^ (f + 1) ∧ k = i + (encF f m).length ∧ s.take (encF f m).length = encF f m := by
  induction f generalizing i acc s n k with
  | zero =>
    cases s with
    | nil => simp [dec] at h
    | cons b rest =>
      simp only [dec] at h
      split at h
      · simp at h
      · split at h
        · rename_i hb
          simp only [Prod.mk.injEq, and_true] at h
          refine ⟨b.toNat, ?_, by simpa using hb, ?_, ?_⟩
          · rw [← h.1, Nat.mod_eq_of_lt hb]
          · simp [encF, h.2]
          · simp [encF]
        · simp at h
  | succ f ih =>
    cases s with
    | nil => simp [dec] at h
    | cons b rest =>
      rw [dec] at h
      split at h
      · simp at h
      · rename_i hz
        split at h
        · rename_i hb
          simp only [Prod.mk.injEq, and_true] at h
          have hpos : 0 < 128 ^ (f + 1) := Nat.pow_pos (by omega)
          refine ⟨b.toNat, ?_, ?_, ?_, ?_⟩
          · rw [← h.1, Nat.mod_eq_of_lt hb]
          · rw [Nat.pow_succ]; omega
          · rw [encF, if_pos (by omega)]; simp [h.2]
          · rw [encF, if_pos (by omega)]; simp
        · rename_i hb
          obtain ⟨m, h1, h2, h3, h4⟩ := ih _ _ _ _ _ h
          have hlt : b.toNat < 256 := b.toNat_lt
          have hm0 : 0 < m := by
            rcases Nat.eq_zero_or_pos m with h0 | h0
            · subst h0
              exfalso
              have he : encF f 0 = [0] := by cases f <;> rfl
              rw [he] at h4
              cases rest with
              | nil => simp at h4
              | cons c r =>
                simp at h4
                subst h4
                cases f <;> simp [dec] at h
            · exact h0
          have e1 : (b.toNat % 128 + m * 128) / 128 = m := by omega
          have e2 : (b.toNat % 128 + m * 128) % 128 = b.toNat % 128 := by omega
          have e3 : UInt8.ofNat (b.toNat % 128 + 128) = b := by
            have : b.toNat % 128 + 128 = b.toNat := by omega
            rw [this]; simp
          refine ⟨b.toNat % 128 + m * 128, ?_, ?_, ?_, ?_⟩
          · rw [h1, Nat.pow_succ, Nat.mul_comm (128 ^ i) 128, ← Nat.mul_assoc, Nat.add_assoc, ← Nat.add_mul]
          · rw [Nat.pow_succ]; omega
          · rw [encF, if_neg (by omega), e1, h3]; simp only [List.length_cons]; omega
          · rw [encF, if_neg (by omega), e1, e2, e3]; simp [h4]

set_option maxRecDepth 100000 in
theorem first_enc (n : Nat) (s : List UInt8) (h : n < 9223372036854775808) : first (enc n ++ s) = (n, (enc n).length, 0) := by
  have := dec_enc 8 0 0 n s (by simpa using h) (by omega)
  simpa [first, enc] using this

set_option maxRecDepth 100000 in
theorem first_only (s : List UInt8) (n k : Nat) (h : first s = (n, k, 0)) : n < 9223372036854775808 ∧ k = (enc n).length ∧ s.take k = enc n := by
  obtain ⟨m, h1, h2, h3, h4⟩ := dec_only 8 0 0 s n k h
  have e : n = m := by simpa using h1
  subst e
  refine ⟨by simpa using h2, by simpa [enc] using h3, ?_⟩
  have : k = (encF 8 n).length := by simpa using h3
  rw [this]; exact h4

set_option maxRecDepth 100000 in
theorem dec_fits (f i acc : Nat) (s : List UInt8) (h : acc < 128 ^ i) : (dec f i acc s).1 < 128 ^ (i + f) ∧ (dec f i acc s).2.1 ≤ i + s.length ∧ ((dec f i acc s).2.2 = 0 ∨ ((dec f i acc s).1 = 0 ∧ (dec f i acc s).2.1 = 0)) ∧ ((dec f i acc s).2.2 = 0 ∨ (dec f i acc s).2.2 = 5 ∨ (dec f i acc s).2.2 = 6) := by
  have hp : ∀ j, 0 < 128 ^ j := fun j => Nat.pow_pos (by omega)
  induction f generalizing i acc s with
  | zero => simp [dec, hp]
  | succ f ih =>
    cases s with
    | nil => simp [dec, hp]
    | cons b rest =>
      rw [dec]
      have hstep : acc + b.toNat % 128 * 128 ^ i < 128 ^ (i + 1) := by
        have h1 : b.toNat % 128 * 128 ^ i ≤ 127 * 128 ^ i := Nat.mul_le_mul_right _ (by omega)
        rw [Nat.pow_succ]; omega
      split
      · simp [hp]
      · split
        · refine ⟨Nat.lt_of_lt_of_le hstep (Nat.pow_le_pow_right (by omega) (by omega)), by simp only [List.length_cons]; omega, Or.inl rfl, Or.inl rfl⟩
        · have := ih (i + 1) _ rest hstep
          simp only [List.length_cons]
          refine ⟨by rw [show i + (f + 1) = i + 1 + f from by omega]; exact this.1, by omega, this.2.2⟩

set_option maxRecDepth 100000 in
theorem first_fits (s : List UInt8) : (first s).1 < 9223372036854775808 ∧ (first s).2.1 ≤ s.length ∧ ((first s).2.2 = 0 ∨ ((first s).1 = 0 ∧ (first s).2.1 = 0)) ∧ ((first s).2.2 = 0 ∨ (first s).2.2 = 5 ∨ (first s).2.2 = 6) := by
  have := dec_fits 9 0 0 s (by simp)
  simpa [first] using this

/-! ### In bits -/

set_option maxRecDepth 100000 in
theorem or_low (acc c i : Nat) (h : acc < 128 ^ i) : acc ||| (c <<< (7 * i)) = acc + c * 128 ^ i := by
  have e : (128 : Nat) ^ i = 2 ^ (7 * i) := by rw [Nat.pow_mul]
  rw [Nat.or_comm, ← Nat.shiftLeft_add_eq_or_of_lt (by rw [← e]; exact h), Nat.shiftLeft_eq, e]
  omega

set_option maxRecDepth 100000 in
theorem and_low (c : Nat) : c &&& 127 = c % 128 := Nat.and_two_pow_sub_one_eq_mod c 7

set_option maxRecDepth 100000 in
theorem and_high (c : Nat) (h : c < 256) : c &&& 128 = if c < 128 then 0 else 128 := by
  have : ∀ x : Fin 256, x.val &&& 128 = if x.val < 128 then 0 else 128 := by decide +kernel
  exact this ⟨c, h⟩
end Go.Proofs.Ytcgplonnhginiaa.Leb
/- Records with their sums: lists of bytes alone. -/
namespace Go.Proofs.Ytcgplonnhginiaa.Frm

def sumOf (t : List UInt8) : List UInt8 := fourOf (Crc.sum t).toNat

set_option maxRecDepth 100000 in
theorem sumOf_len (t : List UInt8) : (sumOf t).length = 4 := rfl

/-- A record, as it stands. -/
def one (t : List UInt8) : List UInt8 := Leb.enc t.length ++ t ++ sumOf t

def all (l : List (List UInt8)) : List UInt8 := l.flatMap one

set_option maxRecDepth 100000 in
theorem one_len (t : List UInt8) : (one t).length = (Leb.enc t.length).length + t.length + 4 := by
  unfold one
  rw [List.length_append, List.length_append, sumOf_len]

set_option maxRecDepth 100000 in
theorem all_cons (t : List UInt8) (l : List (List UInt8)) : all (t :: l) = one t ++ all l := rfl
set_option maxRecDepth 100000 in
theorem all_snoc (l : List (List UInt8)) (t : List UInt8) : all (l ++ [t]) = all l ++ one t := by simp [all]

/-- The record that bytes begin with. -/
def first (s : List UInt8) : List UInt8 × Nat × Int :=
  if (Leb.second s).2.2 = 0 then
    if s.length - (Leb.second s).2.1 < 4 then ([], 0, 5)
    else if (s.drop (Leb.second s).2.1).take 4 = sumOf (Leb.second s).1 then ((Leb.second s).1, (Leb.second s).2.1 + 4, 0) else ([], 0, 7)
  else ([], 0, (Leb.second s).2.2)

def readF : Nat → List UInt8 → List (List UInt8) × Int
  | 0, s => if s = [] then ([], 0) else ([], 5)
  | f + 1, s =>
    if s = [] then ([], 0)
    else if (first s).2.2 = 0 then
      if (readF f (s.drop (first s).2.1)).2 = 0 then ((first s).1 :: (readF f (s.drop (first s).2.1)).1, 0) else ([], (readF f (s.drop (first s).2.1)).2)
    else ([], (first s).2.2)

/-- All records. -/
def read (s : List UInt8) : List (List UInt8) × Int := readF s.length s

set_option maxRecDepth 100000 in
theorem second_enc (t r : List UInt8) (h : t.length < 9223372036854775808) : Leb.second (Leb.enc t.length ++ t ++ r) = (t, (Leb.enc t.length).length + t.length, 0) := by
  have h1 := Leb.first_enc t.length (t ++ r) h
  rw [← List.append_assoc] at h1
  unfold Leb.second
  rw [h1]
  simp only [if_true]
  rw [if_neg (by simp)]
  congr 1
  rw [List.append_assoc, List.drop_left, List.take_left]

set_option maxRecDepth 100000 in
theorem first_one (t r : List UInt8) (h : t.length < 9223372036854775808) : first (one t ++ r) = (t, (one t).length, 0) := by
  have h2 : Leb.second (one t ++ r) = (t, (Leb.enc t.length).length + t.length, 0) := by
    unfold one
    rw [List.append_assoc (Leb.enc t.length ++ t)]
    exact second_enc t (sumOf t ++ r) h
  unfold first
  rw [h2]
  simp only [if_true]
  rw [if_neg (by rw [List.length_append, one_len]; omega)]
  have h3 : ((one t ++ r).drop ((Leb.enc t.length).length + t.length)).take 4 = sumOf t := by
    have e : one t ++ r = (Leb.enc t.length ++ t) ++ (sumOf t ++ r) := by unfold one; simp
    rw [e, ← List.length_append, List.drop_left, ← sumOf_len t, List.take_left]
  rw [if_pos h3, one_len]

set_option maxRecDepth 100000 in
theorem second_only (s t : List UInt8) (k : Nat) (h : Leb.second s = (t, k, 0)) : t.length < 9223372036854775808 ∧ k = (Leb.enc t.length).length + t.length ∧ s.take k = Leb.enc t.length ++ t ∧ k ≤ s.length := by
  unfold Leb.second at h
  by_cases he : (Leb.first s).2.2 = 0
  · rw [if_pos he] at h
    by_cases hl : s.length - (Leb.first s).2.1 < (Leb.first s).1
    · rw [if_pos hl] at h
      simp at h
    · rw [if_neg hl] at h
      simp only [Prod.mk.injEq] at h
      obtain ⟨h1, h2, _⟩ := h
      have hf := Leb.first_fits s
      obtain ⟨g1, g2, g3⟩ := Leb.first_only s (Leb.first s).1 (Leb.first s).2.1 (by rw [← he])
      have hkl := hf.2.1
      have hlen : t.length = (Leb.first s).1 := by
        rw [← h1, List.length_take, List.length_drop]
        omega
      refine ⟨by rw [hlen]; exact g1, by rw [← h2, hlen, ← g2], ?_, by omega⟩
      rw [← h2, List.take_add, g3, hlen, ← h1]
  · rw [if_neg he] at h
    simp only [Prod.mk.injEq] at h
    exact absurd h.2.2 he

set_option maxRecDepth 100000 in
theorem first_only (s t : List UInt8) (n : Nat) (h : first s = (t, n, 0)) : t.length < 9223372036854775808 ∧ n = (one t).length ∧ s = one t ++ s.drop n ∧ 5 ≤ n := by
  unfold first at h
  by_cases he : (Leb.second s).2.2 = 0
  · rw [if_pos he] at h
    by_cases hl : s.length - (Leb.second s).2.1 < 4
    · rw [if_pos hl] at h; simp at h
    · rw [if_neg hl] at h
      by_cases hs : (s.drop (Leb.second s).2.1).take 4 = sumOf (Leb.second s).1
      · rw [if_pos hs] at h
        simp only [Prod.mk.injEq, and_true] at h
        obtain ⟨h1, h2⟩ := h
        obtain ⟨g1, g2, g3, g4⟩ := second_only s (Leb.second s).1 (Leb.second s).2.1 (by rw [← he])
        rw [h1] at g1 g2 g3 hs
        have hn : n = (one t).length := by rw [one_len, ← g2]; exact h2.symm
        refine ⟨g1, hn, ?_, by have := (Leb.enc_len t.length).1; rw [hn, one_len]; omega⟩
        have e : s.take n = one t := by
          rw [← h2, List.take_add, g3, hs]
          rfl
        rw [← e, List.take_append_drop]
      · rw [if_neg hs] at h; simp at h
  · rw [if_neg he] at h
    simp only [Prod.mk.injEq] at h
    exact absurd h.2.2 he

set_option maxRecDepth 100000 in
theorem one_pos (t : List UInt8) : 5 ≤ (one t).length := by
  have := (Leb.enc_len t.length).1
  rw [one_len]; omega

set_option maxRecDepth 100000 in
theorem readF_all : ∀ (l : List (List UInt8)) (f : Nat), (∀ t ∈ l, t.length < 9223372036854775808) → (all l).length ≤ f → readF f (all l) = (l, 0)
  | [], f, _, _ => by cases f <;> rfl
  | t :: l, f, h, hf => by
    have hp := one_pos t
    rw [all_cons, List.length_append] at hf
    match f, hf with
    | 0, hf => omega
    | f + 1, hf =>
      have h1 := first_one t (all l) (h t (by simp))
      have hne : one t ++ all l ≠ [] := fun e => by
        have := congrArg List.length e
        rw [List.length_append] at this
        simp at this
        rw [this.1] at hp
        simp at hp
      rw [all_cons, readF, if_neg hne, h1]
      simp only [if_true]
      rw [List.drop_left, readF_all l f (fun x hx => h x (by simp [hx])) (by omega)]
      simp

set_option maxRecDepth 100000 in
theorem read_all (l : List (List UInt8)) (h : ∀ t ∈ l, t.length < 9223372036854775808) : read (all l) = (l, 0) := readF_all l _ h (Nat.le_refl _)

set_option maxRecDepth 100000 in
theorem readF_only : ∀ (f : Nat) (s : List UInt8) (l : List (List UInt8)), readF f s = (l, 0) → all l = s
  | 0, s, l, h => by
    unfold readF at h
    by_cases e : s = []
    · rw [if_pos e] at h
      simp at h
      rw [h, e]; rfl
    · rw [if_neg e] at h; simp at h
  | f + 1, s, l, h => by
    unfold readF at h
    by_cases e : s = []
    · rw [if_pos e] at h
      simp at h
      rw [h, e]; rfl
    · rw [if_neg e] at h
      by_cases he : (first s).2.2 = 0
      · rw [if_pos he] at h
        by_cases hr : (readF f (s.drop (first s).2.1)).2 = 0
        · rw [if_pos hr] at h
          simp only [Prod.mk.injEq, and_true] at h
          obtain ⟨g1, g2, g3, g4⟩ := first_only s (first s).1 (first s).2.1 (by rw [← he])
          have ih := readF_only f (s.drop (first s).2.1) _ (by rw [← hr])
          rw [← h, all_cons, ih]
          exact g3.symm
        · rw [if_neg hr] at h
          simp only [Prod.mk.injEq] at h
          exact absurd h.2 hr
      · rw [if_neg he] at h
        simp only [Prod.mk.injEq] at h
        exact absurd h.2 he

set_option maxRecDepth 100000 in
theorem read_only (s : List UInt8) (l : List (List UInt8)) (h : read s = (l, 0)) : all l = s := readF_only _ _ _ h

set_option maxRecDepth 100000 in
/-- What is left of bytes does not hang on the steps allowed. -/
theorem readF_enough : ∀ (f g : Nat) (s : List UInt8), s.length ≤ f → s.length ≤ g → readF f s = readF g s
  | 0, g, s, hf, _ => by
    have : s = [] := List.eq_nil_of_length_eq_zero (by omega)
    subst this
    cases g <;> rfl
  | f + 1, 0, s, _, hg => by
    have : s = [] := List.eq_nil_of_length_eq_zero (by omega)
    subst this
    rfl
  | f + 1, g + 1, s, hf, hg => by
    unfold readF
    by_cases e : s = []
    · rw [if_pos e, if_pos e]
    · rw [if_neg e, if_neg e]
      by_cases he : (first s).2.2 = 0
      · have hn := (first_only s (first s).1 (first s).2.1 (by rw [← he])).2.2.2
        have hs : 0 < s.length := List.length_pos_iff.2 e
        have ih := readF_enough f g (s.drop (first s).2.1) (by rw [List.length_drop]; omega) (by rw [List.length_drop]; omega)
        rw [if_pos he, if_pos he, ih]
      · rw [if_neg he, if_neg he]

set_option maxRecDepth 100000 in
theorem read_step (s : List UInt8) (h : s ≠ []) : read s = if (first s).2.2 = 0 then (if (read (s.drop (first s).2.1)).2 = 0 then ((first s).1 :: (read (s.drop (first s).2.1)).1, 0) else ([], (read (s.drop (first s).2.1)).2)) else ([], (first s).2.2) := by
  have hs : 0 < s.length := List.length_pos_iff.2 h
  unfold read
  obtain ⟨f, hf⟩ : ∃ f, s.length = f + 1 := ⟨s.length - 1, by omega⟩
  rw [hf, readF, if_neg h]
  by_cases he : (first s).2.2 = 0
  · have hn := (first_only s (first s).1 (first s).2.1 (by rw [← he])).2.2.2
    rw [if_pos he, if_pos he, readF_enough f (s.drop (first s).2.1).length (s.drop (first s).2.1) (by rw [List.length_drop]; omega) (Nat.le_refl _)]
  · rw [if_neg he, if_neg he]

set_option maxRecDepth 100000 in
/-- A wrong end leaves no records. -/
theorem read_none (s : List UInt8) (h : (read s).2 ≠ 0) : (read s).1 = [] := by
  unfold read at h ⊢
  generalize s.length = f at *
  cases f with
  | zero =>
    unfold readF at h ⊢
    split <;> rfl
  | succ f =>
    unfold readF at h ⊢
    split
    · rfl
    · split
      · split
        · rename_i h1 h2 h3
          rw [if_neg h1, if_pos h2, if_pos h3] at h
          exact absurd rfl h
        · rfl
      · rfl
end Go.Proofs.Ytcgplonnhginiaa.Frm
/- The disk of the document, as plain data: sectors, each the list of all that it may have (what is safe first), calls, for which call it is armed, whether it is down. No program is spoken of. -/
namespace Go.Proofs.Ytcgplonnhginiaa.Dsk

/-- A text, filled up with 0. -/
def fill (s : ByteArray) : ByteArray := ⟨s.data ++ Array.replicate (64 - s.size) 0⟩

structure D where
  S : List (List ByteArray)
  calls : Nat
  armed : Nat
  down : Bool

def last (l : List ByteArray) : ByteArray := l.getLastD ⟨#[]⟩

def new (n : Nat) : D := ⟨List.replicate n [fill ⟨#[]⟩], 0, 0, false⟩

def D.call (d : D) : D := ⟨d.S, d.calls + 1, d.armed - 1, d.down || d.armed == 1⟩

def D.at (d : D) (k : Nat) : List ByteArray := d.S.getD k []

/-- Write's answer, and the disk behind it. -/
def D.write (d : D) (i : Int) (s : ByteArray) : Int × D :=
  if d.down = true then (12, d) else if i < 0 ∨ (d.S.length : Int) ≤ i then (3, d) else if 64 < s.size then (4, d)
  else if d.call.down = true then (12, d.call) else (0, { d.call with S := d.S.set i.toNat (d.at i.toNat ++ [fill s]) })

def D.flush (d : D) : Int × D :=
  if d.down = true then (12, d) else if d.call.down = true then (12, d.call) else (0, { d.call with S := d.S.map fun l => [last l] })

/-- Read's answer. -/
def D.read (d : D) (i : Int) : ByteArray × Int :=
  if d.down = true then (⟨#[]⟩, 12) else if i < 0 ∨ (d.S.length : Int) ≤ i then (⟨#[]⟩, 3) else (last (d.at i.toNat), 0)

def D.arm (d : D) (n : Int) : D := { d with armed := n.toNat }

/-- Those of the sectors from the k-th one on that have pending ones. -/
def dirtyFrom : Nat → List (List ByteArray) → List Nat
  | _, [] => []
  | k, l :: r => if 1 < l.length then k :: dirtyFrom (k + 1) r else dirtyFrom (k + 1) r

def D.dirty (d : D) : List Nat := dirtyFrom 0 d.S

/-- What a sector has behind a crash. -/
def pick (l : List ByteArray) (k : Int) : ByteArray := l.getD (k.tmod (l.length : Int)).natAbs ⟨#[]⟩

def crashOn (ks : List Int) : List Nat → Nat → List (List ByteArray) → List (List ByteArray)
  | [], _, S => S
  | a :: r, i, S => crashOn ks r (i + 1) (S.set a [pick (S.getD a []) (ks.getD i 0)])

def D.crash (d : D) (ks : List Int) : D := ⟨crashOn ks d.dirty 0 d.S, d.calls, 0, false⟩

/-- A disk of at most N calls. -/
structure D.Fine (d : D) (N : Nat) : Prop where
  len : d.S.length ≤ 4096
  each : ∀ l ∈ d.S, 1 ≤ l.length ∧ l.length ≤ N + 1
  calls : d.calls ≤ N
  armed : d.armed < 9223372036854775808

set_option maxRecDepth 100000 in
theorem D.Fine.at {d : D} {N : Nat} (h : d.Fine N) {k : Nat} (hk : k < d.S.length) : d.S[k]? = some (d.at k) ∧ 1 ≤ (d.at k).length ∧ (d.at k).length ≤ N + 1 := by
  have e : d.S[k]? = some (d.at k) := by
    unfold D.at
    rw [List.getD_eq_getElem?_getD, List.getElem?_eq_getElem hk]; rfl
  exact ⟨e, h.each _ (List.mem_of_getElem? e)⟩

set_option maxRecDepth 100000 in
theorem dirtyFrom_append (l r : List (List ByteArray)) : ∀ k, dirtyFrom k (l ++ r) = dirtyFrom k l ++ dirtyFrom (k + l.length) r := by
  induction l with
  | nil => intro k; rfl
  | cons x l ih =>
    intro k
    simp only [List.cons_append, dirtyFrom]
    have e : k + (x :: l).length = k + 1 + l.length := by rw [List.length_cons]; omega
    rw [ih, e]
    split <;> simp

set_option maxRecDepth 100000 in
theorem dirty_take {S : List (List ByteArray)} {k : Nat} {l : List ByteArray} (h : S[k]? = some l) : dirtyFrom 0 (S.take (k + 1)) = dirtyFrom 0 (S.take k) ++ if 1 < l.length then [k] else [] := by
  obtain ⟨hl, he⟩ := List.getElem?_eq_some_iff.1 h
  rw [List.take_succ_eq_append_getElem hl, he, dirtyFrom_append, List.length_take, Nat.min_eq_left (by omega), Nat.zero_add]
  rfl

set_option maxRecDepth 100000 in
theorem dirtyFrom_len (S : List (List ByteArray)) : ∀ k, (dirtyFrom k S).length ≤ S.length := by
  induction S with
  | nil => intro k; exact Nat.le_refl _
  | cons x S ih =>
    intro k
    unfold dirtyFrom
    have := ih (k + 1)
    split <;> simp <;> omega

set_option maxRecDepth 100000 in
theorem dirtyFrom_mem (S : List (List ByteArray)) : ∀ k a, a ∈ dirtyFrom k S → k ≤ a ∧ ∃ l, S[a - k]? = some l ∧ 1 < l.length := by
  induction S with
  | nil => intro k a h; simp [dirtyFrom] at h
  | cons x S ih =>
    intro k a h
    unfold dirtyFrom at h
    have step : a ∈ dirtyFrom (k + 1) S → k ≤ a ∧ ∃ l, (x :: S)[a - k]? = some l ∧ 1 < l.length := fun h => by
      obtain ⟨h1, l, h2, h3⟩ := ih (k + 1) a h
      refine ⟨by omega, l, ?_, h3⟩
      have e : a - k = (a - (k + 1)) + 1 := by omega
      rw [e, List.getElem?_cons_succ]
      exact h2
    split at h
    · rcases List.mem_cons.1 h with h | h
      · subst h
        exact ⟨Nat.le_refl _, x, by simp, by assumption⟩
      · exact step h
    · exact step h

set_option maxRecDepth 100000 in
theorem crashOn_snoc (ks : List Int) (a : Nat) : ∀ (L : List Nat) (i : Nat) (S : List (List ByteArray)),
    crashOn ks (L ++ [a]) i S = (crashOn ks L i S).set a [pick ((crashOn ks L i S).getD a []) (ks.getD (i + L.length) 0)]
  | [], i, S => rfl
  | b :: L, i, S => by
    show crashOn ks (L ++ [a]) (i + 1) _ = _
    rw [crashOn_snoc ks a L (i + 1) _, show i + 1 + L.length = i + (b :: L).length from by rw [List.length_cons]; omega]
    rfl

set_option maxRecDepth 100000 in
theorem crashOn_len (ks : List Int) : ∀ (L : List Nat) (i : Nat) (S : List (List ByteArray)), (crashOn ks L i S).length = S.length
  | [], _, _ => rfl
  | a :: L, i, S => by
    show (crashOn ks L (i + 1) _).length = _
    rw [crashOn_len ks L (i + 1) _, List.length_set]

set_option maxRecDepth 100000 in
theorem crashOn_each (ks : List Int) (N : Nat) : ∀ (L : List Nat) (i : Nat) (S : List (List ByteArray)), (∀ l ∈ S, 1 ≤ l.length ∧ l.length ≤ N + 1) → ∀ l ∈ crashOn ks L i S, 1 ≤ l.length ∧ l.length ≤ N + 1
  | [], _, _, h => h
  | a :: L, i, S, h => by
    refine crashOn_each ks N L (i + 1) _ (fun l hl => ?_)
    rcases List.mem_or_eq_of_mem_set hl with hl | hl
    · exact h l hl
    · subst hl
      simp

set_option maxRecDepth 100000 in
theorem new_fine (n : Nat) (h : n ≤ 4096) : (new n).Fine 0 where
  len := by show (List.replicate n _).length ≤ 4096; rw [List.length_replicate]; exact h
  each := fun l hl => by
    have := List.eq_of_mem_replicate hl
    subst this
    exact ⟨Nat.le_refl _, Nat.le_refl _⟩
  calls := Nat.le_refl _
  armed := by show (0 : Nat) < _; decide

set_option maxRecDepth 100000 in
theorem D.Fine.mono {d : D} {N M : Nat} (h : d.Fine N) (hM : N ≤ M) : d.Fine M := ⟨h.len, fun l hl => by have := h.each l hl; omega, by have := h.calls; omega, h.armed⟩

set_option maxRecDepth 100000 in
theorem D.Fine.call {d : D} {N : Nat} (h : d.Fine N) : d.call.Fine (N + 1) where
  len := h.len
  each := fun l hl => by have := h.each l hl; omega
  calls := by show d.calls + 1 ≤ N + 1; have := h.calls; omega
  armed := by show d.armed - 1 < _; have := h.armed; omega

set_option maxRecDepth 100000 in
theorem D.Fine.write {d : D} {N : Nat} (h : d.Fine N) (i : Int) (s : ByteArray) : (d.write i s).2.Fine (N + 1) := by
  unfold D.write
  split
  · exact h.mono (by omega)
  · split
    · exact h.mono (by omega)
    · split
      · exact h.mono (by omega)
      · split
        · exact h.call
        · rename_i hi _ _
          have hk : i.toNat < d.S.length := by omega
          refine ⟨?_, fun l hl => ?_, h.call.calls, h.call.armed⟩
          · show (d.S.set _ _).length ≤ 4096
            rw [List.length_set]; exact h.len
          · rcases List.mem_or_eq_of_mem_set hl with hl | hl
            · have := h.each l hl; omega
            · have := (h.at hk).2
              subst hl
              rw [List.length_append]
              simp
              omega

set_option maxRecDepth 100000 in
theorem D.Fine.flush {d : D} {N : Nat} (h : d.Fine N) : d.flush.2.Fine (N + 1) := by
  unfold D.flush
  split
  · exact h.mono (by omega)
  · split
    · exact h.call
    · refine ⟨?_, fun l hl => ?_, h.call.calls, h.call.armed⟩
      · show (d.S.map _).length ≤ 4096
        rw [List.length_map]; exact h.len
      · obtain ⟨l', _, rfl⟩ := List.mem_map.1 hl
        simp

set_option maxRecDepth 100000 in
theorem D.Fine.arm {d : D} {N : Nat} (h : d.Fine N) (n : Int) (hn : n ≤ 9223372036854775807) : (d.arm n).Fine N := ⟨h.len, h.each, h.calls, by show n.toNat < _; omega⟩

set_option maxRecDepth 100000 in
theorem D.Fine.crash {d : D} {N : Nat} (h : d.Fine N) (ks : List Int) : (d.crash ks).Fine N := by
  refine ⟨?_, ?_, h.calls, by show (0 : Nat) < _; decide⟩
  · show (crashOn _ _ _ _).length ≤ 4096
    rw [crashOn_len]; exact h.len
  · exact crashOn_each ks N _ _ _ h.each

set_option maxRecDepth 100000 in
theorem write_len (d : D) (i : Int) (s : ByteArray) : (d.write i s).2.S.length = d.S.length := by
  unfold D.write
  repeat' split
  all_goals first | rfl | exact List.length_set

set_option maxRecDepth 100000 in
theorem flush_len (d : D) : d.flush.2.S.length = d.S.length := by
  unfold D.flush
  repeat' split
  all_goals first | rfl | exact List.length_map _

set_option maxRecDepth 100000 in
theorem crash_len (d : D) (ks : List Int) : (d.crash ks).S.length = d.S.length := crashOn_len _ _ _ _

set_option maxRecDepth 100000 in
theorem fill_size (s : ByteArray) (h : s.size ≤ 64) : (fill s).size = 64 := by
  show (s.data ++ Array.replicate (64 - s.size) 0).size = 64
  rw [Array.size_append, Array.size_replicate]
  have : s.data.size = s.size := rfl
  omega
end Go.Proofs.Ytcgplonnhginiaa.Dsk
