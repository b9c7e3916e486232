/- Numbers as groups of seven bits, laid and read: lists of bytes alone, no program. -/
namespace Go.Proofs.Ytenlcadndfbnaaa.Leb

/-- A number from its byte i on: the number, how many bytes it has in all, and the error's number. -/
def dec : Nat → Nat → Nat → List UInt8 → Nat × Nat × Int
  | 0, _, _, _ => (0, 0, 6)
  | _ + 1, _, _, [] => (0, 0, 5)
  | f + 1, i, acc, b :: rest =>
    if b = 0 ∧ 0 < i then (0, 0, 6)
    else if b.toNat < 128 then (acc + b.toNat % 128 * 128 ^ i, i + 1, 0)
    else dec f (i + 1) (acc + b.toNat % 128 * 128 ^ i) rest

/-- The number that bytes begin with. -/
def first (l : List UInt8) : Nat × Nat × Int := dec 9 0 0 l

/-- The text that bytes begin with. -/
def second (l : List UInt8) : List UInt8 × Nat × Int :=
  if (first l).2.2 = 0 then
    if l.length - (first l).2.1 < (first l).1 then ([], 0, 5) else ((l.drop (first l).2.1).take (first l).1, (first l).2.1 + (first l).1, 0)
  else ([], 0, (first l).2.2)

/-- A number's bytes. -/
def encF : Nat → Nat → List UInt8
  | 0, n => [UInt8.ofNat n]
  | f + 1, n => if n ≤ 127 then [UInt8.ofNat n] else UInt8.ofNat (n % 128 + 128) :: encF f (n / 128)

def enc (n : Nat) : List UInt8 := encF 8 n

set_option maxRecDepth 100000 in
theorem encF_len (f n : Nat) : 1 ≤ (encF f n).length ∧ (encF f n).length ≤ f + 1 := by
  induction f generalizing n with
  | zero => simp [encF]
  | succ f ih =>
    simp only [encF]
    split
    · simp
    · have := ih (n / 128)
      simp only [List.length_cons]
      omega

set_option maxRecDepth 100000 in
theorem enc_len (n : Nat) : 1 ≤ (enc n).length ∧ (enc n).length ≤ 9 := encF_len 8 n

set_option maxRecDepth 100000 in
theorem toNat_ofNat (n : Nat) (h : n < 256) : (UInt8.ofNat n).toNat = n := by
  rw [UInt8.toNat_ofNat']; omega

set_option maxRecDepth 100000 in
theorem ofNat_ne (n : Nat) (h : n < 256) (h0 : 0 < n) : UInt8.ofNat n ≠ 0 := by
  intro e
  have : (UInt8.ofNat n).toNat = 0 := by rw [e]; rfl
  rw [toNat_ofNat n h] at this
  omega

set_option maxRecDepth 100000 in
theorem dec_enc (f i acc m : Nat) (s : List UInt8) (hm : m < 128 ^ (f + 1)) (h0 : 0 < i → 0 < m) :
    dec (f + 1) i acc (encF f m ++ s) = (acc + m * 128 ^ i, i + (encF f m).length, 0) := by
  induction f generalizing i acc m with
  | zero =>
    have hm' : m < 128 := by simpa using hm
    have ht := toNat_ofNat m (by omega)
    have hz : ¬ (UInt8.ofNat m = 0 ∧ 0 < i) := by
      rintro ⟨a, b⟩
      exact ofNat_ne m (by omega) (h0 b) a
    simp only [encF, List.cons_append, List.nil_append, dec, if_neg hz, ht, if_pos hm', List.length_cons, List.length_nil, Nat.mod_eq_of_lt hm']
  | succ f ih =>
    simp only [encF]
    by_cases hs : m ≤ 127
    · rw [if_pos hs]
      have hm' : m < 128 := by omega
      have ht := toNat_ofNat m (by omega)
      have hz : ¬ (UInt8.ofNat m = 0 ∧ 0 < i) := by
        rintro ⟨a, b⟩
        exact ofNat_ne m (by omega) (h0 b) a
      simp only [List.cons_append, List.nil_append, dec, if_neg hz, ht, if_pos hm', List.length_cons, List.length_nil, Nat.mod_eq_of_lt hm']
    · rw [if_neg hs]
      have ht := toNat_ofNat (m % 128 + 128) (by omega)
      have hz : ¬ (UInt8.ofNat (m % 128 + 128) = 0 ∧ 0 < i) := by
        rintro ⟨a, b⟩
        exact ofNat_ne (m % 128 + 128) (by omega) (by omega) a
      have hd : m / 128 < 128 ^ (f + 1) := by
        rw [Nat.div_lt_iff_lt_mul (by omega), ← Nat.pow_succ]; exact hm
      have := ih (i + 1) (acc + (m % 128) * 128 ^ i) (m / 128) hd (fun _ => by omega)
      have e1 : (m % 128 + 128) % 128 = m % 128 := by omega
      have e2 : acc + m % 128 * 128 ^ i + m / 128 * 128 ^ (i + 1) = acc + m * 128 ^ i := by
        rw [Nat.pow_succ, Nat.mul_comm (128 ^ i) 128, ← Nat.mul_assoc, Nat.add_assoc, ← Nat.add_mul]
        congr 2
        omega
      rw [List.cons_append, dec, if_neg hz, ht, if_neg (by omega), e1, this, e2]
      simp only [List.length_cons]
      congr 2
      omega

set_option maxRecDepth 100000 in
theorem dec_only (f i acc : Nat) (s : List UInt8) (n k : Nat) (h : dec (f + 1) i acc s = (n, k, 0)) :
    ∃ m, n = acc + m * 128 ^ i ∧ m < 128 ^ (f + 1) ∧ k = i + (encF f m).length ∧ s.take (encF f m).length = encF f m := by
  induction f generalizing i acc s n k with
  | zero =>
    cases s with
    | nil => simp [dec] at h
    | cons b rest =>
      simp only [dec] at h
      split at h
      · simp at h
      · split at h
        · rename_i hb
          simp only [Prod.mk.injEq, and_true] at h
          refine ⟨b.toNat, ?_, by simpa using hb, ?_, ?_⟩
          · rw [← h.1, Nat.mod_eq_of_lt hb]
          · simp [encF, h.2]
          · simp [encF]
        · simp at h
  | succ f ih =>
    cases s with
    | nil => simp [dec] at h
    | cons b rest =>
      rw [dec] at h
      split at h
      · simp at h
      · rename_i hz
        split at h
        · rename_i hb
          simp only [Prod.mk.injEq, and_true] at h
          have hpos : 0 < 128 ^ (f + 1) := Nat.pow_pos (by omega)
          refine ⟨b.toNat, ?_, ?_, ?_, ?_⟩
          · rw [← h.1, Nat.mod_eq_of_lt hb]
          · rw [Nat.pow_succ]; omega
          · rw [encF, if_pos (by omega)]; simp [h.2]
          · rw [encF, if_pos (by omega)]; simp
        · rename_i hb
          obtain ⟨m, h1, h2, h3, h4⟩ := ih _ _ _ _ _ h
          have hlt : b.toNat < 256 := b.toNat_lt
          have hm0 : 0 < m := by
            rcases Nat.eq_zero_or_pos m with h0 | h0
            · subst h0
              exfalso
              have he : encF f 0 = [0] := by cases f <;> rfl
              rw [he] at h4
              cases rest with
              | nil => simp at h4
              | cons c r =>
                simp at h4
                subst h4
                cases f <;> simp [dec] at h
            · exact h0
          have e1 : (b.toNat % 128 + m * 128) / 128 = m := by omega
          have e2 : (b.toNat % 128 + m * 128) % 128 = b.toNat % 128 := by omega
          have e3 : UInt8.ofNat (b.toNat % 128 + 128) = b := by
            have : b.toNat % 128 + 128 = b.toNat := by omega
            rw [this]; simp
          refine ⟨b.toNat % 128 + m * 128, ?_, ?_, ?_, ?_⟩
          · rw [h1, Nat.pow_succ, Nat.mul_comm (128 ^ i) 128, ← Nat.mul_assoc, Nat.add_assoc, ← Nat.add_mul]
          · rw [Nat.pow_succ]; omega
          · rw [encF, if_neg (by omega), e1, h3]; simp only [List.length_cons]; omega
          · rw [encF, if_neg (by omega), e1, e2, e3]; simp [h4]

set_option maxRecDepth 100000 in
theorem first_enc (n : Nat) (s : List UInt8) (h : n < 9223372036854775808) : first (enc n ++ s) = (n, (enc n).length, 0) := by
  have := dec_enc 8 0 0 n s (by simpa using h) (by omega)
  simpa [first, enc] using this

set_option maxRecDepth 100000 in
theorem first_only (s : List UInt8) (n k : Nat) (h : first s = (n, k, 0)) : n < 9223372036854775808 ∧ k = (enc n).length ∧ s.take k = enc n := by
  obtain ⟨m, h1, h2, h3, h4⟩ := dec_only 8 0 0 s n k h
  have e : n = m := by simpa using h1
  subst e
  refine ⟨by simpa using h2, by simpa [enc] using h3, ?_⟩
  have : k = (encF 8 n).length := by simpa using h3
  rw [this]; exact h4

set_option maxRecDepth 100000 in
theorem dec_fits (f i acc : Nat) (s : List UInt8) (h : acc < 128 ^ i) : (dec f i acc s).1 < 128 ^ (i + f) ∧ (dec f i acc s).2.1 ≤ i + s.length ∧ ((dec f i acc s).2.2 = 0 ∨ ((dec f i acc s).1 = 0 ∧ (dec f i acc s).2.1 = 0)) ∧ ((dec f i acc s).2.2 = 0 ∨ (dec f i acc s).2.2 = 5 ∨ (dec f i acc s).2.2 = 6) := by
  have hp : ∀ j, 0 < 128 ^ j := fun j => Nat.pow_pos (by omega)
  induction f generalizing i acc s with
  | zero => simp [dec, hp]
  | succ f ih =>
    cases s with
    | nil => simp [dec, hp]
    | cons b rest =>
      rw [dec]
      have hstep : acc + b.toNat % 128 * 128 ^ i < 128 ^ (i + 1) := by
        have h1 : b.toNat % 128 * 128 ^ i ≤ 127 * 128 ^ i := Nat.mul_le_mul_right _ (by omega)
        rw [Nat.pow_succ]; omega
      split
      · simp [hp]
      · split
        · refine ⟨Nat.lt_of_lt_of_le hstep (Nat.pow_le_pow_right (by omega) (by omega)), by simp only [List.length_cons]; omega, Or.inl rfl, Or.inl rfl⟩
        · have := ih (i + 1) _ rest hstep
          simp only [List.length_cons]
          refine ⟨by rw [show i + (f + 1) = i + 1 + f from by omega]; exact this.1, by omega, this.2.2⟩

set_option maxRecDepth 100000 in
theorem first_fits (s : List UInt8) : (first s).1 < 9223372036854775808 ∧ (first s).2.1 ≤ s.length ∧ ((first s).2.2 = 0 ∨ ((first s).1 = 0 ∧ (first s).2.1 = 0)) ∧ ((first s).2.2 = 0 ∨ (first s).2.2 = 5 ∨ (first s).2.2 = 6) := by
  have := dec_fits 9 0 0 s (by simp)
  simpa [first] using this

/-! ### In bits -/

set_option maxRecDepth 100000 in
theorem or_low (acc c i : Nat) (h : acc < 128 ^ i) : acc ||| (c <<< (7 * i)) = acc + c * 128 ^ i := by
  have e : (128 : Nat) ^ i = 2 ^ (7 * i) := by rw [Nat.pow_mul]
  rw [Nat.or_comm, ← Nat.shiftLeft_add_eq_or_of_lt (by rw [← e]; exact h), Nat.shiftLeft_eq, e]
  omega

set_option maxRecDepth 100000 in
theorem and_low (c : Nat) : c &&& 127 = c % 128 := Nat.and_two_pow_sub_one_eq_mod c 7

set_option maxRecDepth 100000 in
theorem and_high (c : Nat) (h : c < 256) : c &&& 128 = if c < 128 then 0 else 128 := by
  have : ∀ x : Fin 256, x.val &&& 128 = if x.val < 128 then 0 else 128 := by decide +kernel
  exact this ⟨c, h⟩
end Go.Proofs.Ytenlcadndfbnaaa.Leb
