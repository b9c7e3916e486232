/- Numbers as groups of seven bits, laid and read: lists of bytes alone, no program. -/
import Derived.Test.YtabnfaonlkipbaaGreatDoorCom4
import Derived.Test.YtabnfaonlkipbaaGreatDoorCom1
import Derived.Test.YtabnfaonlkipbaaGreatDoorCom3
import Derived.WalkKit
import Derived.Lib.Strings
import Derived.OwnWalk
import Derived.Lib.Hide
import Derived.Laws.BitsAllLaws
import Derived.Deep.QuietTactic
import Derived.BigQuiet
import Derived.Deep.RegionWith
import Derived.WalkSpells
import Derived.Deep.Slices
namespace Go.Proofs.YtabnfaonlkipbaaGreatDoor.Leb

/-- A number from its byte i on: the number, how many bytes it has in all, and the error's number. -/
def dec : Nat → Nat → Nat → List UInt8 → Nat × Nat × Int
  | 0, _, _, _ => (0, 0, 6)
  | _ + 1, _, _, [] => (0, 0, 5)
  | f + 1, i, acc, b :: rest =>
    if b = 0 ∧ 0 < i then (0, 0, 6)
    else if b.toNat < 128 then (acc + b.toNat % 128 * 128 ^ i, i + 1, 0)
    else dec f (i + 1) (acc + b.toNat % 128 * 128 ^ i) rest

/-- The number that bytes begin with. -/
def first (l : List UInt8) : Nat × Nat × Int := dec 9 0 0 l

/-- The text that bytes begin with. -/
def second (l : List UInt8) : List UInt8 × Nat × Int :=
  if (first l).2.2 = 0 then
    if l.length - (first l).2.1 < (first l).1 then ([], 0, 5) else ((l.drop (first l).2.1).take (first l).1, (first l).2.1 + (first l).1, 0)
  else ([], 0, (first l).2.2)

/-- A number's bytes. -/
def encF : Nat → Nat → List UInt8
  | 0, n => [UInt8.ofNat n]
  | f + 1, n => if n ≤ 127 then [UInt8.ofNat n] else UInt8.ofNat (n % 128 + 128) :: encF f (n / 128)

def enc (n : Nat) : List UInt8 := encF 8 n

set_option maxRecDepth 100000 in
theorem encF_len (f n : Nat) : 1 ≤ (encF f n).length ∧ (encF f n).length ≤ f + 1 := by
  induction f generalizing n with
  | zero => simp [encF]
  | succ f ih =>
    simp only [encF]
    split
    · simp
    · have := ih (n / 128)
      simp only [List.length_cons]
      omega

set_option maxRecDepth 100000 in
theorem enc_len (n : Nat) : 1 ≤ (enc n).length ∧ (enc n).length ≤ 9 := encF_len 8 n

set_option maxRecDepth 100000 in
theorem toNat_ofNat (n : Nat) (h : n < 256) : (UInt8.ofNat n).toNat = n := by
  rw [UInt8.toNat_ofNat']; omega

set_option maxRecDepth 100000 in
theorem ofNat_ne (n : Nat) (h : n < 256) (h0 : 0 < n) : UInt8.ofNat n ≠ 0 := by
  intro e
  have : (UInt8.ofNat n).toNat = 0 := by rw [e]; rfl
  rw [toNat_ofNat n h] at this
  omega

set_option maxRecDepth 100000 in
theorem dec_enc (f i acc m : Nat) (s : List UInt8) (hm : m < 128 ^ (f + 1)) (h0 : 0 < i → 0 < m) :
    dec (f + 1) i acc (encF f m ++ s) = (acc + m * 128 ^ i, i + (encF f m).length, 0) := by
  induction f generalizing i acc m with
  | zero =>
    have hm' : m < 128 := by simpa using hm
    have ht := toNat_ofNat m (by omega)
    have hz : ¬ (UInt8.ofNat m = 0 ∧ 0 < i) := by
      rintro ⟨a, b⟩
      exact ofNat_ne m (by omega) (h0 b) a
    simp only [encF, List.cons_append, List.nil_append, dec, if_neg hz, ht, if_pos hm', List.length_cons, List.length_nil, Nat.mod_eq_of_lt hm']
  | succ f ih =>
    simp only [encF]
    by_cases hs : m ≤ 127
    · rw [if_pos hs]
      have hm' : m < 128 := by omega
      have ht := toNat_ofNat m (by omega)
      have hz : ¬ (UInt8.ofNat m = 0 ∧ 0 < i) := by
        rintro ⟨a, b⟩
        exact ofNat_ne m (by omega) (h0 b) a
      simp only [List.cons_append, List.nil_append, dec, if_neg hz, ht, if_pos hm', List.length_cons, List.length_nil, Nat.mod_eq_of_lt hm']
    · rw [if_neg hs]
      have ht := toNat_ofNat (m % 128 + 128) (by omega)
      have hz : ¬ (UInt8.ofNat (m % 128 + 128) = 0 ∧ 0 < i) := by
        rintro ⟨a, b⟩
        exact ofNat_ne (m % 128 + 128) (by omega) (by omega) a
      have hd : m / 128 < 128 ^ (f + 1) := by
        rw [Nat.div_lt_iff_lt_mul (by omega), ← Nat.pow_succ]; exact hm
      have := ih (i + 1) (acc + (m % 128) * 128 ^ i) (m / 128) hd (fun _ => by omega)
      have e1 : (m % 128 + 128) % 128 = m % 128 := by omega
      have e2 : acc + m % 128 * 128 ^ i + m / 128 * 128 ^ (i + 1) = acc + m * 128 ^ i := by
        rw [Nat.pow_succ, Nat.mul_comm (128 ^ i) 128, ← Nat.mul_assoc, Nat.add_assoc, ← Nat.add_mul]
        congr 2
        omega
      rw [List.cons_append, dec, if_neg hz, ht, if_neg (by omega), e1, this, e2]
      simp only [List.length_cons]
      congr 2
      omega

set_option maxRecDepth 100000 in
theorem dec_only (f i acc : Nat) (s : List UInt8) (n k : Nat) (h : dec (f + 1) i acc s = (n, k, 0)) :
    ∃ m, n = acc + m * 128 ^ i ∧ m < 128 ^ (f + 1) ∧ k = i + (encF f m).length ∧ s.take (encF f m).length = encF f m := by
  induction f generalizing i acc s n k with
  | zero =>
    cases s with
    | nil => simp [dec] at h
    | cons b rest =>
      simp only [dec] at h
      split at h
      · simp at h
      · split at h
        · rename_i hb
          simp only [Prod.mk.injEq, and_true] at h
          refine ⟨b.toNat, ?_, by simpa using hb, ?_, ?_⟩
          · rw [← h.1, Nat.mod_eq_of_lt hb]
          · simp [encF, h.2]
          · simp [encF]
        · simp at h
  | succ f ih =>
    cases s with
    | nil => simp [dec] at h
    | cons b rest =>
      rw [dec] at h
      split at h
      · simp at h
      · rename_i hz
        split at h
        · rename_i hb
          simp only [Prod.mk.injEq, and_true] at h
          have hpos : 0 < 128 ^ (f + 1) := Nat.pow_pos (by omega)
          refine ⟨b.toNat, ?_, ?_, ?_, ?_⟩
          · rw [← h.1, Nat.mod_eq_of_lt hb]
          · rw [Nat.pow_succ]; omega
          · rw [encF, if_pos (by omega)]; simp [h.2]
          · rw [encF, if_pos (by omega)]; simp
        · rename_i hb
          obtain ⟨m, h1, h2, h3, h4⟩ := ih _ _ _ _ _ h
          have hlt : b.toNat < 256 := b.toNat_lt
          have hm0 : 0 < m := by
            rcases Nat.eq_zero_or_pos m with h0 | h0
            · subst h0
              exfalso
              have he : encF f 0 = [0] := by cases f <;> rfl
              rw [he] at h4
              cases rest with
              | nil => simp at h4
              | cons c r =>
                simp at h4
                subst h4
                cases f <;> simp [dec] at h
            · exact h0
          have e1 : (b.toNat % 128 + m * 128) / 128 = m := by omega
          have e2 : (b.toNat % 128 + m * 128) % 128 = b.toNat % 128 := by omega
          have e3 : UInt8.ofNat (b.toNat % 128 + 128) = b := by
            have : b.toNat % 128 + 128 = b.toNat := by omega
            rw [this]; simp
          refine ⟨b.toNat % 128 + m * 128, ?_, ?_, ?_, ?_⟩
          · rw [h1, Nat.pow_succ, Nat.mul_comm (128 ^ i) 128, ← Nat.mul_assoc, Nat.add_assoc, ← Nat.add_mul]
          · rw [Nat.pow_succ]; omega
          · rw [encF, if_neg (by omega), e1, h3]; simp only [List.length_cons]; omega
          · rw [encF, if_neg (by omega), e1, e2, e3]; simp [h4]

set_option maxRecDepth 100000 in
theorem first_enc (n : Nat) (s : List UInt8) (h : n < 9223372036854775808) : first (enc n ++ s) = (n, (enc n).length, 0) := by
  have := dec_enc 8 0 0 n s (by simpa using h) (by omega)
  simpa [first, enc] using this

set_option maxRecDepth 100000 in
theorem first_only (s : List UInt8) (n k : Nat) (h : first s = (n, k, 0)) : n < 9223372036854775808 ∧ k = (enc n).length ∧ s.take k = enc n := by
  obtain ⟨m, h1, h2, h3, h4⟩ := dec_only 8 0 0 s n k h
  have e : n = m := by simpa using h1
  subst e
  refine ⟨by simpa using h2, by simpa [enc] using h3, ?_⟩
  have : k = (encF 8 n).length := by simpa using h3
  rw [this]; exact h4

set_option maxRecDepth 100000 in
theorem dec_fits (f i acc : Nat) (s : List UInt8) (h : acc < 128 ^ i) : (dec f i acc s).1 < 128 ^ (i + f) ∧ (dec f i acc s).2.1 ≤ i + s.length ∧ ((dec f i acc s).2.2 = 0 ∨ ((dec f i acc s).1 = 0 ∧ (dec f i acc s).2.1 = 0)) ∧ ((dec f i acc s).2.2 = 0 ∨ (dec f i acc s).2.2 = 5 ∨ (dec f i acc s).2.2 = 6) := by
  have hp : ∀ j, 0 < 128 ^ j := fun j => Nat.pow_pos (by omega)
  induction f generalizing i acc s with
  | zero => simp [dec, hp]
  | succ f ih =>
    cases s with
    | nil => simp [dec, hp]
    | cons b rest =>
      rw [dec]
      have hstep : acc + b.toNat % 128 * 128 ^ i < 128 ^ (i + 1) := by
        have h1 : b.toNat % 128 * 128 ^ i ≤ 127 * 128 ^ i := Nat.mul_le_mul_right _ (by omega)
        rw [Nat.pow_succ]; omega
      split
      · simp [hp]
      · split
        · refine ⟨Nat.lt_of_lt_of_le hstep (Nat.pow_le_pow_right (by omega) (by omega)), by simp only [List.length_cons]; omega, Or.inl rfl, Or.inl rfl⟩
        · have := ih (i + 1) _ rest hstep
          simp only [List.length_cons]
          refine ⟨by rw [show i + (f + 1) = i + 1 + f from by omega]; exact this.1, by omega, this.2.2⟩

set_option maxRecDepth 100000 in
theorem first_fits (s : List UInt8) : (first s).1 < 9223372036854775808 ∧ (first s).2.1 ≤ s.length ∧ ((first s).2.2 = 0 ∨ ((first s).1 = 0 ∧ (first s).2.1 = 0)) ∧ ((first s).2.2 = 0 ∨ (first s).2.2 = 5 ∨ (first s).2.2 = 6) := by
  have := dec_fits 9 0 0 s (by simp)
  simpa [first] using this

/-! ### In bits -/

set_option maxRecDepth 100000 in
theorem or_low (acc c i : Nat) (h : acc < 128 ^ i) : acc ||| (c <<< (7 * i)) = acc + c * 128 ^ i := by
  have e : (128 : Nat) ^ i = 2 ^ (7 * i) := by rw [Nat.pow_mul]
  rw [Nat.or_comm, ← Nat.shiftLeft_add_eq_or_of_lt (by rw [← e]; exact h), Nat.shiftLeft_eq, e]
  omega

set_option maxRecDepth 100000 in
theorem and_low (c : Nat) : c &&& 127 = c % 128 := Nat.and_two_pow_sub_one_eq_mod c 7

set_option maxRecDepth 100000 in
theorem and_high (c : Nat) (h : c < 256) : c &&& 128 = if c < 128 then 0 else 128 := by
  have : ∀ x : Fin 256, x.val &&& 128 = if x.val < 128 then 0 else 128 := by decide +kernel
  exact this ⟨c, h⟩
end Go.Proofs.YtabnfaonlkipbaaGreatDoor.Leb
/- Records with their sums: lists of bytes alone. -/
namespace Go.Proofs.YtabnfaonlkipbaaGreatDoor.Frm

def sumOf (t : List UInt8) : List UInt8 := fourOf (Crc.sum t).toNat

set_option maxRecDepth 100000 in
theorem sumOf_len (t : List UInt8) : (sumOf t).length = 4 := rfl

/-- A record, as it stands. -/
def one (t : List UInt8) : List UInt8 := Leb.enc t.length ++ t ++ sumOf t

def all (l : List (List UInt8)) : List UInt8 := l.flatMap one

set_option maxRecDepth 100000 in
theorem one_len (t : List UInt8) : (one t).length = (Leb.enc t.length).length + t.length + 4 := by
  unfold one
  rw [List.length_append, List.length_append, sumOf_len]

set_option maxRecDepth 100000 in
theorem all_cons (t : List UInt8) (l : List (List UInt8)) : all (t :: l) = one t ++ all l := rfl
set_option maxRecDepth 100000 in
theorem all_snoc (l : List (List UInt8)) (t : List UInt8) : all (l ++ [t]) = all l ++ one t := by simp [all]

/-- The record that bytes begin with. -/
def first (s : List UInt8) : List UInt8 × Nat × Int :=
  if (Leb.second s).2.2 = 0 then
    if s.length - (Leb.second s).2.1 < 4 then ([], 0, 5)
    else if (s.drop (Leb.second s).2.1).take 4 = sumOf (Leb.second s).1 then ((Leb.second s).1, (Leb.second s).2.1 + 4, 0) else ([], 0, 7)
  else ([], 0, (Leb.second s).2.2)

def readF : Nat → List UInt8 → List (List UInt8) × Int
  | 0, s => if s = [] then ([], 0) else ([], 5)
  | f + 1, s =>
    if s = [] then ([], 0)
    else if (first s).2.2 = 0 then
      if (readF f (s.drop (first s).2.1)).2 = 0 then ((first s).1 :: (readF f (s.drop (first s).2.1)).1, 0) else ([], (readF f (s.drop (first s).2.1)).2)
    else ([], (first s).2.2)

/-- All records. -/
def read (s : List UInt8) : List (List UInt8) × Int := readF s.length s

set_option maxRecDepth 100000 in
theorem second_enc (t r : List UInt8) (h : t.length < 9223372036854775808) : Leb.second (Leb.enc t.length ++ t ++ r) = (t, (Leb.enc t.length).length + t.length, 0) := by
  have h1 := Leb.first_enc t.length (t ++ r) h
  rw [← List.append_assoc] at h1
  unfold Leb.second
  rw [h1]
  simp only [if_true]
  rw [if_neg (by simp)]
  congr 1
  rw [List.append_assoc, List.drop_left, List.take_left]

set_option maxRecDepth 100000 in
theorem first_one (t r : List UInt8) (h : t.length < 9223372036854775808) : first (one t ++ r) = (t, (one t).length, 0) := by
  have h2 : Leb.second (one t ++ r) = (t, (Leb.enc t.length).length + t.length, 0) := by
    unfold one
    rw [List.append_assoc (Leb.enc t.length ++ t)]
    exact second_enc t (sumOf t ++ r) h
  unfold first
  rw [h2]
  simp only [if_true]
  rw [if_neg (by rw [List.length_append, one_len]; omega)]
  have h3 : ((one t ++ r).drop ((Leb.enc t.length).length + t.length)).take 4 = sumOf t := by
    have e : one t ++ r = (Leb.enc t.length ++ t) ++ (sumOf t ++ r) := by unfold one; simp
    rw [e, ← List.length_append, List.drop_left, ← sumOf_len t, List.take_left]
  rw [if_pos h3, one_len]

set_option maxRecDepth 100000 in
theorem second_only (s t : List UInt8) (k : Nat) (h : Leb.second s = (t, k, 0)) : t.length < 9223372036854775808 ∧ k = (Leb.enc t.length).length + t.length ∧ s.take k = Leb.enc t.length ++ t ∧ k ≤ s.length := by
  unfold Leb.second at h
  by_cases he : (Leb.first s).2.2 = 0
  · rw [if_pos he] at h
    by_cases hl : s.length - (Leb.first s).2.1 < (Leb.first s).1
    · rw [if_pos hl] at h
      simp at h
    · rw [if_neg hl] at h
      simp only [Prod.mk.injEq] at h
      obtain ⟨h1, h2, _⟩ := h
      have hf := Leb.first_fits s
      obtain ⟨g1, g2, g3⟩ := Leb.first_only s (Leb.first s).1 (Leb.first s).2.1 (by rw [← he])
      have hkl := hf.2.1
      have hlen : t.length = (Leb.first s).1 := by
        rw [← h1, List.length_take, List.length_drop]
        omega
      refine ⟨by rw [hlen]; exact g1, by rw [← h2, hlen, ← g2], ?_, by omega⟩
      rw [← h2, List.take_add, g3, hlen, ← h1]
  · rw [if_neg he] at h
    simp only [Prod.mk.injEq] at h
    exact absurd h.2.2 he

set_option maxRecDepth 100000 in
theorem first_only (s t : List UInt8) (n : Nat) (h : first s = (t, n, 0)) : t.length < 9223372036854775808 ∧ n = (one t).length ∧ s = one t ++ s.drop n ∧ 5 ≤ n := by
  unfold first at h
  by_cases he : (Leb.second s).2.2 = 0
  · rw [if_pos he] at h
    by_cases hl : s.length - (Leb.second s).2.1 < 4
    · rw [if_pos hl] at h; simp at h
    · rw [if_neg hl] at h
      by_cases hs : (s.drop (Leb.second s).2.1).take 4 = sumOf (Leb.second s).1
      · rw [if_pos hs] at h
        simp only [Prod.mk.injEq, and_true] at h
        obtain ⟨h1, h2⟩ := h
        obtain ⟨g1, g2, g3, g4⟩ := second_only s (Leb.second s).1 (Leb.second s).2.1 (by rw [← he])
        rw [h1] at g1 g2 g3 hs
        have hn : n = (one t).length := by rw [one_len, ← g2]; exact h2.symm
        refine ⟨g1, hn, ?_, by have := (Leb.enc_len t.length).1; rw [hn, one_len]; omega⟩
        have e : s.take n = one t := by
          rw [← h2, List.take_add, g3, hs]
          rfl
        rw [← e, List.take_append_drop]
      · rw [if_neg hs] at h; simp at h
  · rw [if_neg he] at h
    simp only [Prod.mk.injEq] at h
    exact absurd h.2.2 he

set_option maxRecDepth 100000 in
theorem one_pos (t : List UInt8) : 5 ≤ (one t).length := by
  have := (Leb.enc_len t.length).1
  rw [one_len]; omega

set_option maxRecDepth 100000 in
theorem readF_all : ∀ (l : List (List UInt8)) (f : Nat), (∀ t ∈ l, t.length < 9223372036854775808) → (all l).length ≤ f → readF f (all l) = (l, 0)
  | [], f, _, _ => by cases f <;> rfl
  | t :: l, f, h, hf => by
    have hp := one_pos t
    rw [all_cons, List.length_append] at hf
    match f, hf with
    | 0, hf => omega
    | f + 1, hf =>
      have h1 := first_one t (all l) (h t (by simp))
      have hne : one t ++ all l ≠ [] := fun e => by
        have := congrArg List.length e
        rw [List.length_append] at this
        simp at this
        rw [this.1] at hp
        simp at hp
      rw [all_cons, readF, if_neg hne, h1]
      simp only [if_true]
      rw [List.drop_left, readF_all l f (fun x hx => h x (by simp [hx])) (by omega)]
      simp

set_option maxRecDepth 100000 in
theorem read_all (l : List (List UInt8)) (h : ∀ t ∈ l, t.length < 9223372036854775808) : read (all l) = (l, 0) := readF_all l _ h (Nat.le_refl _)

set_option maxRecDepth 100000 in
theorem readF_only : ∀ (f : Nat) (s : List UInt8) (l : List (List UInt8)), readF f s = (l, 0) → all l = s
  | 0, s, l, h => by
    unfold readF at h
    by_cases e : s = []
    · rw [if_pos e] at h
      simp at h
      rw [h, e]; rfl
    · rw [if_neg e] at h; simp at h
  | f + 1, s, l, h => by
    unfold readF at h
    by_cases e : s = []
    · rw [if_pos e] at h
      simp at h
      rw [h, e]; rfl
    · rw [if_neg e] at h
      by_cases he : (first s).2.2 = 0
      · rw [if_pos he] at h
        by_cases hr : (readF f (s.drop (first s).2.1)).2 = 0
        · rw [if_pos hr] at h
          simp only [Prod.mk.injEq, and_true] at h
          obtain ⟨g1, g2, g3, g4⟩ := first_only s (first s).1 (first s).2.1 (by rw [← he])
          have ih := readF_only f (s.drop (first s).2.1) _ (by rw [← hr])
          rw [← h, all_cons, ih]
          exact g3.symm
        · rw [if_neg hr] at h
          simp only [Prod.mk.injEq] at h
          exact absurd h.2 hr
      · rw [if_neg he] at h
        simp only [Prod.mk.injEq] at h
        exact absurd h.2 he

set_option maxRecDepth 100000 in
theorem read_only (s : List UInt8) (l : List (List UInt8)) (h : read s = (l, 0)) : all l = s := readF_only _ _ _ h

set_option maxRecDepth 100000 in
/-- What is left of bytes does not hang on the steps allowed. -/
theorem readF_enough : ∀ (f g : Nat) (s : List UInt8), s.length ≤ f → s.length ≤ g → readF f s = readF g s
  | 0, g, s, hf, _ => by
    have : s = [] := List.eq_nil_of_length_eq_zero (by omega)
    subst this
    cases g <;> rfl
  | f + 1, 0, s, _, hg => by
    have : s = [] := List.eq_nil_of_length_eq_zero (by omega)
    subst this
    rfl
  | f + 1, g + 1, s, hf, hg => by
    unfold readF
    by_cases e : s = []
    · rw [if_pos e, if_pos e]
    · rw [if_neg e, if_neg e]
      by_cases he : (first s).2.2 = 0
      · have hn := (first_only s (first s).1 (first s).2.1 (by rw [← he])).2.2.2
        have hs : 0 < s.length := List.length_pos_iff.2 e
        have ih := readF_enough f g (s.drop (first s).2.1) (by rw [List.length_drop]; omega) (by rw [List.length_drop]; omega)
        rw [if_pos he, if_pos he, ih]
      · rw [if_neg he, if_neg he]

set_option maxRecDepth 100000 in
theorem read_step (s : List UInt8) (h : s ≠ []) : read s = if (first s).2.2 = 0 then (if (read (s.drop (first s).2.1)).2 = 0 then ((first s).1 :: (read (s.drop (first s).2.1)).1, 0) else ([], (read (s.drop (first s).2.1)).2)) else ([], (first s).2.2) := by
  have hs : 0 < s.length := List.length_pos_iff.2 h
  unfold read
  obtain ⟨f, hf⟩ : ∃ f, s.length = f + 1 := ⟨s.length - 1, by omega⟩
  rw [hf, readF, if_neg h]
  by_cases he : (first s).2.2 = 0
  · have hn := (first_only s (first s).1 (first s).2.1 (by rw [← he])).2.2.2
    rw [if_pos he, if_pos he, readF_enough f (s.drop (first s).2.1).length (s.drop (first s).2.1) (by rw [List.length_drop]; omega) (Nat.le_refl _)]
  · rw [if_neg he, if_neg he]

set_option maxRecDepth 100000 in
/-- A wrong end leaves no records. -/
theorem read_none (s : List UInt8) (h : (read s).2 ≠ 0) : (read s).1 = [] := by
  unfold read at h ⊢
  generalize s.length = f at *
  cases f with
  | zero =>
    unfold readF at h ⊢
    split <;> rfl
  | succ f =>
    unfold readF at h ⊢
    split
    · rfl
    · split
      · split
        · rename_i h1 h2 h3
          rw [if_neg h1, if_pos h2, if_pos h3] at h
          exact absurd rfl h
        · rfl
      · rfl
end Go.Proofs.YtabnfaonlkipbaaGreatDoor.Frm
/- Small laws on bytes. No program is spoken of. -/
namespace Go.Proofs.YtabnfaonlkipbaaGreatDoor
open Go.RowKit

set_option maxRecDepth 100000 in
theorem cut_data (r : ByteArray) (k : Nat) : (r.extract k r.size).data.toList = r.data.toList.drop k := by
  rw [Lib.extract_data]
  exact List.take_of_length_le (by rw [List.length_drop, Lib.size_eq]; exact Nat.le_refl _)

set_option maxRecDepth 100000 in
theorem bytes_ext {a b : ByteArray} (h : a.data.toList = b.data.toList) : a = b := ByteArray.ext (Array.toList_inj.1 h)

set_option maxRecDepth 100000 in
theorem cut_cut (r : ByteArray) (k j : Nat) : (r.extract k r.size).extract j (r.extract k r.size).size = r.extract (k + j) r.size :=
  bytes_ext (by rw [cut_data, cut_data, cut_data, List.drop_drop])

set_option maxRecDepth 100000 in
theorem at_data (r : ByteArray) (h : 0 < r.size) {c : UInt8} (hc : r.data.toList[0]? = some c) : r[0]'h = c := by
  obtain ⟨hl, he⟩ := List.getElem?_eq_some_iff.1 hc
  rw [← he, Array.getElem_toList]
  rfl

set_option maxRecDepth 100000 in
theorem mk_size (l : List UInt8) : (⟨l.toArray⟩ : ByteArray).size = l.length := by rw [Lib.size_eq]
end Go.Proofs.YtabnfaonlkipbaaGreatDoor
/- The document's own answers: Number, Text, First, Second. -/
namespace Go.Proofs.YtabnfaonlkipbaaGreatDoor
open Go.RowKit

set_option maxRecDepth 100000 in
theorem one_byte (W : World) (g : Nat) (hg : g < 256) :
    (convert 66 9 (.slice (some ⟨W.heap.size, 0, none⟩) 1 1)).run Tryz.prog (W.alloc (.cells #[.int .u8 (g : Int)] 5)) = .ok (.string ⟨#[UInt8.ofNat g]⟩) (W.alloc (.cells #[.int .u8 (g : Int)] 5)) := by
  refine run_convert_bytes_back (P := Tryz.prog) _ 66 9 5 ⟨W.heap.size, 0, none⟩ 1 [UInt8.ofNat g] Tryz.underlying66 Tryz.underlying5 Tryz.underlying9 (fun j hj => ?_)
  have hj0 : j = 0 := by simpa using hj
  subst hj0
  have := (Row.made W 5 #[.int .u8 (g : Int)]).at 0
  rw [show (⟨W.heap.size, 0, none⟩ : Addr).add 0 = ⟨W.heap.size, 0, none⟩ from rfl, this]
  simp only [List.getElem_cons_zero, Leb.toNat_ofNat g hg]
  rfl

def RefLoop (w : World) (l : List UInt8) (out : ByteArray) (m : Nat) (wr : World) : Prop :=
  ∃ f, m < 128 ^ (f + 1) ∧ f ≤ 8 ∧ out.data.toList ++ Leb.encF f m = l ∧ Below w.heap.size w wr

def TripleIs (n k : Nat) (x : Int) (w : World) (e : Ending) (w' : World) : Prop := e = .returned (.tuple #[.int .i64 n, .int .i64 k, .int .i64 x]) ∧ w = w'

def FirstRel (l : List UInt8) (k acc p : Nat) : Prop :=
  k ≤ l.length ∧ acc < 128 ^ k ∧ p = 128 ^ (min k 8) ∧ Leb.dec (9 - k) k acc (l.drop k) = Leb.first l

end Go.Proofs.YtabnfaonlkipbaaGreatDoor
/- The document's own answers of layer 4: One, All, First, Read; two slices that read as one list of texts. -/
namespace Go.Proofs.YtabnfaonlkipbaaGreatDoor
open Go.RowKit

def mk (l : List UInt8) : ByteArray := ⟨l.toArray⟩
set_option maxRecDepth 100000 in
theorem mk_data (l : List UInt8) : (mk l).data.toList = l := rfl
set_option maxRecDepth 100000 in
theorem mk_len (l : List UInt8) : (mk l).size = l.length := by rw [Lib.size_eq]; rfl
set_option maxRecDepth 100000 in
theorem mk_of (s : ByteArray) : mk s.data.toList = s := bytes_ext rfl
set_option maxRecDepth 100000 in
theorem mk_append (a b : List UInt8) : mk a ++ mk b = mk (a ++ b) := bytes_ext (by rw [ByteArray.data_append, Array.toList_append]; rfl)

def texts (l : List (List UInt8)) : List Value := l.map fun t => Value.string (mk t)
set_option maxRecDepth 100000 in
theorem texts_len (l : List (List UInt8)) : (texts l).length = l.length := List.length_map _
set_option maxRecDepth 100000 in
theorem texts_at {l : List (List UInt8)} {i : Nat} {t : List UInt8} (h : l[i]? = some t) : (texts l)[i]? = some (.string (mk t)) := by
  unfold texts
  rw [List.getElem?_map, h]; rfl

def NewIn (w w' : World) (k : Nat) : Prop := w.heap.size ≤ k ∧ k < w'.heap.size

set_option maxRecDepth 100000 in
theorem all_len (l : List (List UInt8)) (h : ∀ t ∈ l, t.length ≤ 100000) : (Frm.all l).length ≤ l.length * 100013 := by
  induction l with
  | nil => exact Nat.le_refl _
  | cons t l ih =>
    have h1 := ih (fun x hx => h x (by simp [hx]))
    have h2 := h t (by simp)
    have h3 := (Leb.enc_len t.length).2
    rw [Frm.all_cons, List.length_append, Frm.one_len, List.length_cons]
    omega

end Go.Proofs.YtabnfaonlkipbaaGreatDoor
/- What the package sizes is to answer to layer 8's laws and those above (SizesOk); ranges in memory. -/
namespace Go.Proofs.YtabnfaonlkipbaaGreatDoor
open Go.RowKit

def rgV (r : Sz.Rg) : List Value := [.int .i64 r.1, .int .i64 r.2]
/-- Ranges in memory. -/
abbrev Rgs (w : World) (F : Nat → Prop) (v : Value) (l : List Sz.Rg) : Prop := Rws 2 rgV w F v l
/-- Numbers as a program can hold them. -/
def Bd (r : Sz.Rg) : Prop := -9223372036854775808 ≤ r.1 ∧ r.1 ≤ 9223372036854775807 ∧ -9223372036854775808 ≤ r.2 ∧ r.2 ≤ 9223372036854775807

set_option maxRecDepth 100000 in
theorem rg_len (r : Sz.Rg) : (rgV r).length = 2 := rfl
set_option maxRecDepth 100000 in
theorem rg_one (r : Sz.Rg) : ∀ u ∈ rgV r, u.oneCell' = true := by
  intro u hu
  unfold rgV at hu
  simp only [List.mem_cons, List.not_mem_nil, or_false] at hu
  rcases hu with rfl | rfl <;> rfl

structure SizesOk : Prop where
  norm : ∀ {w : World} {F : Nat → Prop} {v : Value} {l : List Sz.Rg}, Rgs w F v l → l.length ≤ 100000 → (∀ r ∈ l, Bd r) → Calls Tryz.prog 91 #[v] w fun e w' => ∃ v', e = .returned v' ∧ Rgs w' (NewIn w w') v' (Sz.norm l) ∧ Below w.heap.size w w'
  join : ∀ {w : World} {F G : Nat → Prop} {u v : Value} {a b : List Sz.Rg}, Rgs w F u a → Rgs w G v b → a.length ≤ 100000 → b.length ≤ 100000 → (∀ r ∈ a, Bd r) → (∀ r ∈ b, Bd r) → Calls Tryz.prog 66 #[u, v] w fun e w' => ∃ v', e = .returned v' ∧ Rgs w' (NewIn w w') v' (Sz.two 0 a b) ∧ Below w.heap.size w w'
  minus : ∀ {w : World} {F G : Nat → Prop} {u v : Value} {a b : List Sz.Rg}, Rgs w F u a → Rgs w G v b → a.length ≤ 100000 → b.length ≤ 100000 → (∀ r ∈ a, Bd r) → (∀ r ∈ b, Bd r) → Calls Tryz.prog 49 #[u, v] w fun e w' => ∃ v', e = .returned v' ∧ Rgs w' (NewIn w w') v' (Sz.two 2 a b) ∧ Below w.heap.size w w'
set_option maxRecDepth 100000 in
theorem Rgs.at {w : World} {F : Nat → Prop} {b o : Nat} {n cap : Nat} {l : List Sz.Rg} (h : Rgs w F (.slice (some ⟨b, o, none⟩) n cap) l) {i : Nat} {x : Sz.Rg} (hx : l[i]? = some x) :
    w.cell? ⟨b, o + i * 2, none⟩ = some (.int .i64 x.1) ∧ w.cell? ⟨b, o + i * 2 + 1, none⟩ = some (.int .i64 x.2) := by
  obtain ⟨A, c, e, -, hat⟩ := h
  injection e with e1 e2 e3
  obtain ⟨b', o', e, -, -, hc⟩ := hat (by obtain ⟨hl, _⟩ := List.getElem?_eq_some_iff.1 hx; omega)
  rw [e] at e1
  injection e1 with e1
  injection e1 with e1 e2
  subst e1 e2
  exact ⟨hc i x hx 0 _ rfl, hc i x hx 1 _ rfl⟩

set_option maxRecDepth 100000 in
theorem Rgs.slice {w : World} {F : Nat → Prop} {v : Value} {l : List Sz.Rg} (h : Rgs w F v l) : ∃ A cap, v = .slice A l.length cap ∧ l.length ≤ cap := by
  obtain ⟨A, c, e, hc, hat⟩ := h
  exact ⟨A, c, e, hc⟩

set_option maxRecDepth 100000 in
theorem Rgs.shape {w : World} {F : Nat → Prop} {v : Value} {l : List Sz.Rg} (h : Rgs w F v l) (h0 : 0 < l.length) : ∃ b o cap, v = .slice (some ⟨b, o, Option.none⟩) l.length cap ∧ l.length ≤ cap ∧ F b ∧ b < w.heap.size := by
  obtain ⟨A, c, e, hc, hat⟩ := h
  obtain ⟨b, o, rfl, hb, hl, -⟩ := hat h0
  exact ⟨b, o, c, e, hc, hb, hl⟩

set_option maxRecDepth 100000 in
theorem norm_bd (l : List Sz.Rg) : (∀ r ∈ Sz.norm l, Bd r) ∧ (Sz.norm l).length ≤ 202 := by
  refine ⟨fun r hr => ?_, ?_⟩
  · have := Sz.formR_bd (Sz.of l) 0 none (by rw [Sz.of_len]; omega) (fun lo h => by cases h) r hr
    unfold Bd; omega
  · have := Sz.formR_len (Sz.of l) 0 none
    rw [Sz.of_len] at this
    exact this
set_option maxRecDepth 100000 in
theorem two_bd (k : Nat) (a b : List Sz.Rg) : (∀ r ∈ Sz.two k a b, Bd r) ∧ (Sz.two k a b).length ≤ 202 := by
  refine ⟨fun r hr => ?_, ?_⟩
  · have := Sz.formR_bd _ 0 none (by simp) (fun lo h => by cases h) r hr
    unfold Bd; omega
  · have := Sz.formR_len ((List.range 201).map fun (i : Nat) => Sz.pick k (Sz.holds a (i : Int)) (Sz.holds b (i : Int))) 0 none
    rw [List.length_map, List.length_range] at this
    exact this
end Go.Proofs.YtabnfaonlkipbaaGreatDoor
/- A call's own slice of elements of whatever cells (RowsOwn): begun, one element more, kept. -/
namespace Go.Proofs.YtabnfaonlkipbaaGreatDoor
open Go.RowKit

section
variable {α : Type} {t k : Nat} {f : α → List Value} {w wr w1 w2 : World} {out : List α} {v v' : Value}

set_option maxRecDepth 100000 in
theorem row_below {base t size n : Nat} {v : Value} {xs : List Value} (h : w.ownsRow base t size v n xs) (k : Below w.heap.size w w1) : w1.ownsRow base t size v n xs :=
  h.kept (Kept.ofBelow k (fun i => i = w.heap.size)).grown (Or.inr (fun e => by have := (h.lt _ e).2; omega))

/-- The call's own slice holds these elements. -/
def RowsOwn (t k : Nat) (f : α → List Value) (w : World) (out : List α) (v : Value) (wr : World) : Prop := wr.ownsRow w.heap.size t k v out.length (out.flatMap f) ∧ Below w.heap.size w wr

set_option maxRecDepth 100000 in
theorem RowsOwn.start (t k : Nat) (f : α → List Value) (w : World) : RowsOwn t k f w [] (.slice none 0 0) w := ⟨World.ownsRow_nil _ _ _ _, Below.refl _ _⟩
set_option maxRecDepth 100000 in
theorem RowsOwn.first (h : Below w.heap.size w wr) : RowsOwn t k f w [] (.slice none 0 0) wr := ⟨World.ownsRow_nil _ _ _ _, h⟩
set_option maxRecDepth 100000 in
theorem RowsOwn.below (h : RowsOwn t k f w out v w1) (hb : Below w1.heap.size w1 w2) : RowsOwn t k f w out v w2 := ⟨row_below h.1 hb, h.2.trans (hb.mono h.2.size)⟩
set_option maxRecDepth 100000 in
theorem row_lower {a b t size n : Nat} {v : Value} {xs : List Value} (h : w.ownsRow b t size v n xs) (hab : a ≤ b) : w.ownsRow a t size v n xs := by
  refine ⟨h.1, ?_⟩
  rcases h.2 with h2 | ⟨g, cap, cur, hv, hb, r⟩
  · exact Or.inl h2
  · exact Or.inr ⟨g, cap, cur, hv, Nat.le_trans hab hb, r⟩
set_option maxRecDepth 100000 in
/-- What a call made that came later. -/
theorem RowsOwn.since (h : RowsOwn t k f w1 out v w2) (hb : Below w.heap.size w w1) : RowsOwn t k f w out v w2 := ⟨row_lower h.1 hb.size, hb.trans (h.2.mono hb.size)⟩
set_option maxRecDepth 100000 in
theorem RowsOwn.more {x : α} {o : Obj} (h : RowsOwn t k f w out v wr) (hown : w2.ownsRow w.heap.size t k v' (out.length + 1) (out.flatMap f ++ f x)) (hg : (wr.alloc o).grownBy w2 v.ownBlock) : RowsOwn t k f w (out ++ [x]) v' w2 := by
  obtain ⟨h1, h2⟩ := h
  refine ⟨?_, (h2.alloc h2.size o).grown hg (by have := h2.size; simp; omega) (fun k hk => (h1.lt k hk).1)⟩
  rw [List.length_append, List.flatMap_append]
  simpa using hown
set_option maxRecDepth 100000 in
theorem RowsOwn.rows (h : RowsOwn t k f w out v wr) (hk : ∀ x ∈ out, (f x).length = k) : Rws k f wr (NewIn w wr) v out := Rws.ofOwn h.1 rfl hk (fun _ _ h1 h2 => ⟨h1, h2⟩)
set_option maxRecDepth 100000 in
theorem Rws.block {F : Nat → Prop} {v : Value} {l : List α} (h : Rws k f w F v l) (h0 : 0 < l.length) : ∃ b o cap, v = .slice (some ⟨b, o, Option.none⟩) l.length cap ∧ l.length ≤ cap ∧ F b ∧ b < w.heap.size := by
  obtain ⟨A, c, e, hc, hat⟩ := h
  obtain ⟨b, o, rfl, hb, hl, -⟩ := hat h0
  exact ⟨b, o, c, e, hc, hb, hl⟩
set_option maxRecDepth 100000 in
theorem Rws.parts {F : Nat → Prop} {v : Value} {l : List α} (h : Rws k f w F v l) : ∃ A cap, v = .slice A l.length cap ∧ l.length ≤ cap := by
  obtain ⟨A, c, e, hc, hat⟩ := h
  exact ⟨A, c, e, hc⟩
end
end Go.Proofs.YtabnfaonlkipbaaGreatDoor
/- Two slices of texts: whether they are one list (the reference's Texts). -/
namespace Go.Proofs.YtabnfaonlkipbaaGreatDoor
open Go.RowKit

set_option maxRecDepth 100000 in
theorem Cells.below {w w' : World} {F : Nat → Prop} {v : Value} {us : List Value} (h : Cells w F v us) (k : Below w.heap.size w w') : Cells w' F v us := h.kept (Kept.ofBelow k (fun _ => False)) (fun _ _ h => h)

set_option maxRecDepth 100000 in
theorem below_drews' (w : World) (n : Nat) : Below w.heap.size w (w.drewN n) := ⟨rfl, rfl, rfl, Nat.le_refl _, fun _ _ => rfl⟩

set_option maxRecDepth 100000 in
theorem strInfo : (Tryz.prog.info? 9).map (fun i => (i.zero, i.size, i.bytes)) = some (some (.string ⟨#[]⟩), 1, 16) := by kernel_rfl

set_option maxRecDepth 100000 in
theorem own_below {w w' : World} {base t size n : Nat} {v : Value} {xs : List Value} (h : w.ownsRow base t size v n xs) (k : Below w.heap.size w w') : w'.ownsRow base t size v n xs :=
  h.kept (Kept.ofBelow k (fun i => i = w.heap.size)).grown (Or.inr (fun e => by have := (h.lt _ e).2; omega))

/-- The call's own slice holds these texts. -/
def TextsOwn (w : World) (out : List (List UInt8)) (v : Value) (wr : World) : Prop := wr.ownsRow w.heap.size 9 1 v out.length (texts out) ∧ Below w.heap.size w wr

set_option maxRecDepth 100000 in
theorem texts_start (w : World) : TextsOwn w [] (.slice none 0 0) w := ⟨World.ownsRow_nil _ _ _ _, Below.refl _ _⟩

set_option maxRecDepth 100000 in
theorem TextsOwn.below {w w1 w2 : World} {out : List (List UInt8)} {v : Value} (h : TextsOwn w out v w1) (k : Below w1.heap.size w1 w2) : TextsOwn w out v w2 := ⟨own_below h.1 k, h.2.trans (k.mono h.2.size)⟩

set_option maxRecDepth 100000 in
theorem texts_more {w wr w2 : World} {out : List (List UInt8)} {v v' : Value} {o : Obj} {x : List UInt8} (h : TextsOwn w out v wr) (hown : w2.ownsRow w.heap.size 9 1 v' (out.length + 1) (texts out ++ [.string (mk x)])) (hg : (wr.alloc o).grownBy w2 v.ownBlock) :
    TextsOwn w (out ++ [x]) v' w2 := by
  obtain ⟨h1, h2⟩ := h
  refine ⟨?_, (h2.alloc h2.size o).grown hg (by have := h2.size; simp; omega) (fun k hk => (h1.lt k hk).1)⟩
  rw [List.length_append]
  simpa [texts] using hown

set_option maxRecDepth 100000 in
theorem TextsOwn.cells {w w' : World} {out : List (List UInt8)} {v : Value} (h : TextsOwn w out v w') : Cells w' (NewIn w w') v (texts out) := Cells.ofOwn h.1 (fun _ _ h1 h2 => ⟨h1, h2⟩)
end Go.Proofs.YtabnfaonlkipbaaGreatDoor
