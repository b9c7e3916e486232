/- The store of the document, as plain data: values in ascending order of keys, changes, transactions as bytes. No program is spoken of. -/
import Derived.Test.YtbfjageaheijbaaGreatCom2
namespace Go.Proofs.YtbfjageaheijbaaGreat.Sto

abbrev Key := List UInt8
abbrev Pr := List UInt8 × List UInt8

structure Ch where
  key : List UInt8
  val : List UInt8
  gone : Bool

set_option maxRecDepth 100000 in
theorem klt_irrefl (a : Key) : ¬ a < a := List.lt_irrefl a
set_option maxRecDepth 100000 in
theorem klt_trans {a b c : Key} (h : a < b) (k : b < c) : a < c := List.lt_trans h k
set_option maxRecDepth 100000 in
theorem klt_or {a b : Key} (h : a ≠ b) : a < b ∨ b < a := by
  rcases List.le_total a b with k | k
  · rcases List.le_iff_lt_or_eq.1 k with k | k
    · exact Or.inl k
    · exact absurd k h
  · rcases List.le_iff_lt_or_eq.1 k with k | k
    · exact Or.inr k
    · exact absurd k.symm h
set_option maxRecDepth 100000 in
theorem klt_asymm {a b : Key} (h : a < b) : ¬ b < a := fun k => klt_irrefl a (klt_trans h k)

/-- Values by rising keys. -/
def Sorted (l : List Pr) : Prop := l.Pairwise fun p q => p.1 < q.1

def drop (l : List Pr) (k : Key) : List Pr := l.filter fun p => decide (p.1 ≠ k)
def low (l : List Pr) (k : Key) : List Pr := l.takeWhile fun p => decide (p.1 < k)
def high (l : List Pr) (k : Key) : List Pr := l.dropWhile fun p => decide (p.1 < k)
def put (l : List Pr) (k : Key) (v : List UInt8) : List Pr := low (drop l k) k ++ (k, v) :: high (drop l k) k
def step (l : List Pr) (c : Ch) : List Pr := if c.gone then drop l c.key else put l c.key c.val
def after (l : List Pr) (cs : List Ch) : List Pr := cs.foldl step l
def bytes (l : List Pr) : Nat := (l.map fun p => p.1.length + p.2.length).sum
def keys (l : List Pr) (p : Key) : List Key := (l.map (·.1)).filter fun k => decide (k.take p.length = p)
def get (l : List Pr) (k : Key) : Option (List UInt8) := (l.find? fun p => decide (p.1 = k)).map (·.2)

/-- May a change be? -/
def May (c : Ch) : Prop := 1 ≤ c.key.length ∧ c.key.length ≤ 32 ∧ c.val.length ≤ 4096 ∧ (c.gone = true → c.val = [])
instance (c : Ch) : Decidable (May c) := inferInstanceAs (Decidable (_ ∧ _))

/-- A value that a store may have. -/
def Fits (p : Pr) : Prop := 1 ≤ p.1.length ∧ p.1.length ≤ 32 ∧ p.2.length ≤ 4096
def Fit (l : List Pr) : Prop := ∀ p ∈ l, Fits p

def check (l : List Pr) (cs : List Ch) (quota : Int) : Int :=
  if cs.length = 0 ∨ 1024 < cs.length then 2 else if ¬ (∀ c ∈ cs, May c) then 2
  else if bytes l < bytes (after l cs) ∧ quota < (bytes (after l cs) : Int) then 11 else 0

/-! ### Order -/

set_option maxRecDepth 100000 in
theorem drop_sorted {l : List Pr} (h : Sorted l) (k : Key) : Sorted (drop l k) := h.sublist (List.filter_sublist)
set_option maxRecDepth 100000 in
theorem drop_fit {l : List Pr} (h : Fit l) (k : Key) : Fit (drop l k) := fun p hp => h p (List.mem_filter.1 hp).1
set_option maxRecDepth 100000 in
theorem drop_ne {l : List Pr} {k : Key} {p : Pr} (h : p ∈ drop l k) : p.1 ≠ k := by
  have := (List.mem_filter.1 h).2
  exact of_decide_eq_true this

set_option maxRecDepth 100000 in
theorem low_lt : ∀ {l : List Pr} {k : Key}, ∀ p ∈ low l k, p.1 < k
  | [], _, p, hp => by cases hp
  | q :: l, k, p, hp => by
    unfold low at hp
    rw [List.takeWhile_cons] at hp
    by_cases hq : q.1 < k
    · rw [if_pos (by simpa using hq)] at hp
      rcases List.mem_cons.1 hp with e | e
      · rw [e]; exact hq
      · exact low_lt p e
    · rw [if_neg (by simpa using hq)] at hp
      cases hp

set_option maxRecDepth 100000 in
theorem low_all : ∀ {l : List Pr} {k : Key}, (∀ p ∈ l, p.1 < k) → low l k = l
  | [], _, _ => rfl
  | q :: l, k, h => by
    have ih := low_all (l := l) (k := k) (fun p hp => h p (List.mem_cons_of_mem _ hp))
    unfold low at ih ⊢
    rw [List.takeWhile_cons, if_pos (by simpa using h q (by simp)), ih]

set_option maxRecDepth 100000 in
theorem low_high (l : List Pr) (k : Key) : low l k ++ high l k = l := List.takeWhile_append_dropWhile

set_option maxRecDepth 100000 in
theorem high_gt : ∀ {l : List Pr} {k : Key}, Sorted l → (∀ p ∈ l, p.1 ≠ k) → ∀ p ∈ high l k, k < p.1
  | [], _, _, _, p, hp => by cases hp
  | q :: l, k, hs, hn, p, hp => by
    unfold high at hp
    rw [List.dropWhile_cons] at hp
    have hs2 := List.pairwise_cons.1 hs
    by_cases hq : q.1 < k
    · rw [if_pos (by simpa using hq)] at hp
      exact high_gt hs2.2 (fun p hp => hn p (List.mem_cons_of_mem _ hp)) p hp
    · rw [if_neg (by simpa using hq)] at hp
      have hkq : k < q.1 := by
        rcases klt_or (hn q (by simp)) with h | h
        · exact absurd h hq
        · exact h
      rcases List.mem_cons.1 hp with e | e
      · rw [e]; exact hkq
      · exact klt_trans hkq (hs2.1 p e)

set_option maxRecDepth 100000 in
theorem put_sorted {l : List Pr} (h : Sorted l) (k : Key) (v : List UInt8) : Sorted (put l k v) := by
  have hd := drop_sorted h k
  have hlh := low_high (drop l k) k
  have hs : Sorted (low (drop l k) k ++ high (drop l k) k) := by rw [hlh]; exact hd
  have hs2 := List.pairwise_append.1 hs
  unfold put Sorted
  rw [List.pairwise_append]
  refine ⟨hs2.1, List.pairwise_cons.2 ⟨fun p hp => high_gt hd (fun p hp => drop_ne hp) p hp, hs2.2.1⟩, fun p hp q hq => ?_⟩
  rcases List.mem_cons.1 hq with e | e
  · rw [e]; exact low_lt p hp
  · exact hs2.2.2 p hp q e

set_option maxRecDepth 100000 in
theorem mem_put {l : List Pr} {k : Key} {v : List UInt8} {p : Pr} : p ∈ put l k v ↔ p = (k, v) ∨ p ∈ drop l k := by
  unfold put
  rw [List.mem_append, List.mem_cons]
  constructor
  · rintro (h | h | h)
    · exact Or.inr (by rw [← low_high (drop l k) k]; exact List.mem_append_left _ h)
    · exact Or.inl h
    · exact Or.inr (by rw [← low_high (drop l k) k]; exact List.mem_append_right _ h)
  · rintro (h | h)
    · exact Or.inr (Or.inl h)
    · rw [← low_high (drop l k) k, List.mem_append] at h
      exact h.elim Or.inl (fun h => Or.inr (Or.inr h))

set_option maxRecDepth 100000 in
theorem put_fit {l : List Pr} (h : Fit l) {k : Key} {v : List UInt8} (hk : Fits (k, v)) : Fit (put l k v) := by
  intro p hp
  rcases mem_put.1 hp with e | e
  · rw [e]; exact hk
  · exact drop_fit h k p e

set_option maxRecDepth 100000 in
theorem step_sorted {l : List Pr} (h : Sorted l) (c : Ch) : Sorted (step l c) := by
  unfold step
  split
  · exact drop_sorted h _
  · exact put_sorted h _ _

set_option maxRecDepth 100000 in
theorem step_fit {l : List Pr} (h : Fit l) {c : Ch} (hc : May c) : Fit (step l c) := by
  unfold step
  split
  · exact drop_fit h _
  · exact put_fit h ⟨hc.1, hc.2.1, hc.2.2.1⟩

set_option maxRecDepth 100000 in
theorem after_sorted {l : List Pr} (h : Sorted l) (cs : List Ch) : Sorted (after l cs) := by
  induction cs generalizing l with
  | nil => exact h
  | cons c cs ih => exact ih (step_sorted h c)

set_option maxRecDepth 100000 in
theorem after_fit {l : List Pr} (h : Fit l) {cs : List Ch} (hc : ∀ c ∈ cs, May c) : Fit (after l cs) := by
  induction cs generalizing l with
  | nil => exact h
  | cons c cs ih => exact ih (step_fit h (hc c (by simp))) (fun c h => hc c (List.mem_cons_of_mem _ h))

set_option maxRecDepth 100000 in
theorem drop_len (l : List Pr) (k : Key) : (drop l k).length ≤ l.length := List.length_filter_le _ _
set_option maxRecDepth 100000 in
theorem put_len (l : List Pr) (k : Key) (v : List UInt8) : (put l k v).length = (drop l k).length + 1 := by
  have := congrArg List.length (low_high (drop l k) k)
  rw [List.length_append] at this
  unfold put
  rw [List.length_append, List.length_cons]
  omega
set_option maxRecDepth 100000 in
theorem step_len (l : List Pr) (c : Ch) : (step l c).length ≤ l.length + 1 := by
  unfold step
  have := drop_len l c.key
  split
  · omega
  · rw [put_len]; omega
set_option maxRecDepth 100000 in
theorem after_len (l : List Pr) (cs : List Ch) : (after l cs).length ≤ l.length + cs.length := by
  induction cs generalizing l with
  | nil => exact Nat.le_refl _
  | cons c cs ih =>
    have h1 := ih (step l c)
    have h2 := step_len l c
    show (after (step l c) cs).length ≤ _
    rw [List.length_cons]
    omega

set_option maxRecDepth 100000 in
theorem after_take (l : List Pr) (cs : List Ch) (k : Nat) (c : Ch) (h : cs[k]? = some c) : after l (cs.take (k + 1)) = step (after l (cs.take k)) c := by
  obtain ⟨hl, he⟩ := List.getElem?_eq_some_iff.1 h
  rw [List.take_succ_eq_append_getElem hl, he]
  unfold after
  rw [List.foldl_append]
  rfl

set_option maxRecDepth 100000 in
theorem bytes_le {l : List Pr} (h : Fit l) : bytes l ≤ 4128 * l.length := by
  induction l with
  | nil => exact Nat.le_refl _
  | cons p l ih =>
    have h1 := ih (fun q hq => h q (List.mem_cons_of_mem _ hq))
    have h2 := h p (by simp)
    unfold bytes at h1 ⊢
    rw [List.map_cons, List.sum_cons, List.length_cons]
    have := h2.2.1
    have := h2.2.2
    omega

/-! ### Which values there are -/

set_option maxRecDepth 100000 in
theorem get_mem {l : List Pr} (h : Sorted l) {p : Pr} (hp : p ∈ l) : get l p.1 = some p.2 := by
  induction l with
  | nil => cases hp
  | cons q l ih =>
    have h2 := List.pairwise_cons.1 h
    unfold get
    rw [List.find?_cons]
    rcases List.mem_cons.1 hp with e | e
    · rw [e]; simp
    · have hne : q.1 ≠ p.1 := fun e2 => klt_irrefl p.1 (by have := h2.1 p e; rw [e2] at this; exact this)
      rw [show (decide (q.1 = p.1)) = false from decide_eq_false hne]
      exact ih h2.2 e

set_option maxRecDepth 100000 in
theorem get_some {l : List Pr} {k : Key} {v : List UInt8} (h : get l k = some v) : (k, v) ∈ l := by
  unfold get at h
  obtain ⟨p, hp, e⟩ := Option.map_eq_some_iff.1 h
  have h1 := List.find?_some hp
  have h2 := List.mem_of_find?_eq_some hp
  have h3 : p.1 = k := of_decide_eq_true h1
  rw [← e, ← h3]
  exact h2

set_option maxRecDepth 100000 in
/-- Those that have one another's keys and values are one. -/
theorem same_of {l m : List Pr} (hk : l.map (·.1) = m.map (·.1)) (hl : Sorted l) (hg : ∀ p ∈ m, get l p.1 = some p.2) : l = m := by
  apply List.ext_getElem?
  intro i
  have hi := congrArg (fun x => x[i]?) hk
  simp only [List.getElem?_map] at hi
  cases hm : m[i]? with
  | none => rw [hm] at hi; simpa using hi
  | some q =>
    rw [hm] at hi
    simp at hi
    obtain ⟨v, hp⟩ := hi
    rw [hp]
    have h1 := hg q (List.mem_of_getElem? hm)
    have h2 := get_mem hl (List.mem_of_getElem? hp)
    rw [h1] at h2
    injection h2 with h2
    have h3 : q.2 = v := h2
    rw [← h3]

set_option maxRecDepth 100000 in
theorem keys_all (l : List Pr) : keys l [] = l.map (·.1) := by
  unfold keys
  rw [List.filter_eq_self.2]
  intro k _
  simp

/-! ### Transactions as bytes -/

def enc1 (c : Ch) : List UInt8 := Leb.enc c.key.length ++ c.key ++ (if c.gone then Leb.enc 1 else Leb.enc 0 ++ (Leb.enc c.val.length ++ c.val))
def rec (cs : List Ch) : List UInt8 := cs.flatMap enc1
def single (p : Pr) : List UInt8 := enc1 ⟨p.1, p.2, false⟩
def singles (l : List Pr) : List (List UInt8) := l.map single
def whole (l : List Pr) : Nat := (Frm.all (singles l)).length

/-- The change that bytes begin with. -/
def one (s : List UInt8) : Option (Ch × Nat) :=
  if (Leb.second s).2.2 = 0 ∧ (Leb.first (s.drop (Leb.second s).2.1)).2.2 = 0 ∧ (Leb.first (s.drop (Leb.second s).2.1)).1 ≤ 1 ∧ 1 ≤ (Leb.second s).1.length ∧ (Leb.second s).1.length ≤ 32 then
    if (Leb.first (s.drop (Leb.second s).2.1)).1 = 1 then some (⟨(Leb.second s).1, [], true⟩, (Leb.second s).2.1 + (Leb.first (s.drop (Leb.second s).2.1)).2.1)
    else if (Leb.second (s.drop ((Leb.second s).2.1 + (Leb.first (s.drop (Leb.second s).2.1)).2.1))).2.2 = 0 ∧ (Leb.second (s.drop ((Leb.second s).2.1 + (Leb.first (s.drop (Leb.second s).2.1)).2.1))).1.length ≤ 4096 then
      some (⟨(Leb.second s).1, (Leb.second (s.drop ((Leb.second s).2.1 + (Leb.first (s.drop (Leb.second s).2.1)).2.1))).1, false⟩,
        (Leb.second s).2.1 + (Leb.first (s.drop (Leb.second s).2.1)).2.1 + (Leb.second (s.drop ((Leb.second s).2.1 + (Leb.first (s.drop (Leb.second s).2.1)).2.1))).2.1)
    else none
  else none

def parseF : Nat → List UInt8 → Option (List Ch)
  | 0, s => if s = [] then some [] else none
  | f + 1, s => if s = [] then some [] else (one s).bind fun x => (parseF f (s.drop x.2)).map (x.1 :: ·)

/-- A record, as a transaction. -/
def parse (s : List UInt8) : Option (List Ch) := if s = [] then none else parseF s.length s

set_option maxRecDepth 100000 in
theorem second_at (t r : List UInt8) (h : t.length < 9223372036854775808) : Leb.second (Leb.enc t.length ++ (t ++ r)) = (t, (Leb.enc t.length).length + t.length, 0) := by
  rw [← List.append_assoc]
  exact Frm.second_enc t r h

set_option maxRecDepth 100000 in
theorem one_enc (c : Ch) (r : List UInt8) (h : May c) : one (enc1 c ++ r) = some (c, (enc1 c).length) := by
  obtain ⟨key, val, gone⟩ := c
  obtain ⟨h1, h2, h3, h4⟩ := h
  simp only at h1 h2 h3 h4
  cases gone
  · have e1 : enc1 ⟨key, val, false⟩ ++ r = Leb.enc key.length ++ (key ++ (Leb.enc 0 ++ (Leb.enc val.length ++ (val ++ r)))) := by simp [enc1]
    have s1 := second_at key (Leb.enc 0 ++ (Leb.enc val.length ++ (val ++ r))) (by omega)
    have d1 : (Leb.enc key.length ++ (key ++ (Leb.enc 0 ++ (Leb.enc val.length ++ (val ++ r))))).drop ((Leb.enc key.length).length + key.length) = Leb.enc 0 ++ (Leb.enc val.length ++ (val ++ r)) := by
      rw [← List.append_assoc, ← List.length_append, List.drop_left]
    have f1 := Leb.first_enc 0 (Leb.enc val.length ++ (val ++ r)) (by omega)
    have d2 : (Leb.enc key.length ++ (key ++ (Leb.enc 0 ++ (Leb.enc val.length ++ (val ++ r))))).drop ((Leb.enc key.length).length + key.length + (Leb.enc 0).length) = Leb.enc val.length ++ (val ++ r) := by
      rw [← List.drop_drop, d1, List.drop_left]
    have s2 := second_at val r (by omega)
    unfold one
    rw [e1, s1]
    simp only [d1, f1, d2, s2]
    rw [if_pos ⟨trivial, trivial, by omega, h1, h2⟩, if_neg (by decide), if_pos ⟨trivial, h3⟩]
    congr 2
    simp [enc1]
    omega
  · have hv : val = [] := h4 rfl
    subst hv
    have e1 : enc1 ⟨key, [], true⟩ ++ r = Leb.enc key.length ++ (key ++ (Leb.enc 1 ++ r)) := by simp [enc1]
    have s1 := second_at key (Leb.enc 1 ++ r) (by omega)
    have d1 : (Leb.enc key.length ++ (key ++ (Leb.enc 1 ++ r))).drop ((Leb.enc key.length).length + key.length) = Leb.enc 1 ++ r := by
      rw [← List.append_assoc, ← List.length_append, List.drop_left]
    have f1 := Leb.first_enc 1 r (by omega)
    unfold one
    rw [e1, s1]
    simp only [d1, f1]
    rw [if_pos ⟨trivial, trivial, by omega, h1, h2⟩, if_pos trivial]
    congr 2
    simp [enc1]
    omega

set_option maxRecDepth 100000 in
theorem enc1_pos (c : Ch) : 1 ≤ (enc1 c).length := by
  have := (Leb.enc_len c.key.length).1
  unfold enc1
  rw [List.length_append, List.length_append]
  omega

set_option maxRecDepth 100000 in
theorem parseF_rec : ∀ (cs : List Ch) (f : Nat), (∀ c ∈ cs, May c) → (rec cs).length ≤ f → parseF f (rec cs) = some cs
  | [], f, _, _ => by cases f <;> rfl
  | c :: cs, 0, h, hf => by
    have hp := enc1_pos c
    have : (rec (c :: cs)).length = (enc1 c).length + (rec cs).length := by unfold rec; rw [List.flatMap_cons, List.length_append]
    omega
  | c :: cs, f + 1, h, hf => by
    have hp := enc1_pos c
    have e : rec (c :: cs) = enc1 c ++ rec cs := by unfold rec; rw [List.flatMap_cons]
    rw [e, List.length_append] at hf
    have hne : enc1 c ++ rec cs ≠ [] := fun e => by
      have := congrArg List.length e
      rw [List.length_append] at this
      simp at this
      rw [this.1] at hp
      simp at hp
    rw [e, parseF, if_neg hne, one_enc c _ (h c (by simp))]
    simp only [Option.bind_some]
    rw [List.drop_left, parseF_rec cs f (fun x hx => h x (List.mem_cons_of_mem _ hx)) (by omega)]
    rfl

set_option maxRecDepth 100000 in
theorem parse_rec {cs : List Ch} (hne : cs ≠ []) (h : ∀ c ∈ cs, May c) : parse (rec cs) = some cs := by
  unfold parse
  rw [if_neg ?_]
  · exact parseF_rec cs _ h (Nat.le_refl _)
  · intro e
    match cs, hne with
    | c :: cs, _ =>
      have hp := enc1_pos c
      have := congrArg List.length e
      unfold rec at this
      rw [List.flatMap_cons, List.length_append] at this
      simp at this
      rw [this.1] at hp
      simp at hp

set_option maxRecDepth 100000 in
theorem one_may {s : List UInt8} {x : Ch × Nat} (h : one s = some x) : May x.1 := by
  unfold one at h
  split at h
  · rename_i hc
    split at h
    · injection h with h
      rw [← h]
      exact ⟨hc.2.2.2.1, hc.2.2.2.2, Nat.zero_le _, fun _ => rfl⟩
    · split at h
      · rename_i hv
        injection h with h
        rw [← h]
        exact ⟨hc.2.2.2.1, hc.2.2.2.2, hv.2, fun e => by cases e⟩
      · cases h
  · cases h

set_option maxRecDepth 100000 in
theorem parseF_may : ∀ (f : Nat) (s : List UInt8) (cs : List Ch), parseF f s = some cs → ∀ c ∈ cs, May c
  | 0, s, cs, h => by
    unfold parseF at h
    split at h
    · injection h with h; rw [← h]; intro c hc; cases hc
    · cases h
  | f + 1, s, cs, h => by
    unfold parseF at h
    split at h
    · injection h with h; rw [← h]; intro c hc; cases hc
    · obtain ⟨x, hx, h2⟩ := Option.bind_eq_some_iff.1 h
      obtain ⟨ds, hd, e⟩ := Option.map_eq_some_iff.1 h2
      rw [← e]
      intro c hc
      rcases List.mem_cons.1 hc with e2 | e2
      · rw [e2]; exact one_may hx
      · exact parseF_may f _ ds hd c e2

set_option maxRecDepth 100000 in
theorem parse_may {s : List UInt8} {cs : List Ch} (h : parse s = some cs) : ∀ c ∈ cs, May c := by
  unfold parse at h
  split at h
  · cases h
  · exact parseF_may _ _ _ h

/-- All transactions, applied in order. -/
def run : List Pr → List (List UInt8) → Option (List Pr)
  | l, [] => some l
  | l, r :: rs => (parse r).bind fun cs => run (after l cs) rs

set_option maxRecDepth 100000 in
theorem run_append (l : List Pr) (a b : List (List UInt8)) : run l (a ++ b) = (run l a).bind fun m => run m b := by
  induction a generalizing l with
  | nil => rfl
  | cons r a ih =>
    show (parse r).bind _ = ((parse r).bind _).bind _
    cases parse r with
    | none => rfl
    | some cs => exact ih _

set_option maxRecDepth 100000 in
theorem run_fit {l m : List Pr} {rs : List (List UInt8)} (h : run l rs = some m) (hs : Sorted l) (hf : Fit l) : Sorted m ∧ Fit m := by
  induction rs generalizing l with
  | nil => injection h with h; rw [← h]; exact ⟨hs, hf⟩
  | cons r rs ih =>
    obtain ⟨cs, hc, h2⟩ := Option.bind_eq_some_iff.1 h
    exact ih h2 (after_sorted hs cs) (after_fit hf (parse_may hc))

set_option maxRecDepth 100000 in
theorem may_of_fits {p : Pr} (h : Fits p) : May ⟨p.1, p.2, false⟩ := ⟨h.1, h.2.1, h.2.2, fun e => by cases e⟩

set_option maxRecDepth 100000 in
theorem parse_single {p : Pr} (h : Fits p) : parse (single p) = some [⟨p.1, p.2, false⟩] := by
  have := parse_rec (cs := [⟨p.1, p.2, false⟩]) (by simp) (fun c hc => by rw [List.mem_singleton.1 hc]; exact may_of_fits h)
  simpa [rec, single] using this

set_option maxRecDepth 100000 in
/-- What is put behind all others. -/
theorem put_last {l : List Pr} {k : Key} (v : List UInt8) (h : ∀ p ∈ l, p.1 < k) : put l k v = l ++ [(k, v)] := by
  have hd : drop l k = l := List.filter_eq_self.2 (fun p hp => decide_eq_true (fun e => klt_irrefl k (by have := h p hp; rw [e] at this; exact this)))
  unfold put
  rw [hd]
  have hl : low l k = l := low_all h
  have hh : high l k = [] := by
    have := congrArg List.length (low_high l k)
    rw [hl, List.length_append] at this
    exact List.eq_nil_of_length_eq_zero (by omega)
  rw [hl, hh]

set_option maxRecDepth 100000 in
theorem run_singles {l m : List Pr} (hs : Sorted (l ++ m)) (hf : Fit m) : run l (singles m) = some (l ++ m) := by
  induction m generalizing l with
  | nil => rw [List.append_nil]; rfl
  | cons p m ih =>
    have hlt : ∀ q ∈ l, q.1 < p.1 := fun q hq => (List.pairwise_append.1 hs).2.2 q hq p (by simp)
    show (parse (single p)).bind _ = _
    rw [parse_single (hf p (by simp))]
    show run (put l p.1 p.2) (singles m) = _
    rw [put_last p.2 hlt]
    have := ih (l := l ++ [(p.1, p.2)]) (by rw [List.append_assoc]; exact hs) (fun q hq => hf q (List.mem_cons_of_mem _ hq))
    rw [this, List.append_assoc]
    rfl

set_option maxRecDepth 100000 in
theorem single_len {p : Pr} (h : Fits p) : (single p).length ≤ 4200 := by
  have h1 := (Leb.enc_len p.1.length).2
  have h2 := (Leb.enc_len p.2.length).2
  have h3 := (Leb.enc_len 0).2
  have := h.2.1
  have := h.2.2
  unfold single enc1
  simp only [Bool.false_eq_true, if_false, List.length_append]
  omega

set_option maxRecDepth 100000 in
theorem all_len (l : List (List UInt8)) : 5 * l.length ≤ (Frm.all l).length := by
  induction l with
  | nil => exact Nat.le_refl _
  | cons t l ih =>
    have := Frm.one_pos t
    rw [Frm.all_cons, List.length_append, List.length_cons]
    omega

set_option maxRecDepth 100000 in
theorem whole_len (l : List Pr) : 5 * l.length ≤ whole l := by
  have := all_len (singles l)
  unfold singles at this
  rw [List.length_map] at this
  exact this
end Go.Proofs.YtbfjageaheijbaaGreat.Sto
/- The disk of the document, as plain data: sectors, each the list of all that it may have (what is safe first), calls, for which call it is armed, whether it is down. No program is spoken of. -/
namespace Go.Proofs.YtbfjageaheijbaaGreat.Dsk

/-- A text, filled up with 0. -/
def fill (s : ByteArray) : ByteArray := ⟨s.data ++ Array.replicate (64 - s.size) 0⟩

structure D where
  S : List (List ByteArray)
  calls : Nat
  armed : Nat
  down : Bool

def last (l : List ByteArray) : ByteArray := l.getLastD ⟨#[]⟩

def new (n : Nat) : D := ⟨List.replicate n [fill ⟨#[]⟩], 0, 0, false⟩

def D.call (d : D) : D := ⟨d.S, d.calls + 1, d.armed - 1, d.down || d.armed == 1⟩

def D.at (d : D) (k : Nat) : List ByteArray := d.S.getD k []

/-- Write's answer, and the disk behind it. -/
def D.write (d : D) (i : Int) (s : ByteArray) : Int × D :=
  if d.down = true then (12, d) else if i < 0 ∨ (d.S.length : Int) ≤ i then (3, d) else if 64 < s.size then (4, d)
  else if d.call.down = true then (12, d.call) else (0, { d.call with S := d.S.set i.toNat (d.at i.toNat ++ [fill s]) })

def D.flush (d : D) : Int × D :=
  if d.down = true then (12, d) else if d.call.down = true then (12, d.call) else (0, { d.call with S := d.S.map fun l => [last l] })

/-- Read's answer. -/
def D.read (d : D) (i : Int) : ByteArray × Int :=
  if d.down = true then (⟨#[]⟩, 12) else if i < 0 ∨ (d.S.length : Int) ≤ i then (⟨#[]⟩, 3) else (last (d.at i.toNat), 0)

def D.arm (d : D) (n : Int) : D := { d with armed := n.toNat }

/-- Those of the sectors from the k-th one on that have pending ones. -/
def dirtyFrom : Nat → List (List ByteArray) → List Nat
  | _, [] => []
  | k, l :: r => if 1 < l.length then k :: dirtyFrom (k + 1) r else dirtyFrom (k + 1) r

def D.dirty (d : D) : List Nat := dirtyFrom 0 d.S

/-- What a sector has behind a crash. -/
def pick (l : List ByteArray) (k : Int) : ByteArray := l.getD (k.tmod (l.length : Int)).natAbs ⟨#[]⟩

def crashOn (ks : List Int) : List Nat → Nat → List (List ByteArray) → List (List ByteArray)
  | [], _, S => S
  | a :: r, i, S => crashOn ks r (i + 1) (S.set a [pick (S.getD a []) (ks.getD i 0)])

def D.crash (d : D) (ks : List Int) : D := ⟨crashOn ks d.dirty 0 d.S, d.calls, 0, false⟩

/-- A disk of at most N calls. -/
structure D.Fine (d : D) (N : Nat) : Prop where
  len : d.S.length ≤ 4096
  each : ∀ l ∈ d.S, 1 ≤ l.length ∧ l.length ≤ N + 1
  calls : d.calls ≤ N
  armed : d.armed < 9223372036854775808

set_option maxRecDepth 100000 in
theorem D.Fine.at {d : D} {N : Nat} (h : d.Fine N) {k : Nat} (hk : k < d.S.length) : d.S[k]? = some (d.at k) ∧ 1 ≤ (d.at k).length ∧ (d.at k).length ≤ N + 1 := by
  have e : d.S[k]? = some (d.at k) := by
    unfold D.at
    rw [List.getD_eq_getElem?_getD, List.getElem?_eq_getElem hk]; rfl
  exact ⟨e, h.each _ (List.mem_of_getElem? e)⟩

set_option maxRecDepth 100000 in
theorem dirtyFrom_append (l r : List (List ByteArray)) : ∀ k, dirtyFrom k (l ++ r) = dirtyFrom k l ++ dirtyFrom (k + l.length) r := by
  induction l with
  | nil => intro k; rfl
  | cons x l ih =>
    intro k
    simp only [List.cons_append, dirtyFrom]
    have e : k + (x :: l).length = k + 1 + l.length := by rw [List.length_cons]; omega
    rw [ih, e]
    split <;> simp

set_option maxRecDepth 100000 in
theorem dirty_take {S : List (List ByteArray)} {k : Nat} {l : List ByteArray} (h : S[k]? = some l) : dirtyFrom 0 (S.take (k + 1)) = dirtyFrom 0 (S.take k) ++ if 1 < l.length then [k] else [] := by
  obtain ⟨hl, he⟩ := List.getElem?_eq_some_iff.1 h
  rw [List.take_succ_eq_append_getElem hl, he, dirtyFrom_append, List.length_take, Nat.min_eq_left (by omega), Nat.zero_add]
  rfl

set_option maxRecDepth 100000 in
theorem dirtyFrom_len (S : List (List ByteArray)) : ∀ k, (dirtyFrom k S).length ≤ S.length := by
  induction S with
  | nil => intro k; exact Nat.le_refl _
  | cons x S ih =>
    intro k
    unfold dirtyFrom
    have := ih (k + 1)
    split <;> simp <;> omega

set_option maxRecDepth 100000 in
theorem dirtyFrom_mem (S : List (List ByteArray)) : ∀ k a, a ∈ dirtyFrom k S → k ≤ a ∧ ∃ l, S[a - k]? = some l ∧ 1 < l.length := by
  induction S with
  | nil => intro k a h; simp [dirtyFrom] at h
  | cons x S ih =>
    intro k a h
    unfold dirtyFrom at h
    have step : a ∈ dirtyFrom (k + 1) S → k ≤ a ∧ ∃ l, (x :: S)[a - k]? = some l ∧ 1 < l.length := fun h => by
      obtain ⟨h1, l, h2, h3⟩ := ih (k + 1) a h
      refine ⟨by omega, l, ?_, h3⟩
      have e : a - k = (a - (k + 1)) + 1 := by omega
      rw [e, List.getElem?_cons_succ]
      exact h2
    split at h
    · rcases List.mem_cons.1 h with h | h
      · subst h
        exact ⟨Nat.le_refl _, x, by simp, by assumption⟩
      · exact step h
    · exact step h

set_option maxRecDepth 100000 in
theorem crashOn_snoc (ks : List Int) (a : Nat) : ∀ (L : List Nat) (i : Nat) (S : List (List ByteArray)),
    crashOn ks (L ++ [a]) i S = (crashOn ks L i S).set a [pick ((crashOn ks L i S).getD a []) (ks.getD (i + L.length) 0)]
  | [], i, S => rfl
  | b :: L, i, S => by
    show crashOn ks (L ++ [a]) (i + 1) _ = _
    rw [crashOn_snoc ks a L (i + 1) _, show i + 1 + L.length = i + (b :: L).length from by rw [List.length_cons]; omega]
    rfl

set_option maxRecDepth 100000 in
theorem crashOn_len (ks : List Int) : ∀ (L : List Nat) (i : Nat) (S : List (List ByteArray)), (crashOn ks L i S).length = S.length
  | [], _, _ => rfl
  | a :: L, i, S => by
    show (crashOn ks L (i + 1) _).length = _
    rw [crashOn_len ks L (i + 1) _, List.length_set]

set_option maxRecDepth 100000 in
theorem crashOn_each (ks : List Int) (N : Nat) : ∀ (L : List Nat) (i : Nat) (S : List (List ByteArray)), (∀ l ∈ S, 1 ≤ l.length ∧ l.length ≤ N + 1) → ∀ l ∈ crashOn ks L i S, 1 ≤ l.length ∧ l.length ≤ N + 1
  | [], _, _, h => h
  | a :: L, i, S, h => by
    refine crashOn_each ks N L (i + 1) _ (fun l hl => ?_)
    rcases List.mem_or_eq_of_mem_set hl with hl | hl
    · exact h l hl
    · subst hl
      simp

set_option maxRecDepth 100000 in
theorem new_fine (n : Nat) (h : n ≤ 4096) : (new n).Fine 0 where
  len := by show (List.replicate n _).length ≤ 4096; rw [List.length_replicate]; exact h
  each := fun l hl => by
    have := List.eq_of_mem_replicate hl
    subst this
    exact ⟨Nat.le_refl _, Nat.le_refl _⟩
  calls := Nat.le_refl _
  armed := by show (0 : Nat) < _; decide

set_option maxRecDepth 100000 in
theorem D.Fine.mono {d : D} {N M : Nat} (h : d.Fine N) (hM : N ≤ M) : d.Fine M := ⟨h.len, fun l hl => by have := h.each l hl; omega, by have := h.calls; omega, h.armed⟩

set_option maxRecDepth 100000 in
theorem D.Fine.call {d : D} {N : Nat} (h : d.Fine N) : d.call.Fine (N + 1) where
  len := h.len
  each := fun l hl => by have := h.each l hl; omega
  calls := by show d.calls + 1 ≤ N + 1; have := h.calls; omega
  armed := by show d.armed - 1 < _; have := h.armed; omega

set_option maxRecDepth 100000 in
theorem D.Fine.write {d : D} {N : Nat} (h : d.Fine N) (i : Int) (s : ByteArray) : (d.write i s).2.Fine (N + 1) := by
  unfold D.write
  split
  · exact h.mono (by omega)
  · split
    · exact h.mono (by omega)
    · split
      · exact h.mono (by omega)
      · split
        · exact h.call
        · rename_i hi _ _
          have hk : i.toNat < d.S.length := by omega
          refine ⟨?_, fun l hl => ?_, h.call.calls, h.call.armed⟩
          · show (d.S.set _ _).length ≤ 4096
            rw [List.length_set]; exact h.len
          · rcases List.mem_or_eq_of_mem_set hl with hl | hl
            · have := h.each l hl; omega
            · have := (h.at hk).2
              subst hl
              rw [List.length_append]
              simp
              omega

set_option maxRecDepth 100000 in
theorem D.Fine.flush {d : D} {N : Nat} (h : d.Fine N) : d.flush.2.Fine (N + 1) := by
  unfold D.flush
  split
  · exact h.mono (by omega)
  · split
    · exact h.call
    · refine ⟨?_, fun l hl => ?_, h.call.calls, h.call.armed⟩
      · show (d.S.map _).length ≤ 4096
        rw [List.length_map]; exact h.len
      · obtain ⟨l', _, rfl⟩ := List.mem_map.1 hl
        simp

set_option maxRecDepth 100000 in
theorem D.Fine.arm {d : D} {N : Nat} (h : d.Fine N) (n : Int) (hn : n ≤ 9223372036854775807) : (d.arm n).Fine N := ⟨h.len, h.each, h.calls, by show n.toNat < _; omega⟩

set_option maxRecDepth 100000 in
theorem D.Fine.crash {d : D} {N : Nat} (h : d.Fine N) (ks : List Int) : (d.crash ks).Fine N := by
  refine ⟨?_, ?_, h.calls, by show (0 : Nat) < _; decide⟩
  · show (crashOn _ _ _ _).length ≤ 4096
    rw [crashOn_len]; exact h.len
  · exact crashOn_each ks N _ _ _ h.each

set_option maxRecDepth 100000 in
theorem write_len (d : D) (i : Int) (s : ByteArray) : (d.write i s).2.S.length = d.S.length := by
  unfold D.write
  repeat' split
  all_goals first | rfl | exact List.length_set

set_option maxRecDepth 100000 in
theorem flush_len (d : D) : d.flush.2.S.length = d.S.length := by
  unfold D.flush
  repeat' split
  all_goals first | rfl | exact List.length_map _

set_option maxRecDepth 100000 in
theorem crash_len (d : D) (ks : List Int) : (d.crash ks).S.length = d.S.length := crashOn_len _ _ _ _

set_option maxRecDepth 100000 in
theorem fill_size (s : ByteArray) (h : s.size ≤ 64) : (fill s).size = 64 := by
  show (s.data ++ Array.replicate (64 - s.size) 0).size = 64
  rw [Array.size_append, Array.size_replicate]
  have : s.data.size = s.size := rfl
  omega
end Go.Proofs.YtbfjageaheijbaaGreat.Dsk
