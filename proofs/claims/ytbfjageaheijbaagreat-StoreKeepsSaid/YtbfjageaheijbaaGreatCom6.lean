/- The journal's calls, as plain data: Append, Rewrite, Format; what a law may follow. No program is spoken of. -/
import Derived.Test.YtbfjageaheijbaaGreatCom5
import Derived.Test.YtbfjageaheijbaaGreatCom3
import Derived.Test.YtbfjageaheijbaaGreatCom1
import Derived.WalkKit
import Derived.Lib.Strings
namespace Go.Proofs.YtbfjageaheijbaaGreat.Jnl
open Dsk

def hof (n : Nat) : Nat := (n - 2) / 2

/-- What a call answers where the records are laid behind pre, in that half. -/
def lays (n : Nat) (d : D) (j : J) (half : Nat) (pre new : List UInt8) : Int × D × J :=
  ((commit (hof n) j.seq half pre new d).1, (commit (hof n) j.seq half pre new d).2, if (commit (hof n) j.seq half pre new d).1 = 0 then ⟨j.seq + 1, half, pre ++ new, false⟩ else { j with broken := true })

/-- Append's answer, the disk, the journal. -/
def append (n : Nat) (d : D) (j : J) (l : List (List UInt8)) : Int × D × J :=
  if j.broken = true then (16, d, j) else if j.seq = 9223372036854775807 then (15, d, j) else if 65536 < (Frm.all l).length then (4, d, j)
  else if 64 * hof n < j.bytes.length + (Frm.all l).length then (10, d, j) else if l = [] then (0, d, j) else lays n d j j.half j.bytes (Frm.all l)

/-- Rewrite's. -/
def rewrite (n : Nat) (d : D) (j : J) (l : List (List UInt8)) : Int × D × J :=
  if j.broken = true then (16, d, j) else if j.seq = 9223372036854775807 then (15, d, j) else if 65536 < (Frm.all l).length then (4, d, j)
  else if 64 * hof n < (Frm.all l).length then (10, d, j) else lays n d j (1 - j.half) [] (Frm.all l)

/-- Format's, of a disk of at least 4 sectors. -/
def format (d : D) : Int × D := andThen (andThen (d.write 0 (text [])) fun d => d.write 1 (text (head 1 0 0))) D.flush

/-- A journal that goes on. -/
structure Live (n : Nat) (d : D) (j : J) (l : List (List UInt8)) : Prop where
  shape : Shape n d
  up : d.down = false
  may : May d (Settled n (hof n) j)
  half : j.half ≤ 1
  fits : j.bytes.length ≤ 64 * hof n
  ok : j.broken = false
  recs : j.bytes = Frm.all l
  small : ∀ t ∈ l, t.length < 9223372036854775808

/-- A journal whose disk went down while records were laid. -/
structure Fallen (n : Nat) (d : D) (j : J) (l : List (List UInt8)) (j' : J) (l' : List (List UInt8)) : Prop where
  shape : Shape n d
  down : d.down = true
  may : May d (fun X => Settled n (hof n) j X ∨ Settled n (hof n) j' X)
  half : j.half ≤ 1 ∧ j'.half ≤ 1
  fits : j.bytes.length ≤ 64 * hof n ∧ j'.bytes.length ≤ 64 * hof n
  ok : j.broken = false ∧ j'.broken = false
  recs : j.bytes = Frm.all l ∧ j'.bytes = Frm.all l'
  small : (∀ t ∈ l, t.length < 9223372036854775808) ∧ ∀ t ∈ l', t.length < 9223372036854775808

/-- What a sector has, where a disk has flushed all. -/
def now (d : D) : Nat → ByteArray := fun k => last (d.at k)

set_option maxRecDepth 100000 in
theorem hof_fits {n : Nat} (hn : 4 ≤ n) : 2 + 2 * hof n ≤ n := by unfold hof; omega

set_option maxRecDepth 100000 in
theorem lays_keeps {n : Nat} {d : D} {j : J} {l l' : List (List UInt8)} {half : Nat} {pre new : List UInt8} (H : Live n d j l) (hn : 4 ≤ n) (hn2 : n ≤ 4096) (hseq : j.seq < 9223372036854775807) (hhalf : half ≤ 1)
    (hpre : (half = j.half ∧ pre = j.bytes) ∨ (half ≠ j.half ∧ pre = [])) (hfit : (pre ++ new).length ≤ 64 * hof n) (hl : pre ++ new = Frm.all l') (hs : ∀ t ∈ l', t.length < 9223372036854775808) :
    ((lays n d j half pre new).1 = 0 ∧ Live n (lays n d j half pre new).2.1 (lays n d j half pre new).2.2 l' ∧ (lays n d j half pre new).2.2.seq = j.seq + 1) ∨
    ((lays n d j half pre new).1 = 12 ∧ (lays n d j half pre new).2.2.broken = true ∧ Fallen n (lays n d j half pre new).2.1 j l ⟨j.seq + 1, half, pre ++ new, false⟩ l') := by
  rcases commit_kept H.shape H.up H.half H.fits hhalf hfit (hof_fits hn) hn2 (by omega) hpre H.may with ⟨r1, r2, r3, r4⟩ | ⟨r1, r2⟩
  · refine Or.inl ⟨r1, ?_, ?_⟩
    · unfold lays
      simp only [r1, if_true]
      exact ⟨r2, r3, r4, hhalf, hfit, rfl, hl, hs⟩
    · unfold lays
      simp only [r1, if_true]
  · refine Or.inr ⟨r1, ?_, ?_⟩
    · unfold lays
      simp only [r1]
      rfl
    · exact ⟨r2.shape, r2.down, r2.may, ⟨H.half, hhalf⟩, ⟨H.fits, hfit⟩, ⟨H.ok, rfl⟩, ⟨H.recs, hl⟩, ⟨H.small, hs⟩⟩

set_option maxRecDepth 100000 in
/-- Append: all of it, or nothing. -/
theorem append_keeps {n : Nat} {d : D} {j : J} {l a : List (List UInt8)} (H : Live n d j l) (hn : 4 ≤ n) (hn2 : n ≤ 4096) (hseq : j.seq < 9223372036854775807) (ha : (Frm.all a).length ≤ 65536) (hs : ∀ t ∈ a, t.length < 9223372036854775808) :
    ((append n d j a).1 = 0 ∧ Live n (append n d j a).2.1 (append n d j a).2.2 (l ++ a) ∧ (append n d j a).2.2.seq ≤ j.seq + 1) ∨ (append n d j a = (10, d, j)) ∨
    ((append n d j a).1 = 12 ∧ (append n d j a).2.2.broken = true ∧ Fallen n (append n d j a).2.1 j l ⟨j.seq + 1, j.half, j.bytes ++ Frm.all a, false⟩ (l ++ a)) := by
  unfold append
  rw [if_neg (by rw [H.ok]; decide), if_neg (by omega), if_neg (by omega)]
  by_cases hf : 64 * hof n < j.bytes.length + (Frm.all a).length
  · rw [if_pos hf]; exact Or.inr (Or.inl rfl)
  · rw [if_neg hf]
    by_cases he : a = []
    · rw [if_pos he]
      subst he
      exact Or.inl ⟨rfl, by rw [List.append_nil]; exact H, Nat.le_succ _⟩
    · rw [if_neg he]
      have hall : j.bytes ++ Frm.all a = Frm.all (l ++ a) := by rw [H.recs]; unfold Frm.all; rw [List.flatMap_append]
      rcases lays_keeps H hn hn2 hseq H.half (Or.inl ⟨rfl, rfl⟩) (by rw [List.length_append]; omega) hall (fun t ht => by
        rcases List.mem_append.1 ht with ht | ht
        · exact H.small t ht
        · exact hs t ht) with ⟨r1, r2, r3⟩ | r
      · exact Or.inl ⟨r1, r2, Nat.le_of_eq r3⟩
      · exact Or.inr (Or.inr r)

set_option maxRecDepth 100000 in
/-- Rewrite: all of it, or nothing. -/
theorem rewrite_keeps {n : Nat} {d : D} {j : J} {l a : List (List UInt8)} (H : Live n d j l) (hn : 4 ≤ n) (hn2 : n ≤ 4096) (hseq : j.seq < 9223372036854775807) (ha : (Frm.all a).length ≤ 65536) (hs : ∀ t ∈ a, t.length < 9223372036854775808) :
    ((rewrite n d j a).1 = 0 ∧ Live n (rewrite n d j a).2.1 (rewrite n d j a).2.2 a ∧ (rewrite n d j a).2.2.seq ≤ j.seq + 1) ∨ (rewrite n d j a = (10, d, j)) ∨
    ((rewrite n d j a).1 = 12 ∧ (rewrite n d j a).2.2.broken = true ∧ Fallen n (rewrite n d j a).2.1 j l ⟨j.seq + 1, 1 - j.half, [] ++ Frm.all a, false⟩ a) := by
  unfold rewrite
  rw [if_neg (by rw [H.ok]; decide), if_neg (by omega), if_neg (by omega)]
  by_cases hf : 64 * hof n < (Frm.all a).length
  · rw [if_pos hf]; exact Or.inr (Or.inl rfl)
  · rw [if_neg hf]
    have hh := H.half
    rcases lays_keeps (half := 1 - j.half) (pre := []) (new := Frm.all a) H hn hn2 hseq (by omega) (Or.inr ⟨by omega, rfl⟩) (by rw [List.nil_append]; omega) (List.nil_append _) hs with ⟨r1, r2, r3⟩ | r
    · exact Or.inl ⟨r1, r2, Nat.le_of_eq r3⟩
    · exact Or.inr (Or.inr r)

set_option maxRecDepth 100000 in
theorem crash_shape {n : Nat} {d : D} (h : Shape n d) (ks : List Int) : Shape n (d.crash ks) := by
  refine ⟨(crashOn_len _ _ _ _).trans h.len, ?_⟩
  intro l hl e
  obtain ⟨N, hN⟩ : ∃ N, ∀ m ∈ d.S, m.length ≤ N + 1 := by
    have : ∀ S : List (List ByteArray), ∃ N, ∀ m ∈ S, m.length ≤ N + 1 := fun S => by
      induction S with
      | nil => exact ⟨0, fun m h => by cases h⟩
      | cons x S ih =>
        obtain ⟨N, hN⟩ := ih
        refine ⟨N + x.length, fun m hm => ?_⟩
        rcases List.mem_cons.1 hm with rfl | hm
        · omega
        · have := hN m hm; omega
    exact this d.S
  have := crashOn_each ks N d.dirty 0 d.S (fun m hm => ⟨List.length_pos_iff.2 (h.some m hm), hN m hm⟩) l hl
  rw [e] at this
  simp at this

set_option maxRecDepth 100000 in
theorem of_settled {n : Nat} {j : J} (hn : 4 ≤ n) (hh : j.half ≤ 1) (hb : j.bytes.length ≤ 64 * hof n) : Of n (Settled n (hof n) j) := settled_of hh (hof_fits hn) hb

set_option maxRecDepth 100000 in
/-- A crash of a journal that stands leaves it as it is. -/
theorem Live.crash {n : Nat} {d : D} {j : J} {l : List (List UInt8)} (H : Live n d j l) (hn : 4 ≤ n) (ks : List Int) : Live n (d.crash ks) j l ∧ opens n (now (d.crash ks)) = (0, some j, l) := by
  obtain ⟨h1, h2⟩ := May.crash H.may (by rw [H.shape.len]; exact of_settled hn H.half H.fits) H.shape.some ks
  exact ⟨⟨crash_shape H.shape ks, rfl, h2, H.half, H.fits, H.ok, H.recs, H.small⟩, opens_settled h1 hn H.half H.fits H.ok H.recs H.small⟩

set_option maxRecDepth 100000 in
/-- A crash leaves a journal that stands: the old one, or the new one. -/
theorem Fallen.crash {n : Nat} {d : D} {j j' : J} {l l' : List (List UInt8)} (H : Fallen n d j l j' l') (hn : 4 ≤ n) (ks : List Int) :
    (Live n (d.crash ks) j l ∧ opens n (now (d.crash ks)) = (0, some j, l)) ∨ (Live n (d.crash ks) j' l' ∧ opens n (now (d.crash ks)) = (0, some j', l')) := by
  have o1 := of_settled hn H.half.1 H.fits.1
  have o2 := of_settled hn H.half.2 H.fits.2
  have hlen : (d.crash ks).S.length = n := (crashOn_len _ _ _ _).trans H.shape.len
  obtain ⟨h1, _⟩ := May.crash H.may (by rw [H.shape.len]; exact fun X Y e h => h.imp (o1 X Y e) (o2 X Y e)) H.shape.some ks
  have hsh := crash_shape H.shape ks
  have hmay : ∀ {P : (Nat → ByteArray) → Prop}, Of n P → P (now (d.crash ks)) → May (d.crash ks) P := fun {P} ho hp X hX => ho _ _ (fun k hk => by
    have hk2 : k < d.S.length := by rw [H.shape.len]; exact hk
    obtain ⟨e1, e2⟩ := H.shape.at hk
    obtain ⟨x, _, e⟩ := crash_at d ks e2 e1
    have := hX k (by rw [hlen]; exact hk)
    rw [e, List.mem_singleton] at this
    unfold now
    rw [e, this]; rfl) hp
  rcases h1 with h1 | h1
  · exact Or.inl ⟨⟨hsh, rfl, hmay o1 h1, H.half.1, H.fits.1, H.ok.1, H.recs.1, H.small.1⟩, opens_settled h1 hn H.half.1 H.fits.1 H.ok.1 H.recs.1 H.small.1⟩
  · exact Or.inr ⟨⟨hsh, rfl, hmay o2 h1, H.half.2, H.fits.2, H.ok.2, H.recs.2, H.small.2⟩, opens_settled h1 hn H.half.2 H.fits.2 H.ok.2 H.recs.2 H.small.2⟩

set_option maxRecDepth 100000 in
theorem Live.arm {n : Nat} {d : D} {j : J} {l : List (List UInt8)} (H : Live n d j l) (x : Int) : Live n (d.arm x) j l := ⟨⟨H.shape.len, H.shape.some⟩, H.up, H.may.same rfl, H.half, H.fits, H.ok, H.recs, H.small⟩

set_option maxRecDepth 100000 in
theorem Fallen.arm {n : Nat} {d : D} {j j' : J} {l l' : List (List UInt8)} (H : Fallen n d j l j' l') (x : Int) : Fallen n (d.arm x) j l j' l' := ⟨⟨H.shape.len, H.shape.some⟩, H.down, H.may.same rfl, H.half, H.fits, H.ok, H.recs, H.small⟩

/-! ### A disk is made ready -/

set_option maxRecDepth 100000 in
theorem zeros_none (h : Nat) : headAt h (fill (text [])).data.toList = none := by
  unfold headAt
  rw [if_neg]
  intro hc
  have := hc.1
  rw [fill_list] at this
  revert this
  decide

set_option maxRecDepth 100000 in
theorem shape_new (n : Nat) : Shape n (new n) := ⟨List.length_replicate, fun l hl => by rw [List.eq_of_mem_replicate hl]; simp⟩

set_option maxRecDepth 100000 in
theorem new_last (n k : Nat) (hk : k < n) : last ((new n).at k) = fill (text []) := by
  unfold D.at new
  rw [List.getD_eq_getElem?_getD, List.getElem?_eq_getElem (by rw [List.length_replicate]; exact hk)]
  simp [last]
  rfl

set_option maxRecDepth 100000 in
theorem format_new {n : Nat} (hn : 4 ≤ n) : (format (new n)).1 = 0 ∧ Live n (format (new n)).2 ⟨1, 0, [], false⟩ [] := by
  have s0 := shape_new n
  have e1 := write_done s0 rfl (k := 0) (by omega) (s := text []) (by decide)
  rw [if_neg (by show ¬ ((false || (0 == 1)) = true); decide)] at e1
  have s1 : Shape n { (new n).call with S := (new n).S.set 0 ((new n).at 0 ++ [fill (text [])]) } := s0.set (by simp) _ _ _
  have hx : (text (head 1 0 0)).size ≤ 64 := by rw [text_size]; have := head_len 1 0 0; omega
  have e2 := write_done s1 rfl (k := 1) (by omega) hx
  rw [if_neg (by show ¬ ((false || (0 - 1 == 1)) = true); decide)] at e2
  have l1 := fun i => at_write s0 (k := 0) (by omega) (x := fill (text [])) (new n).call.calls (new n).call.armed (new n).call.down i
  generalize hd1 : ({ (new n).call with S := (new n).S.set 0 ((new n).at 0 ++ [fill (text [])]) } : D) = d1 at *
  have c1 : d1.down = false ∧ d1.armed = 0 := by rw [← hd1]; exact ⟨rfl, rfl⟩
  have s2 : Shape n { d1.call with S := d1.S.set 1 (d1.at 1 ++ [fill (text (head 1 0 0))]) } := s1.set (by simp) _ _ _
  have l2 := fun i => at_write s1 (k := 1) (by omega) (x := fill (text (head 1 0 0))) d1.call.calls d1.call.armed d1.call.down i
  have cd : d1.call.down = false ∧ d1.call.armed = 0 := by unfold D.call; rw [c1.1, c1.2]; exact ⟨rfl, rfl⟩
  generalize hd2 : ({ d1.call with S := d1.S.set 1 (d1.at 1 ++ [fill (text (head 1 0 0))]) } : D) = d2 at *
  have c2 : d2.down = false ∧ d2.armed = 0 := by rw [← hd2]; exact cd
  have ef : format (new n) = d2.flush := by
    unfold format andThen
    rw [show (new n).write 0 (text []) = (0, d1) from e1]
    rw [if_pos rfl]
    show (if (d1.write 1 (text (head 1 0 0))).1 = 0 then (d1.write 1 (text (head 1 0 0))).2.flush else d1.write 1 (text (head 1 0 0))) = d2.flush
    rw [show d1.write 1 (text (head 1 0 0)) = (0, d2) from e2, if_pos rfl]
  have hdn : d2.call.down = false := by unfold D.call; rw [c2.1, c2.2]; rfl
  have hfl : d2.flush = (0, { d2.call with S := d2.S.map fun l => [last l] }) := by
    unfold D.flush
    rw [if_neg (by rw [c2.1]; decide), if_neg (by rw [hdn]; decide)]
  have hm := May.flush (d := d2) (P := fun _ => True) (fun _ _ => trivial) s2.some d2.call.calls d2.call.armed d2.call.down
  rw [ef, hfl]
  refine ⟨rfl, s2.flush _ _ _, hdn, hm.mono (fun X hX => ?_), by decide, Nat.zero_le _, rfl, rfl, fun t ht => by cases ht⟩
  have hXk : ∀ k, k < n → X k = if k = 1 then fill (text (head 1 0 0)) else fill (text []) := fun k hk => by
    rw [hX.2 k (by rw [s2.len]; exact hk), l2 k]
    by_cases e : k = 1
    · rw [if_pos e, if_pos e]
    · rw [if_neg e, if_neg e, l1 k]
      by_cases e0 : k = 0
      · rw [if_pos e0]
      · rw [if_neg e0, new_last n k hk]
  refine ⟨?_, fun a ha => ?_, fun m hm => absurd hm (Nat.not_lt_zero _), fun k hk => ?_, hXk 1 (by omega)⟩
  · show headAt (hof n) (X 1).data.toList = some (1, 0, 0)
    rw [hXk 1 (by omega), if_pos rfl, fill_list]
    exact headAt_head _ _ _ _ _ (by decide) (by decide) (Nat.zero_le _) (by decide)
  · have ha : headAt (hof n) (X 0).data.toList = some a := ha
    rw [hXk 0 (by omega), if_neg (by decide), zeros_none] at ha
    cases ha
  · rw [hXk k hk]
    split
    · exact fill_full _ (by have := head_len 1 0 0; omega)
    · exact fill_full _ (by decide)

/-! ### What is read of it -/

set_option maxRecDepth 100000 in
theorem may_now {n : Nat} {d : D} {P : (Nat → ByteArray) → Prop} (hs : Shape n d) (h : May d P) : P (now d) := h _ (fun k hk => last_mem (hs.at (k := k) (by rw [← hs.len]; exact hk)).1)

set_option maxRecDepth 100000 in
theorem Live.now {n : Nat} {d : D} {j : J} {l : List (List UInt8)} (H : Live n d j l) : Settled n (hof n) j (Jnl.now d) := may_now H.shape H.may

set_option maxRecDepth 100000 in
theorem Live.opens {n : Nat} {d : D} {j : J} {l : List (List UInt8)} (H : Live n d j l) (hn : 4 ≤ n) : Jnl.opens n (Jnl.now d) = (0, some j, l) := opens_settled H.now hn H.half H.fits H.ok H.recs H.small

/-- What a journal may be asked to lay: one that is broken, or one whose bytes are there. -/
structure Held (n : Nat) (d : D) (j : J) : Prop where
  shape : Shape n d
  up : d.down = false
  half : j.half ≤ 1
  fits : j.bytes.length ≤ 64 * hof n
  held : Holds (Jnl.now d) (2 + j.half * hof n) j.bytes
  full : ∀ k, k < n → (Jnl.now d k).data.toList.length = 64
  seq : j.seq < 9223372036854775808

set_option maxRecDepth 100000 in
theorem Live.toHeld {n : Nat} {d : D} {j : J} {l : List (List UInt8)} (H : Live n d j l) : Held n d j := ⟨H.shape, H.up, H.half, H.fits, H.now.held, H.now.full, (headAt_only H.now.here).1⟩

/-! ### How many calls of the disk -/

set_option maxRecDepth 100000 in
theorem writeFrom_fine (base : Nat) (all : List UInt8) : ∀ (c i : Nat) (d : D) (N : Nat), d.Fine N → (writeFrom base all i c d).2.Fine (N + c)
  | 0, _, _, _, h => h
  | c + 1, i, d, N, h => by
    unfold writeFrom
    split
    · have := writeFrom_fine base all c (i + 1) _ _ (h.write ((base + i : Nat) : Int) (text (chunk all i)))
      rw [show N + (c + 1) = N + 1 + c by omega]
      exact this
    · exact (h.write _ _).mono (by omega)

set_option maxRecDepth 100000 in
theorem andThen_fine {r : Int × D} {f : D → Int × D} {N M : Nat} (h : r.2.Fine N) (hf : ∀ d, d.Fine N → (f d).2.Fine (N + M)) : (andThen r f).2.Fine (N + M) := by
  unfold andThen
  split
  · exact hf _ h
  · exact h.mono (by omega)

set_option maxRecDepth 100000 in
theorem commit_fine {h seq half : Nat} {pre new : List UInt8} {d : D} {N : Nat} (hd : d.Fine N) (hp : (pre ++ new).length ≤ 64 * h) : (commit h seq half pre new d).2.Fine (N + h + 3) := by
  have hc : ((pre ++ new).length + 63) / 64 - pre.length / 64 ≤ h := by omega
  have h1 := (writeFrom_fine (2 + half * h) (pre ++ new) (((pre ++ new).length + 63) / 64 - pre.length / 64) (pre.length / 64) d N hd).mono (M := N + h) (by omega)
  have h2 := andThen_fine (M := 1) h1 (f := D.flush) (fun d hd => hd.flush)
  exact andThen_fine (M := 2) h2 (fun d hd => andThen_fine (M := 1) (N := N + h + 1 + 1) (hd.write _ _) (fun d hd => hd.flush))

set_option maxRecDepth 100000 in
theorem append_fine {n : Nat} {d : D} {j : J} {a : List (List UInt8)} {N : Nat} (hd : d.Fine N) : (append n d j a).2.1.Fine (N + hof n + 3) := by
  unfold append
  split
  · exact hd.mono (by omega)
  · split
    · exact hd.mono (by omega)
    · split
      · exact hd.mono (by omega)
      · split
        · exact hd.mono (by omega)
        · split
          · exact hd.mono (by omega)
          · exact commit_fine hd (by rw [List.length_append]; omega)

set_option maxRecDepth 100000 in
theorem rewrite_fine {n : Nat} {d : D} {j : J} {a : List (List UInt8)} {N : Nat} (hd : d.Fine N) : (rewrite n d j a).2.1.Fine (N + hof n + 3) := by
  unfold rewrite
  split
  · exact hd.mono (by omega)
  · split
    · exact hd.mono (by omega)
    · split
      · exact hd.mono (by omega)
      · split
        · exact hd.mono (by omega)
        · exact commit_fine hd (by rw [List.nil_append]; omega)

set_option maxRecDepth 100000 in
theorem format_fine {d : D} {N : Nat} (hd : d.Fine N) : (format d).2.Fine (N + 3) := by
  have h1 : (d.write 0 (text [])).2.Fine (N + 1) := hd.write _ _
  have h2 := andThen_fine (M := 1) h1 (f := fun d => d.write 1 (text (head 1 0 0))) (fun d hd => hd.write _ _)
  exact andThen_fine (M := 1) h2 (f := D.flush) (fun d hd => hd.flush)
end Go.Proofs.YtbfjageaheijbaaGreat.Jnl
/- The store's transactions, as plain data over the journal's calls: all of one is kept, or nothing. No program is spoken of. -/
namespace Go.Proofs.YtbfjageaheijbaaGreat.Sto
open Dsk Jnl

/-- A store's state. -/
structure Sr where
  j : J
  vals : List Pr
  quota : Int
  broken : Bool

/-- The record of a transaction, laid behind the others. -/
def adds (n : Nat) (d : D) (j : J) (cs : List Ch) : Int × D × J := if 65536 < (rec cs).length then (4, d, j) else Jnl.append n d j [rec cs]

/-- It is laid, or, where there is no room, all values are laid anew. -/
def keeps (n : Nat) (d : D) (j : J) (cs : List Ch) (next : List Pr) : Int × D × J :=
  if (adds n d j cs).1 = 10 ∨ (adds n d j cs).1 = 4 then Jnl.rewrite n (adds n d j cs).2.1 (adds n d j cs).2.2 (singles next) else adds n d j cs

/-- Do, of a store that is not broken. -/
def doing (n : Nat) (d : D) (s : Sr) (cs : List Ch) : Int × D × Sr :=
  if check s.vals cs s.quota = 0 then
    if 64 * hof n < whole (after s.vals cs) ∨ 65536 < whole (after s.vals cs) then (10, d, s)
    else if (keeps n d s.j cs (after s.vals cs)).1 = 0 then (0, (keeps n d s.j cs (after s.vals cs)).2.1, ⟨(keeps n d s.j cs (after s.vals cs)).2.2, after s.vals cs, s.quota, false⟩)
    else ((keeps n d s.j cs (after s.vals cs)).1, (keeps n d s.j cs (after s.vals cs)).2.1, ⟨(keeps n d s.j cs (after s.vals cs)).2.2, s.vals, s.quota, true⟩)
  else (check s.vals cs s.quota, d, s)

set_option maxRecDepth 100000 in
theorem check_ok {l : List Pr} {cs : List Ch} {q : Int} (h : check l cs q = 0) : cs ≠ [] ∧ cs.length ≤ 1024 ∧ ∀ c ∈ cs, May c := by
  unfold check at h
  split at h
  · cases h
  · rename_i h1
    split at h
    · cases h
    · rename_i h2
      exact ⟨fun e => h1 (Or.inl (by rw [e]; rfl)), by omega, Classical.not_not.1 h2⟩

set_option maxRecDepth 100000 in
theorem enc1_len {c : Ch} (h : May c) : (enc1 c).length ≤ 4200 := by
  have h1 := (Leb.enc_len c.key.length).2
  have h2 := (Leb.enc_len c.val.length).2
  have h3 := (Leb.enc_len 0).2
  have h4 := (Leb.enc_len 1).2
  have := h.2.1
  have := h.2.2.1
  unfold enc1
  split
  · simp only [List.length_append]; omega
  · simp only [List.length_append]; omega

set_option maxRecDepth 100000 in
theorem rec_len {cs : List Ch} (h : ∀ c ∈ cs, May c) : (rec cs).length ≤ 4200 * cs.length := by
  induction cs with
  | nil => exact Nat.le_refl _
  | cons c cs ih =>
    have h1 := ih (fun x hx => h x (List.mem_cons_of_mem _ hx))
    have h2 := enc1_len (h c (by simp))
    have e : rec (c :: cs) = enc1 c ++ rec cs := by unfold rec; rw [List.flatMap_cons]
    rw [e, List.length_append, List.length_cons]
    omega

/-- A store that goes on: what its journal holds are its values. -/
structure Lives (n : Nat) (d : D) (s : Sr) : Prop where
  live : ∃ recs, Live n d s.j recs ∧ run [] recs = some s.vals
  up : s.broken = false

/-- Its disk went down: what is kept are the values before, or those behind. -/
structure Falls (n : Nat) (d : D) (a b : List Pr) (m : Nat) : Prop where
  two : ∃ j recs j' recs', Fallen n d j recs j' recs' ∧ run [] recs = some a ∧ run [] recs' = some b ∧ j.seq ≤ m ∧ j'.seq ≤ m

set_option maxRecDepth 100000 in
theorem Lives.vals {n : Nat} {d : D} {s : Sr} (h : Lives n d s) : Sorted s.vals ∧ Fit s.vals := by
  obtain ⟨recs, -, hr⟩ := h.live
  exact run_fit hr List.Pairwise.nil (fun p hp => by cases hp)

set_option maxRecDepth 100000 in
theorem small_singles {l : List Pr} (h : Fit l) : ∀ t ∈ singles l, t.length < 9223372036854775808 := by
  intro t ht
  obtain ⟨p, hp, e⟩ := List.mem_map.1 ht
  have := single_len (h p hp)
  rw [← e]; omega

set_option maxRecDepth 100000 in
/-- **All of a transaction is kept, or nothing.** -/
theorem keeps_two {n : Nat} {d : D} {s : Sr} {cs : List Ch} (H : Lives n d s) (hn : 4 ≤ n) (hn2 : n ≤ 1026) (hseq : s.j.seq < 9223372036854775807) (hc : check s.vals cs s.quota = 0) (hw : whole (after s.vals cs) ≤ 64 * hof n) :
    ((doing n d s cs).1 = 0 ∧ Lives n (doing n d s cs).2.1 (doing n d s cs).2.2 ∧ (doing n d s cs).2.2.vals = after s.vals cs ∧ (doing n d s cs).2.2.quota = s.quota ∧ (doing n d s cs).2.2.j.seq ≤ s.j.seq + 1) ∨
    ((doing n d s cs).1 = 12 ∧ (doing n d s cs).2.2.broken = true ∧ (doing n d s cs).2.2.quota = s.quota ∧ Falls n (doing n d s cs).2.1 s.vals (after s.vals cs) (s.j.seq + 1)) := by
  obtain ⟨hso, hfi⟩ := H.vals
  obtain ⟨recs, hl, hr⟩ := H.live
  obtain ⟨hne, hlen, hmay⟩ := check_ok hc
  have hno := after_sorted hso cs
  have hnf := after_fit hfi hmay
  have hh : 64 * hof n ≤ 65536 := by unfold hof; omega
  have hrew : run [] (singles (after s.vals cs)) = some (after s.vals cs) := run_singles (l := []) hno hnf
  have happ : run [] (recs ++ [rec cs]) = some (after s.vals cs) := by
    rw [run_append, hr]
    show (parse (rec cs)).bind _ = _
    rw [parse_rec hne hmay]
    rfl
  have hseq2 : s.j.seq + 1 ≤ 9223372036854775807 := by omega
  unfold doing
  rw [if_pos hc, if_neg (by omega)]
  -- what laying anew does
  have hR : ∀ (d' : D) (j' : J), d' = d → j' = s.j → ((Jnl.rewrite n d' j' (singles (after s.vals cs))).1 = 0 ∧ Live n (Jnl.rewrite n d' j' (singles (after s.vals cs))).2.1 (Jnl.rewrite n d' j' (singles (after s.vals cs))).2.2 (singles (after s.vals cs)) ∧ (Jnl.rewrite n d' j' (singles (after s.vals cs))).2.2.seq ≤ s.j.seq + 1) ∨
      ((Jnl.rewrite n d' j' (singles (after s.vals cs))).1 = 12 ∧ Fallen n (Jnl.rewrite n d' j' (singles (after s.vals cs))).2.1 s.j recs ⟨s.j.seq + 1, 1 - s.j.half, [] ++ Frm.all (singles (after s.vals cs)), false⟩ (singles (after s.vals cs))) := by
    rintro d' j' rfl rfl
    rcases rewrite_keeps hl hn (by omega) hseq (a := singles (after s.vals cs)) (by show whole (after s.vals cs) ≤ _; omega) (small_singles hnf) with ⟨h1, h2, h3⟩ | h | ⟨h1, h2, h3⟩
    · exact Or.inl ⟨h1, h2, h3⟩
    · exfalso
      have h1 := congrArg (·.1) h
      unfold Jnl.rewrite at h1
      have hwl : (Frm.all (singles (after s.vals cs))).length ≤ 64 * hof n := hw
      rw [if_neg (by rw [hl.ok]; decide), if_neg (by omega), if_neg (by omega), if_neg (by omega)] at h1
      have h2 : (lays n d' s.j (1 - s.j.half) [] (Frm.all (singles (after s.vals cs)))).1 = 10 := h1
      rcases lays_keeps (l' := singles (after s.vals cs)) (half := 1 - s.j.half) (pre := []) (new := Frm.all (singles (after s.vals cs))) hl hn (by omega) hseq (by omega) (Or.inr ⟨by have := hl.half; omega, rfl⟩) hw rfl (small_singles hnf) with ⟨r, _⟩ | ⟨r, _⟩
      · rw [r] at h2; cases h2
      · rw [r] at h2; cases h2
    · exact Or.inr ⟨h1, h3⟩
  have hA : (adds n d s.j cs = (4, d, s.j) ∨ adds n d s.j cs = (10, d, s.j)) ∨ ((adds n d s.j cs).1 = 0 ∧ Live n (adds n d s.j cs).2.1 (adds n d s.j cs).2.2 (recs ++ [rec cs]) ∧ (adds n d s.j cs).2.2.seq ≤ s.j.seq + 1) ∨
      ((adds n d s.j cs).1 = 12 ∧ Fallen n (adds n d s.j cs).2.1 s.j recs ⟨s.j.seq + 1, s.j.half, s.j.bytes ++ Frm.all [rec cs], false⟩ (recs ++ [rec cs])) := by
    unfold adds
    by_cases hb : 65536 < (rec cs).length
    · rw [if_pos hb]; exact Or.inl (Or.inl rfl)
    · rw [if_neg hb]
      have hsm : ∀ t ∈ [rec cs], t.length < 9223372036854775808 := fun t ht => by rw [List.mem_singleton.1 ht]; omega
      by_cases hf : (Frm.all [rec cs]).length ≤ 65536
      · rcases append_keeps hl hn (by omega) hseq hf hsm with h | h | ⟨h1, _, h3⟩
        · exact Or.inr (Or.inl h)
        · exact Or.inl (Or.inr h)
        · exact Or.inr (Or.inr ⟨h1, h3⟩)
      · refine Or.inl (Or.inl ?_)
        unfold Jnl.append
        rw [if_neg (by rw [hl.ok]; decide), if_neg (by omega), if_pos (by omega)]
  rcases hA with hA | ⟨a1, a2, a3⟩ | ⟨a1, a2⟩
  · have hk : keeps n d s.j cs (after s.vals cs) = Jnl.rewrite n d s.j (singles (after s.vals cs)) := by
      unfold keeps
      rcases hA with e | e
      · rw [e]; simp
      · rw [e]; simp
    rw [hk]
    rcases hR d s.j rfl rfl with ⟨r1, r2, r3⟩ | ⟨r1, r2⟩
    · rw [if_pos r1]
      exact Or.inl ⟨rfl, ⟨⟨_, r2, hrew⟩, rfl⟩, rfl, rfl, r3⟩
    · rw [if_neg (by rw [r1]; decide)]
      exact Or.inr ⟨r1, rfl, rfl, ⟨⟨_, _, _, _, r2, hr, hrew, by omega, Nat.le_refl _⟩⟩⟩
  · have hk : keeps n d s.j cs (after s.vals cs) = adds n d s.j cs := if_neg (by rw [a1]; decide)
    rw [hk, if_pos a1]
    exact Or.inl ⟨rfl, ⟨⟨_, a2, happ⟩, rfl⟩, rfl, rfl, a3⟩
  · have hk : keeps n d s.j cs (after s.vals cs) = adds n d s.j cs := if_neg (by rw [a1]; decide)
    rw [hk, if_neg (by rw [a1]; decide)]
    exact Or.inr ⟨a1, rfl, rfl, ⟨⟨_, _, _, _, a2, hr, happ, by omega, Nat.le_refl _⟩⟩⟩

set_option maxRecDepth 100000 in
theorem doing_full {n : Nat} {d : D} {s : Sr} {cs : List Ch} (hc : check s.vals cs s.quota = 0) (hw : 64 * hof n < whole (after s.vals cs)) : doing n d s cs = (10, d, s) := by
  unfold doing
  rw [if_pos hc, if_pos (Or.inl hw)]

set_option maxRecDepth 100000 in
theorem doing_bad {n : Nat} {d : D} {s : Sr} {cs : List Ch} (hc : check s.vals cs s.quota ≠ 0) : doing n d s cs = (check s.vals cs s.quota, d, s) := by
  unfold doing
  rw [if_neg hc]

set_option maxRecDepth 100000 in
theorem doing_fine {n : Nat} {d : D} {s : Sr} {cs : List Ch} {N : Nat} (hd : d.Fine N) : (doing n d s cs).2.1.Fine (N + (2 * hof n + 6)) := by
  have ha : (adds n d s.j cs).2.1.Fine (N + hof n + 3) := by
    unfold adds
    split
    · exact hd.mono (by omega)
    · exact append_fine hd
  have hk : (keeps n d s.j cs (after s.vals cs)).2.1.Fine (N + (2 * hof n + 6)) := by
    unfold keeps
    split
    · exact (rewrite_fine ha).mono (by omega)
    · exact ha.mono (by omega)
  unfold doing
  split
  · split
    · exact hd.mono (by omega)
    · split
      · exact hk
      · exact hk
  · exact hd.mono (by omega)

set_option maxRecDepth 100000 in
/-- A crash of a store that stands: opened, it has its values. -/
theorem Lives.crash {n : Nat} {d : D} {s : Sr} (H : Lives n d s) (hn : 4 ≤ n) (ks : List Int) : ∃ recs, opens n (now (d.crash ks)) = (0, some s.j, recs) ∧ run [] recs = some s.vals ∧ Lives n (d.crash ks) s := by
  obtain ⟨recs, hl, hr⟩ := H.live
  obtain ⟨h1, h2⟩ := hl.crash hn ks
  exact ⟨recs, h2, hr, ⟨⟨recs, h1, hr⟩, H.up⟩⟩

set_option maxRecDepth 100000 in
theorem Falls.crash {n : Nat} {d : D} {a b : List Pr} {m : Nat} (H : Falls n d a b m) (hn : 4 ≤ n) (ks : List Int) (q : Int) :
    ∃ j recs v, (v = a ∨ v = b) ∧ opens n (now (d.crash ks)) = (0, some j, recs) ∧ run [] recs = some v ∧ Lives n (d.crash ks) ⟨j, v, q, false⟩ ∧ j.seq ≤ m := by
  obtain ⟨j, recs, j', recs', hf, h1, h2, h3, h4⟩ := H.two
  rcases hf.crash hn ks with ⟨k1, k2⟩ | ⟨k1, k2⟩
  · exact ⟨j, recs, a, Or.inl rfl, k2, h1, ⟨⟨recs, k1, h1⟩, rfl⟩, h3⟩
  · exact ⟨j', recs', b, Or.inr rfl, k2, h2, ⟨⟨recs', k1, h2⟩, rfl⟩, h4⟩
end Go.Proofs.YtbfjageaheijbaaGreat.Sto
/- Small laws on bytes. No program is spoken of. -/
namespace Go.Proofs.YtbfjageaheijbaaGreat
open Go.RowKit

set_option maxRecDepth 100000 in
theorem cut_data (r : ByteArray) (k : Nat) : (r.extract k r.size).data.toList = r.data.toList.drop k := by
  rw [Lib.extract_data]
  exact List.take_of_length_le (by rw [List.length_drop, Lib.size_eq]; exact Nat.le_refl _)

set_option maxRecDepth 100000 in
theorem bytes_ext {a b : ByteArray} (h : a.data.toList = b.data.toList) : a = b := ByteArray.ext (Array.toList_inj.1 h)

set_option maxRecDepth 100000 in
theorem cut_cut (r : ByteArray) (k j : Nat) : (r.extract k r.size).extract j (r.extract k r.size).size = r.extract (k + j) r.size :=
  bytes_ext (by rw [cut_data, cut_data, cut_data, List.drop_drop])

set_option maxRecDepth 100000 in
theorem at_data (r : ByteArray) (h : 0 < r.size) {c : UInt8} (hc : r.data.toList[0]? = some c) : r[0]'h = c := by
  obtain ⟨hl, he⟩ := List.getElem?_eq_some_iff.1 hc
  rw [← he, Array.getElem_toList]
  rfl

set_option maxRecDepth 100000 in
theorem mk_size (l : List UInt8) : (⟨l.toArray⟩ : ByteArray).size = l.length := by rw [Lib.size_eq]
end Go.Proofs.YtbfjageaheijbaaGreat
