/- A disk that is not armed stays up; a disk and a journal of blocks of the call's own. -/
import Derived.Test.YtcgplonnhginiaaCom8
set_option linter.unusedSimpArgs false
set_option linter.unusedVariables false
namespace Go.Proofs.Ytcgplonnhginiaa
open Go.RowKit Dsk Jnl

/-- Neither down nor armed. -/
def Calm (d : D) : Prop := d.down = false ∧ d.armed = 0

set_option maxRecDepth 100000 in
theorem calm_new (n : Nat) : Calm (Dsk.new n) := ⟨rfl, rfl⟩
set_option maxRecDepth 100000 in
theorem calm_arm {d : D} (h : d.down = false) : Calm (d.arm 0) := ⟨h, rfl⟩
set_option maxRecDepth 100000 in
theorem calm_crash (d : D) (ks : List Int) : Calm (d.crash ks) := ⟨rfl, rfl⟩

set_option maxRecDepth 100000 in
theorem Calm.call {d : D} (h : Calm d) : Calm d.call := by
  obtain ⟨h1, h2⟩ := h
  exact ⟨by show (d.down || d.armed == 1) = false; rw [h1, h2]; rfl, by show d.armed - 1 = 0; rw [h2]⟩

set_option maxRecDepth 100000 in
theorem Calm.set {d : D} (h : Calm d) (S : List (List ByteArray)) : Calm { d with S := S } := ⟨h.1, h.2⟩

set_option maxRecDepth 100000 in
theorem Calm.write {d : D} (h : Calm d) (i : Int) (s : ByteArray) : Calm (d.write i s).2 := by
  unfold D.write
  repeat' split
  all_goals first
    | exact h
    | exact h.call
    | exact h.call.set _

set_option maxRecDepth 100000 in
theorem Calm.flush {d : D} (h : Calm d) : Calm d.flush.2 := by
  unfold D.flush
  repeat' split
  all_goals first
    | exact h
    | exact h.call
    | exact h.call.set _

set_option maxRecDepth 100000 in
theorem calm_then {r : Int × D} {f : D → Int × D} (h : Calm r.2) (hf : ∀ d, Calm d → Calm (f d).2) : Calm (andThen r f).2 := by
  unfold andThen
  split
  · exact hf _ h
  · exact h

set_option maxRecDepth 100000 in
theorem calm_writes (base : Nat) (all : List UInt8) : ∀ (c i : Nat) (d : D), Calm d → Calm (writeFrom base all i c d).2
  | 0, _, _, h => h
  | c + 1, i, d, h => by
    unfold writeFrom
    split
    · exact calm_writes base all c (i + 1) _ (h.write _ _)
    · exact h.write _ _

set_option maxRecDepth 100000 in
theorem calm_commit {d : D} (h : Calm d) (hh seq half : Nat) (pre new : List UInt8) : Calm (commit hh seq half pre new d).2 :=
  calm_then (calm_then (calm_writes _ _ _ _ _ h) (fun _ h => h.flush)) (fun _ h => calm_then (h.write _ _) (fun _ h => h.flush))

set_option maxRecDepth 100000 in
theorem calm_append {n : Nat} {d : D} {j : J} {a : List (List UInt8)} (h : Calm d) : Calm (Jnl.append n d j a).2.1 := by
  unfold Jnl.append
  repeat' split
  all_goals first
    | exact h
    | exact calm_commit h _ _ _ _ _

set_option maxRecDepth 100000 in
theorem calm_rewrite {n : Nat} {d : D} {j : J} {a : List (List UInt8)} (h : Calm d) : Calm (Jnl.rewrite n d j a).2.1 := by
  unfold Jnl.rewrite
  repeat' split
  all_goals first
    | exact h
    | exact calm_commit h _ _ _ _ _

set_option maxRecDepth 100000 in
theorem calm_format {d : D} (h : Calm d) : Calm (Jnl.format d).2 := calm_then (calm_then (h.write _ _) (fun _ h => h.write _ _)) (fun _ h => h.flush)

set_option maxRecDepth 100000 in
theorem small_all {a : List (List UInt8)} {m k : Nat} (hm : a.length ≤ m) (hk : ∀ t ∈ a, t.length ≤ k) : (Frm.all a).length ≤ m * (k + 13) := by
  induction a generalizing m with
  | nil => show 0 ≤ _; omega
  | cons t a ih =>
    obtain ⟨m, rfl⟩ : ∃ q, m = q + 1 := ⟨m - 1, by rw [List.length_cons] at hm; omega⟩
    have h1 := ih (m := m) (by rw [List.length_cons] at hm; omega) (fun x hx => hk x (by simp [hx]))
    have h2 := hk t (by simp)
    have h3 := (Leb.enc_len t.length).2
    have e : Frm.all (t :: a) = Frm.one t ++ Frm.all a := rfl
    rw [e, List.length_append, Nat.succ_mul]
    have h4 : (Frm.one t).length ≤ k + 13 := by
      unfold Frm.one
      simp only [List.length_append, Frm.sumOf_len]
      omega
    omega

set_option maxRecDepth 100000 in
/-- Append on a disk that is not armed: all, or it is full. -/
theorem append_calm {n : Nat} {d : D} {j : J} {l a : List (List UInt8)} (H : Live n d j l) (hc : Calm d) (hn : 4 ≤ n) (hn2 : n ≤ 4096) (hseq : j.seq < 9223372036854775807) (ha : (Frm.all a).length ≤ 65536) (hs : ∀ t ∈ a, t.length < 9223372036854775808) :
    ((Jnl.append n d j a).1 = 0 ∧ Live n (Jnl.append n d j a).2.1 (Jnl.append n d j a).2.2 (l ++ a) ∧ (Jnl.append n d j a).2.2.seq ≤ j.seq + 1) ∨ (Jnl.append n d j a = (10, d, j)) := by
  rcases append_keeps H hn hn2 hseq ha hs with h | h | h
  · exact Or.inl h
  · exact Or.inr h
  · have := h.2.2.down
    rw [(calm_append hc).1] at this
    cases this

/-! ### In memory -/
section
variable {At : World → (Nat → Prop) → Value → D → Prop} {Own : World → (Nat → Prop) → Value → Value → Nat → J → Prop}

/-- A disk of the call's own; Z: blocks that are not its. -/
structure Dw (At : World → (Nat → Prop) → Value → D → Prop) (W : World) (Z : Nat → Prop) (dv : Value) (d : D) (w : World) : Prop where
  out : ∃ F, At w F dv d ∧ ∀ i, F i → W.heap.size ≤ i ∧ ¬ Z i
  bel : Below W.heap.size W w
  zlt : ∀ i, Z i → i < w.heap.size

/-- A disk and a journal of the call's own; Z: blocks that are not theirs. -/
structure Jw (At : World → (Nat → Prop) → Value → D → Prop) (Own : World → (Nat → Prop) → Value → Value → Nat → J → Prop) (W : World) (Z : Nat → Prop) (dv jv : Value) (n : Nat) (d : D) (j : J) (w : World) : Prop where
  out : ∃ F, JAt At Own w F dv jv n d j ∧ ∀ i, F i → W.heap.size ≤ i ∧ ¬ Z i
  bel : Below W.heap.size W w
  zlt : ∀ i, Z i → i < w.heap.size

def SameZ (Z : Nat → Prop) (w w' : World) : Prop := w.heap.size ≤ w'.heap.size ∧ ∀ k, Z k → w'.heap[k]? = w.heap[k]?

variable {W w w' : World} {Z : Nat → Prop} {dv jv : Value} {n : Nat} {d d' : D} {j j' : J}

set_option maxRecDepth 100000 in
theorem below_kept {F : Nat → Prop} (h : Below W.heap.size W w) (k : Kept F w w') (hF : ∀ i, F i → W.heap.size ≤ i) : Below W.heap.size W w' :=
  ⟨k.os.trans h.os, k.tape.trans h.tape, k.output.trans h.output, Nat.le_trans h.size k.size, fun i hi => (k.block i (Nat.lt_of_lt_of_le hi h.size) (fun hf => by have := hF i hf; omega)).trans (h.block i hi)⟩

set_option maxRecDepth 100000 in
theorem SameZ.refl (Z : Nat → Prop) (w : World) : SameZ Z w w := ⟨Nat.le_refl _, fun _ _ => rfl⟩
set_option maxRecDepth 100000 in
theorem SameZ.trans {w'' : World} (h : SameZ Z w w') (k : SameZ Z w' w'') : SameZ Z w w'' := ⟨Nat.le_trans h.1 k.1, fun i hi => (k.2 i hi).trans (h.2 i hi)⟩
set_option maxRecDepth 100000 in
theorem SameZ.below (h : Below w.heap.size w w') (hz : ∀ i, Z i → i < w.heap.size) : SameZ Z w w' := ⟨h.size, fun k hk => h.block k (hz k hk)⟩

set_option maxRecDepth 100000 in
/-- A slice among the blocks that stay. -/
theorem SameZ.cells {G : Nat → Prop} {v : Value} {us : List Value} (h : SameZ Z w w') (hc : Cells w G v us) (hG : ∀ i, G i → Z i) : Cells w' G v us := by
  obtain ⟨A, cap, h1, h2, h3⟩ := hc
  refine ⟨A, cap, h1, h2, fun hp => ?_⟩
  obtain ⟨b, o, e, hb, hl, hx⟩ := h3 hp
  exact ⟨b, o, e, hb, Nat.lt_of_lt_of_le hl h.1, fun i u hu => (World.cell?_of_block (w := w) (a := ⟨b, o + i, none⟩) (h.2 b (hG b hb))).trans (hx i u hu)⟩

set_option maxRecDepth 100000 in
/-- A call of the disk's. -/
theorem Dw.call {fn : Nat} {args : Array Value} {P : Ending → Prop} (h : Dw At W Z dv d w) (hc : ∀ F, At w F dv d → Calls Try.prog fn args w fun e w' => P e ∧ Doing At w F dv d' w') :
    Calls Try.prog fn args w fun e w' => P e ∧ Dw At W Z dv d' w' ∧ SameZ Z w w' := by
  obtain ⟨⟨F, h1, h4⟩, h6, h7⟩ := h
  refine (hc F h1).mono fun e w' ⟨k1, k3, k2⟩ => ⟨k1, ⟨⟨Grow F w w', k3, fun i hi => ?_⟩, below_kept h6 k2 (fun i hi => (h4 i hi).1), fun i hi => Nat.lt_of_lt_of_le (h7 i hi) k2.size⟩, k2.size, fun k hk => k2.block k (h7 k hk) (fun hf => (h4 k hf).2 hk)⟩
  rcases hi with hi | hi
  · exact h4 i hi
  · exact ⟨Nat.le_trans h6.size hi.1, fun hz => by have := h7 i hz; omega⟩

set_option maxRecDepth 100000 in
/-- A call of the journal's, or of the disk's beside it. -/
theorem Jw.call {fn : Nat} {args : Array Value} {P : Ending → Prop} (h : Jw At Own W Z dv jv n d j w) (hc : ∀ F, JAt At Own w F dv jv n d j → (∀ i, F i → ¬ Z i) → Calls Try.prog fn args w fun e w' => P e ∧ JAt At Own w' (Grow F w w') dv jv n d' j' ∧ Kept F w w') :
    Calls Try.prog fn args w fun e w' => P e ∧ Jw At Own W Z dv jv n d' j' w' ∧ SameZ Z w w' := by
  obtain ⟨⟨F, h1, h4⟩, h6, h7⟩ := h
  refine (hc F h1 (fun i hi => (h4 i hi).2)).mono fun e w' ⟨k1, k3, k2⟩ => ⟨k1, ⟨⟨Grow F w w', k3, fun i hi => ?_⟩, below_kept h6 k2 (fun i hi => (h4 i hi).1), fun i hi => Nat.lt_of_lt_of_le (h7 i hi) k2.size⟩, k2.size, fun k hk => k2.block k (h7 k hk) (fun hf => (h4 k hf).2 hk)⟩
  rcases hi with hi | hi
  · exact h4 i hi
  · exact ⟨Nat.le_trans h6.size hi.1, fun hz => by have := h7 i hz; omega⟩

set_option maxRecDepth 100000 in
theorem Dw.below (U : DiskUse At) (h : Dw At W Z dv d w) (k : Below w.heap.size w w') : Dw At W Z dv d w' ∧ SameZ Z w w' := by
  obtain ⟨⟨F, h1, h4⟩, h6, h7⟩ := h
  exact ⟨⟨⟨F, U.kept h1 (Kept.ofBelow k (fun _ => False)) (fun _ _ h => h), h4⟩, h6.trans (k.mono h6.size), fun i hi => Nat.lt_of_lt_of_le (h7 i hi) k.size⟩, SameZ.below k h7⟩

set_option maxRecDepth 100000 in
theorem Jw.below (U : DiskUse At) (H : JournalOk At Own) (h : Jw At Own W Z dv jv n d j w) (k : Below w.heap.size w w') : Jw At Own W Z dv jv n d j w' ∧ SameZ Z w w' := by
  obtain ⟨⟨F, h1, h4⟩, h6, h7⟩ := h
  exact ⟨⟨⟨F, h1.kept U H (Kept.ofBelow k (fun _ => False)) (fun _ _ h => h), h4⟩, h6.trans (k.mono h6.size), fun i hi => Nat.lt_of_lt_of_le (h7 i hi) k.size⟩, SameZ.below k h7⟩

set_option maxRecDepth 100000 in
/-- New blocks join those that stay. -/
theorem Jw.more (U : DiskUse At) (H : JournalOk At Own) (h : Jw At Own W Z dv jv n d j w) (k : Below w.heap.size w w') {Y : Nat → Prop} (hY : ∀ i, Y i → Z i ∨ (w.heap.size ≤ i ∧ i < w'.heap.size)) : Jw At Own W Y dv jv n d j w' := by
  obtain ⟨⟨F, h1, h4⟩, h6, h7⟩ := h
  have hlt := h1.lt U H
  refine ⟨⟨fun i => F i ∧ i < w.heap.size, hlt.kept U H (Kept.ofBelow k (fun _ => False)) (fun _ _ h => h), fun i hi => ⟨(h4 i hi.1).1, fun hy => ?_⟩⟩, h6.trans (k.mono h6.size), fun i hi => ?_⟩
  · rcases hY i hy with hz | hz
    · exact (h4 i hi.1).2 hz
    · omega
  · rcases hY i hi with hz | hz
    · exact Nat.lt_of_lt_of_le (h7 i hz) k.size
    · exact hz.2

set_option maxRecDepth 100000 in
theorem Dw.more (U : DiskUse At) (h : Dw At W Z dv d w) (k : Below w.heap.size w w') {Y : Nat → Prop} (hY : ∀ i, Y i → Z i ∨ (w.heap.size ≤ i ∧ i < w'.heap.size)) : Dw At W Y dv d w' := by
  obtain ⟨⟨F, h1, h4⟩, h6, h7⟩ := h
  refine ⟨⟨F, U.kept h1 (Kept.ofBelow k (fun _ => False)) (fun _ _ h => h), fun i hi => ⟨(h4 i hi).1, fun hy => ?_⟩⟩, h6.trans (k.mono h6.size), fun i hi => ?_⟩
  · rcases hY i hy with hz | hz
    · exact (h4 i hi).2 hz
    · have := U.lt h1 i hi; omega
  · rcases hY i hi with hz | hz
    · exact Nat.lt_of_lt_of_le (h7 i hz) k.size
    · exact hz.2

set_option maxRecDepth 100000 in
theorem Jw.disk (h : Jw At Own W Z dv jv n d j w) : Dw At W Z dv d w := by
  obtain ⟨⟨F, ⟨F1, F2, h1, h2, h3, h4, h5⟩, h8⟩, h6, h7⟩ := h
  exact ⟨⟨F1, h1, fun i hi => h8 i (h4 i hi)⟩, h6, h7⟩

set_option maxRecDepth 100000 in
theorem live_sound {n : Nat} {d : D} {j : J} {l : List (List UInt8)} {N : Nat} (h : Live n d j l) (hf : d.Fine N) (hn : 4 ≤ n) : Sound n d N := ⟨h.shape, hf, hn, h.now.full⟩

set_option maxRecDepth 100000 in
theorem dw_new (U : DiskUse At) (n : Nat) (w : World) (h1 : 1 ≤ n) (h2 : n ≤ 4096) : Calls Try.prog 7 #[.int .i64 (n : Int)] w fun e w' => ∃ p, e = .returned (.tuple #[.pointer (some p), .int .i64 0]) ∧ Dw At w (fun _ => False) (.pointer (some p)) (Dsk.new n) w' := by
  refine (U.new_ok n w h1 h2).mono ?_
  rintro e w' ⟨v, rfl, h3, h4⟩
  obtain ⟨p, rfl⟩ := U.ptr h3
  exact ⟨p, rfl, ⟨⟨_, h3, fun i hi => ⟨hi.1, fun h => h⟩⟩, h4, fun _ h => h.elim⟩⟩

set_option maxRecDepth 100000 in
/-- A disk is opened: its journal and its records. -/
theorem Dw.openedAt (U : DiskUse At) (H : JournalOk At Own) {N : Nat} {l : List (List UInt8)} (h : Dw At W Z dv d w) (hs : Sound n d N) (hN : N ≤ 100000) (hd : d.down = false) (ho : opens n (Jnl.now d) = (0, some j, l)) :
    Calls Try.prog 10 #[dv] w fun e w' => ∃ p lv G, e = .returned (.tuple #[.pointer (some p), lv, .int .i64 0]) ∧ Jw At Own W (fun i => Z i ∨ G i) dv (.pointer (some p)) n d j w' ∧ Cells w' G lv (texts l) ∧ (∀ i, G i → w.heap.size ≤ i ∧ i < w'.heap.size) ∧ SameZ Z w w' := by
  obtain ⟨⟨F, h1, h4⟩, h6, h7⟩ := h
  refine (H.opened h1 hs hN hd ho).mono ?_
  rintro e w' ⟨jv, lv, G, K, rfl, k1, k2, k3, k4, k5, k6⟩
  have hown := k1
  obtain ⟨F1, F2, q1, q2, q3, q4, q5⟩ := k1
  obtain ⟨p, rfl⟩ := H.ptr q2
  refine ⟨p, lv, K, rfl, ⟨⟨G, hown, fun i hi => ?_⟩, below_kept h6 k6 (fun i hi => (h4 i hi).1), fun i hi => ?_⟩, k2, k5, k6.size, fun k hk => k6.block k (h7 k hk) (fun hf => (h4 k hf).2 hk)⟩
  · rcases k4 i hi with hi' | hi'
    · exact ⟨(h4 i hi').1, fun hz => hz.elim (h4 i hi').2 (k3 i hi)⟩
    · exact ⟨Nat.le_trans h6.size hi'.1, fun hz => hz.elim (fun hz => by have := h7 i hz; omega) (k3 i hi)⟩
  · rcases hi with hi | hi
    · exact Nat.lt_of_lt_of_le (h7 i hi) k6.size
    · exact (k5 i hi).2

set_option maxRecDepth 100000 in
theorem Dw.opened (U : DiskUse At) (H : JournalOk At Own) {N : Nat} {l : List (List UInt8)} (h : Dw At W Z dv d w) (hl : Live n d j l) (hf : d.Fine N) (hN : N ≤ 100000) (hn : 4 ≤ n) :
    Calls Try.prog 10 #[dv] w fun e w' => ∃ p lv G, e = .returned (.tuple #[.pointer (some p), lv, .int .i64 0]) ∧ Jw At Own W (fun i => Z i ∨ G i) dv (.pointer (some p)) n d j w' ∧ Cells w' G lv (texts l) ∧ (∀ i, G i → w.heap.size ≤ i ∧ i < w'.heap.size) ∧ SameZ Z w w' :=
  h.openedAt U H (live_sound hl hf hn) hN hl.up (hl.opens hn)

set_option maxRecDepth 100000 in
theorem Dw.refused (H : JournalOk At Own) {N : Nat} {x : Int} (h : Dw At W Z dv d w) (hs : Sound n d N) (hN : N ≤ 100000) (hd : d.down = false) (ho : opens n (Jnl.now d) = (x, none, [])) :
    Calls Try.prog 10 #[dv] w fun e w' => (∃ A c, e = .returned (.tuple #[.pointer none, .slice A 0 c, .int .i64 x])) ∧ Dw At W Z dv d w' ∧ SameZ Z w w' :=
  h.call (fun F hF => (H.refused hF hs hN hd ho).mono (fun e w' ⟨A, c, he, hd⟩ => ⟨⟨A, c, he⟩, hd⟩))

set_option maxRecDepth 100000 in
/-- A disk is opened once more, while its journal lives. -/
theorem Jw.again (U : DiskUse At) (H : JournalOk At Own) {N : Nat} {l : List (List UInt8)} (h : Jw At Own W Z dv jv n d j w) {j0 : J} (hl : Live n d j0 l) (hf : d.Fine N) (hN : N ≤ 100000) (hn : 4 ≤ n) :
    Calls Try.prog 10 #[dv] w fun e w' => ∃ p lv G, e = .returned (.tuple #[.pointer (some p), lv, .int .i64 0]) ∧ Jw At Own W (fun i => Z i ∨ G i) dv jv n d j w' ∧ Cells w' G lv (texts l) ∧ (∀ i, G i → w.heap.size ≤ i ∧ i < w'.heap.size) ∧ SameZ Z w w' := by
  obtain ⟨⟨F, ⟨F1, F2, h1, h2, h3, hF1, hF2⟩, h4⟩, h6, h7⟩ := h
  refine (H.opened h1 (live_sound hl hf hn) hN hl.up (hl.opens hn)).mono ?_
  rintro e w' ⟨jv2, lv, G, K, rfl, ⟨G1, G2, q1, q2, q3, q4, q5⟩, k2, k3, k4, k5, k6⟩
  obtain ⟨p, rfl⟩ := H.ptr q2
  have hlt2 := H.lt h2
  have hkF : Kept F w w' := k6.mono hF1
  refine ⟨p, lv, K, rfl, ⟨⟨fun i => G1 i ∨ F2 i, ⟨G1, F2, q1, H.kept h2 k6 (fun i hi hf => h3 i hf hi), fun i hi hf => ?_, fun i hi => Or.inl hi, fun i hi => Or.inr hi⟩, fun i hi => ?_⟩, below_kept h6 hkF (fun i hi => (h4 i hi).1), fun i hi => ?_⟩, k2, k5, k6.size, fun k hk => k6.block k (h7 k hk) (fun hf => (h4 k (hF1 k hf)).2 hk)⟩
  · rcases k4 i (q4 i hi) with hi' | hi'
    · exact h3 i hi' hf
    · have := hlt2 i hf; omega
  · rcases hi with hi | hi
    · rcases k4 i (q4 i hi) with hi' | hi'
      · exact ⟨(h4 i (hF1 i hi')).1, fun hz => hz.elim (h4 i (hF1 i hi')).2 (k3 i (q4 i hi))⟩
      · exact ⟨Nat.le_trans h6.size hi'.1, fun hz => hz.elim (fun hz => by have := h7 i hz; omega) (k3 i (q4 i hi))⟩
    · exact ⟨(h4 i (hF2 i hi)).1, fun hz => hz.elim (h4 i (hF2 i hi)).2 (fun hk => by have := hlt2 i hi; have := (k5 i hk).1; omega)⟩
  · rcases hi with hi | hi
    · exact Nat.lt_of_lt_of_le (h7 i hi) k6.size
    · exact (k5 i hi).2
end
end Go.Proofs.Ytcgplonnhginiaa
/- What must come at any rate ('awake' of layer 5). -/
set_option linter.unusedSimpArgs false
set_option linter.unusedVariables false
namespace Go.Proofs.Ytcgplonnhginiaa
open Go.RowKit Dsk Jnl

set_option maxRecDepth 100000 in
theorem append_room {n : Nat} {d : D} {j : J} {l a : List (List UInt8)} (H : Live n d j l) (hc : Calm d) (hn : 4 ≤ n) (hn2 : n ≤ 4096) (hseq : j.seq < 9223372036854775807) (ha : (Frm.all a).length ≤ 65536) (hs : ∀ t ∈ a, t.length < 9223372036854775808)
    (hf : j.bytes.length + (Frm.all a).length ≤ 64 * hof n) :
    (Jnl.append n d j a).1 = 0 ∧ Live n (Jnl.append n d j a).2.1 (Jnl.append n d j a).2.2 (l ++ a) ∧ (Jnl.append n d j a).2.2.seq ≤ j.seq + 1 := by
  rcases append_calm H hc hn hn2 hseq ha hs with h | h
  · exact h
  · exfalso
    unfold Jnl.append at h
    rw [if_neg (by rw [H.ok]; decide), if_neg (by omega), if_neg (by omega), if_neg (by omega)] at h
    by_cases he : a = []
    · rw [if_pos he] at h
      have := congrArg Prod.fst h
      revert this
      show ¬ ((0 : Int) = 10)
      decide
    · rw [if_neg he] at h
      have hall : j.bytes ++ Frm.all a = Frm.all (l ++ a) := by rw [H.recs]; unfold Frm.all; rw [List.flatMap_append]
      rcases lays_keeps H hn hn2 hseq H.half (Or.inl ⟨rfl, rfl⟩) (by rw [List.length_append]; omega) hall (fun t ht => by
        rcases List.mem_append.1 ht with ht | ht
        · exact H.small t ht
        · exact hs t ht) with ⟨r1, -⟩ | ⟨r1, -⟩
      · rw [h] at r1; revert r1; show ¬ ((10 : Int) = 0); decide
      · rw [h] at r1; revert r1; show ¬ ((10 : Int) = 12); decide

def ab : List (List UInt8) := [[97], [98]]

set_option maxRecDepth 100000 in
theorem ab_len : (Frm.all ab).length = 12 := by
  have e : Frm.all ab = Frm.one [97] ++ (Frm.one [98] ++ []) := rfl
  have h1 : (Leb.enc 1).length = 1 := by decide
  rw [e]
  unfold Frm.one
  simp only [List.length_append, Frm.sumOf_len, List.length_cons, List.length_nil, Nat.zero_add, h1]

section
variable {At : World → (Nat → Prop) → Value → D → Prop} {Own : World → (Nat → Prop) → Value → Value → Nat → J → Prop}

set_option maxRecDepth 100000 in
theorem ab_cells (w : World) : Cells (w.alloc (.cells #[.string ⟨#[97]⟩, .string ⟨#[98]⟩] 9)) (fun i => i = w.heap.size) (.slice (some ⟨w.heap.size, 0, none⟩) 2 2) (texts ab) :=
  ⟨some ⟨w.heap.size, 0, none⟩, 2, rfl, Nat.le_refl _, fun _ => ⟨w.heap.size, 0, rfl, rfl, by simp, fun i u hu => by
    rw [Nat.zero_add, (Row.made w 9 #[.string ⟨#[97]⟩, .string ⟨#[98]⟩]).at]
    rw [show (#[.string ⟨#[97]⟩, .string ⟨#[98]⟩] : Array Value) = (texts ab).toArray from rfl, List.getElem?_toArray]
    exact hu⟩⟩

set_option maxRecDepth 100000 in
set_option maxHeartbeats 1600000 in
theorem jnl_awake (U : DiskUse At) (H : JournalOk At Own) (w : World) : Calls Try.prog 9 #[] w fun e w' => e = .returned (.bool true) ∧ Below w.heap.size w w' := by
  obtain ⟨f1, l1⟩ := format_new (n := 10) (by decide)
  have fin1 : (Jnl.format (Dsk.new 10)).2.Fine 3 := format_fine (new_fine 10 (by decide))
  have cal1 : Calm (Jnl.format (Dsk.new 10)).2 := calm_format (calm_new 10)
  have ha : (Frm.all ab).length ≤ 65536 := by rw [ab_len]; decide
  have hs : ∀ t ∈ ab, t.length < 9223372036854775808 := fun t ht => by
    have : t.length = 1 := by
      rcases List.mem_cons.1 ht with rfl | ht
      · rfl
      · rw [List.mem_singleton.1 ht]; rfl
    omega
  obtain ⟨r1, l2, -⟩ := append_room l1 cal1 (by decide) (by decide) (by decide) ha hs (by rw [ab_len]; decide)
  have fin2 := append_fine (n := 10) (j := ⟨1, 0, [], false⟩) (a := ab) fin1
  have e12 := l2.recs
  rw [show ([] : List (List UInt8)) ++ ab = ab from rfl] at e12 l2
  have hb12 : (Jnl.append 10 (Jnl.format (Dsk.new 10)).2 ⟨1, 0, [], false⟩ ab).2.2.bytes.length = 12 := by rw [e12, ab_len]
  -- the calls
  have C1 : Hid (∀ W p, Dw At w (fun _ => False) (.pointer (some p)) (Dsk.new 10) W → Calls Try.prog 8 #[.pointer (some p)] W fun e w' => e = .returned (.int .i64 0) ∧ Dw At w (fun _ => False) (.pointer (some p)) (Jnl.format (Dsk.new 10)).2 w' ∧ SameZ (fun _ => False) W w') := Lib.hid (fun W p h => by
    rw [← f1]
    have hsd : Sound 10 (Dsk.new 10) 0 := ⟨shape_new 10, new_fine 10 (by decide), by decide, fun k hk => by unfold Jnl.now; rw [new_last 10 k hk]; exact fill_full _ (by decide)⟩
    exact h.call (fun F hF => H.format hF hsd (by decide)))
  have C2 : Hid (∀ W p, Dw At w (fun _ => False) (.pointer (some p)) (Jnl.format (Dsk.new 10)).2 W → Calls Try.prog 10 #[.pointer (some p)] W fun e w' => ∃ q A c, e = .returned (.tuple #[.pointer (some q), .slice A 0 c, .int .i64 0]) ∧ Jw At Own w (fun _ => False) (.pointer (some p)) (.pointer (some q)) 10 (Jnl.format (Dsk.new 10)).2 ⟨1, 0, [], false⟩ w') := Lib.hid (fun W p h => by
    refine (h.opened U H l1 fin1 (by decide) (by decide)).mono ?_
    rintro e w' ⟨q, lv, G, rfl, k1, ⟨A, c, rfl, -, -⟩, -, -⟩
    exact ⟨q, A, c, rfl, k1.more U H (Below.refl _ _) (fun i hi => hi.elim)⟩)
  have C3 : Hid (∀ W p q, Jw At Own w (fun _ => False) (.pointer (some p)) (.pointer (some q)) 10 (Jnl.format (Dsk.new 10)).2 ⟨1, 0, [], false⟩ W → Calls Try.prog 14 #[.pointer (some q), .slice (some ⟨W.heap.size, 0, none⟩) 2 2] (W.alloc (.cells #[.string ⟨#[97]⟩, .string ⟨#[98]⟩] 9)) fun e w' =>
      e = .returned (.int .i64 0) ∧ Jw At Own w (fun _ => False) (.pointer (some p)) (.pointer (some q)) 10 (Jnl.append 10 (Jnl.format (Dsk.new 10)).2 ⟨1, 0, [], false⟩ ab).2.1 (Jnl.append 10 (Jnl.format (Dsk.new 10)).2 ⟨1, 0, [], false⟩ ab).2.2 w') := Lib.hid (fun W p q h => by
    have hb := h.more U H (w' := W.alloc (.cells #[.string ⟨#[97]⟩, .string ⟨#[98]⟩] 9)) ((Below.refl _ _).alloc (Nat.le_refl _) _) (Y := fun i => i = W.heap.size) (fun i hi => Or.inr (by subst hi; simp))
    rw [← r1]
    refine (hb.call (fun F hF hz => H.append hF (live_sound l1 fin1 (by decide)) (by decide) (Or.inr ⟨l1.toHeld, by decide⟩) (ab_cells W) (fun k hk hf => hz k hf hk) (by decide) (fun t ht => by
      have := hs t ht
      rcases List.mem_cons.1 ht with rfl | ht
      · decide
      · rw [List.mem_singleton.1 ht]; decide))).mono ?_
    rintro e w' ⟨rfl, k1, -⟩
    exact ⟨rfl, k1.more U H (Below.refl _ _) (fun i hi => hi.elim)⟩)
  have C4 : Hid (∀ W p q, Jw At Own w (fun _ => False) (.pointer (some p)) (.pointer (some q)) 10 (Jnl.append 10 (Jnl.format (Dsk.new 10)).2 ⟨1, 0, [], false⟩ ab).2.1 (Jnl.append 10 (Jnl.format (Dsk.new 10)).2 ⟨1, 0, [], false⟩ ab).2.2 W → Calls Try.prog 10 #[.pointer (some p)] W fun e w' =>
      ∃ q2 lv G, e = .returned (.tuple #[.pointer (some q2), lv, .int .i64 0]) ∧ Jw At Own w G (.pointer (some p)) (.pointer (some q)) 10 (Jnl.append 10 (Jnl.format (Dsk.new 10)).2 ⟨1, 0, [], false⟩ ab).2.1 (Jnl.append 10 (Jnl.format (Dsk.new 10)).2 ⟨1, 0, [], false⟩ ab).2.2 w' ∧ Cells w' G lv (texts ab)) := Lib.hid (fun W p q h => by
    refine (h.again U H l2 fin2 (by decide) (by decide)).mono ?_
    rintro e w' ⟨q2, lv, G, rfl, k1, k2, -, -⟩
    exact ⟨q2, lv, G, rfl, k1.more U H (Below.refl _ _) (fun i hi => Or.inl (Or.inr hi)), k2⟩)
  have C5 : Hid (∀ W p q G lv, Jw At Own w G (.pointer (some p)) (.pointer (some q)) 10 (Jnl.append 10 (Jnl.format (Dsk.new 10)).2 ⟨1, 0, [], false⟩ ab).2.1 (Jnl.append 10 (Jnl.format (Dsk.new 10)).2 ⟨1, 0, [], false⟩ ab).2.2 W → Cells W G lv (texts ab) →
      Calls Try.prog 17 #[lv, .slice (some ⟨W.heap.size, 0, none⟩) 2 2] (W.alloc (.cells #[.string ⟨#[97]⟩, .string ⟨#[98]⟩] 9)) fun e w' => e = .returned (.bool true) ∧ Jw At Own w (fun _ => False) (.pointer (some p)) (.pointer (some q)) 10 (Jnl.append 10 (Jnl.format (Dsk.new 10)).2 ⟨1, 0, [], false⟩ ab).2.1 (Jnl.append 10 (Jnl.format (Dsk.new 10)).2 ⟨1, 0, [], false⟩ ab).2.2 w') := Lib.hid (fun W p q G lv h hc => by
    have hb : Below W.heap.size W (W.alloc (.cells #[.string ⟨#[97]⟩, .string ⟨#[98]⟩] 9)) := (Below.refl _ _).alloc (Nat.le_refl _) _
    obtain ⟨k1, -⟩ := h.below U H hb
    refine (texts_same (hc.below hb) (ab_cells W) (by decide)).mono ?_
    rintro e w' ⟨rfl, hb2⟩
    exact ⟨rfl, (k1.below U H hb2).1.more U H (Below.refl _ _) (fun i hi => hi.elim)⟩)
  have C6 : Hid (∀ W p q, Jw At Own w (fun _ => False) (.pointer (some p)) (.pointer (some q)) 10 (Jnl.append 10 (Jnl.format (Dsk.new 10)).2 ⟨1, 0, [], false⟩ ab).2.1 (Jnl.append 10 (Jnl.format (Dsk.new 10)).2 ⟨1, 0, [], false⟩ ab).2.2 W → Calls Try.prog 20 #[.pointer (some q)] W fun e w' =>
      e = .returned (.int .i64 12) ∧ Jw At Own w (fun _ => False) (.pointer (some p)) (.pointer (some q)) 10 (Jnl.append 10 (Jnl.format (Dsk.new 10)).2 ⟨1, 0, [], false⟩ ab).2.1 (Jnl.append 10 (Jnl.format (Dsk.new 10)).2 ⟨1, 0, [], false⟩ ab).2.2 w') := Lib.hid (fun W p q h => by
    refine (h.call (fun F hF hz => H.used hF)).mono ?_
    rintro e w' ⟨rfl, k1, -⟩
    exact ⟨by rw [hb12]; rfl, k1⟩)
  have C7 : Hid (∀ W p q, Jw At Own w (fun _ => False) (.pointer (some p)) (.pointer (some q)) 10 (Jnl.append 10 (Jnl.format (Dsk.new 10)).2 ⟨1, 0, [], false⟩ ab).2.1 (Jnl.append 10 (Jnl.format (Dsk.new 10)).2 ⟨1, 0, [], false⟩ ab).2.2 W → Calls Try.prog 21 #[.pointer (some q)] W fun e w' =>
      e = .returned (.int .i64 244) ∧ Jw At Own w (fun _ => False) (.pointer (some p)) (.pointer (some q)) 10 (Jnl.append 10 (Jnl.format (Dsk.new 10)).2 ⟨1, 0, [], false⟩ ab).2.1 (Jnl.append 10 (Jnl.format (Dsk.new 10)).2 ⟨1, 0, [], false⟩ ab).2.2 w') := Lib.hid (fun W p q h => by
    refine (h.call (fun F hF hz => H.room hF l2.shape.len)).mono ?_
    rintro e w' ⟨rfl, k1, -⟩
    exact ⟨by rw [hb12]; rfl, k1⟩)
  have C0 := Lib.hid (dw_new U 10 w (by decide) (by decide))
  clear f1 l1 fin1 cal1 ha hs r1 l2 fin2 e12 hb12
  generalize (Jnl.append 10 (Jnl.format (Dsk.new 10)).2 ⟨1, 0, [], false⟩ ab).2.1 = d2 at *
  generalize (Jnl.append 10 (Jnl.format (Dsk.new 10)).2 ⟨1, 0, [], false⟩ ab).2.2 = j2 at *
  generalize (Jnl.format (Dsk.new 10)).2 = d1 at *
  go_enter Try.func9, Try.ntmps9
  go_wp2_with fail
  refine C0.out.mono ?_
  rintro e w1 ⟨p, rfl, h1⟩
  have H1 := Lib.hid h1
  clear h1
  go_wp2_with fail
  refine (C1.out _ _ H1.out).mono ?_
  rintro e w2 ⟨rfl, h2, -⟩
  have H2 := Lib.hid h2
  clear h2 H1
  go_wp2_with fail
  refine (C2.out _ _ H2.out).mono ?_
  rintro e w3 ⟨q, A, c, rfl, h3⟩
  have H3 := Lib.hid h3
  clear h3 H2
  go_wp2_with fail
  refine (C3.out _ _ _ H3.out).mono ?_
  rintro e w4 ⟨rfl, h4⟩
  have H4 := Lib.hid h4
  clear h4 H3
  go_wp2_with fail
  refine (C4.out _ _ _ H4.out).mono ?_
  rintro e w5 ⟨q2, lv, G, rfl, h5, hc⟩
  have H5 := Lib.hid h5
  have Hc := Lib.hid hc
  clear h5 hc H4
  go_wp2_with fail
  refine (C5.out _ _ _ _ _ H5.out Hc.out).mono ?_
  rintro e w6 ⟨rfl, h6⟩
  have H6 := Lib.hid h6
  clear h6 H5 Hc
  go_wp2_with fail
  refine (C6.out _ _ _ H6.out).mono ?_
  rintro e w7 ⟨rfl, h7⟩
  have H7 := Lib.hid h7
  clear h7 H6
  go_wp2_with fail
  refine (C7.out _ _ _ H7.out).mono ?_
  rintro e w8 ⟨rfl, h8⟩
  have H8 := Lib.hid h8.bel
  clear h8 H7
  go_wp2_with fail
  go_ret
  exact ⟨rfl, H8.out⟩
end
end Go.Proofs.Ytcgplonnhginiaa
