/- A disk that is not armed stays up; a disk and a journal of blocks of the call's own. -/
import Derived.Test.YtbfjageaheijbaaGreatCom9
import Derived.Test.YtbfjageaheijbaaGreatCom6
set_option linter.unusedSimpArgs false
set_option linter.unusedVariables false
namespace Go.Proofs.YtbfjageaheijbaaGreat
open Go.RowKit Dsk Jnl

/-- Neither down nor armed. -/
def Calm (d : D) : Prop := d.down = false ∧ d.armed = 0

set_option maxRecDepth 100000 in
theorem calm_new (n : Nat) : Calm (Dsk.new n) := ⟨rfl, rfl⟩
set_option maxRecDepth 100000 in
theorem calm_arm {d : D} (h : d.down = false) : Calm (d.arm 0) := ⟨h, rfl⟩
set_option maxRecDepth 100000 in
theorem calm_crash (d : D) (ks : List Int) : Calm (d.crash ks) := ⟨rfl, rfl⟩

set_option maxRecDepth 100000 in
theorem Calm.call {d : D} (h : Calm d) : Calm d.call := by
  obtain ⟨h1, h2⟩ := h
  exact ⟨by show (d.down || d.armed == 1) = false; rw [h1, h2]; rfl, by show d.armed - 1 = 0; rw [h2]⟩

set_option maxRecDepth 100000 in
theorem Calm.set {d : D} (h : Calm d) (S : List (List ByteArray)) : Calm { d with S := S } := ⟨h.1, h.2⟩

set_option maxRecDepth 100000 in
theorem Calm.write {d : D} (h : Calm d) (i : Int) (s : ByteArray) : Calm (d.write i s).2 := by
  unfold D.write
  repeat' split
  all_goals first
    | exact h
    | exact h.call
    | exact h.call.set _

set_option maxRecDepth 100000 in
theorem Calm.flush {d : D} (h : Calm d) : Calm d.flush.2 := by
  unfold D.flush
  repeat' split
  all_goals first
    | exact h
    | exact h.call
    | exact h.call.set _

set_option maxRecDepth 100000 in
theorem calm_then {r : Int × D} {f : D → Int × D} (h : Calm r.2) (hf : ∀ d, Calm d → Calm (f d).2) : Calm (andThen r f).2 := by
  unfold andThen
  split
  · exact hf _ h
  · exact h

set_option maxRecDepth 100000 in
theorem calm_writes (base : Nat) (all : List UInt8) : ∀ (c i : Nat) (d : D), Calm d → Calm (writeFrom base all i c d).2
  | 0, _, _, h => h
  | c + 1, i, d, h => by
    unfold writeFrom
    split
    · exact calm_writes base all c (i + 1) _ (h.write _ _)
    · exact h.write _ _

set_option maxRecDepth 100000 in
theorem calm_commit {d : D} (h : Calm d) (hh seq half : Nat) (pre new : List UInt8) : Calm (commit hh seq half pre new d).2 :=
  calm_then (calm_then (calm_writes _ _ _ _ _ h) (fun _ h => h.flush)) (fun _ h => calm_then (h.write _ _) (fun _ h => h.flush))

set_option maxRecDepth 100000 in
theorem calm_append {n : Nat} {d : D} {j : J} {a : List (List UInt8)} (h : Calm d) : Calm (Jnl.append n d j a).2.1 := by
  unfold Jnl.append
  repeat' split
  all_goals first
    | exact h
    | exact calm_commit h _ _ _ _ _

set_option maxRecDepth 100000 in
theorem calm_rewrite {n : Nat} {d : D} {j : J} {a : List (List UInt8)} (h : Calm d) : Calm (Jnl.rewrite n d j a).2.1 := by
  unfold Jnl.rewrite
  repeat' split
  all_goals first
    | exact h
    | exact calm_commit h _ _ _ _ _

set_option maxRecDepth 100000 in
theorem calm_format {d : D} (h : Calm d) : Calm (Jnl.format d).2 := calm_then (calm_then (h.write _ _) (fun _ h => h.write _ _)) (fun _ h => h.flush)

set_option maxRecDepth 100000 in
theorem small_all {a : List (List UInt8)} {m k : Nat} (hm : a.length ≤ m) (hk : ∀ t ∈ a, t.length ≤ k) : (Frm.all a).length ≤ m * (k + 13) := by
  induction a generalizing m with
  | nil => show 0 ≤ _; omega
  | cons t a ih =>
    obtain ⟨m, rfl⟩ : ∃ q, m = q + 1 := ⟨m - 1, by rw [List.length_cons] at hm; omega⟩
    have h1 := ih (m := m) (by rw [List.length_cons] at hm; omega) (fun x hx => hk x (by simp [hx]))
    have h2 := hk t (by simp)
    have h3 := (Leb.enc_len t.length).2
    have e : Frm.all (t :: a) = Frm.one t ++ Frm.all a := rfl
    rw [e, List.length_append, Nat.succ_mul]
    have h4 : (Frm.one t).length ≤ k + 13 := by
      unfold Frm.one
      simp only [List.length_append, Frm.sumOf_len]
      omega
    omega

set_option maxRecDepth 100000 in
/-- Append on a disk that is not armed: all, or it is full. -/
theorem append_calm {n : Nat} {d : D} {j : J} {l a : List (List UInt8)} (H : Live n d j l) (hc : Calm d) (hn : 4 ≤ n) (hn2 : n ≤ 4096) (hseq : j.seq < 9223372036854775807) (ha : (Frm.all a).length ≤ 65536) (hs : ∀ t ∈ a, t.length < 9223372036854775808) :
    ((Jnl.append n d j a).1 = 0 ∧ Live n (Jnl.append n d j a).2.1 (Jnl.append n d j a).2.2 (l ++ a) ∧ (Jnl.append n d j a).2.2.seq ≤ j.seq + 1) ∨ (Jnl.append n d j a = (10, d, j)) := by
  rcases append_keeps H hn hn2 hseq ha hs with h | h | h
  · exact Or.inl h
  · exact Or.inr h
  · have := h.2.2.down
    rw [(calm_append hc).1] at this
    cases this

/-! ### In memory -/
section
variable {At : World → (Nat → Prop) → Value → D → Prop} {Own : World → (Nat → Prop) → Value → Value → Nat → J → Prop}

/-- A disk of the call's own; Z: blocks that are not its. -/
structure Dw (At : World → (Nat → Prop) → Value → D → Prop) (W : World) (Z : Nat → Prop) (dv : Value) (d : D) (w : World) : Prop where
  out : ∃ F, At w F dv d ∧ ∀ i, F i → W.heap.size ≤ i ∧ ¬ Z i
  bel : Below W.heap.size W w
  zlt : ∀ i, Z i → i < w.heap.size

/-- A disk and a journal of the call's own; Z: blocks that are not theirs. -/
structure Jw (At : World → (Nat → Prop) → Value → D → Prop) (Own : World → (Nat → Prop) → Value → Value → Nat → J → Prop) (W : World) (Z : Nat → Prop) (dv jv : Value) (n : Nat) (d : D) (j : J) (w : World) : Prop where
  out : ∃ F, JAt At Own w F dv jv n d j ∧ ∀ i, F i → W.heap.size ≤ i ∧ ¬ Z i
  bel : Below W.heap.size W w
  zlt : ∀ i, Z i → i < w.heap.size

def SameZ (Z : Nat → Prop) (w w' : World) : Prop := w.heap.size ≤ w'.heap.size ∧ ∀ k, Z k → w'.heap[k]? = w.heap[k]?

variable {W w w' : World} {Z : Nat → Prop} {dv jv : Value} {n : Nat} {d d' : D} {j j' : J}

set_option maxRecDepth 100000 in
theorem below_kept {F : Nat → Prop} (h : Below W.heap.size W w) (k : Kept F w w') (hF : ∀ i, F i → W.heap.size ≤ i) : Below W.heap.size W w' :=
  ⟨k.os.trans h.os, k.tape.trans h.tape, k.output.trans h.output, Nat.le_trans h.size k.size, fun i hi => (k.block i (Nat.lt_of_lt_of_le hi h.size) (fun hf => by have := hF i hf; omega)).trans (h.block i hi)⟩

set_option maxRecDepth 100000 in
theorem SameZ.refl (Z : Nat → Prop) (w : World) : SameZ Z w w := ⟨Nat.le_refl _, fun _ _ => rfl⟩
set_option maxRecDepth 100000 in
theorem SameZ.trans {w'' : World} (h : SameZ Z w w') (k : SameZ Z w' w'') : SameZ Z w w'' := ⟨Nat.le_trans h.1 k.1, fun i hi => (k.2 i hi).trans (h.2 i hi)⟩
set_option maxRecDepth 100000 in
theorem SameZ.below (h : Below w.heap.size w w') (hz : ∀ i, Z i → i < w.heap.size) : SameZ Z w w' := ⟨h.size, fun k hk => h.block k (hz k hk)⟩

set_option maxRecDepth 100000 in
/-- A slice among the blocks that stay. -/
theorem SameZ.cells {G : Nat → Prop} {v : Value} {us : List Value} (h : SameZ Z w w') (hc : Cells w G v us) (hG : ∀ i, G i → Z i) : Cells w' G v us := by
  obtain ⟨A, cap, h1, h2, h3⟩ := hc
  refine ⟨A, cap, h1, h2, fun hp => ?_⟩
  obtain ⟨b, o, e, hb, hl, hx⟩ := h3 hp
  exact ⟨b, o, e, hb, Nat.lt_of_lt_of_le hl h.1, fun i u hu => (World.cell?_of_block (w := w) (a := ⟨b, o + i, none⟩) (h.2 b (hG b hb))).trans (hx i u hu)⟩

set_option maxRecDepth 100000 in
/-- A call of the disk's. -/
theorem Dw.call {fn : Nat} {args : Array Value} {P : Ending → Prop} (h : Dw At W Z dv d w) (hc : ∀ F, At w F dv d → Calls Tryz.prog fn args w fun e w' => P e ∧ Doing At w F dv d' w') :
    Calls Tryz.prog fn args w fun e w' => P e ∧ Dw At W Z dv d' w' ∧ SameZ Z w w' := by
  obtain ⟨⟨F, h1, h4⟩, h6, h7⟩ := h
  refine (hc F h1).mono fun e w' ⟨k1, k3, k2⟩ => ⟨k1, ⟨⟨Grow F w w', k3, fun i hi => ?_⟩, below_kept h6 k2 (fun i hi => (h4 i hi).1), fun i hi => Nat.lt_of_lt_of_le (h7 i hi) k2.size⟩, k2.size, fun k hk => k2.block k (h7 k hk) (fun hf => (h4 k hf).2 hk)⟩
  rcases hi with hi | hi
  · exact h4 i hi
  · exact ⟨Nat.le_trans h6.size hi.1, fun hz => by have := h7 i hz; omega⟩

set_option maxRecDepth 100000 in
/-- A call of the journal's, or of the disk's beside it. -/
theorem Jw.call {fn : Nat} {args : Array Value} {P : Ending → Prop} (h : Jw At Own W Z dv jv n d j w) (hc : ∀ F, JAt At Own w F dv jv n d j → (∀ i, F i → ¬ Z i) → Calls Tryz.prog fn args w fun e w' => P e ∧ JAt At Own w' (Grow F w w') dv jv n d' j' ∧ Kept F w w') :
    Calls Tryz.prog fn args w fun e w' => P e ∧ Jw At Own W Z dv jv n d' j' w' ∧ SameZ Z w w' := by
  obtain ⟨⟨F, h1, h4⟩, h6, h7⟩ := h
  refine (hc F h1 (fun i hi => (h4 i hi).2)).mono fun e w' ⟨k1, k3, k2⟩ => ⟨k1, ⟨⟨Grow F w w', k3, fun i hi => ?_⟩, below_kept h6 k2 (fun i hi => (h4 i hi).1), fun i hi => Nat.lt_of_lt_of_le (h7 i hi) k2.size⟩, k2.size, fun k hk => k2.block k (h7 k hk) (fun hf => (h4 k hf).2 hk)⟩
  rcases hi with hi | hi
  · exact h4 i hi
  · exact ⟨Nat.le_trans h6.size hi.1, fun hz => by have := h7 i hz; omega⟩

set_option maxRecDepth 100000 in
theorem Dw.below (U : DiskUse At) (h : Dw At W Z dv d w) (k : Below w.heap.size w w') : Dw At W Z dv d w' ∧ SameZ Z w w' := by
  obtain ⟨⟨F, h1, h4⟩, h6, h7⟩ := h
  exact ⟨⟨⟨F, U.kept h1 (Kept.ofBelow k (fun _ => False)) (fun _ _ h => h), h4⟩, h6.trans (k.mono h6.size), fun i hi => Nat.lt_of_lt_of_le (h7 i hi) k.size⟩, SameZ.below k h7⟩

set_option maxRecDepth 100000 in
theorem Jw.below (U : DiskUse At) (H : JournalOk At Own) (h : Jw At Own W Z dv jv n d j w) (k : Below w.heap.size w w') : Jw At Own W Z dv jv n d j w' ∧ SameZ Z w w' := by
  obtain ⟨⟨F, h1, h4⟩, h6, h7⟩ := h
  exact ⟨⟨⟨F, h1.kept U H (Kept.ofBelow k (fun _ => False)) (fun _ _ h => h), h4⟩, h6.trans (k.mono h6.size), fun i hi => Nat.lt_of_lt_of_le (h7 i hi) k.size⟩, SameZ.below k h7⟩

set_option maxRecDepth 100000 in
/-- New blocks join those that stay. -/
theorem Jw.more (U : DiskUse At) (H : JournalOk At Own) (h : Jw At Own W Z dv jv n d j w) (k : Below w.heap.size w w') {Y : Nat → Prop} (hY : ∀ i, Y i → Z i ∨ (w.heap.size ≤ i ∧ i < w'.heap.size)) : Jw At Own W Y dv jv n d j w' := by
  obtain ⟨⟨F, h1, h4⟩, h6, h7⟩ := h
  have hlt := h1.lt U H
  refine ⟨⟨fun i => F i ∧ i < w.heap.size, hlt.kept U H (Kept.ofBelow k (fun _ => False)) (fun _ _ h => h), fun i hi => ⟨(h4 i hi.1).1, fun hy => ?_⟩⟩, h6.trans (k.mono h6.size), fun i hi => ?_⟩
  · rcases hY i hy with hz | hz
    · exact (h4 i hi.1).2 hz
    · omega
  · rcases hY i hi with hz | hz
    · exact Nat.lt_of_lt_of_le (h7 i hz) k.size
    · exact hz.2

set_option maxRecDepth 100000 in
theorem Dw.more (U : DiskUse At) (h : Dw At W Z dv d w) (k : Below w.heap.size w w') {Y : Nat → Prop} (hY : ∀ i, Y i → Z i ∨ (w.heap.size ≤ i ∧ i < w'.heap.size)) : Dw At W Y dv d w' := by
  obtain ⟨⟨F, h1, h4⟩, h6, h7⟩ := h
  refine ⟨⟨F, U.kept h1 (Kept.ofBelow k (fun _ => False)) (fun _ _ h => h), fun i hi => ⟨(h4 i hi).1, fun hy => ?_⟩⟩, h6.trans (k.mono h6.size), fun i hi => ?_⟩
  · rcases hY i hy with hz | hz
    · exact (h4 i hi).2 hz
    · have := U.lt h1 i hi; omega
  · rcases hY i hi with hz | hz
    · exact Nat.lt_of_lt_of_le (h7 i hz) k.size
    · exact hz.2

set_option maxRecDepth 100000 in
theorem Jw.disk (h : Jw At Own W Z dv jv n d j w) : Dw At W Z dv d w := by
  obtain ⟨⟨F, ⟨F1, F2, h1, h2, h3, h4, h5⟩, h8⟩, h6, h7⟩ := h
  exact ⟨⟨F1, h1, fun i hi => h8 i (h4 i hi)⟩, h6, h7⟩

set_option maxRecDepth 100000 in
theorem live_sound {n : Nat} {d : D} {j : J} {l : List (List UInt8)} {N : Nat} (h : Live n d j l) (hf : d.Fine N) (hn : 4 ≤ n) : Sound n d N := ⟨h.shape, hf, hn, h.now.full⟩

set_option maxRecDepth 100000 in
theorem dw_new (U : DiskUse At) (n : Nat) (w : World) (h1 : 1 ≤ n) (h2 : n ≤ 4096) : Calls Tryz.prog 7 #[.int .i64 (n : Int)] w fun e w' => ∃ p, e = .returned (.tuple #[.pointer (some p), .int .i64 0]) ∧ Dw At w (fun _ => False) (.pointer (some p)) (Dsk.new n) w' := by
  refine (U.new_ok n w h1 h2).mono ?_
  rintro e w' ⟨v, rfl, h3, h4⟩
  obtain ⟨p, rfl⟩ := U.ptr h3
  exact ⟨p, rfl, ⟨⟨_, h3, fun i hi => ⟨hi.1, fun h => h⟩⟩, h4, fun _ h => h.elim⟩⟩

set_option maxRecDepth 100000 in
/-- A disk is opened: its journal and its records. -/
theorem Dw.openedAt (U : DiskUse At) (H : JournalOk At Own) {N : Nat} {l : List (List UInt8)} (h : Dw At W Z dv d w) (hs : Sound n d N) (hN : N ≤ 100000) (hd : d.down = false) (ho : opens n (Jnl.now d) = (0, some j, l)) :
    Calls Tryz.prog 26 #[dv] w fun e w' => ∃ p lv G, e = .returned (.tuple #[.pointer (some p), lv, .int .i64 0]) ∧ Jw At Own W (fun i => Z i ∨ G i) dv (.pointer (some p)) n d j w' ∧ Cells w' G lv (texts l) ∧ (∀ i, G i → w.heap.size ≤ i ∧ i < w'.heap.size) ∧ SameZ Z w w' := by
  obtain ⟨⟨F, h1, h4⟩, h6, h7⟩ := h
  refine (H.opened h1 hs hN hd ho).mono ?_
  rintro e w' ⟨jv, lv, G, K, rfl, k1, k2, k3, k4, k5, k6⟩
  have hown := k1
  obtain ⟨F1, F2, q1, q2, q3, q4, q5⟩ := k1
  obtain ⟨p, rfl⟩ := H.ptr q2
  refine ⟨p, lv, K, rfl, ⟨⟨G, hown, fun i hi => ?_⟩, below_kept h6 k6 (fun i hi => (h4 i hi).1), fun i hi => ?_⟩, k2, k5, k6.size, fun k hk => k6.block k (h7 k hk) (fun hf => (h4 k hf).2 hk)⟩
  · rcases k4 i hi with hi' | hi'
    · exact ⟨(h4 i hi').1, fun hz => hz.elim (h4 i hi').2 (k3 i hi)⟩
    · exact ⟨Nat.le_trans h6.size hi'.1, fun hz => hz.elim (fun hz => by have := h7 i hz; omega) (k3 i hi)⟩
  · rcases hi with hi | hi
    · exact Nat.lt_of_lt_of_le (h7 i hi) k6.size
    · exact (k5 i hi).2

set_option maxRecDepth 100000 in
theorem Dw.opened (U : DiskUse At) (H : JournalOk At Own) {N : Nat} {l : List (List UInt8)} (h : Dw At W Z dv d w) (hl : Live n d j l) (hf : d.Fine N) (hN : N ≤ 100000) (hn : 4 ≤ n) :
    Calls Tryz.prog 26 #[dv] w fun e w' => ∃ p lv G, e = .returned (.tuple #[.pointer (some p), lv, .int .i64 0]) ∧ Jw At Own W (fun i => Z i ∨ G i) dv (.pointer (some p)) n d j w' ∧ Cells w' G lv (texts l) ∧ (∀ i, G i → w.heap.size ≤ i ∧ i < w'.heap.size) ∧ SameZ Z w w' :=
  h.openedAt U H (live_sound hl hf hn) hN hl.up (hl.opens hn)

set_option maxRecDepth 100000 in
theorem Dw.refused (H : JournalOk At Own) {N : Nat} {x : Int} (h : Dw At W Z dv d w) (hs : Sound n d N) (hN : N ≤ 100000) (hd : d.down = false) (ho : opens n (Jnl.now d) = (x, none, [])) :
    Calls Tryz.prog 26 #[dv] w fun e w' => (∃ A c, e = .returned (.tuple #[.pointer none, .slice A 0 c, .int .i64 x])) ∧ Dw At W Z dv d w' ∧ SameZ Z w w' :=
  h.call (fun F hF => (H.refused hF hs hN hd ho).mono (fun e w' ⟨A, c, he, hd⟩ => ⟨⟨A, c, he⟩, hd⟩))

set_option maxRecDepth 100000 in
/-- A disk is opened once more, while its journal lives. -/
theorem Jw.again (U : DiskUse At) (H : JournalOk At Own) {N : Nat} {l : List (List UInt8)} (h : Jw At Own W Z dv jv n d j w) {j0 : J} (hl : Live n d j0 l) (hf : d.Fine N) (hN : N ≤ 100000) (hn : 4 ≤ n) :
    Calls Tryz.prog 26 #[dv] w fun e w' => ∃ p lv G, e = .returned (.tuple #[.pointer (some p), lv, .int .i64 0]) ∧ Jw At Own W (fun i => Z i ∨ G i) dv jv n d j w' ∧ Cells w' G lv (texts l) ∧ (∀ i, G i → w.heap.size ≤ i ∧ i < w'.heap.size) ∧ SameZ Z w w' := by
  obtain ⟨⟨F, ⟨F1, F2, h1, h2, h3, hF1, hF2⟩, h4⟩, h6, h7⟩ := h
  refine (H.opened h1 (live_sound hl hf hn) hN hl.up (hl.opens hn)).mono ?_
  rintro e w' ⟨jv2, lv, G, K, rfl, ⟨G1, G2, q1, q2, q3, q4, q5⟩, k2, k3, k4, k5, k6⟩
  obtain ⟨p, rfl⟩ := H.ptr q2
  have hlt2 := H.lt h2
  have hkF : Kept F w w' := k6.mono hF1
  refine ⟨p, lv, K, rfl, ⟨⟨fun i => G1 i ∨ F2 i, ⟨G1, F2, q1, H.kept h2 k6 (fun i hi hf => h3 i hf hi), fun i hi hf => ?_, fun i hi => Or.inl hi, fun i hi => Or.inr hi⟩, fun i hi => ?_⟩, below_kept h6 hkF (fun i hi => (h4 i hi).1), fun i hi => ?_⟩, k2, k5, k6.size, fun k hk => k6.block k (h7 k hk) (fun hf => (h4 k (hF1 k hf)).2 hk)⟩
  · rcases k4 i (q4 i hi) with hi' | hi'
    · exact h3 i hi' hf
    · have := hlt2 i hf; omega
  · rcases hi with hi | hi
    · rcases k4 i (q4 i hi) with hi' | hi'
      · exact ⟨(h4 i (hF1 i hi')).1, fun hz => hz.elim (h4 i (hF1 i hi')).2 (k3 i (q4 i hi))⟩
      · exact ⟨Nat.le_trans h6.size hi'.1, fun hz => hz.elim (fun hz => by have := h7 i hz; omega) (k3 i (q4 i hi))⟩
    · exact ⟨(h4 i (hF2 i hi)).1, fun hz => hz.elim (h4 i (hF2 i hi)).2 (fun hk => by have := hlt2 i hi; have := (k5 i hk).1; omega)⟩
  · rcases hi with hi | hi
    · exact Nat.lt_of_lt_of_le (h7 i hi) k6.size
    · exact (k5 i hi).2
end
end Go.Proofs.YtbfjageaheijbaaGreat
/- What the package store is to answer to layer 6's laws (StoreOk), which is proved of the landed code elsewhere. -/
namespace Go.Proofs.YtbfjageaheijbaaGreat
open Go.RowKit Dsk Jnl

/-- A disk and a store on it, of blocks of F. -/
def SAt (At : World → (Nat → Prop) → Value → D → Prop) (Own : World → (Nat → Prop) → Value → Value → Nat → Sto.Sr → Prop) (w : World) (F : Nat → Prop) (dv sv : Value) (n : Nat) (d : D) (s : Sto.Sr) : Prop :=
  ∃ F1 F2, At w F1 dv d ∧ Own w F2 dv sv n s ∧ (∀ k, F1 k → ¬ F2 k) ∧ (∀ k, F1 k → F k) ∧ ∀ k, F2 k → F k

/-- A store's values and quota, as they can be. -/
structure Good (s : Sto.Sr) : Prop where
  sorted : Sto.Sorted s.vals
  fit : Sto.Fit s.vals
  few : s.vals.length ≤ 100000
  low : 0 ≤ s.quota
  high : s.quota ≤ 1048576

structure StoreOk (At : World → (Nat → Prop) → Value → D → Prop) (Own : World → (Nat → Prop) → Value → Value → Nat → Sto.Sr → Prop) : Prop where
  kept : ∀ {w w' F G dv sv n s}, Own w F dv sv n s → Kept G w w' → (∀ i, F i → ¬ G i) → Own w' F dv sv n s
  lt : ∀ {w F dv sv n s}, Own w F dv sv n s → ∀ k, F k → k < w.heap.size
  ptr : ∀ {w F dv sv n s}, Own w F dv sv n s → ∃ p, sv = .pointer (some p)
  format : ∀ {w F dv n d N}, At w F dv d → Sound n d N → N + 3 ≤ 100000 → Calls Tryz.prog 8 #[dv] w fun e w' => e = .returned (.int .i64 (Jnl.format d).1) ∧ Doing At w F dv (Jnl.format d).2 w'
  opened : ∀ {w F dv n d N j recs vals} {q : Int}, At w F dv d → Sound n d N → N ≤ 100000 → d.down = false → opens n (Jnl.now d) = (0, some j, recs) → Sto.run [] recs = some vals → 0 ≤ q → q ≤ 1048576 →
    Calls Tryz.prog 10 #[dv, .int .i64 q] w fun e w' => ∃ sv, e = .returned (.tuple #[sv, .int .i64 0]) ∧ SAt At Own w' (Grow F w w') dv sv n d ⟨j, vals, q, false⟩ ∧ Kept F w w'
  form : ∀ {w F dv n d N j recs} {q : Int}, At w F dv d → Sound n d N → N ≤ 100000 → d.down = false → opens n (Jnl.now d) = (0, some j, recs) → Sto.run [] recs = none → 0 ≤ q → q ≤ 1048576 →
    Calls Tryz.prog 10 #[dv, .int .i64 q] w fun e w' => e = .returned (.tuple #[.pointer none, .int .i64 6]) ∧ Doing At w F dv d w'
  wrong : ∀ {w F dv n d N} {q : Int}, At w F dv d → Sound n d N → N ≤ 100000 → d.down = false → -9223372036854775808 ≤ q → q ≤ 9223372036854775807 → (q < 0 ∨ 1048576 < q) →
    Calls Tryz.prog 10 #[dv, .int .i64 q] w fun e w' => e = .returned (.tuple #[.pointer none, .int .i64 2]) ∧ Doing At w F dv d w'
  check : ∀ {w F G dv sv cv n d s cs}, SAt At Own w F dv sv n d s → s.broken = false → Good s → Changes w G cv cs → (∀ k, G k → ¬ F k) → cs.length ≤ 9223372036854775807 →
    Calls Tryz.prog 13 #[sv, cv] w fun e w' => e = .returned (.int .i64 (Sto.check s.vals cs s.quota)) ∧ SAt At Own w' (Grow F w w') dv sv n d s ∧ Kept F w w'
  doing : ∀ {w F G dv sv cv n d s cs N}, SAt At Own w F dv sv n d s → s.broken = false → s.j.broken = false → Good s → Sound n d N → Held n d s.j → N + (2 * hof n + 6) ≤ 100000 → Changes w G cv cs → (∀ k, G k → ¬ F k) → cs.length ≤ 9223372036854775807 →
    Calls Tryz.prog 17 #[sv, cv] w fun e w' => e = .returned (.int .i64 (Sto.doing n d s cs).1) ∧ SAt At Own w' (Grow F w w') dv sv n (Sto.doing n d s cs).2.1 (Sto.doing n d s cs).2.2 ∧ Kept F w w'
  get : ∀ {w F dv sv n d s}, SAt At Own w F dv sv n d s → Good s → ∀ k : ByteArray, k.size ≤ 9223372036854775807 →
    Calls Tryz.prog 30 #[sv, .string k] w fun e w' => e = .returned (.tuple #[.string (mk ((Sto.get s.vals k.data.toList).getD [])), .bool (Sto.get s.vals k.data.toList).isSome]) ∧ SAt At Own w' (Grow F w w') dv sv n d s ∧ Kept F w w'
  keys : ∀ {w F dv sv n d s}, SAt At Own w F dv sv n d s → Good s → ∀ p : ByteArray, p.size ≤ 9223372036854775807 →
    Calls Tryz.prog 24 #[sv, .string p] w fun e w' => ∃ v, e = .returned v ∧ Cells w' (NewIn w w') v (texts (Sto.keys s.vals p.data.toList)) ∧ SAt At Own w' (Grow F w w') dv sv n d s ∧ Kept F w w'
  bytes : ∀ {w F dv sv n d s}, SAt At Own w F dv sv n d s → Good s → Calls Tryz.prog 31 #[sv] w fun e w' => e = .returned (.int .i64 (Sto.bytes s.vals : Int)) ∧ SAt At Own w' (Grow F w w') dv sv n d s ∧ Kept F w w'
  quota : ∀ {w F dv sv n d s}, SAt At Own w F dv sv n d s → Calls Tryz.prog 20 #[sv] w fun e w' => e = .returned (.int .i64 s.quota) ∧ SAt At Own w' (Grow F w w') dv sv n d s ∧ Kept F w w'
  len : ∀ {w F dv sv n d s}, SAt At Own w F dv sv n d s → Good s → Calls Tryz.prog 32 #[sv] w fun e w' => e = .returned (.int .i64 (s.vals.length : Int)) ∧ SAt At Own w' (Grow F w w') dv sv n d s ∧ Kept F w w'
  broken : ∀ {w F dv sv n d s}, SAt At Own w F dv sv n d s → Calls Tryz.prog 18 #[sv] w fun e w' => e = .returned (.bool s.broken) ∧ SAt At Own w' (Grow F w w') dv sv n d s ∧ Kept F w w'
  none_get : ∀ w k, Calls Tryz.prog 30 #[.pointer none, .string k] w fun e w' => e = .returned (.tuple #[.string ⟨#[]⟩, .bool false]) ∧ Below w.heap.size w w'
  none_doing : ∀ w cv, Calls Tryz.prog 17 #[.pointer none, cv] w fun e w' => e = .returned (.int .i64 1) ∧ Below w.heap.size w w'
  none_check : ∀ w cv, Calls Tryz.prog 13 #[.pointer none, cv] w fun e w' => e = .returned (.int .i64 1) ∧ Below w.heap.size w w'
  none_bytes : ∀ w, Calls Tryz.prog 31 #[.pointer none] w fun e w' => e = .returned (.int .i64 0) ∧ Below w.heap.size w w'
  none_quota : ∀ w, Calls Tryz.prog 20 #[.pointer none] w fun e w' => e = .returned (.int .i64 0) ∧ Below w.heap.size w w'
  none_len : ∀ w, Calls Tryz.prog 32 #[.pointer none] w fun e w' => e = .returned (.int .i64 0) ∧ Below w.heap.size w w'
  none_keys : ∀ w p, Calls Tryz.prog 24 #[.pointer none, .string p] w fun e w' => ∃ A c, e = .returned (.slice A 0 c) ∧ Below w.heap.size w w'
  none_broken : ∀ w, Calls Tryz.prog 18 #[.pointer none] w fun e w' => e = .returned (.bool true) ∧ Below w.heap.size w w'

section
variable {At : World → (Nat → Prop) → Value → D → Prop} {Own : World → (Nat → Prop) → Value → Value → Nat → Sto.Sr → Prop} {w w' : World} {F G : Nat → Prop} {dv sv : Value} {n : Nat} {d d' : D} {s s' : Sto.Sr} {N : Nat}

set_option maxRecDepth 100000 in
theorem SAt.lt (U : DiskUse At) (H : StoreOk At Own) (h : SAt At Own w F dv sv n d s) : SAt At Own w (fun k => F k ∧ k < w.heap.size) dv sv n d s := by
  obtain ⟨F1, F2, h1, h2, h3, h4, h5⟩ := h
  exact ⟨F1, F2, h1, h2, h3, fun k hk => ⟨h4 k hk, U.lt h1 k hk⟩, fun k hk => ⟨h5 k hk, H.lt h2 k hk⟩⟩

set_option maxRecDepth 100000 in
theorem SAt.kept (U : DiskUse At) (H : StoreOk At Own) (h : SAt At Own w F dv sv n d s) (k : Kept G w w') (hd : ∀ i, F i → ¬ G i) : SAt At Own w' F dv sv n d s := by
  obtain ⟨F1, F2, h1, h2, h3, h4, h5⟩ := h
  exact ⟨F1, F2, U.kept h1 k (fun i hi => hd i (h4 i hi)), H.kept h2 k (fun i hi => hd i (h5 i hi)), h3, h4, h5⟩

set_option maxRecDepth 100000 in
theorem SAt.ptr (H : StoreOk At Own) (h : SAt At Own w F dv sv n d s) : ∃ p, sv = .pointer (some p) := by
  obtain ⟨F1, F2, h1, h2, h3, h4, h5⟩ := h
  exact H.ptr h2

set_option maxRecDepth 100000 in
theorem SAt.disk_ptr (U : DiskUse At) (h : SAt At Own w F dv sv n d s) : ∃ p, dv = .pointer (some p) := by
  obtain ⟨F1, F2, h1, h2, h3, h4, h5⟩ := h
  exact U.ptr h1

set_option maxRecDepth 100000 in
/-- A call of the disk alone leaves the store as it is. -/
theorem SAt.disk (H : StoreOk At Own) {fn : Nat} {args : Array Value} {Q : Ending → Prop} (h : SAt At Own w F dv sv n d s)
    (hc : ∀ F1, At w F1 dv d → (∀ k, F1 k → F k) → Calls Tryz.prog fn args w fun e w' => Q e ∧ Doing At w F1 dv d' w') :
    Calls Tryz.prog fn args w fun e w' => Q e ∧ SAt At Own w' (Grow F w w') dv sv n d' s ∧ Kept F w w' := by
  obtain ⟨F1, F2, h1, h2, h3, h4, h5⟩ := h
  refine (hc F1 h1 h4).mono fun e w' ⟨hq, ha, hk⟩ => ⟨hq, ⟨Grow F1 w w', F2, ha, H.kept h2 hk (fun i hi hf => h3 i hf hi), fun k hk1 hk2 => ?_, fun k hk1 => ?_, fun k hk1 => Or.inl (h5 k hk1)⟩, hk.mono h4⟩
  · rcases hk1 with hk1 | hk1
    · exact h3 k hk1 hk2
    · have := H.lt h2 k hk2; omega
  · rcases hk1 with hk1 | hk1
    · exact Or.inl (h4 k hk1)
    · exact Or.inr hk1

/-- A disk and a store of the call's own; Z: blocks that are not theirs. -/
structure Sw (At : World → (Nat → Prop) → Value → D → Prop) (Own : World → (Nat → Prop) → Value → Value → Nat → Sto.Sr → Prop) (W : World) (Z : Nat → Prop) (dv sv : Value) (n : Nat) (d : D) (s : Sto.Sr) (w : World) : Prop where
  out : ∃ F, SAt At Own w F dv sv n d s ∧ ∀ i, F i → W.heap.size ≤ i ∧ ¬ Z i
  bel : Below W.heap.size W w
  zlt : ∀ i, Z i → i < w.heap.size

variable {W : World} {Z : Nat → Prop}

set_option maxRecDepth 100000 in
theorem Sw.call {fn : Nat} {args : Array Value} {P : Ending → Prop} (h : Sw At Own W Z dv sv n d s w) (hc : ∀ F, SAt At Own w F dv sv n d s → (∀ i, F i → ¬ Z i) → Calls Tryz.prog fn args w fun e w' => P e ∧ SAt At Own w' (Grow F w w') dv sv n d' s' ∧ Kept F w w') :
    Calls Tryz.prog fn args w fun e w' => P e ∧ Sw At Own W Z dv sv n d' s' w' ∧ SameZ Z w w' := by
  obtain ⟨⟨F, h1, h4⟩, h6, h7⟩ := h
  refine (hc F h1 (fun i hi => (h4 i hi).2)).mono fun e w' ⟨k1, k3, k2⟩ => ⟨k1, ⟨⟨Grow F w w', k3, fun i hi => ?_⟩, below_kept h6 k2 (fun i hi => (h4 i hi).1), fun i hi => Nat.lt_of_lt_of_le (h7 i hi) k2.size⟩, k2.size, fun k hk => k2.block k (h7 k hk) (fun hf => (h4 k hf).2 hk)⟩
  rcases hi with hi | hi
  · exact h4 i hi
  · exact ⟨Nat.le_trans h6.size hi.1, fun hz => by have := h7 i hz; omega⟩

set_option maxRecDepth 100000 in
theorem Sw.below (U : DiskUse At) (H : StoreOk At Own) (h : Sw At Own W Z dv sv n d s w) (k : Below w.heap.size w w') : Sw At Own W Z dv sv n d s w' ∧ SameZ Z w w' := by
  obtain ⟨⟨F, h1, h4⟩, h6, h7⟩ := h
  exact ⟨⟨⟨F, h1.kept U H (Kept.ofBelow k (fun _ => False)) (fun _ _ h => h), h4⟩, h6.trans (k.mono h6.size), fun i hi => Nat.lt_of_lt_of_le (h7 i hi) k.size⟩, SameZ.below k h7⟩

set_option maxRecDepth 100000 in
/-- New blocks join those that stay. -/
theorem Sw.more (U : DiskUse At) (H : StoreOk At Own) (h : Sw At Own W Z dv sv n d s w) (k : Below w.heap.size w w') {Y : Nat → Prop} (hY : ∀ i, Y i → Z i ∨ (w.heap.size ≤ i ∧ i < w'.heap.size)) : Sw At Own W Y dv sv n d s w' := by
  obtain ⟨⟨F, h1, h4⟩, h6, h7⟩ := h
  have hlt := h1.lt U H
  refine ⟨⟨fun i => F i ∧ i < w.heap.size, hlt.kept U H (Kept.ofBelow k (fun _ => False)) (fun _ _ h => h), fun i hi => ⟨(h4 i hi.1).1, fun hy => ?_⟩⟩, h6.trans (k.mono h6.size), fun i hi => ?_⟩
  · rcases hY i hy with hz | hz
    · exact (h4 i hi.1).2 hz
    · have := hi.2; omega
  · rcases hY i hi with hz | hz
    · exact Nat.lt_of_lt_of_le (h7 i hz) k.size
    · exact hz.2

set_option maxRecDepth 100000 in
/-- Fewer blocks that stay. -/
theorem Sw.less {Y : Nat → Prop} (h : Sw At Own W Z dv sv n d s w) (hY : ∀ i, Y i → Z i) : Sw At Own W Y dv sv n d s w := by
  obtain ⟨⟨F, h1, h4⟩, h6, h7⟩ := h
  exact ⟨⟨F, h1, fun i hi => ⟨(h4 i hi).1, fun hy => (h4 i hi).2 (hY i hy)⟩⟩, h6, fun i hi => h7 i (hY i hi)⟩

set_option maxRecDepth 100000 in
/-- Changes, pairs among the blocks that stay. -/
theorem SameZ.rws {α : Type} {k : Nat} {f : α → List Value} {v : Value} {l : List α} (h : SameZ Z w w') (hc : Rws k f w G v l) (hG : ∀ i, G i → Z i) : Rws k f w' G v l := by
  obtain ⟨A, cap, h1, h2, h3⟩ := hc
  refine ⟨A, cap, h1, h2, fun hp => ?_⟩
  obtain ⟨b, o, e, hb, hl, hx⟩ := h3 hp
  exact ⟨b, o, e, hb, Nat.lt_of_lt_of_le hl h.1, fun i x hi j u hu => (World.cell?_of_block (w := w) (a := ⟨b, o + i * k + j, none⟩) (h.2 b (hG b hb))).trans (hx i x hi j u hu)⟩
end
end Go.Proofs.YtbfjageaheijbaaGreat
