/- What the package disk is to answer (DiskOk), which is proved of the landed code elsewhere; a disk and the reference's, side by side (Sync). -/
import Derived.Test.YtdagdmfockibfaaDiskRef8
import Derived.Deep.Slices
namespace Go.Proofs.Ytdagdmfockibfaa
open Go.RowKit Dsk

/-- The numbers that a slice of ints may hold. -/
def Ints64 (ks : List Int) : Prop := (∀ x ∈ ks, -9223372036854775808 ≤ x ∧ x ≤ 9223372036854775807) ∧ ks.length ≤ 9223372036854775807

def New (w w' : World) (k : Nat) : Prop := w.heap.size ≤ k ∧ k < w'.heap.size

/-- What a call on a disk may do: the disk's own blocks, and new ones. -/
def Does (At : World → (Nat → Prop) → Value → D → Prop) (w : World) (F : Nat → Prop) (v : Value) (d : D) (w' : World) : Prop := At w' (Grow F w w') v d ∧ Kept F w w'

structure DiskOk (At : World → (Nat → Prop) → Value → D → Prop) : Prop where
  kept : ∀ {w w' F G v d}, At w F v d → Kept G w w' → (∀ i, F i → ¬ G i) → At w' F v d
  lt : ∀ {w F v d}, At w F v d → ∀ k, F k → k < w.heap.size
  ptr : ∀ {w F v d}, At w F v d → ∃ p, v = .pointer (some p)
  new_ok : ∀ (n : Nat) (w : World), 1 ≤ n → n ≤ 4096 → Calls Try.prog 6 #[.int .i64 (n : Int)] w fun e w' => ∃ v, e = .returned (.tuple #[v, .int .i64 0]) ∧ At w' (New w w') v (Dsk.new n) ∧ Below w.heap.size w w'
  new_no : ∀ (n : Int) (w : World), n < 1 ∨ 4096 < n → Calls Try.prog 6 #[.int .i64 n] w fun e w' => e = .returned (.tuple #[.pointer none, .int .i64 2]) ∧ Below w.heap.size w w'
  write : ∀ {w F v d N}, At w F v d → d.Fine N → N ≤ 1000 → ∀ (i : Int) (s : ByteArray), -9223372036854775808 ≤ i → i ≤ 9223372036854775807 → s.size ≤ 9223372036854775807 →
    Calls Try.prog 22 #[v, .int .i64 i, .string s] w fun e w' => e = .returned (.int .i64 (d.write i s).1) ∧ Does At w F v (d.write i s).2 w'
  read : ∀ {w F v d N}, At w F v d → d.Fine N → N ≤ 1000 → ∀ (i : Int), -9223372036854775808 ≤ i → i ≤ 9223372036854775807 →
    Calls Try.prog 18 #[v, .int .i64 i] w fun e w' => e = .returned (.tuple #[.string (d.read i).1, .int .i64 (d.read i).2]) ∧ Does At w F v d w'
  flush : ∀ {w F v d N}, At w F v d → d.Fine N → N ≤ 1000 → Calls Try.prog 21 #[v] w fun e w' => e = .returned (.int .i64 d.flush.1) ∧ Does At w F v d.flush.2 w'
  arm : ∀ {w F v d N}, At w F v d → d.Fine N → N ≤ 1000 → ∀ (n : Int), -9223372036854775808 ≤ n → n ≤ 9223372036854775807 →
    Calls Try.prog 24 #[v, .int .i64 n] w fun e w' => e = .returned (.tuple #[]) ∧ Does At w F v (d.arm n) w'
  crash : ∀ {w F G v d N kv ks}, At w F v d → d.Fine N → N ≤ 1000 → Cells w G kv (ks.map (Value.int .i64)) → (∀ i, G i → ¬ F i) → Ints64 ks →
    Calls Try.prog 16 #[v, kv] w fun e w' => e = .returned (.tuple #[]) ∧ Does At w F v (d.crash ks) w'
  down : ∀ {w F v d N}, At w F v d → d.Fine N → N ≤ 1000 → Calls Try.prog 11 #[v] w fun e w' => e = .returned (.bool d.down) ∧ Does At w F v d w'
  len : ∀ {w F v d N}, At w F v d → d.Fine N → N ≤ 1000 → Calls Try.prog 8 #[v] w fun e w' => e = .returned (.int .i64 (d.S.length : Int)) ∧ Does At w F v d w'
  calls : ∀ {w F v d N}, At w F v d → d.Fine N → N ≤ 1000 → Calls Try.prog 12 #[v] w fun e w' => e = .returned (.int .i64 (d.calls : Int)) ∧ Does At w F v d w'
  dirty : ∀ {w F v d N}, At w F v d → d.Fine N → N ≤ 1000 → Calls Try.prog 14 #[v] w fun e w' => ∃ u, e = .returned u ∧ Cells w' (New w w') u (nats d.dirty) ∧ Does At w F v d w'
  copy : ∀ {w F v d N}, At w F v d → d.Fine N → N ≤ 1000 → Calls Try.prog 23 #[v] w fun e w' => ∃ u F1 F2, e = .returned u ∧ At w' F1 v d ∧ At w' F2 u d ∧ (∀ k, F1 k → Grow F w w' k) ∧ (∀ k, F2 k → New w w' k) ∧ (∀ k, F1 k → ¬ F2 k) ∧ Kept F w w'
  none_write : ∀ (w : World) (i : Int) (s : ByteArray), Calls Try.prog 22 #[.pointer none, .int .i64 i, .string s] w fun e w' => e = .returned (.int .i64 1) ∧ Below w.heap.size w w'
  none_read : ∀ (w : World) (i : Int), Calls Try.prog 18 #[.pointer none, .int .i64 i] w fun e w' => e = .returned (.tuple #[.string ⟨#[]⟩, .int .i64 1]) ∧ Below w.heap.size w w'
  none_flush : ∀ (w : World), Calls Try.prog 21 #[.pointer none] w fun e w' => e = .returned (.int .i64 1) ∧ Below w.heap.size w w'
  none_arm : ∀ (w : World) (n : Int), Calls Try.prog 24 #[.pointer none, .int .i64 n] w fun e w' => e = .returned (.tuple #[]) ∧ Below w.heap.size w w'
  none_crash : ∀ (w : World) (kv : Value), Calls Try.prog 16 #[.pointer none, kv] w fun e w' => e = .returned (.tuple #[]) ∧ Below w.heap.size w w'
  none_down : ∀ (w : World), Calls Try.prog 11 #[.pointer none] w fun e w' => e = .returned (.bool true) ∧ Below w.heap.size w w'
  none_len : ∀ (w : World), Calls Try.prog 8 #[.pointer none] w fun e w' => e = .returned (.int .i64 0) ∧ Below w.heap.size w w'
  none_calls : ∀ (w : World), Calls Try.prog 12 #[.pointer none] w fun e w' => e = .returned (.int .i64 0) ∧ Below w.heap.size w w'
  none_dirty : ∀ (w : World), Calls Try.prog 14 #[.pointer none] w fun e w' => ∃ A c, e = .returned (.slice A 0 c) ∧ Below w.heap.size w w'
  none_copy : ∀ (w : World), Calls Try.prog 23 #[.pointer none] w fun e w' => e = .returned (.pointer none) ∧ Below w.heap.size w w'

/-- A disk and the reference's in one state; all their blocks are from B on, and nothing below B has turned since W. -/
structure Sync (At : World → (Nat → Prop) → Value → D → Prop) (W : World) (v : Value) (b : Nat) (d : D) (w : World) : Prop where
  out : ∃ F G, At w F v d ∧ RefIn w G b d ∧ (∀ i, F i → ¬ G i) ∧ (∀ i, F i → W.heap.size ≤ i) ∧ (∀ i, G i → W.heap.size ≤ i)
  bel : Below W.heap.size W w

section
variable {At : World → (Nat → Prop) → Value → D → Prop} {W w w' : World} {v : Value} {b : Nat} {d d' : D} {N : Nat}

theorem Sync.below (H : DiskOk At) (h : Sync At W v b d w) (k : Below w.heap.size w w') : Sync At W v b d w' := by
  obtain ⟨⟨F, G, h1, h2, h3, h4, h5⟩, h6⟩ := h
  have kf := Kept.ofBelow k (fun _ => False)
  exact ⟨⟨F, G, H.kept h1 kf (fun _ _ h => h), h2.kept kf (fun _ _ h => h), h3, h4, h5⟩, h6.trans (k.mono h6.size)⟩

/-- The disk has done a call, the reference's is to follow. Z: blocks that neither writes (as they are in V); Y: blocks that neither has. -/
structure Half (At : World → (Nat → Prop) → Value → D → Prop) (W V : World) (Z Y : Nat → Prop) (v : Value) (b : Nat) (d1 d2 : D) (w : World) : Prop where
  out : ∃ F G, At w F v d1 ∧ RefIn w G b d2 ∧ (∀ i, F i → ¬ G i) ∧ (∀ i, F i → W.heap.size ≤ i ∧ ¬ Z i ∧ ¬ Y i) ∧ (∀ i, G i → W.heap.size ≤ i ∧ ¬ Y i)
  bel : Below W.heap.size W w
  zlt : ∀ i, Z i → i < w.heap.size
  ylt : ∀ i, Y i → i < w.heap.size
  zb : ¬ Z b
  zs : ∀ k, Z k → w.heap[k]? = V.heap[k]?
  size : V.heap.size ≤ w.heap.size

/-- The blocks of Z are as they were. -/
def Same (Z : Nat → Prop) (w w' : World) : Prop := ∀ k, Z k → w'.heap[k]? = w.heap[k]?

theorem Same.cell {Z : Nat → Prop} (h : Same Z w w') {p : Addr} (hp : Z p.block) : w'.cell? p = w.cell? p := World.cell?_of_block (w := w) (h p.block hp)

theorem Half.sync {V : World} {Z Y : Nat → Prop} (h : Half At W V Z Y v b d d w) : Sync At W v b d w := by
  obtain ⟨⟨F, G, h1, h2, h3, h4, h5⟩, h6, _⟩ := h
  exact ⟨⟨F, G, h1, h2, h3, fun i hi => (h4 i hi).1, fun i hi => (h5 i hi).1⟩, h6⟩

theorem Sync.half (h : Sync At W v b d w) : Half At W W (fun _ => False) (fun _ => False) v b d d w := by
  obtain ⟨⟨F, G, h1, h2, h3, h4, h5⟩, h6⟩ := h
  exact ⟨⟨F, G, h1, h2, h3, fun i hi => ⟨h4 i hi, fun h => h, fun h => h⟩, fun i hi => ⟨h5 i hi, fun h => h⟩⟩, h6, fun _ h => h.elim, fun _ h => h.elim, fun h => h, fun _ h => h.elim, h6.size⟩

theorem Half.box {V : World} {Z Y : Nat → Prop} (H : DiskOk At) (h : Half At W V Z Y v b d d w) (o : Obj) : Half At W (w.alloc o) (fun k => Z k ∨ k = w.heap.size) Y v b d d (w.alloc o) := by
  obtain ⟨⟨F, G, h1, h2, h3, h4, h5⟩, h6, h7, h8, h9, h10, h11⟩ := h
  have kf := Kept.ofBelow ((Below.refl _ w).alloc (Nat.le_refl _) o) (fun _ => False)
  refine ⟨⟨F, G, H.kept h1 kf (fun _ _ h => h), h2.kept kf (fun _ _ h => h), h3, fun i hi => ⟨(h4 i hi).1, fun e => ?_, (h4 i hi).2.2⟩, h5⟩, h6.alloc h6.size o, fun i hi => ?_, fun i hi => by have := h8 i hi; simp; omega, fun hb => ?_, fun _ _ => rfl, Nat.le_refl _⟩
  · rcases e with e | e
    · exact (h4 i hi).2.1 e
    · have := H.lt h1 i hi; omega
  · rcases hi with hi | hi
    · have := h7 i hi; simp; omega
    · simp; omega
  · rcases hb with hb | hb
    · exact h9 hb
    · have := h2.lt b h2.own; omega

/-- Back to what was held before. -/
theorem Half.back {V V' : World} {Z Z' Y : Nat → Prop} {d1 d2 : D} (h : Half At W V' Z' Y v b d1 d2 w) (hZ : ∀ i, Z i → Z' i) (hV : ∀ k, Z k → V'.heap[k]? = V.heap[k]?) (hs : V.heap.size ≤ V'.heap.size) : Half At W V Z Y v b d1 d2 w := by
  obtain ⟨⟨F, G, h1, h2, h3, h4, h5⟩, h6, h7, h8, h9, h10, h11⟩ := h
  exact ⟨⟨F, G, h1, h2, h3, fun i hi => ⟨(h4 i hi).1, fun hz => (h4 i hi).2.1 (hZ i hz), (h4 i hi).2.2⟩, h5⟩, h6, fun i hi => h7 i (hZ i hi), h8, fun hz => h9 (hZ b hz), fun k hk => (h10 k (hZ k hk)).trans (hV k hk), Nat.le_trans hs h11⟩

theorem Half.unbox {V w' : World} {Z Y : Nat → Prop} {d' : D} {o : Obj} (h : Half At W V Z Y v b d d w) (k : Half At W (w.alloc o) (fun k => Z k ∨ k = w.heap.size) Y v b d' d' w') : Half At W V Z Y v b d' d' w' :=
  k.back (fun _ hi => Or.inl hi) (fun i hi => (Below.heap_alloc w o i (h.zlt i hi)).trans (h.zs i hi)) (by have := h.size; simp; omega)

theorem kept_lower {F : Nat → Prop} (h : Below W.heap.size W w) (k : Kept F w w') (hF : ∀ i, F i → W.heap.size ≤ i) : Below W.heap.size W w' :=
  h.trans ⟨k.os, k.tape, k.output, k.size, fun i hi => k.block i (by have := h.size; omega) (fun hf => by have := hF i hf; omega)⟩

/-- A call of the disk's, by its contract. -/
theorem Half.diskZ {V : World} {Z Y : Nat → Prop} {d1 d2 d3 : D} {fn : Nat} {args : Array Value} {P : Ending → Prop} (h : Half At W V Z Y v b d1 d2 w) (hc : ∀ F, At w F v d1 → (∀ i, F i → W.heap.size ≤ i) → Calls Try.prog fn args w fun e w' => P e ∧ Does At w F v d3 w') :
    Calls Try.prog fn args w fun e w' => P e ∧ Half At W V Z Y v b d3 d2 w' ∧ Same Z w w' := by
  obtain ⟨⟨F, G, h1, h2, h3, h4, h5⟩, h6, h7, h8, h9, h10, h11⟩ := h
  refine (hc F h1 (fun i hi => (h4 i hi).1)).mono fun e w' ⟨k1, k3, k2⟩ => ?_
  have hs : Same Z w w' := fun k hk => k2.block k (h7 k hk) (fun hf => (h4 k hf).2.1 hk)
  refine ⟨k1, ⟨⟨Grow F w w', G, k3, h2.kept k2 (fun i hi hf => h3 i hf hi), fun i hi hg => ?_, fun i hi => ?_, h5⟩, kept_lower h6 k2 (fun i hi => (h4 i hi).1), fun i hi => Nat.lt_of_lt_of_le (h7 i hi) k2.size, fun i hi => Nat.lt_of_lt_of_le (h8 i hi) k2.size, h9, fun k hk => (hs k hk).trans (h10 k hk), Nat.le_trans h11 k2.size⟩, hs⟩
  · rcases hi with hi | hi
    · exact h3 i hi hg
    · have := h2.lt i hg; omega
  · rcases hi with hi | hi
    · exact h4 i hi
    · exact ⟨Nat.le_trans h6.size hi.1, fun hz => by have := h7 i hz; omega, fun hz => by have := h8 i hz; omega⟩

theorem Half.disk {V : World} {Z Y : Nat → Prop} {d1 d2 d3 : D} {fn : Nat} {args : Array Value} {P : Ending → Prop} (h : Half At W V Z Y v b d1 d2 w) (hc : ∀ F, At w F v d1 → Calls Try.prog fn args w fun e w' => P e ∧ Does At w F v d3 w') :
    Calls Try.prog fn args w fun e w' => P e ∧ Half At W V Z Y v b d3 d2 w' ∧ Same Z w w' := h.diskZ (fun F hF _ => hc F hF)

theorem Half.refZ {V : World} {Z Y : Nat → Prop} {d1 d2 d3 : D} {fn : Nat} {args : Array Value} {P : Ending → Prop} (H : DiskOk At) (h : Half At W V Z Y v b d1 d2 w) (hc : ∀ G, RefIn w G b d2 → (∀ i, G i → W.heap.size ≤ i) → Calls Try.prog fn args w fun e w' => P e ∧ RefIn w' (Grow G w w') b d3 ∧ Kept (fun k => k = b) w w') :
    Calls Try.prog fn args w fun e w' => P e ∧ Half At W V Z Y v b d1 d3 w' ∧ Same Z w w' := by
  obtain ⟨⟨F, G, h1, h2, h3, h4, h5⟩, h6, h7, h8, h9, h10, h11⟩ := h
  refine (hc G h2 (fun i hi => (h5 i hi).1)).mono fun e w' ⟨k1, k3, k2⟩ => ?_
  have hs : Same Z w w' := fun k hk => k2.block k (h7 k hk) (fun hf => h9 (hf ▸ hk))
  refine ⟨k1, ⟨⟨F, Grow G w w', H.kept h1 k2 (fun i hi e => h3 i hi (e ▸ h2.own)), k3, fun i hi hg => ?_, h4, fun i hi => ?_⟩, kept_lower h6 k2 (fun i e => by rw [e]; exact (h5 b h2.own).1), fun i hi => Nat.lt_of_lt_of_le (h7 i hi) k2.size, fun i hi => Nat.lt_of_lt_of_le (h8 i hi) k2.size, h9, fun k hk => (hs k hk).trans (h10 k hk), Nat.le_trans h11 k2.size⟩, hs⟩
  · rcases hg with hg | hg
    · exact h3 i hi hg
    · have := H.lt h1 i hi; omega
  · rcases hi with hi | hi
    · exact h5 i hi
    · exact ⟨Nat.le_trans h6.size hi.1, fun hz => by have := h8 i hz; omega⟩

theorem Half.ref {V : World} {Z Y : Nat → Prop} {d1 d2 d3 : D} {fn : Nat} {args : Array Value} {P : Ending → Prop} (H : DiskOk At) (h : Half At W V Z Y v b d1 d2 w) (hc : ∀ G, RefIn w G b d2 → Calls Try.prog fn args w fun e w' => P e ∧ RefIn w' (Grow G w w') b d3 ∧ Kept (fun k => k = b) w w') :
    Calls Try.prog fn args w fun e w' => P e ∧ Half At W V Z Y v b d1 d3 w' ∧ Same Z w w' := h.refZ H (fun G hG _ => hc G hG)

/-- The reference's is written by hand. -/
theorem Half.turned {V : World} {Z Y : Nat → Prop} {d1 d2 d3 : D} (H : DiskOk At) (h : Half At W V Z Y v b d1 d2 w) (hc : ∀ G, RefIn w G b d2 → RefIn w' G b d3 ∧ Kept (fun k => k = b) w w') : Half At W V Z Y v b d1 d3 w' ∧ Same Z w w' := by
  obtain ⟨⟨F, G, h1, h2, h3, h4, h5⟩, h6, h7, h8, h9, h10, h11⟩ := h
  obtain ⟨k3, k2⟩ := hc G h2
  have hs : Same Z w w' := fun k hk => k2.block k (h7 k hk) (fun hf => h9 (hf ▸ hk))
  exact ⟨⟨⟨F, G, H.kept h1 k2 (fun i hi e => h3 i hi (e ▸ h2.own)), k3, h3, h4, h5⟩, kept_lower h6 k2 (fun i e => by rw [e]; exact (h5 b h2.own).1), fun i hi => Nat.lt_of_lt_of_le (h7 i hi) k2.size, fun i hi => Nat.lt_of_lt_of_le (h8 i hi) k2.size, h9, fun k hk => (hs k hk).trans (h10 k hk), Nat.le_trans h11 k2.size⟩, hs⟩

theorem Half.below {V : World} {Z Y : Nat → Prop} (H : DiskOk At) {d1 d2 : D} (h : Half At W V Z Y v b d1 d2 w) (k : Below w.heap.size w w') : Half At W V Z Y v b d1 d2 w' ∧ Same Z w w' := by
  obtain ⟨⟨F, G, h1, h2, h3, h4, h5⟩, h6, h7, h8, h9, h10, h11⟩ := h
  have kf := Kept.ofBelow k (fun _ => False)
  exact ⟨⟨⟨F, G, H.kept h1 kf (fun _ _ h => h), h2.kept kf (fun _ _ h => h), h3, h4, h5⟩, h6.trans (k.mono h6.size), fun i hi => Nat.lt_of_lt_of_le (h7 i hi) k.size, fun i hi => Nat.lt_of_lt_of_le (h8 i hi) k.size, h9, fun i hi => (k.block i (h7 i hi)).trans (h10 i hi), Nat.le_trans h11 k.size⟩, fun i hi => k.block i (h7 i hi)⟩

theorem below_drews (w : World) (n : Nat) : Below w.heap.size w (w.drewN n) := ⟨rfl, rfl, rfl, Nat.le_refl _, fun _ _ => rfl⟩
theorem below_drew (w : World) : Below w.heap.size w w.drew := ⟨rfl, rfl, rfl, Nat.le_refl _, fun _ _ => rfl⟩

theorem Half.refFacts {V : World} {Z Y : Nat → Prop} {d1 d2 : D} (h : Half At W V Z Y v b d1 d2 w) : ∃ A c, w.cell? ⟨b, 0, none⟩ = some (.slice A d2.S.length c) ∧ w.cell? ⟨b, 1, none⟩ = some (.int .i64 (d2.calls : Int)) ∧ w.cell? ⟨b, 2, none⟩ = some (.int .i64 (d2.armed : Int)) ∧ w.cell? ⟨b, 3, none⟩ = some (.bool d2.down) ∧
    w.frozen? ⟨b, 2, none⟩ = false ∧ W.heap.size ≤ b ∧ b < w.heap.size := by
  obtain ⟨⟨F, G, h1, ⟨⟨sv, h2, h2'⟩, h7, h8⟩, h3, h4, h5⟩, h6, _⟩ := h
  obtain ⟨A, c, rfl⟩ := h2'.form
  obtain ⟨c0, c1, c2, c3, f0, f1, f2, f3⟩ := h2.facts
  exact ⟨A, c, c0, c1, c2, c3, f2, (h5 b h7).1, h8 b h7⟩
end

/-! ### Two slices that read as one list of numbers -/
set_option maxRecDepth 100000 in
set_option maxHeartbeats 800000 in
theorem ints_same {w : World} {F G : Nat → Prop} {u v : Value} {l : List Nat} (hu : Cells w F u (nats l)) (hv : Cells w G v (nats l)) (hl : l.length ≤ 1000000) :
    Calls Try.prog 13 #[u, v] w fun e w' => e = .returned (.bool true) ∧ Below w.heap.size w w' := by
  obtain ⟨uA, uc, rfl, huc, hua⟩ := hu
  obtain ⟨vA, vc, rfl, hvc, hva⟩ := hv
  have hnl : (nats l).length = l.length := by unfold nats; rw [List.length_map]
  rw [hnl] at huc hua hvc hva ⊢
  have Hua := Lib.hid hua
  have Hva := Lib.hid hva
  have hl' : (l.length : Int) ≤ 1000000 := by omega
  have hne : ((l.length : Int) != (l.length : Int)) = false := by simp
  clear hua hva hnl
  go_enter Try.func13, Try.ntmps13
  go_wp2_with fail
  go_loopw [5] (fun i wr => ∃ k : Nat, k ≤ l.length ∧ i = .int .i64 (k : Int) ∧ Below w.heap.size w wr) (fun i _ => l.length - (intOf i).toNat)
  case atStart => exact ⟨0, Nat.zero_le _, rfl, Below.refl _ _⟩
  case round =>
    obtain ⟨k, hk, rfl, hbel⟩ := hrel
    by_cases hlt : k < l.length
    · obtain ⟨ub, uo, rfl, -, hub, huk⟩ := Hua.out (by omega)
      obtain ⟨vb, vo, rfl, -, hvb, hvk⟩ := Hva.out (by omega)
      obtain ⟨a, ha⟩ : ∃ a, l[k]? = some a := ⟨_, List.getElem?_eq_getElem hlt⟩
      have hc1 : wr.cell? ⟨ub, uo + k, none⟩ = some (.int .i64 (a : Int)) := (hbel.cell (p := ⟨ub, uo + k, none⟩) hub).trans (huk k _ (nats_at ha))
      have hc2 : wr.cell? ⟨vb, vo + k, none⟩ = some (.int .i64 (a : Int)) := (hbel.cell (p := ⟨vb, vo + k, none⟩) hvb).trans (hvk k _ (nats_at ha))
      have hk0 : (0 : Int) ≤ (k : Int) := by omega
      have hk1 : (k : Int) < (l.length : Int) := by omega
      have haa : ((a : Int) != (a : Int)) = false := by simp
      have Hbel := Lib.hid hbel
      clear huk hvk ha hbel
      go_wp2_with fail
      go_quiet (fail)
      go_wp2_with fail
      refine ⟨⟨k + 1, by omega, rfl, ?_⟩, ?_⟩
      · exact Hbel.out.trans ((below_drews wr nq).mono Hbel.out.size)
      · show l.length - ((k : Int) + 1).toNat < l.length - (k : Int).toNat
        omega
    · obtain rfl : k = l.length := by omega
      have Hbel := Lib.hid hbel
      clear hbel
      go_wp2_with fail
      go_ret
      exact ⟨rfl, Hbel.out⟩
end Go.Proofs.Ytdagdmfockibfaa
