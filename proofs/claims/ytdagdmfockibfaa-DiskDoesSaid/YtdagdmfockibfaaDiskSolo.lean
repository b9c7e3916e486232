/- A disk by itself; what must come at any rate ('awake' of layer 3). -/
import Derived.Test.YtdagdmfockibfaaDiskOk
namespace Go.Proofs.Ytdagdmfockibfaa
open Go.RowKit Dsk

/-- A disk, all its blocks from W on, none of Z. -/
structure Solo (At : World → (Nat → Prop) → Value → D → Prop) (W : World) (Z : Nat → Prop) (v : Value) (d : D) (w : World) : Prop where
  out : ∃ F, At w F v d ∧ (∀ i, F i → W.heap.size ≤ i ∧ ¬ Z i)
  bel : Below W.heap.size W w
  zlt : ∀ i, Z i → i < w.heap.size

section
variable {At : World → (Nat → Prop) → Value → D → Prop} {W w w' : World} {Z : Nat → Prop} {v : Value} {d d' : D}

theorem Solo.call {fn : Nat} {args : Array Value} {P : Ending → Prop} (h : Solo At W Z v d w) (hc : ∀ F, At w F v d → (∀ i, F i → W.heap.size ≤ i) → Calls Try.prog fn args w fun e w' => P e ∧ Does At w F v d' w') :
    Calls Try.prog fn args w fun e w' => P e ∧ Solo At W Z v d' w' ∧ Same Z w w' := by
  obtain ⟨⟨F, h1, h4⟩, h6, h7⟩ := h
  refine (hc F h1 (fun i hi => (h4 i hi).1)).mono fun e w' ⟨k1, k3, k2⟩ => ⟨k1, ⟨⟨Grow F w w', k3, fun i hi => ?_⟩, kept_lower h6 k2 (fun i hi => (h4 i hi).1), fun i hi => Nat.lt_of_lt_of_le (h7 i hi) k2.size⟩, fun k hk => k2.block k (h7 k hk) (fun hf => (h4 k hf).2 hk)⟩
  rcases hi with hi | hi
  · exact h4 i hi
  · exact ⟨Nat.le_trans h6.size hi.1, fun hz => by have := h7 i hz; omega⟩

theorem Solo.below (H : DiskOk At) (h : Solo At W Z v d w) (k : Below w.heap.size w w') : Solo At W Z v d w' ∧ Same Z w w' := by
  obtain ⟨⟨F, h1, h4⟩, h6, h7⟩ := h
  exact ⟨⟨⟨F, H.kept h1 (Kept.ofBelow k (fun _ => False)) (fun _ _ h => h), h4⟩, h6.trans (k.mono h6.size), fun i hi => Nat.lt_of_lt_of_le (h7 i hi) k.size⟩, fun i hi => k.block i (h7 i hi)⟩

/-- A new block is put beside the disk. -/
theorem Solo.box (H : DiskOk At) (h : Solo At W Z v d w) (o : Obj) : Solo At W (fun k => Z k ∨ k = w.heap.size) v d (w.alloc o) := by
  obtain ⟨⟨F, h1, h4⟩, h6, h7⟩ := h
  exact ⟨⟨F, H.kept h1 (Kept.ofBelow ((Below.refl _ w).alloc (Nat.le_refl _) o) (fun _ => False)) (fun _ _ h => h), fun i hi => ⟨(h4 i hi).1, fun hz => by
    rcases hz with hz | hz
    · exact (h4 i hi).2 hz
    · have := H.lt h1 i hi; omega⟩⟩, h6.alloc h6.size o, fun i hi => by
      rcases hi with hi | hi
      · have := h7 i hi; simp; omega
      · simp; omega⟩

theorem Solo.less {Y : Nat → Prop} (h : Solo At W Z v d w) (hY : ∀ i, Y i → Z i) : Solo At W Y v d w := by
  obtain ⟨⟨F, h1, h4⟩, h6, h7⟩ := h
  exact ⟨⟨F, h1, fun i hi => ⟨(h4 i hi).1, fun hy => (h4 i hi).2 (hY i hy)⟩⟩, h6, fun i hi => h7 i (hY i hi)⟩

theorem solo_new (H : DiskOk At) (n : Nat) (w : World) (h1 : 1 ≤ n) (h2 : n ≤ 4096) :
    Calls Try.prog 6 #[.int .i64 (n : Int)] w fun e w' => ∃ p, e = .returned (.tuple #[.pointer (some p), .int .i64 0]) ∧ Solo At w (fun _ => False) (.pointer (some p)) (Dsk.new n) w' := by
  refine (H.new_ok n w h1 h2).mono ?_
  rintro e w' ⟨v, rfl, h3, h4⟩
  obtain ⟨p, rfl⟩ := H.ptr h3
  exact ⟨p, rfl, ⟨⟨_, h3, fun i hi => ⟨hi.1, fun h => h⟩⟩, h4, fun _ h => h.elim⟩⟩

def sA : ByteArray := ⟨#[97]⟩
def sB : ByteArray := ⟨#[98]⟩
def dA : D := ((Dsk.new 3).write 1 sA).2
def dB : D := (dA.write 1 sB).2
def dC : D := dB.crash [1]

set_option maxRecDepth 100000 in
set_option maxHeartbeats 1600000 in
theorem disk_awake (H : DiskOk At) (w : World) : Calls Try.prog 7 #[] w fun e w' => e = .returned (.bool true) ∧ Below w.heap.size w w' := by
  have f0 := Dsk.new_fine 3 (by decide)
  have f1 : dA.Fine 1 := f0.write 1 sA
  have f2 : dB.Fine 2 := f1.write 1 sB
  have f3 : dC.Fine 2 := f2.crash [1]
  have w1 : ((Dsk.new 3).write 1 sA).1 = 0 := by decide
  have w2 : (dA.write 1 sB).1 = 0 := by decide
  have r1 : (dC.read 1) = (fill sA, 0) := by rfl
  have y1 : dC.dirty = [] := by decide
  have C1 : Hid (∀ W p, Solo At w (fun _ => False) (.pointer (some p)) (Dsk.new 3) W → Calls Try.prog 22 #[.pointer (some p), .int .i64 1, .string sA] W fun e w' => e = .returned (.int .i64 0) ∧ Solo At w (fun _ => False) (.pointer (some p)) dA w' ∧ Same (fun _ => False) W w') := Lib.hid (fun W p h => by
    rw [← w1]
    exact h.call (fun F hF _ => H.write hF f0 (by decide) 1 sA (by decide) (by decide) (by decide)))
  have C2 : Hid (∀ W p, Solo At w (fun _ => False) (.pointer (some p)) dA W → Calls Try.prog 22 #[.pointer (some p), .int .i64 1, .string sB] W fun e w' => e = .returned (.int .i64 0) ∧ Solo At w (fun _ => False) (.pointer (some p)) dB w' ∧ Same (fun _ => False) W w') := Lib.hid (fun W p h => by
    rw [← w2]
    exact h.call (fun F hF _ => H.write hF f1 (by decide) 1 sB (by decide) (by decide) (by decide)))
  have C3 : Hid (∀ W p, Solo At w (fun _ => False) (.pointer (some p)) dB W → Calls Try.prog 16 #[.pointer (some p), .slice (some ⟨W.heap.size, 0, none⟩) 1 1] (W.alloc (.cells #[.int .i64 1] 3)) fun e w' => e = .returned (.tuple #[]) ∧ Solo At w (fun _ => False) (.pointer (some p)) dC w') := Lib.hid (fun W p h => by
    have hb := h.box H (.cells #[.int .i64 1] 3)
    obtain ⟨⟨F, k1, k4⟩, k6, k7⟩ := hb
    have hcell : Cells (W.alloc (.cells #[.int .i64 1] 3)) (fun k => k = W.heap.size) (.slice (some ⟨W.heap.size, 0, none⟩) 1 1) ([1].map (Value.int .i64)) :=
      ⟨some ⟨W.heap.size, 0, none⟩, 1, rfl, Nat.le_refl _, fun _ => ⟨W.heap.size, 0, rfl, rfl, by simp, fun i u hu => by
        rw [Nat.zero_add, (Row.made W 3 #[.int .i64 1]).at]
        match i, hu with
        | 0, hu => simpa using hu⟩⟩
    have hb : Solo At w (fun k => False ∨ k = W.heap.size) (.pointer (some p)) dB (W.alloc (.cells #[.int .i64 1] 3)) := ⟨⟨F, k1, k4⟩, k6, k7⟩
    obtain ⟨⟨F0, m1, m4⟩, m6, m7⟩ := hb
    refine (H.crash m1 f2 (by decide) hcell (fun i hi hf => (m4 i hf).2 (Or.inr hi)) ⟨by decide, by decide⟩).mono ?_
    rintro e w' ⟨rfl, q1, q2⟩
    refine ⟨rfl, ⟨⟨Grow F0 _ w', q1, fun i hi => ⟨?_, fun h => h⟩⟩, kept_lower m6 q2 (fun i hi => (m4 i hi).1), fun _ h => h.elim⟩⟩
    rcases hi with hi | hi
    · exact (m4 i hi).1
    · exact Nat.le_trans m6.size hi.1)
  have C4 : Hid (∀ W p, Solo At w (fun _ => False) (.pointer (some p)) dC W → Calls Try.prog 18 #[.pointer (some p), .int .i64 1] W fun e w' => e = .returned (.tuple #[.string (fill sA), .int .i64 0]) ∧ Solo At w (fun _ => False) (.pointer (some p)) dC w' ∧ Same (fun _ => False) W w') := Lib.hid (fun W p h =>
    h.call (fun F hF _ => by have := H.read hF f3 (by decide) 1 (by decide) (by decide); rw [r1] at this; exact this))
  have C5 : Hid (∀ W p, Solo At w (fun _ => False) (.pointer (some p)) dC W → Calls Try.prog 14 #[.pointer (some p)] W fun e w' => ∃ A c, e = .returned (.slice A 0 c) ∧ Below w.heap.size w w') := Lib.hid (fun W p h => by
    obtain ⟨⟨F, k1, k4⟩, k6, k7⟩ := h
    refine (H.dirty k1 f3 (by decide)).mono ?_
    rintro e w' ⟨u, rfl, q0, q1, q2⟩
    rw [y1] at q0
    obtain ⟨A, c, rfl, _⟩ := q0
    exact ⟨A, c, rfl, kept_lower k6 q2 (fun i hi => (k4 i hi).1)⟩)
  have N1 : Hid (∀ W, Calls Try.prog 6 #[.int .i64 3] W fun e w' => ∃ p, e = .returned (.tuple #[.pointer (some p), .int .i64 0]) ∧ Solo At W (fun _ => False) (.pointer (some p)) (Dsk.new 3) w') := Lib.hid (fun W => solo_new H 3 W (by decide) (by decide))
  have F1 : Hid (∀ W, Calls Try.prog 20 #[.string sA] W fun e w' => e = .returned (.string (fill sA)) ∧ W = w') := Lib.hid (fun W => ref_fill sA W (by decide))
  have hff : ((fill sA).toList == (fill sA).toList) = true := beq_self_eq_true _
  have hsA : (⟨#[97]⟩ : ByteArray) = sA := rfl
  have hsB : (⟨#[98]⟩ : ByteArray) = sB := rfl
  clear f0 f1 f2 f3 w1 w2 r1 y1
  generalize fill sA = z at *
  go_enter Try.func7, Try.ntmps7
  go_wp2_with fail
  refine (N1.out w).mono ?_
  rintro e wa ⟨p, rfl, ha⟩
  have ha := Lib.hid ha
  go_wp2_with fail
  refine (C1.out wa p ha.out).mono ?_
  rintro e wb ⟨rfl, hb, -⟩
  have hb := Lib.hid hb
  go_wp2_with fail
  refine (C2.out wb p hb.out).mono ?_
  rintro e wc ⟨rfl, hc, -⟩
  have hc := Lib.hid hc
  go_wp2_with fail
  refine (C3.out wc p hc.out).mono ?_
  rintro e wd ⟨rfl, hd⟩
  have hd := Lib.hid hd
  go_wp2_with fail
  refine (C4.out wd p hd.out).mono ?_
  rintro e we ⟨rfl, he, -⟩
  have he := Lib.hid he
  go_wp2_with fail
  refine (F1.out we).mono ?_
  rintro e wf ⟨rfl, rfl⟩
  go_wp2_with fail
  refine (C5.out we p he.out).mono ?_
  rintro e wg ⟨A, c, rfl, hg⟩
  have hg := Lib.hid hg
  go_wp2_with fail
  go_ret
  exact ⟨rfl, hg.out⟩
end
end Go.Proofs.Ytdagdmfockibfaa
