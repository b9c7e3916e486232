/- The package disk as it landed answers as it is to. -/
import Derived.Test.YtdagdmfockibfaaDiskNew
import Derived.Test.YtdagdmfockibfaaDiskCopy
import Derived.Test.YtdagdmfockibfaaDiskCrash
set_option linter.unusedSimpArgs false
set_option linter.unusedVariables false
namespace Go.Proofs.Ytdagdmfockibfaa
open Go.RowKit Dsk

/-- The disk in memory, all its blocks there. -/
def AtL (w : World) (F : Nat → Prop) (v : Value) (d : D) : Prop := At w F v d ∧ ∀ k, F k → k < w.heap.size

theorem does_lift {w w' : World} {F : Nat → Prop} {v : Value} {d : D} (hF : ∀ k, F k → k < w.heap.size) (h : Does At w F v d w') : Does AtL w F v d w' :=
  ⟨⟨h.1, fun _ hk => Grow.lt hk hF h.2.size⟩, h.2⟩

theorem disk_ok : ∃ At, DiskOk At := ⟨AtL,
  { kept := fun h k hd => ⟨by
      obtain ⟨⟨b, bm, sv, N, M, pv, e, h⟩, -⟩ := h
      exact ⟨b, bm, sv, N, M, pv, e, h.kept k hd⟩, fun i hi => Nat.lt_of_lt_of_le (h.2 i hi) k.size⟩
    lt := fun h k hk => h.2 k hk
    ptr := fun h => by
      obtain ⟨⟨b, bm, sv, N, M, pv, e, -⟩, -⟩ := h
      exact ⟨_, e⟩
    new_ok := fun n w h1 h2 => (new_ok n w h1 h2).mono (by
      rintro e w' ⟨v, rfl, h, hb⟩
      exact ⟨v, rfl, ⟨h, fun k hk => hk.2⟩, hb⟩)
    new_no := fun n w h => new_no n w h
    write := fun {w F v d N} h hf hN i s _ _ hs => by
      refine Calls.mono (R := fun e w' => e = .returned (.int .i64 (d.write i s).1) ∧ Does At w F v (d.write i s).2 w') ?_ (fun e w' he => ⟨he.1, does_lift h.2 he.2⟩)
      by_cases hd : ¬ d.down = true → ¬ (i < 0 ∨ (d.S.length : Int) ≤ i) → 64 < s.size
      · exact write_no h.1 i s hs hd
      · have h1 : ¬ d.down = true := fun e => hd (fun h' => absurd e h')
        have h2 : ¬ (i < 0 ∨ (d.S.length : Int) ≤ i) := fun e => hd (fun _ h' => absurd e h')
        have h3 : ¬ 64 < s.size := fun e => hd (fun _ _ => e)
        obtain ⟨k, rfl⟩ : ∃ k : Nat, i = (k : Int) := ⟨i.toNat, by omega⟩
        have hk : k < d.S.length := by omega
        obtain ⟨⟨b, bm, sv, N', M, pv, rfl, h0⟩, -⟩ := h
        have h4 := (hf.at hk).2.2
        exact write_ok h0 hk s (by omega) (by have := hf.calls; omega) hf.armed (by simpa using h1) (by omega)
    read := fun {w F v d N} h hf hN i _ _ => by
      refine Calls.mono (R := fun e w' => e = .returned (.tuple #[.string (d.read i).1, .int .i64 (d.read i).2]) ∧ Does At w F v d w') ?_ (fun e w' he => ⟨he.1, does_lift h.2 he.2⟩)
      by_cases hd : openE d i = 0
      · have h1 : ¬ d.down = true := fun e => by unfold openE at hd; rw [if_pos e] at hd; cases hd
        have h2 : ¬ (i < 0 ∨ (d.S.length : Int) ≤ i) := fun e => by unfold openE at hd; rw [if_neg h1, if_pos e] at hd; cases hd
        obtain ⟨k, rfl⟩ : ∃ k : Nat, i = (k : Int) := ⟨i.toNat, by omega⟩
        have hk : k < d.S.length := by omega
        obtain ⟨⟨b, bm, sv, N', M, pv, rfl, h0⟩, -⟩ := h
        obtain ⟨e1, e2, e3⟩ := hf.at hk
        obtain ⟨s0, t, hst⟩ : ∃ s0 t, d.at k = s0 :: t := by
          cases e : d.at k with
          | nil => rw [e] at e2; cases e2
          | cons a r => exact ⟨a, r, rfl⟩
        have hr : d.read (k : Int) = (last (s0 :: t), 0) := by
          unfold D.read
          rw [if_neg h1, if_neg h2, Int.toNat_natCast, hst]
        rw [hr]
        rw [hst] at e1 e3
        refine (read_ok h0 e1 (by simpa using h1) (by rw [List.length_cons] at e3; omega)).mono ?_
        rintro e w' ⟨rfl, hb⟩
        exact ⟨rfl, ⟨b, bm, sv, N', M, pv, rfl, (h0.kept (Kept.ofBelow hb (fun _ => False)) (fun _ _ h => h)).mono (fun _ hi => Or.inl hi)⟩, Kept.ofBelow hb _⟩
      · exact read_no h.1 i hd
    flush := fun {w F v d N} h hf hN => by
      refine Calls.mono (R := fun e w' => e = .returned (.int .i64 d.flush.1) ∧ Does At w F v d.flush.2 w') ?_ (fun e w' he => ⟨he.1, does_lift h.2 he.2⟩)
      have hc := hf.calls
      by_cases hq : d.down = true ∨ d.call.down = true
      · exact flush_no h.1 (by omega) hf.armed hq
      · have h1 : ¬ d.down = true := fun e => hq (Or.inl e)
        have h2 : ¬ d.call.down = true := fun e => hq (Or.inr e)
        obtain ⟨⟨b, bm, sv, N', M, pv, rfl, h0⟩, hF⟩ := h
        have e : d.flush = (0, ⟨d.call.S.map fun l => [last l], d.call.calls, d.call.armed, d.call.down⟩) := by
          unfold D.flush
          rw [if_neg h1, if_neg h2]
          rfl
        rw [e]
        exact flush_ok h0 hF (by omega) hf.armed (by simpa using h1) (by simpa using h2) (fun l hl => by have := (hf.each l hl).2; omega)
    arm := fun {w F v d N} h hf hN n h1 h2 => (arm_any h.1 n h1 h2).mono (fun e w' he => ⟨he.1, does_lift h.2 he.2⟩)
    crash := fun {w F G v d N kv ks} h hf hN hkv hG hks => by
      refine Calls.mono (R := fun e w' => e = .returned (.tuple #[]) ∧ Does At w F v (d.crash ks) w') ?_ (fun e w' he => ⟨he.1, does_lift h.2 he.2⟩)
      obtain ⟨⟨b, bm, sv, N', M, pv, rfl, h0⟩, hF⟩ := h
      exact crash_ok h0 hF hkv hG hks (fun l hl => by have := (hf.each l hl).2; omega)
    down := fun h hf hN => (down_any h.1).mono (fun e w' he => ⟨he.1, does_lift h.2 he.2⟩)
    len := fun h hf hN => (len_any h.1).mono (fun e w' he => ⟨he.1, does_lift h.2 he.2⟩)
    calls := fun h hf hN => (calls_any h.1).mono (fun e w' he => ⟨he.1, does_lift h.2 he.2⟩)
    dirty := fun h hf hN => (dirty_any h.1).mono (by
      rintro e w' ⟨u, rfl, hc, hd⟩
      exact ⟨u, rfl, hc, does_lift h.2 hd⟩)
    copy := fun {w F v d N} h hf hN => by
      obtain ⟨⟨b, bm, sv, N', M, pv, rfl, h0⟩, hF⟩ := h
      refine (copy_ok h0 hF (by have := hf.calls; omega) (fun l hl => by have := (hf.each l hl).2; omega)).mono ?_
      rintro e w' ⟨u, F1, F2, rfl, q1, q2, q3, q4, q5, q6, q7⟩
      exact ⟨u, F1, F2, rfl, ⟨q1, fun k hk => Nat.lt_of_lt_of_le (hF k (q6 k hk)) q7.size⟩, ⟨q2, fun k hk => (q4 k hk).2⟩, q3, q4, q5, q7⟩
    none_write := nil_write
    none_read := nil_read
    none_flush := nil_flush
    none_arm := nil_arm
    none_crash := nil_crash
    none_down := nil_down
    none_len := nil_len
    none_calls := nil_calls
    none_dirty := nil_dirty
    none_copy := nil_copy }⟩
end Go.Proofs.Ytdagdmfockibfaa
