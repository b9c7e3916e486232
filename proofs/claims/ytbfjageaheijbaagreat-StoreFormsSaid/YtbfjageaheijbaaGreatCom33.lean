/- The landed journal: records are kept. -/
import Derived.Test.YtbfjageaheijbaaGreatCom32
set_option linter.unusedSimpArgs false
set_option linter.unusedVariables false
namespace Go.Proofs.YtbfjageaheijbaaGreat
open Go.RowKit Dsk Jnl

set_option maxRecDepth 100000 in
theorem jat_below {w w' : World} {F : Nat → Prop} {dv jv : Value} {n : Nat} {d : D} {j : J} (h : JAt AtL JOwn w F dv jv n d j) (hb : Below w.heap.size w w') : JAt AtL JOwn w' (Grow F w w') dv jv n d j ∧ Kept F w w' := by
  obtain ⟨F1, F2, h1, h2, h3, h4, h5⟩ := h
  exact ⟨⟨F1, F2, atl_below h1 hb, jown_kept h2 (Kept.ofBelow hb (fun _ => False)) (fun _ _ h => h), h3, fun k hk => Or.inl (h4 k hk), fun k hk => Or.inl (h5 k hk)⟩, Kept.ofBelow hb _⟩

set_option maxRecDepth 100000 in
/-- What a journal and its disk are behind a call that wrote. -/
theorem keep_end {w wa wb wc wf : World} {F F1 F2 Ft : Nat → Prop} {dv tv : Value} {n b : Nat} {d' : D} {j : J} (h1 : ∀ i, F1 i → i < w.heap.size) (h2 : ∀ i, F2 i → i < w.heap.size) (hb : F2 b) (h3 : ∀ k, F1 k → ¬ F2 k) (h4 : ∀ k, F1 k → F k) (h5 : ∀ k, F2 k → F k)
    (ka : Below w.heap.size w wa) (kb : Doing AtL wa F1 dv d' wb) (kc : Below wb.heap.size wb wc) (kf : Kept (fun i => i = b) wc wf)
    (hr : Row wf b 106 (jcells dv j.seq j.half j.bytes.length tv j.broken)) (ht : BytesAt wf Ft tv (tailB j.bytes)) (hFt : ∀ i, Ft i → (F2 i ∧ i ≠ b) ∨ (wb.heap.size ≤ i ∧ i < wc.heap.size)) (hh : j.half ≤ 1) (hfit : j.bytes.length ≤ 64 * hof n) (hq : j.seq < 9223372036854775808) :
    JAt AtL JOwn wf (Grow F w wf) dv (.pointer (some ⟨b, 0, none⟩)) n d' j ∧ Kept F w wf := by
  have za := ka.size
  have zb := kb.2.size
  have zc := kc.size
  have zf := kf.size
  have hbw := h2 b hb
  refine ⟨⟨Grow F1 wa wb, fun i => F2 i ∨ (wb.heap.size ≤ i ∧ i < wc.heap.size), atl_kept (atl_below kb.1 kc) kf (fun i hi e => ?_), ⟨b, tv, rfl, hr, Or.inl hb, ht.mono (fun i hi => ?_), fun i hi => ?_, hh, hfit, hq⟩, fun i hi hi2 => ?_, fun i hi => ?_, fun i hi => ?_⟩, ?_⟩
  · subst e
    rcases hi with hi | hi
    · exact h3 _ hi hb
    · omega
  · rcases hFt i hi with hi | hi
    · exact ⟨Or.inl hi.1, hi.2⟩
    · exact ⟨Or.inr hi, by omega⟩
  · rcases hi with hi | hi
    · have := h2 i hi; omega
    · omega
  · rcases hi with hi | hi
    · rcases hi2 with hi2 | hi2
      · exact h3 i hi hi2
      · have := h1 i hi; omega
    · rcases hi2 with hi2 | hi2
      · have := h2 i hi2; omega
      · omega
  · rcases hi with hi | hi
    · exact Or.inl (h4 i hi)
    · exact Or.inr (by omega)
  · rcases hi with hi | hi
    · exact Or.inl (h5 i hi)
    · exact Or.inr (by omega)
  · exact (((Kept.ofBelow ka F).trans (kb.2.mono h4) (fun _ _ h => h)).trans (Kept.ofBelow kc (fun _ => False)) (fun _ _ h => h.elim)).trans kf (fun i _ e => by subst e; exact h5 _ hb)

set_option maxRecDepth 100000 in
theorem tail_join {pre new : List UInt8} : tailB pre ++ new = (pre ++ new).drop (64 * (pre.length / 64)) := by
  unfold tailB
  rw [List.drop_append_of_le_length (by omega)]

set_option maxRecDepth 100000 in
theorem tail_pre (l : List UInt8) : tailB (l.drop (64 * (0 / 64))) = tailB l := by simp

set_option maxRecDepth 100000 in
/-- What is kept, of a tail that begins with a sector: the last sector's bytes. -/
theorem tail_tail (all : List UInt8) (i : Nat) (hi : 64 * i ≤ all.length) : tailB (all.drop (64 * i)) = tailB all := by
  unfold tailB
  rw [List.length_drop, List.drop_drop]
  congr 1
  omega

set_option maxRecDepth 100000 in
/-- A tail's slice, cut to its own length. -/
theorem tail_cut {w : World} {F : Nat → Prop} {v : Value} {l : List UInt8} (h : BytesAt w F v l) : (v = .slice none 0 0 ∧ l = []) ∨ ∃ g o c, v = .slice (some ⟨g, o, none⟩) l.length c ∧ l.length ≤ c ∧ g < w.heap.size ∧ ∀ w', Below w.heap.size w w' → Cells w' (fun i => i = g) (.slice (some ⟨g, o, none⟩) l.length l.length) (Lib.byteCells l) := by
  rcases h with h | ⟨g, o, c, rfl, hc, hF, hg, hat⟩
  · exact Or.inl h
  · refine Or.inr ⟨g, o, c, rfl, hc, hg, fun w' hb => ⟨some ⟨g, o, none⟩, l.length, by rw [bcells_len], by rw [bcells_len]; exact Nat.le_refl _, fun _ => ⟨g, o, rfl, rfl, Nat.lt_of_lt_of_le hg hb.size, fun i u hu => (hb.cell (p := ⟨g, o + i, none⟩) hg).trans (hat i u hu)⟩⟩⟩
end Go.Proofs.YtbfjageaheijbaaGreat
