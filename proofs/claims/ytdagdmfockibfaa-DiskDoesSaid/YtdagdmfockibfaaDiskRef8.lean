/- The document's own answer of layer 3: each call, whatever state the disk is in. -/
import Derived.Test.YtdagdmfockibfaaDiskRef7
namespace Go.Proofs.Ytdagdmfockibfaa
open Go.RowKit Dsk

/-- The reference's disk at block b, all its blocks in F. -/
structure RefIn (w : World) (F : Nat → Prop) (b : Nat) (d : D) : Prop where
  out : ∃ sv, RefBlk w b sv d ∧ PiecesAt w (fun k => F k ∧ k ≠ b) sv d.S
  own : F b
  lt : ∀ k, F k → k < w.heap.size

section
variable {w w' : World} {F G : Nat → Prop} {b : Nat} {d : D} {N : Nat}

theorem RefIn.kept (h : RefIn w F b d) (k : Kept G w w') (hd : ∀ i, F i → ¬ G i) : RefIn w' F b d := by
  obtain ⟨⟨sv, h1, h2⟩, h3, h4⟩ := h
  exact ⟨⟨sv, Row.kept h1 k (hd b h3), h2.kept k (fun i hi => hd i hi.1)⟩, h3, fun i hi => Nat.lt_of_lt_of_le (h4 i hi) k.size⟩

theorem RefIn.grow (h : RefIn w F b d) (w0 : World) (h0 : ∀ k, F k → k < w0.heap.size) (hs : w0.heap.size ≤ w.heap.size) : RefIn w (Grow F w0 w) b d := by
  obtain ⟨⟨sv, h1, h2⟩, h3, _⟩ := h
  exact ⟨⟨sv, h1, h2.mono (fun i hi => ⟨Or.inl hi.1, hi.2⟩)⟩, Or.inl h3, fun i hi => hi.lt h0 hs⟩

/-- What a call that touches block b alone, and new ones, leaves. -/
theorem RefIn.made {d' : D} (h : RefIn w F b d) {v : Value} (h1 : RefBlk w' b v d') (h2 : PiecesAt w' (Grow (fun k => F k ∧ k ≠ b) w w') v d'.S) (h3 : w.grownBy w' (some b)) : RefIn w' (Grow F w w') b d' ∧ Kept (fun k => k = b) w w' := by
  refine ⟨⟨⟨v, h1, h2.mono (fun i hi => ?_)⟩, Or.inl h.own, fun i hi => hi.lt h.lt h3.size⟩, Kept.ofGrown h3 (fun i e => by injection e with e; exact e.symm)⟩
  rcases hi with hi | hi
  · exact ⟨Or.inl hi.1, hi.2⟩
  · exact ⟨Or.inr hi, fun e => by have := h.lt b h.own; omega⟩

/-- Nothing has turned. -/
theorem RefIn.stay (h : RefIn w F b d) : RefIn w (Grow F w w) b d ∧ Kept (fun k => k = b) w w := ⟨h.grow w h.lt (Nat.le_refl _), Kept.refl _ _⟩
end

section
variable {w : World} {F : Nat → Prop} {b : Nat} {d : D} {N : Nat}

set_option maxRecDepth 100000 in
set_option maxHeartbeats 800000 in
theorem ref_write (h : RefIn w F b d) (hf : d.Fine N) (hN : N ≤ 1000000) (i : Int) (s : ByteArray) (hs : s.size ≤ 9223372036854775807) :
    Calls Try.prog 27 #[.pointer (some ⟨b, 0, none⟩), .int .i64 i, .string s] w fun e w' => e = .returned (.int .i64 (d.write i s).1) ∧ RefIn w' (Grow F w w') b (d.write i s).2 ∧ Kept (fun k => k = b) w w' := by
  have hH := h
  obtain ⟨⟨sv, h1, h2⟩, h3, h4⟩ := h
  obtain ⟨svA, svc, rfl⟩ := h2.form
  obtain ⟨c0, -, -, c3, -, -, -, -⟩ := h1.facts
  have hc := hf.calls
  have ha := hf.armed
  have hl := hf.len
  have hsi : (s.size : Int) ≤ 9223372036854775807 := by omega
  have Hh := Lib.hid hH
  unfold D.write
  by_cases hdn : d.down = true
  · rw [if_pos hdn]
    rw [hdn] at c3
    clear hf h1 h2 hdn hH
    go_enter Try.func27, Try.ntmps27
    go_wp2_with fail
    go_ret
    exact ⟨rfl, Hh.out.stay⟩
  · rw [if_neg hdn]
    have hdf : d.down = false := by simpa using hdn
    rw [hdf] at c3
    by_cases hr : i < 0 ∨ (d.S.length : Int) ≤ i
    · rw [if_pos hr]
      rcases hr with hr | hr
      · clear hf h1 h2 hdn hH hdf
        go_enter Try.func27, Try.ntmps27
        go_wp2_with fail
        go_ret
        exact ⟨rfl, Hh.out.stay⟩
      · clear hf h1 h2 hdn hH hdf
        have hr0 : (0 : Int) ≤ i := by omega
        go_enter Try.func27, Try.ntmps27
        go_wp2_with fail
        go_ret
        exact ⟨rfl, Hh.out.stay⟩
    · rw [if_neg hr]
      have hr0 : (0 : Int) ≤ i := by omega
      have hr1 : i < (d.S.length : Int) := by omega
      obtain ⟨k, rfl⟩ := Int.eq_ofNat_of_zero_le hr0
      have hr1' : k < d.S.length := by omega
      by_cases hb : 64 < s.size
      · rw [if_pos hb]
        have hb' : (64 : Int) < (s.size : Int) := by omega
        clear hf h1 h2 hdn hH hdf hr hb
        go_enter Try.func27, Try.ntmps27
        go_wp2_with fail
        go_ret
        exact ⟨rfl, Hh.out.stay⟩
      · rw [if_neg hb]
        have hb' : (s.size : Int) ≤ 64 := by omega
        by_cases hcd : d.call.down = true
        · rw [if_pos hcd]
          have hcall := ref_call h1 (by omega) ha
          rw [hcd] at hcall
          have Hcall := Lib.hid hcall
          have fin : Hid (∀ w', RefBlk w' b (.slice svA d.S.length svc) d.call → w.grownBy w' (some b) → RefIn w' (Grow F w w') b d.call ∧ Kept (fun k => k = b) w w') := Lib.hid (fun w' k1 k2 =>
            hH.made k1 ((h2.kept (Kept.ofGrown k2 (F := fun k => k = b) (fun i e => by injection e with e; exact e.symm)) (fun i hi e => hi.2 e)).mono (fun _ h => Or.inl h)) k2)
          clear hcall hf h1 h2 hdn hH hdf hr hb hcd
          generalize d.call = dc at *
          go_enter Try.func27, Try.ntmps27
          go_wp2_with (go_at_call 36; with_reducible refine Hcall.out.mono ?_; rintro e w1 ⟨rfl, hr1, hg1⟩)
          go_ret
          exact ⟨rfl, fin.out _ hr1 hg1⟩
        · rw [if_neg hcd]
          obtain ⟨e1, e2, e3⟩ := hf.at hr1'
          refine (ref_write_ok h1 h2 (fun hh => hh.2 rfl) (fun k hk => h4 k hk.1) hl e1 e2 (by omega) (by omega) (by omega) ha hdf (by simpa using hcd)).mono ?_
          rintro e w' ⟨rfl, v, k1, k2, k3⟩
          exact ⟨rfl, hH.made (d' := { d.call with S := d.S.set k (d.at k ++ [fill s]) }) k1 k2 k3⟩

set_option maxRecDepth 100000 in
set_option maxHeartbeats 800000 in
theorem ref_flush (h : RefIn w F b d) (hf : d.Fine N) (hN : N ≤ 1000000) :
    Calls Try.prog 25 #[.pointer (some ⟨b, 0, none⟩)] w fun e w' => e = .returned (.int .i64 d.flush.1) ∧ RefIn w' (Grow F w w') b d.flush.2 ∧ Kept (fun k => k = b) w w' := by
  have hH := h
  obtain ⟨⟨sv, h1, h2⟩, h3, h4⟩ := h
  obtain ⟨c0, -, -, c3, -, -, -, -⟩ := h1.facts
  have hc := hf.calls
  have ha := hf.armed
  have hl := hf.len
  have Hh := Lib.hid hH
  unfold D.flush
  by_cases hdn : d.down = true
  · rw [if_pos hdn]
    rw [hdn] at c3
    clear hf h1 h2 hdn hH
    go_enter Try.func25, Try.ntmps25
    go_wp2_with fail
    go_ret
    exact ⟨rfl, Hh.out.stay⟩
  · rw [if_neg hdn]
    have hdf : d.down = false := by simpa using hdn
    by_cases hcd : d.call.down = true
    · rw [if_pos hcd]
      rw [hdf] at c3
      have hcall := ref_call h1 (by omega) ha
      rw [hcd] at hcall
      have Hcall := Lib.hid hcall
      have fin : Hid (∀ w', RefBlk w' b sv d.call → w.grownBy w' (some b) → RefIn w' (Grow F w w') b d.call ∧ Kept (fun k => k = b) w w') := Lib.hid (fun w' k1 k2 =>
        hH.made k1 ((h2.kept (Kept.ofGrown k2 (F := fun k => k = b) (fun i e => by injection e with e; exact e.symm)) (fun i hi e => hi.2 e)).mono (fun _ h => Or.inl h)) k2)
      clear hcall hf h1 h2 hdn hH hdf hcd
      generalize d.call = dc at *
      go_enter Try.func25, Try.ntmps25
      go_wp2_with (go_at_call 36; with_reducible refine Hcall.out.mono ?_; rintro e w1 ⟨rfl, hr1, hg1⟩)
      go_ret
      exact ⟨rfl, fin.out _ hr1 hg1⟩
    · rw [if_neg hcd]
      refine (ref_flush_loop h1 h2 (fun hh => hh.2 rfl) hl (fun l hl => by have := hf.each l hl; omega) (by omega) ha hdf (by simpa using hcd)).mono ?_
      rintro e w' ⟨rfl, v, k1, k2, k3⟩
      have e1 : flushed d.call.S d.S.length = d.S.map fun l => [last l] := by
        unfold flushed
        rw [show d.call.S = d.S from rfl, List.take_length, List.drop_length, List.append_nil]
      rw [e1] at k1 k2
      exact ⟨rfl, hH.made (d' := { d.call with S := d.S.map fun l => [last l] }) k1 k2 k3⟩

theorem ref_crashes {G : Nat → Prop} {kv : Value} {ks : List Int} (h : RefIn w F b d) (hf : d.Fine N) (hN : N ≤ 1000000) (hk : Cells w G kv (ks.map (Value.int .i64))) (hG : ¬ G b)
    (hkb : ∀ x ∈ ks, -9223372036854775808 ≤ x ∧ x ≤ 9223372036854775807) (hkl : ks.length ≤ 9223372036854775807) :
    Calls Try.prog 17 #[.pointer (some ⟨b, 0, none⟩), kv] w fun e w' => e = .returned (.tuple #[]) ∧ RefIn w' (Grow F w w') b (d.crash ks) ∧ Kept (fun k => k = b) w w' := by
  have hH := h
  obtain ⟨⟨sv, h1, h2⟩, h3, h4⟩ := h
  refine (ref_crash h1 h2 (fun hh => hh.2 rfl) (fun k hk => h4 k hk.1) hf.len (fun l hl => by have := hf.each l hl; omega) hk hG hkb hkl).mono ?_
  rintro e w' ⟨rfl, v, k1, k2, k3⟩
  exact ⟨rfl, hH.made k1 k2 k3⟩

theorem ref_reads (h : RefIn w F b d) (hf : d.Fine N) (hN : N ≤ 1000000) {k : Nat} (hk : k < d.S.length) :
    Calls Try.prog 19 #[.pointer (some ⟨b, 0, none⟩), .int .i64 (k : Int)] w fun e w' => e = .returned (.string (last (d.at k))) ∧ ∃ n, w' = w.drewN n := by
  obtain ⟨⟨sv, h1, h2⟩, h3, h4⟩ := h
  obtain ⟨e1, e2, e3⟩ := hf.at hk
  exact ref_read h1 h2 e1 e2 (by omega)

theorem ref_dirties (h : RefIn w F b d) (hf : d.Fine N) (hN : N ≤ 1000000) :
    Calls Try.prog 15 #[.pointer (some ⟨b, 0, none⟩)] w fun e w' => ∃ v, e = .returned v ∧ NatsAt w d.dirty v w' := by
  obtain ⟨⟨sv, h1, h2⟩, h3, h4⟩ := h
  exact ref_dirty h1 h2 hf.len (fun l hl => by have := hf.each l hl; omega)
end
end Go.Proofs.Ytdagdmfockibfaa
