/- What came in, opened: a slice of acts, a slice of ints. -/
import Derived.Test.YtdagdmfockibfaaFrame
import Derived.Test.YtdagdmfockibfaaDiskDo
import Derived.Deep.Slices
import Derived.Deep.Fields
namespace Go.Proofs.Ytdagdmfockibfaa
open Go.ChangeShapes Go.WideShapes Go.ChangeAt Go.RowKit Go.Deep

theorem actCells : Try.prog.cellsOf 34 = 5 := by kernel_rfl
theorem intCells : Try.prog.cellsOf 3 = 1 := by kernel_rfl
theorem stringCells : Try.prog.cellsOf 9 = 1 := by kernel_rfl
theorem intsCells : Try.prog.cellsOf 32 = 1 := by kernel_rfl

theorem in_heap {W : World} {a : Addr} {v : Value} (h : W.cell? a = some v) : a.block < W.heap.size ∧ a.spot = none := by
  refine ⟨World.block_lt_of_cell? W a h, ?_⟩
  exact World.cell?_spot h

/-- From 'for each index there is one' to a list. -/
theorem list_of {α : Type} {p : Nat → α → Prop} : ∀ n, (∀ i, i < n → ∃ x, p i x) → ∃ l : List α, l.length = n ∧ ∀ i x, l[i]? = some x → p i x
  | 0, _ => ⟨[], rfl, fun i x h => by simp at h⟩
  | n + 1, h => by
    obtain ⟨l, hl, hp⟩ := list_of n (fun i hi => h i (by omega))
    obtain ⟨x, hx⟩ := h n (by omega)
    refine ⟨l ++ [x], by simp [hl], fun i y hy => ?_⟩
    by_cases hi : i < n
    · rw [List.getElem?_append_left (by omega)] at hy
      exact hp i y hy
    · have hin : i < (l ++ [x]).length := (List.getElem?_eq_some_iff.1 hy).1
      have : i = n := by simp [hl] at hin; omega
      subst this
      rw [List.getElem?_append_right (by omega), hl, Nat.sub_self] at hy
      simp at hy
      rw [← hy]; exact hx

/-- A slice of elements of k cells each that came in: an address for each element, and what its cells hold. -/
def ActsIn (W : World) (A : Option Addr) (len : Nat) (l : List Ac) : Prop :=
  l.length = len ∧ (∀ a ∈ l, a.Ok W) ∧ (0 < len → ∃ b off, A = some ⟨b, off, none⟩ ∧ b < W.heap.size ∧
    ∀ i a, l[i]? = some a → W.cell? ⟨b, off + i * 5, none⟩ = some (.int .i64 a.kind) ∧ W.cell? ⟨b, off + i * 5 + 1, none⟩ = some (.int .i64 a.i) ∧ W.cell? ⟨b, off + i * 5 + 2, none⟩ = some (.int .i64 a.n) ∧ W.cell? ⟨b, off + i * 5 + 3, none⟩ = some (.string a.s) ∧ W.cell? ⟨b, off + i * 5 + 4, none⟩ = some (.slice a.kA a.kn a.kc))

section
variable {H : Type} {enc : TypeId × Value → H}

theorem open_ints64 {W : World} {c : Value} {n : Nat} {d : DataW H × List MemPlace} (h : DataW.trod enc Try.prog W 0 (fun _ => true) true n 32 [c] = some d) :
    ∃ A len cap ks, c = .slice A len cap ∧ Cells W (fun i => i < W.heap.size) c (ks.map (Value.int .i64)) ∧ Ints64 ks ∧ ks.length = len := by
  obtain ⟨d, pl⟩ := d
  rcases open_slice Try.underlying32 h with ⟨hcs, _⟩ | ⟨a, len', cap', m, n', D, Pl, hcs, _, hl, hm, hmm, _, hi⟩
  · simp at hcs
    exact ⟨none, 0, 0, [], hcs, by rw [hcs]; exact Cells.none _ _, ⟨by simp, by simp⟩, rfl⟩
  · simp at hcs
    subst hcs
    simp at hmm
    unfold maxLen at hm
    have hcell : ∀ i, i < len' → ∃ x : Int, W.cell? (a.add i) = some (.int .i64 x) ∧ -9223372036854775808 ≤ x ∧ x ≤ 9223372036854775807 := by
      intro i hil
      obtain ⟨cs', hc, ht⟩ := hi i (by omega)
      rw [intCells] at hc
      obtain ⟨x, hx, _, hwx⟩ := DataW.trod_int Try.underlying3 ht
      obtain ⟨_, _, hat⟩ := World.cells?_some hc
      have h0 := hat 0 (by omega)
      rw [hx, Nat.mul_one, Go.Deep.add_add] at h0
      have bx := bounds_i64 hwx
      exact ⟨x, by simpa using h0, by omega, by omega⟩
    obtain ⟨l, hll, hlp⟩ := list_of len' hcell
    refine ⟨some a, len', cap', l, rfl, ⟨some a, cap', by rw [List.length_map, hll], by rw [List.length_map, hll]; exact hl, fun hpos => ?_⟩, ⟨fun x hx => ?_, by omega⟩, hll⟩
    · rw [List.length_map, hll] at hpos
      obtain ⟨x0, h0, _⟩ := hcell 0 hpos
      have hb := in_heap h0
      obtain ⟨b, off, spot⟩ := a
      have hs : spot = none := by simpa [Addr.add] using hb.2
      subst hs
      have hb1 : b < W.heap.size := by simpa [Addr.add] using hb.1
      refine ⟨b, off, rfl, hb1, hb1, fun i u hu => ?_⟩
      rw [List.getElem?_map] at hu
      cases hli : l[i]? with
      | none => rw [hli] at hu; simp at hu
      | some x =>
        rw [hli] at hu
        simp at hu
        rw [← hu, ← Go.WideShapes.add_plain]
        exact (hlp i x hli).1
    · obtain ⟨i, hil, rfl⟩ := List.getElem_of_mem hx
      exact (hlp i _ (List.getElem?_eq_getElem hil)).2

theorem open_ints {W : World} {v : Value} {d : DataW H} {p : List MemPlace} (hv : ∃ a len cap, v = .slice a len cap) (h : DataW.Trod enc Try.prog W 0 (fun _ => true) true 32 v d p) :
    ∃ A len cap ks, v = .slice A len cap ∧ Cells W (fun i => i < W.heap.size) v (ks.map (Value.int .i64)) ∧ Ints64 ks ∧ ks.length = len := by
  obtain ⟨A, len, cap, rfl⟩ := hv
  obtain ⟨fuel, hf⟩ := h
  exact open_ints64 hf

theorem open_acts {W : World} {v : Value} {d : DataW H} {p : List MemPlace} (hv : ∃ a len cap, v = .slice a len cap) (h : DataW.Trod enc Try.prog W 0 (fun _ => true) true 22 v d p) :
    ∃ A len cap l, v = .slice A len cap ∧ len ≤ cap ∧ len ≤ 9223372036854775807 ∧ ActsIn W A len l := by
  obtain ⟨A, len, cap, rfl⟩ := hv
  obtain ⟨fuel, hf⟩ := h
  rcases open_slice Try.underlying22 hf with ⟨hcs, _⟩ | ⟨a, len', cap', m, n, D, Pl, hcs, _, hl, hm, hmm, _, hi⟩
  · simp [Value.cells] at hcs
    obtain ⟨rfl, rfl, rfl⟩ := hcs
    exact ⟨none, 0, 0, [], rfl, Nat.le_refl _, by omega, rfl, (fun a ha => by cases ha), fun h => absurd h (by omega)⟩
  · simp [Value.cells] at hcs
    obtain ⟨rfl, rfl, rfl⟩ := hcs
    simp at hmm
    unfold maxLen at hm
    have hcell : ∀ i, i < len → ∃ f : Ac, (W.cell? (a.add (i * 5)) = some (.int .i64 f.kind) ∧ W.cell? (a.add (i * 5 + 1)) = some (.int .i64 f.i) ∧ W.cell? (a.add (i * 5 + 2)) = some (.int .i64 f.n) ∧ W.cell? (a.add (i * 5 + 3)) = some (.string f.s) ∧
        W.cell? (a.add (i * 5 + 4)) = some (.slice f.kA f.kn f.kc)) ∧ f.Ok W := by
      intro i hil
      obtain ⟨cs', hc, ht⟩ := hi i (by omega)
      rw [actCells] at hc
      obtain ⟨_, hcl, hat⟩ := World.cells?_some hc
      obtain ⟨xs, n', _, _, _, hxs, hfs⟩ := DataW.trod_struct Try.underlying34 ht
      match cs', hcl with
      | [c0, c1, c2, c3, c4], _ =>
        have hl3 : xs.length = 5 := hxs
        have k0 : DataW.trod enc Try.prog W 0 (fun _ => true) true n' 3 (([c0, c1, c2, c3, c4].drop 0).take (Try.prog.cellsOf 3)) = xs[0]? := hfs 0 _ rfl
        have k1 : DataW.trod enc Try.prog W 0 (fun _ => true) true n' 3 (([c0, c1, c2, c3, c4].drop 1).take (Try.prog.cellsOf 3)) = xs[1]? := hfs 1 _ rfl
        have k2 : DataW.trod enc Try.prog W 0 (fun _ => true) true n' 3 (([c0, c1, c2, c3, c4].drop 2).take (Try.prog.cellsOf 3)) = xs[2]? := hfs 2 _ rfl
        have k3 : DataW.trod enc Try.prog W 0 (fun _ => true) true n' 9 (([c0, c1, c2, c3, c4].drop 3).take (Try.prog.cellsOf 9)) = xs[3]? := hfs 3 _ rfl
        have k4 : DataW.trod enc Try.prog W 0 (fun _ => true) true n' 32 (([c0, c1, c2, c3, c4].drop 4).take (Try.prog.cellsOf 32)) = xs[4]? := hfs 4 _ rfl
        rw [intCells, List.getElem?_eq_getElem (by omega)] at k0 k1 k2
        rw [stringCells, List.getElem?_eq_getElem (by omega)] at k3
        rw [intsCells, List.getElem?_eq_getElem (by omega)] at k4
        obtain ⟨x0, e0, _, w0⟩ := DataW.trod_int Try.underlying3 k0
        obtain ⟨x1, e1, _, w1⟩ := DataW.trod_int Try.underlying3 k1
        obtain ⟨x2, e2, _, w2⟩ := DataW.trod_int Try.underlying3 k2
        obtain ⟨x3, e3, _, w3⟩ := DataW.trod_string Try.underlying9 k3
        obtain ⟨kA, kn, kc, ks, e4, q1, q2, q3⟩ := open_ints64 (c := c4) k4
        have e0 : c0 = .int .i64 x0 := by simpa using e0
        have e1 : c1 = .int .i64 x1 := by simpa using e1
        have e2 : c2 = .int .i64 x2 := by simpa using e2
        have e3 : c3 = .string x3 := by simpa using e3
        have b1 := bounds_i64 w1
        have b2 := bounds_i64 w2
        unfold maxLen at w3
        rw [e4] at q1
        refine ⟨⟨x0, x1, x2, x3, kA, kn, kc, ks⟩, ⟨?_, ?_, ?_, ?_, ?_⟩, ⟨q1, q2, by show -9223372036854775808 ≤ x1; omega, by show x1 ≤ 9223372036854775807; omega, by show -9223372036854775808 ≤ x2; omega, by show x2 ≤ 9223372036854775807; omega, by show x3.size ≤ 9223372036854775807; omega⟩⟩
        · have := hat 0 (by omega)
          rw [e0, Go.Deep.add_add] at this
          exact this
        · have := hat 1 (by omega)
          rw [e1, Go.Deep.add_add] at this
          exact this
        · have := hat 2 (by omega)
          rw [e2, Go.Deep.add_add] at this
          exact this
        · have := hat 3 (by omega)
          rw [e3, Go.Deep.add_add] at this
          exact this
        · have := hat 4 (by omega)
          rw [e4, Go.Deep.add_add] at this
          exact this
    obtain ⟨fs, hfl, hfp⟩ := list_of len hcell
    refine ⟨some a, len, cap, fs, rfl, hl, by omega, hfl, fun f hf => ?_, fun hpos => ?_⟩
    · obtain ⟨i, hil, rfl⟩ := List.getElem_of_mem hf
      exact (hfp i _ (List.getElem?_eq_getElem hil)).2
    · obtain ⟨f0, h0, _⟩ := hcell 0 hpos
      have hb := in_heap h0.1
      obtain ⟨b, off, spot⟩ := a
      have hs : spot = none := by simpa [Addr.add] using hb.2
      subst hs
      refine ⟨b, off, rfl, by simpa [Addr.add] using hb.1, fun i f hf => ?_⟩
      have := (hfp i f hf).1
      rw [Go.WideShapes.add_plain, Go.WideShapes.add_plain, Go.WideShapes.add_plain, Go.WideShapes.add_plain, Go.WideShapes.add_plain] at this
      simp only [← Nat.add_assoc] at this
      exact this
end
end Go.Proofs.Ytdagdmfockibfaa
