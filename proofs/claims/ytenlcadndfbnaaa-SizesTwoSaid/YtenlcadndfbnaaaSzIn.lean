/- What came in to layer 8's laws, opened: ranges. -/
import Derived.Test.YtenlcadndfbnaaaSzOk
import Derived.Test.YtenlcadndfbnaaaFrame
import Derived.Deep.Fields
set_option linter.unusedSimpArgs false
set_option linter.unusedVariables false
namespace Go.Proofs.Ytenlcadndfbnaaa
open Go.ChangeShapes Go.WideShapes Go.ChangeAt Go.RowKit Go.Deep

set_option maxRecDepth 100000 in
theorem Sz.intCells : Try.prog.cellsOf 3 = 1 := by kernel_rfl
set_option maxRecDepth 100000 in
theorem Sz.rangeCells : Try.prog.cellsOf 29 = 2 := by kernel_rfl

set_option maxRecDepth 100000 in
theorem Sz.in_heap {W : World} {a : Addr} {v : Value} (h : W.cell? a = some v) : a.block < W.heap.size ∧ a.spot = none := by
  refine ⟨World.block_lt_of_cell? W a h, ?_⟩
  exact World.cell?_spot h

set_option maxRecDepth 100000 in
/-- From 'for each index there is one' to a list. -/
theorem Sz.list_of {α : Type} {p : Nat → α → Prop} : ∀ n, (∀ i, i < n → ∃ x, p i x) → ∃ l : List α, l.length = n ∧ ∀ i x, l[i]? = some x → p i x
  | 0, _ => ⟨[], rfl, fun i x h => by simp at h⟩
  | n + 1, h => by
    obtain ⟨l, hl, hp⟩ := Sz.list_of n (fun i hi => h i (by omega))
    obtain ⟨x, hx⟩ := h n (by omega)
    refine ⟨l ++ [x], by simp [hl], fun i y hy => ?_⟩
    by_cases hi : i < n
    · rw [List.getElem?_append_left (by omega)] at hy
      exact hp i y hy
    · have hin : i < (l ++ [x]).length := (List.getElem?_eq_some_iff.1 hy).1
      have : i = n := by simp [hl] at hin; omega
      subst this
      rw [List.getElem?_append_right (by omega), hl, Nat.sub_self] at hy
      simp at hy
      rw [← hy]; exact hx

section
variable {H : Type} {enc : TypeId × Value → H}

set_option maxRecDepth 100000 in
theorem open_rgs {W : World} {c : Value} {n : Nat} {d : DataW H × List MemPlace} (h : DataW.trod enc Try.prog W 0 (fun _ => true) true n 22 [c] = some d) :
    ∃ (A : Option Addr) (len cap : Nat) (l : List Sz.Rg), c = .slice A len cap ∧ Rgs W (fun i => i < W.heap.size) c l ∧ l.length = len ∧ len ≤ cap ∧ len ≤ 9223372036854775807 ∧ ∀ r ∈ l, Bd r := by
  obtain ⟨d, pl⟩ := d
  rcases open_slice Try.underlying22 h with ⟨hcs, _⟩ | ⟨a, len', cap', m, n', D, Pl, hcs, _, hl, hm, hmm, _, hi⟩
  · simp at hcs
    exact ⟨none, 0, 0, [], hcs, by rw [hcs]; exact Rws.none _ _ _, rfl, Nat.le_refl _, by omega, fun r hr => by cases hr⟩
  · simp at hcs
    subst hcs
    simp at hmm
    unfold maxLen at hm
    have hcell : ∀ i, i < len' → ∃ f : Sz.Rg, W.cell? (a.add (i * 2)) = some (.int .i64 f.1) ∧ W.cell? (a.add (i * 2 + 1)) = some (.int .i64 f.2) ∧ Bd f := by
      intro i hil
      obtain ⟨cs', hc, ht⟩ := hi i (by omega)
      rw [Sz.rangeCells] at hc
      obtain ⟨_, hcl, hat⟩ := World.cells?_some hc
      obtain ⟨xs, n'', _, _, _, hxs, hfs⟩ := DataW.trod_struct Try.underlying29 ht
      match cs', hcl with
      | [c0, c1], _ =>
        have hl2 : xs.length = 2 := hxs
        have k0 : DataW.trod enc Try.prog W 0 (fun _ => true) true n'' 3 (([c0, c1].drop 0).take (Try.prog.cellsOf 3)) = xs[0]? := hfs 0 _ rfl
        have k1 : DataW.trod enc Try.prog W 0 (fun _ => true) true n'' 3 (([c0, c1].drop 1).take (Try.prog.cellsOf 3)) = xs[1]? := hfs 1 _ rfl
        rw [Sz.intCells, List.getElem?_eq_getElem (by omega)] at k0 k1
        obtain ⟨x0, e0, _, w0⟩ := DataW.trod_int Try.underlying3 k0
        obtain ⟨x1, e1, _, w1⟩ := DataW.trod_int Try.underlying3 k1
        have e0 : c0 = .int .i64 x0 := by simpa using e0
        have e1 : c1 = .int .i64 x1 := by simpa using e1
        have b0 := bounds_i64 w0
        have b1 := bounds_i64 w1
        refine ⟨(x0, x1), ?_, ?_, by unfold Bd; simp only; omega⟩
        · have := hat 0 (by omega)
          rw [e0, Go.Deep.add_add] at this
          exact this
        · have := hat 1 (by omega)
          rw [e1, Go.Deep.add_add] at this
          exact this
    obtain ⟨l, hll, hlp⟩ := Sz.list_of len' hcell
    refine ⟨some a, len', cap', l, rfl, ⟨some a, cap', by rw [hll], by rw [hll]; exact hl, fun hpos => ?_⟩, hll, hl, by omega, fun r hr => ?_⟩
    · rw [hll] at hpos
      obtain ⟨x0, h0, _⟩ := hcell 0 hpos
      have hb := Sz.in_heap h0
      obtain ⟨b, off, spot⟩ := a
      have hs : spot = none := by simpa [Addr.add] using hb.2
      subst hs
      have hb1 : b < W.heap.size := by simpa [Addr.add] using hb.1
      refine ⟨b, off, rfl, hb1, hb1, fun i x hx j u hu => ?_⟩
      obtain ⟨q0, q1, _⟩ := hlp i x hx
      rw [Go.WideShapes.add_plain] at q0 q1
      match j, hu with
      | 0, hu => simp [rgV] at hu; subst hu; exact q0
      | 1, hu => simp [rgV] at hu; subst hu; rw [← Nat.add_assoc] at q1; exact q1
    · obtain ⟨i, hil, rfl⟩ := List.getElem_of_mem hr
      exact (hlp i _ (List.getElem?_eq_getElem hil)).2.2

set_option maxRecDepth 100000 in
/-- The same, of a value that came in whole. -/
theorem open_ranges {W : World} {v : Value} {d : DataW H} {p : List MemPlace} (h : DataW.Trod enc Try.prog W 0 (fun _ => true) true 22 v d p) (hv : ∃ a len cap, v = .slice a len cap) :
    ∃ (A : Option Addr) (len cap : Nat) (l : List Sz.Rg), v = .slice A len cap ∧ Rgs W (fun i => i < W.heap.size) v l ∧ l.length = len ∧ len ≤ cap ∧ len ≤ 9223372036854775807 ∧ ∀ r ∈ l, Bd r := by
  obtain ⟨A, len, cap, rfl⟩ := hv
  obtain ⟨fuel, hf⟩ := h
  exact open_rgs (by simpa [Value.cells] using hf)

set_option maxRecDepth 100000 in
theorem open_rgl {W : World} {v : Value} {d : DataW H} {p : List MemPlace} (hv : ∃ a len cap, v = .slice a len cap) (h : DataW.Trod enc Try.prog W 0 (fun _ => true) true 22 v d p) :
    ∃ l : List Sz.Rg, Rgs W (fun i => i < W.heap.size) v l ∧ l.length ≤ 9223372036854775807 ∧ ∀ r ∈ l, Bd r := by
  obtain ⟨A, len, cap, l, _, h1, h2, _, h4, h5⟩ := open_ranges h hv
  exact ⟨l, h1, by omega, h5⟩
end
end Go.Proofs.Ytenlcadndfbnaaa
