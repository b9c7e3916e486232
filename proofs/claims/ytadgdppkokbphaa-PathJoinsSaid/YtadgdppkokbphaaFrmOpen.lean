/- What came in, opened: a slice of texts. -/
import Derived.Test.YtadgdppkokbphaaFrmOk
import Derived.Deep.Fields
namespace Go.Proofs.Ytadgdppkokbphaa
open Go.ChangeShapes Go.WideShapes Go.ChangeAt Go.RowKit Go.Deep

set_option maxRecDepth 100000 in
theorem Frm.stringCells : Try.prog.cellsOf 9 = 1 := by kernel_rfl

set_option maxRecDepth 100000 in
theorem Frm.in_heap {W : World} {a : Addr} {v : Value} (h : W.cell? a = some v) : a.block < W.heap.size ∧ a.spot = none := by
  refine ⟨World.block_lt_of_cell? W a h, ?_⟩
  exact World.cell?_spot h

set_option maxRecDepth 100000 in
/-- From 'for each index there is one' to a list. -/
theorem Frm.list_of {α : Type} {p : Nat → α → Prop} : ∀ n, (∀ i, i < n → ∃ x, p i x) → ∃ l : List α, l.length = n ∧ ∀ i x, l[i]? = some x → p i x
  | 0, _ => ⟨[], rfl, fun i x h => by simp at h⟩
  | n + 1, h => by
    obtain ⟨l, hl, hp⟩ := Frm.list_of n (fun i hi => h i (by omega))
    obtain ⟨x, hx⟩ := h n (by omega)
    refine ⟨l ++ [x], by simp [hl], fun i y hy => ?_⟩
    by_cases hi : i < n
    · rw [List.getElem?_append_left (by omega)] at hy
      exact hp i y hy
    · have hin : i < (l ++ [x]).length := (List.getElem?_eq_some_iff.1 hy).1
      have : i = n := by simp [hl] at hin; omega
      subst this
      rw [List.getElem?_append_right (by omega), hl, Nat.sub_self] at hy
      simp at hy
      rw [← hy]; exact hx

section
variable {H : Type} {enc : TypeId × Value → H}

set_option maxRecDepth 100000 in
theorem open_texts {W : World} {v : Value} {d : DataW H} {p : List MemPlace} (hv : ∃ a len cap, v = .slice a len cap) (h : DataW.Trod enc Try.prog W 0 (fun _ => true) true 25 v d p) :
    ∃ l : List (List UInt8), Cells W (fun i => i < W.heap.size) v (texts l) ∧ l.length ≤ 9223372036854775807 := by
  obtain ⟨A, len, cap, rfl⟩ := hv
  obtain ⟨fuel, hf⟩ := h
  rcases open_slice Try.underlying25 hf with ⟨hcs, _⟩ | ⟨a, len', cap', m, n', D, Pl, hcs, _, hl, hm, hmm, _, hi⟩
  · simp [Value.cells] at hcs
    obtain ⟨rfl, rfl, rfl⟩ := hcs
    exact ⟨[], Cells.none _ _, by simp⟩
  · simp [Value.cells] at hcs
    obtain ⟨rfl, rfl, rfl⟩ := hcs
    simp at hmm
    unfold maxLen at hm
    have hcell : ∀ i, i < len → ∃ t : List UInt8, W.cell? (a.add i) = some (.string (mk t)) := by
      intro i hil
      obtain ⟨cs', hc, ht⟩ := hi i (by omega)
      rw [Frm.stringCells] at hc
      obtain ⟨x, hx, _, _⟩ := DataW.trod_string Try.underlying9 ht
      obtain ⟨_, _, hat⟩ := World.cells?_some hc
      have h0 := hat 0 (by omega)
      rw [hx, Nat.mul_one, Go.Deep.add_add] at h0
      exact ⟨x.data.toList, by rw [mk_of]; simpa using h0⟩
    obtain ⟨l, hll, hlp⟩ := Frm.list_of len hcell
    refine ⟨l, ⟨some a, cap, by rw [texts_len, hll], by rw [texts_len, hll]; exact hl, fun hpos => ?_⟩, by omega⟩
    rw [texts_len, hll] at hpos
    obtain ⟨x0, h0⟩ := hcell 0 hpos
    have hb := Frm.in_heap h0
    obtain ⟨b, off, spot⟩ := a
    have hs : spot = none := by simpa [Addr.add] using hb.2
    subst hs
    have hb1 : b < W.heap.size := by simpa [Addr.add] using hb.1
    refine ⟨b, off, rfl, hb1, hb1, fun i u hu => ?_⟩
    unfold texts at hu
    rw [List.getElem?_map] at hu
    cases hli : l[i]? with
    | none => rw [hli] at hu; simp at hu
    | some x =>
      rw [hli] at hu
      simp at hu
      rw [← hu, ← Go.WideShapes.add_plain]
      exact hlp i x hli
end
end Go.Proofs.Ytadgdppkokbphaa
