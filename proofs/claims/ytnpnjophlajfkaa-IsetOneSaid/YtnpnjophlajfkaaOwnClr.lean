/- A call's own slice: one element written in place, the slice cut to its front, the rest of it cleared. No program is spoken of. -/
import Derived.Test.YtnpnjophlajfkaaRowsOwn
import Derived.Laws.IdiomCopy
import Derived.Laws.OwnMore
import Derived.Lib.SlicesCompact
import Derived.Tactics
namespace Go.Proofs.Ytnpnjophlajfkaa
open Go.RowKit

section
variable {w : World} {base e size n cap g : Nat} {xs : List Value}

set_option maxRecDepth 100000 in
theorem own_front (h : w.ownsRow base e size (.slice (some ⟨g, 0, none⟩) n cap) n xs) {m : Nat} (hm : m ≤ n) : w.ownsRow base e size (.slice (some ⟨g, 0, none⟩) m cap) m (xs.take (m * size)) := by
  have hle : m * size ≤ n * size := Nat.mul_le_mul_right _ hm
  refine ⟨by rw [List.length_take, h.1]; omega, ?_⟩
  rcases h.2 with ⟨h', _⟩ | ⟨g', cap', cur, h', hb, hg, hnc, hcm, hcs, htake⟩
  · simp at h'
  · simp only [Value.slice.injEq, Option.some.injEq, Addr.mk.injEq, and_true, true_and] at h'
    obtain ⟨rfl, rfl⟩ := h'
    refine .inr ⟨g, cap, cur, rfl, hb, hg, Nat.le_trans hm hnc, hcm, hcs, ?_⟩
    rw [← htake, List.take_take, Nat.min_eq_left hle]

set_option maxRecDepth 100000 in
theorem own_beyond (h : w.ownsRow base e size (.slice (some ⟨g, 0, none⟩) n cap) n xs) {j : Nat} (hj : n * size ≤ j) (u : Value) :
    (w.setCell ⟨g, j, none⟩ u).ownsRow base e size (.slice (some ⟨g, 0, none⟩) n cap) n xs ∧ w.grownBy (w.setCell ⟨g, j, none⟩ u) (some g) := by
  have := h.stored j u
  rw [List.set_eq_of_length_le (by rw [h.1]; exact hj)] at this
  exact this

set_option maxRecDepth 100000 in
theorem own_beyonds : ∀ (vs : List Value) (j : Nat) (w : World), w.ownsRow base e size (.slice (some ⟨g, 0, none⟩) n cap) n xs → n * size ≤ j →
    (w.setCells g j vs).ownsRow base e size (.slice (some ⟨g, 0, none⟩) n cap) n xs ∧ w.grownBy (w.setCells g j vs) (some g)
  | [], j, w, h, _ => ⟨h, gb_refl _ _⟩
  | v :: vs, j, w, h, hj => by
    obtain ⟨h1, h2⟩ := own_beyond h hj v
    obtain ⟨h3, h4⟩ := own_beyonds vs (j + 1) _ h1 (by omega)
    exact ⟨h3, gb_trans h2 h4⟩

set_option maxRecDepth 100000 in
/-- clear(s[m:]) of the call's own. -/
theorem own_clear {P : Program} {t : TypeId} {z : Value} (h : w.ownsRow base e size (.slice (some ⟨g, 0, none⟩) n cap) n xs) {m : Nat} (hm : m < n) (ht : P.underlying t = some (.slice e)) (hv : ∀ w, (zeroValue e).run P w = .ok z w) (hz : z.cells.size = size) (h1 : ∀ u ∈ z.cells.toList, u.oneCell' = true) (c : Nat) :
    ∃ w', (∀ ty, (Builtin.clear_ #[t] ty #[.slice (some ⟨g, m * size, none⟩) (n - m) c]).run P w = .ok (.tuple #[]) w') ∧ w'.ownsRow base e size (.slice (some ⟨g, 0, none⟩) m cap) m (xs.take (m * size)) ∧ w.grownBy w' (some g) := by
  have hlen : (Builtin.zeroCells z.cells (n - m)).toList.length = (n - m) * size := by simp [Builtin.zeroCells, hz]
  have hrow : m * size + (n - m) * size = n * size := by rw [← Nat.add_mul]; congr 1; omega
  have hone : ∀ u ∈ (Builtin.zeroCells z.cells (n - m)).toList, u.oneCell' = true := by
    intro u hu
    unfold Builtin.zeroCells at hu
    rw [Array.toList_map, List.mem_map] at hu
    obtain ⟨i, hi, rfl⟩ := hu
    have hi : i < (n - m) * z.cells.size := by simpa using hi
    have hpos : 0 < z.cells.size := by
      rcases Nat.eq_zero_or_pos z.cells.size with h0 | h0
      · rw [h0] at hi; omega
      · exact h0
    have hlt : i % z.cells.size < z.cells.size := Nat.mod_lt _ hpos
    refine h1 _ ?_
    rw [getElem!_pos z.cells _ hlt]
    exact Array.getElem_mem_toList _
  have hst := run_storeCells_cells (P := P) g (m * size) (Builtin.zeroCells z.cells (n - m)).toList 0 w (fun j hj => by
      rw [hlen] at hj
      rw [Nat.add_zero, h.cellAt (m * size + j) (by omega)]
      have : m * size + j < xs.length := by rw [h.1]; omega
      simp [this]) (fun j _ => h.frozenAt _) hone
  rw [Nat.add_zero] at hst
  obtain ⟨r1, r2⟩ := own_beyonds (Builtin.zeroCells z.cells (n - m)).toList (m * size) w (own_front h (Nat.le_of_lt hm)) (Nat.le_refl _)
  refine ⟨_, fun ty => ?_, r1, r2⟩
  obtain ⟨k, hk⟩ : ∃ k, n - m = k + 1 := ⟨n - m - 1, by omega⟩
  rw [hk] at hst ⊢
  simp [Builtin.clear_, run_underlying ht, hv, hst]
end

set_option maxRecDepth 100000 in
theorem getI_of {α : Type} [Inhabited α] {l : List α} {i : Nat} {x : α} (h : l[i]? = some x) : l.toArray[i]! = x := by
  obtain ⟨hl, e⟩ := List.getElem?_eq_some_iff.1 h
  rw [getElem!_pos l.toArray i (by simpa using hl)]
  simpa using e
set_option maxRecDepth 100000 in
theorem getI_to {α : Type} [Inhabited α] (d : Array α) {i : Nat} (h : i < d.size) : d.toList[i]? = some d[i]! := by
  rw [Array.getElem?_toList, Array.getElem?_eq_getElem h, getElem!_pos d i h]
end Go.Proofs.Ytnpnjophlajfkaa
