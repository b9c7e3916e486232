/- A call's own slice of elements of several cells, as the library's sort speaks of it. No program is spoken of. -/
import Derived.Test.YtnpnjophlajfkaaRowsOwn
import Derived.Shelf.GgSortFunc.InsertionK
namespace Go.Proofs.Ytnpnjophlajfkaa
open Go.RowKit Go.Sort

section
variable {α : Type} [Inhabited α] {enc : α → List Value} {k : Nat}

set_option maxRecDepth 100000 in
theorem flat_list (hk : ∀ x, (enc x).length = k) (h0 : 0 < k) (d : Array α) : (flatK enc k d).toList = d.toList.flatMap enc := by
  apply List.ext_getElem?
  intro j
  by_cases hj : j < d.size * k
  · have hq : j / k < d.size := Nat.div_lt_of_lt_mul (by rwa [Nat.mul_comm])
    have hr : j % k < k := Nat.mod_lt _ h0
    have e := get_flatK enc k d j hj
    have hs : j < (flatK enc k d).size := by rw [size_flatK]; exact hj
    rw [Array.getElem?_toList, Array.getElem?_eq_getElem hs, ← getElem!_pos (flatK enc k d) j hs, e]
    have hx : d.toList[j / k]? = some d[j / k]! := by rw [Array.getElem?_toList, Array.getElem?_eq_getElem hq, getElem!_pos d _ hq]
    have hl : j % k < (enc d[j / k]!).length := by rw [hk]; exact hr
    have hu : (enc d[j / k]!)[j % k]? = some (enc d[j / k]!)[j % k]! := by rw [List.getElem?_eq_getElem hl, getElem!_pos (enc d[j / k]!) _ hl]
    have h1 := rows_at d.toList (fun x _ => hk x) (j / k) _ hx (j % k) _ hu
    rw [← h1]
    congr 1
    exact Nat.div_add_mod' j k
  · have h2 := rows_len d.toList (fun x _ => hk x)
    rw [List.getElem?_eq_none (by simp; omega), List.getElem?_eq_none (by rw [h2]; simp; omega)]

set_option maxRecDepth 100000 in
/-- Down: the row holds the elements. -/
theorem own_holds (hk : ∀ x, (enc x).length = k) (h0 : 0 < k) {w : World} {base t n g cap : Nat} {l : List α} (h : w.ownsRow base t k (.slice (some ⟨g, 0, none⟩) n cap) n (l.flatMap enc)) : HoldsK enc k w g 0 l.toArray := by
  intro j hj
  rw [size_flatK] at hj
  have hl : l.length * k = n * k := by rw [← rows_len l (fun x _ => hk x)]; exact h.1
  have hj2 : j < n * k := by rw [← hl]; simpa using hj
  refine ⟨?_, ?_⟩
  · rw [Nat.zero_add, h.cellAt j hj2]
    have hs : j < (flatK enc k l.toArray).size := by rw [size_flatK]; exact hj
    have e : (flatK enc k l.toArray).toList[j]? = some (flatK enc k l.toArray)[j]! := by rw [Array.getElem?_toList, Array.getElem?_eq_getElem hs, getElem!_pos (flatK enc k l.toArray) j hs]
    rw [flat_list hk h0] at e
    exact e
  · rw [Nat.zero_add]
    exact h.frozenAt j

set_option maxRecDepth 100000 in
theorem heap_sortK {w : World} {g n : Nat} {os : Array Obj} {cur : Array Value} {e : TypeId} {fr : Nat × Nat} (d : Array α) (hb : w.heap[g]? = some (.cells cur e fr)) :
    (Go.Proofs.sortWorldK enc k w g 0 n d os).heap[g]? = some (.cells (putCells id 0 (flatK enc k d) cur) e fr) := by
  have hg : g < w.heap.size := (Array.getElem?_eq_some_iff.1 hb).1
  unfold Go.Proofs.sortWorldK putRowK
  rw [heap_grow_old _ _ (by simpa using hg)]
  simp [putRow, mapBlock, Sort.ahead, Array.getElem?_modify, hb, onCells]

set_option maxRecDepth 100000 in
theorem grown_sortK {w : World} {g n : Nat} {os : Array Obj} (d : Array α) : w.grownBy (Go.Proofs.sortWorldK enc k w g 0 n d os) (some g) := by
  unfold Go.Proofs.sortWorldK putRowK
  refine ⟨rfl, rfl, rfl, by simp, fun j hj hne => ?_⟩
  rw [heap_grow_old _ _ (by simpa using hj)]
  have : g ≠ j := fun e => hne (by rw [e])
  simp [putRow, mapBlock, Sort.ahead, Array.getElem?_modify, this]

set_option maxRecDepth 100000 in
theorem take_put (cur F : Array Value) (h : F.size ≤ cur.size) : (putCells id 0 F cur).toList.take F.size = F.toList := by
  apply List.ext_getElem?
  intro j
  by_cases hj : j < F.size
  · rw [List.getElem?_take_of_lt hj, Array.getElem?_toList]
    simp [putCells, hj, show j < cur.size by omega]
  · rw [List.getElem?_take_eq_none (by omega), List.getElem?_eq_none (by simpa using hj)]

set_option maxRecDepth 100000 in
/-- Up: behind the sort the same slice owns what stands in the row. -/
theorem own_sorted (hk : ∀ x, (enc x).length = k) (h0 : 0 < k) {w : World} {base t n m g cap : Nat} {l : List α} {d : Array α} {os : Array Obj} (h : w.ownsRow base t k (.slice (some ⟨g, 0, none⟩) n cap) n (l.flatMap enc)) (hd : d.size = n) :
    (Go.Proofs.sortWorldK enc k w g 0 m d os).ownsRow base t k (.slice (some ⟨g, 0, none⟩) n cap) n (d.toList.flatMap enc) := by
  refine ⟨by rw [rows_len d.toList (fun x _ => hk x)]; simp [hd], ?_⟩
  rcases h.2 with ⟨e, -⟩ | ⟨g2, cap2, cur, e, hb, hg, hc, hm, hs, ht⟩
  · cases e
  · injection e with e1 e2 e3
    injection e1 with e1
    injection e1 with e1
    subst e1 e3
    refine .inr ⟨g, cap, _, rfl, hb, heap_sortK d hg, hc, hm, by simp [putCells, hs], ?_⟩
    have hf : (flatK enc k d).size = n * k := by rw [size_flatK, hd]
    rw [← hf, take_put cur _ (by rw [hf, hs]; exact Nat.mul_le_mul_right _ hc), flat_list hk h0]

set_option maxRecDepth 100000 in
theorem RowsOwn.sorted (hk : ∀ x, (enc x).length = k) (h0 : 0 < k) {w wr : World} {t m g cap : Nat} {l : List α} {d : Array α} {os : Array Obj} (h : RowsOwn t k enc w l (.slice (some ⟨g, 0, none⟩) l.length cap) wr) (hd : d.size = l.length) :
    RowsOwn t k enc w d.toList (.slice (some ⟨g, 0, none⟩) l.length cap) (Go.Proofs.sortWorldK enc k wr g 0 m d os) := by
  have hg := h.1.lt g rfl
  refine ⟨?_, h.2.grown (grown_sortK d) h.2.size (fun j hj => by injection hj with hj; omega)⟩
  have h1 := own_sorted (m := m) (os := os) hk h0 h.1 hd
  have e : d.toList.length = l.length := by simpa using hd
  rw [e]
  exact h1

set_option maxRecDepth 100000 in
theorem perm_list {l : List α} {d : Array α} (h : PermIn 0 l.toArray.size l.toArray d) : d.toList.Perm l ∧ d.size = l.length := by
  obtain ⟨h1, -, h3⟩ := h
  have hs : d.size = l.length := by simpa using h1
  refine ⟨?_, hs⟩
  have e1 : d.extract 0 l.toArray.size = d := by rw [← h1]; exact Array.extract_size
  have e2 : l.toArray.extract 0 l.toArray.size = l.toArray := Array.extract_size
  rw [e1, e2] at h3
  exact h3
end
end Go.Proofs.Ytnpnjophlajfkaa
