/- What came in to layer 12's laws, opened: versions, stamps, numbers, one of them and many. -/
import Derived.Test.YtnpnjophlajfkaaVerOk
import Derived.Test.YtnpnjophlajfkaaFrame
import Derived.Deep.Fields
set_option linter.unusedSimpArgs false
set_option linter.unusedVariables false
namespace Go.Proofs.Ytnpnjophlajfkaa
open Go.ChangeShapes Go.WideShapes Go.ChangeAt Go.RowKit Go.Deep

set_option maxRecDepth 100000 in
theorem Ver.intCells : Try.prog.cellsOf 3 = 1 := by kernel_rfl
set_option maxRecDepth 100000 in
theorem Ver.verCells : Try.prog.cellsOf 24 = 2 := by kernel_rfl
set_option maxRecDepth 100000 in
theorem Ver.in_heap {W : World} {a : Addr} {v : Value} (h : W.cell? a = some v) : a.block < W.heap.size ∧ a.spot = none :=
  ⟨World.block_lt_of_cell? W a h, World.cell?_spot h⟩

set_option maxRecDepth 100000 in
/-- From 'for each index there is one' to a list. -/
theorem Ver.list_of {α : Type} {p : Nat → α → Prop} : ∀ n, (∀ i, i < n → ∃ x, p i x) → ∃ l : List α, l.length = n ∧ ∀ i x, l[i]? = some x → p i x
  | 0, _ => ⟨[], rfl, fun i x h => by simp at h⟩
  | n + 1, h => by
    obtain ⟨l, hl, hp⟩ := Ver.list_of n (fun i hi => h i (by omega))
    obtain ⟨x, hx⟩ := h n (by omega)
    refine ⟨l ++ [x], by simp [hl], fun i y hy => ?_⟩
    by_cases hi : i < n
    · rw [List.getElem?_append_left (by omega)] at hy
      exact hp i y hy
    · have hin : i < (l ++ [x]).length := (List.getElem?_eq_some_iff.1 hy).1
      have : i = n := by simp [hl] at hin; omega
      subst this
      rw [List.getElem?_append_right (by omega), hl, Nat.sub_self] at hy
      simp at hy
      rw [← hy]; exact hx

set_option maxRecDepth 100000 in
/-- Elements that lie one behind the other, as rows. -/
theorem Ver.rows_of {α : Type} {k : Nat} {f : α → List Value} {W : World} {a : Addr} {len cap : Nat} {l : List α} (hk : 0 < k) (hf : ∀ x, (f x).length = k) (hll : l.length = len) (hl : len ≤ cap)
    (h : ∀ i x, l[i]? = some x → ∀ j u, (f x)[j]? = some u → W.cell? (a.add (i * k + j)) = some u) : Rws k f W (fun i => i < W.heap.size) (.slice (some a) len cap) l := by
  refine ⟨some a, cap, by rw [hll], by rw [hll]; exact hl, fun hpos => ?_⟩
  obtain ⟨x0, hx0⟩ : ∃ x, l[0]? = some x := ⟨_, List.getElem?_eq_getElem hpos⟩
  obtain ⟨u0, hu0⟩ : ∃ u, (f x0)[0]? = some u := ⟨_, List.getElem?_eq_getElem (by rw [hf]; exact hk)⟩
  have hb := Ver.in_heap (h 0 x0 hx0 0 u0 hu0)
  obtain ⟨b, off, spot⟩ := a
  have hs : spot = none := by simpa [Addr.add] using hb.2
  subst hs
  have hb1 : b < W.heap.size := by simpa [Addr.add] using hb.1
  refine ⟨b, off, rfl, hb1, hb1, fun i x hx j u hu => ?_⟩
  have := h i x hx j u hu
  rwa [Go.WideShapes.add_plain, ← Nat.add_assoc] at this

section
variable {H : Type} {enc : TypeId × Value → H}

set_option maxRecDepth 100000 in
theorem open_ver2 {W : World} {n : Nat} {cs : List Value} {x : DataW H × List MemPlace} (hl : cs.length = 2) (h : DataW.trod enc Try.prog W 0 (fun _ => true) true n 24 cs = some x) : ∃ v : Ver.V, cs = verV v ∧ Ver.Bd v := by
  obtain ⟨xs, n'', _, _, _, hxs, hfs⟩ := DataW.trod_struct Try.underlying24 h
  match cs, hl with
  | [c0, c1], _ =>
    have hl2 : xs.length = 2 := hxs
    have k0 : DataW.trod enc Try.prog W 0 (fun _ => true) true n'' 3 (([c0, c1].drop 0).take (Try.prog.cellsOf 3)) = xs[0]? := hfs 0 _ rfl
    have k1 : DataW.trod enc Try.prog W 0 (fun _ => true) true n'' 3 (([c0, c1].drop 1).take (Try.prog.cellsOf 3)) = xs[1]? := hfs 1 _ rfl
    rw [Ver.intCells, List.getElem?_eq_getElem (by omega)] at k0 k1
    obtain ⟨x0, e0, _, w0⟩ := DataW.trod_int Try.underlying3 k0
    obtain ⟨x1, e1, _, w1⟩ := DataW.trod_int Try.underlying3 k1
    have e0 : c0 = .int .i64 x0 := by simpa using e0
    have e1 : c1 = .int .i64 x1 := by simpa using e1
    have b0 := bounds_i64 w0
    have b1 := bounds_i64 w1
    exact ⟨⟨x0, x1⟩, by rw [e0, e1]; rfl, by unfold Ver.Bd Ver.I64; simp only; omega⟩

set_option maxRecDepth 100000 in
/-- One version, one stamp that came in. -/
theorem open_ver {W : World} {v : Value} {d : DataW H} {p : List MemPlace} (hv : ∃ cs, v = .agg cs ∧ cs.size = Try.prog.cellsOf 24) (h : DataW.Trod enc Try.prog W 0 (fun _ => true) true 24 v d p) : ∃ x : Ver.V, v = verA x ∧ Ver.Bd x := by
  obtain ⟨cs, rfl, hcs⟩ := hv
  rw [Ver.verCells] at hcs
  obtain ⟨fuel, hf⟩ := h
  obtain ⟨cl⟩ := cs
  obtain ⟨x, e, hx⟩ := open_ver2 (cs := cl) (by simpa using hcs) hf
  exact ⟨x, by rw [e]; rfl, hx⟩
set_option maxRecDepth 100000 in
theorem open_vers {W : World} {v : Value} {d : DataW H} {p : List MemPlace} (hv : ∃ a len cap, v = .slice a len cap) (h : DataW.Trod enc Try.prog W 0 (fun _ => true) true 22 v d p) :
    ∃ l : List Ver.V, Vrs W (fun i => i < W.heap.size) v l ∧ l.length ≤ 9223372036854775807 ∧ ∀ x ∈ l, Ver.Bd x := by
  obtain ⟨A, len, cap, rfl⟩ := hv
  obtain ⟨fuel, hf⟩ := h
  rcases open_slice Try.underlying22 hf with ⟨hcs, _⟩ | ⟨a, len', cap', m, n', D, Pl, hcs, _, hl, hm, hmm, _, hi⟩
  · simp [Value.cells] at hcs
    obtain ⟨rfl, rfl, rfl⟩ := hcs
    exact ⟨[], Rws.none _ _ _, by simp, fun r hr => by cases hr⟩
  · simp [Value.cells] at hcs
    obtain ⟨rfl, rfl, rfl⟩ := hcs
    simp at hmm
    unfold maxLen at hm
    obtain ⟨l, hll, hlp⟩ := Ver.list_of (p := fun i x => (∀ j u, (verV x)[j]? = some u → W.cell? (a.add (i * 2 + j)) = some u) ∧ Ver.Bd x) len (fun i hil => by
      obtain ⟨cs', hc, ht⟩ := hi i (by omega)
      rw [Ver.verCells] at hc
      obtain ⟨_, hcl, hat⟩ := World.cells?_some hc
      obtain ⟨x, e, hx⟩ := open_ver2 hcl ht
      refine ⟨x, fun j u hu => ?_, hx⟩
      have hj : j < 2 := by have := (List.getElem?_eq_some_iff.1 hu).1; rwa [ver_len] at this
      have := hat j hj
      rw [Go.Deep.add_add] at this
      rw [this]
      subst e
      rw [← hu])
    refine ⟨l, Ver.rows_of (by decide) ver_len hll hl (fun i x hx => (hlp i x hx).1), by omega, fun x hx => ?_⟩
    obtain ⟨i, hil, rfl⟩ := List.getElem_of_mem hx
    exact (hlp i _ (List.getElem?_eq_getElem hil)).2

end
end Go.Proofs.Ytnpnjophlajfkaa
