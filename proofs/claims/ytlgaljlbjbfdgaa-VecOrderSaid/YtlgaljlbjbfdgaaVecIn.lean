/- What came in to layer 13's laws, opened: a vector, the record of four. -/
import Derived.Test.YtlgaljlbjbfdgaaVecOk
import Derived.Test.YtlgaljlbjbfdgaaVerIn
set_option linter.unusedSimpArgs false
set_option linter.unusedVariables false
namespace Go.Proofs.Ytlgaljlbjbfdgaa
open Go.ChangeShapes Go.WideShapes Go.ChangeAt Go.RowKit Go.Deep

set_option maxRecDepth 100000 in
theorem Vec.vecCells : Try.prog.cellsOf 23 = 65 := by kernel_rfl
set_option maxRecDepth 100000 in
theorem Vec.fourCells : Try.prog.cellsOf 37 = 70 := by kernel_rfl
set_option maxRecDepth 100000 in
theorem Vec.versCells : Try.prog.cellsOf 27 = 1 := by kernel_rfl

section
variable {H : Type} {enc : TypeId × Value → H}

set_option maxRecDepth 100000 in
theorem open_vec65 {W : World} {n : Nat} {cs : List Value} {x : DataW H × List MemPlace} (hl : cs.length = 65) (h : DataW.trod enc Try.prog W 0 (fun _ => true) true n 23 cs = some x) : ∃ v : List Int, cs = vecL v ∧ v.length = 65 ∧ ∀ n ∈ v, Ver.I64 n := by
  obtain ⟨xs, m, _, _, _, hxl, hel⟩ := DataW.trod_array Try.underlying23 h
  have hi : ∀ i, i < 65 → ∃ n : Int, cs[i]? = some (.int .i64 n) ∧ Ver.I64 n := by
    intro i hi
    have k := hel i hi
    rw [Ver.intCells, Nat.mul_one, List.getElem?_eq_getElem (by omega)] at k
    have e : (cs.drop i).take 1 = [cs[i]'(by omega)] := by
      rw [List.take_one, List.head?_drop, List.getElem?_eq_getElem (by omega)]; rfl
    rw [e] at k
    obtain ⟨x0, e0, _, w0⟩ := DataW.trod_int Try.underlying3 k
    have b0 := bounds_i64 w0
    refine ⟨x0, ?_, by unfold Ver.I64; omega⟩
    rw [List.getElem?_eq_getElem (by omega)]
    congr 1
    simpa using e0
  obtain ⟨l, hll, hlp⟩ := Ver.list_of (p := fun i (n : Int) => cs[i]? = some (.int .i64 n) ∧ Ver.I64 n) 65 hi
  refine ⟨l, ?_, hll, fun n hn => by
    obtain ⟨i, hi, rfl⟩ := List.getElem_of_mem hn
    exact (hlp i _ (List.getElem?_eq_getElem hi)).2⟩
  apply List.ext_getElem?
  intro i
  by_cases hlt : i < 65
  · obtain ⟨y, hy⟩ : ∃ y, l[i]? = some y := ⟨_, List.getElem?_eq_getElem (by omega)⟩
    rw [(hlp i y hy).1]
    unfold vecL
    rw [List.getElem?_map, hy]; rfl
  · rw [List.getElem?_eq_none (by omega), List.getElem?_eq_none (by rw [vecL_len]; omega)]

set_option maxRecDepth 100000 in
/-- One vector that came in. -/
theorem open_vec {W : World} {base : Nat} {v : Value} {d : DataW H} {p : List MemPlace} (hv : Value.okWide Try.prog W .any base 23 v) (h : DataW.Trod enc Try.prog W 0 (fun _ => true) true 23 v d p) : ∃ x : List Int, v = vecA x ∧ x.length = 65 ∧ ∀ n ∈ x, Ver.I64 n := by
  have hu := Try.underlying23
  simp only [Value.okWide, hu] at hv
  obtain ⟨cs, rfl, hcs, _⟩ := hv
  rw [Vec.vecCells] at hcs
  obtain ⟨fuel, hf⟩ := h
  obtain ⟨cl⟩ := cs
  obtain ⟨x, e, hx⟩ := open_vec65 (cs := cl) (by simpa using hcs) hf
  exact ⟨x, by rw [e]; rfl, hx⟩

set_option maxRecDepth 100000 in
/-- Versions, as a cell among others. -/
theorem open_vers1 {W : World} {c : Value} {n : Nat} {d : DataW H × List MemPlace} (h : DataW.trod enc Try.prog W 0 (fun _ => true) true n 27 [c] = some d) :
    ∃ l : List Ver.V, Vrs W (fun i => i < W.heap.size) c l ∧ l.length ≤ 9223372036854775807 ∧ ∀ x ∈ l, Ver.Bd x := by
  obtain ⟨d, pl⟩ := d
  have hs : ∃ a len cap, c = .slice a len cap := by
    rcases open_slice Try.underlying27 h with ⟨hcs, _⟩ | ⟨a, len', cap', m, n', D, Pl, hcs, _, hl, hm, hmm, _, hi⟩
    · simp at hcs; exact ⟨_, _, _, hcs⟩
    · simp at hcs; exact ⟨_, _, _, hcs⟩
  obtain ⟨a, len, cap, rfl⟩ := hs
  exact open_vers ⟨a, len, cap, rfl⟩ ⟨n, h⟩

set_option maxRecDepth 100000 in
/-- The record of four. -/
theorem open_four {W : World} {v : Value} {d : DataW H} {p : List MemPlace} (hv : ∃ cs, v = .agg cs ∧ cs.size = Try.prog.cellsOf 37) (h : DataW.Trod enc Try.prog W 0 (fun _ => true) true 37 v d p) :
    ∃ (s : Value) (l : List Ver.V) (u : List Int) (x y : Ver.V), v = .agg (s :: (vecL u ++ (verV x ++ verV y))).toArray ∧ u.length = 65 ∧ (∀ n ∈ u, Ver.I64 n) ∧ Vrs W (fun i => i < W.heap.size) s l ∧ l.length ≤ 9223372036854775807 ∧ (∀ x ∈ l, Ver.Bd x) ∧ Ver.Bd x ∧ Ver.Bd y := by
  obtain ⟨cs, rfl, hcs⟩ := hv
  rw [Vec.fourCells] at hcs
  obtain ⟨fuel, hf⟩ := h
  obtain ⟨cl⟩ := cs
  have hl : cl.length = 70 := by simpa using hcs
  obtain ⟨xs, n'', _, _, _, hxs, hfs⟩ := DataW.trod_struct Try.underlying37 hf
  have hl4 : xs.length = 4 := hxs
  have k0 : DataW.trod enc Try.prog W 0 (fun _ => true) true n'' 27 ((cl.drop 0).take (Try.prog.cellsOf 27)) = xs[0]? := hfs 0 _ rfl
  have k1 : DataW.trod enc Try.prog W 0 (fun _ => true) true n'' 23 ((cl.drop 1).take (Try.prog.cellsOf 23)) = xs[1]? := hfs 1 _ rfl
  have k2 : DataW.trod enc Try.prog W 0 (fun _ => true) true n'' 25 ((cl.drop 66).take (Try.prog.cellsOf 25)) = xs[2]? := hfs 2 _ rfl
  have k3 : DataW.trod enc Try.prog W 0 (fun _ => true) true n'' 25 ((cl.drop 68).take (Try.prog.cellsOf 25)) = xs[3]? := hfs 3 _ rfl
  rw [Vec.versCells, List.getElem?_eq_getElem (by omega)] at k0
  rw [Vec.vecCells, List.getElem?_eq_getElem (by omega)] at k1
  rw [Ver.verCells, List.getElem?_eq_getElem (by omega)] at k2 k3
  have e0 : (cl.drop 0).take 1 = [cl[0]'(by omega)] := by
    rw [List.take_one, List.head?_drop, List.getElem?_eq_getElem (by omega)]; rfl
  rw [e0] at k0
  obtain ⟨l, q1, q2, q3⟩ := open_vers1 k0
  obtain ⟨u, q4, q5, q5b⟩ := open_vec65 (by rw [List.length_take, List.length_drop]; omega) k1
  obtain ⟨x, q6, q7⟩ := open_ver2 (by rw [List.length_take, List.length_drop]; omega) k2
  obtain ⟨y, q8, q9⟩ := open_ver2 (by rw [List.length_take, List.length_drop]; omega) k3
  refine ⟨cl[0]'(by omega), l, u, x, y, ?_, q5, q5b, q1, q2, q3, q7, q9⟩
  congr 2
  rw [← q4, ← q6, ← q8]
  have e3 : (cl.drop 68).take 2 = cl.drop 68 := List.take_of_length_le (by rw [List.length_drop]; omega)
  rw [e3]
  have e2 : (cl.drop 66).take 2 ++ cl.drop 68 = cl.drop 66 := by
    rw [show cl.drop 68 = (cl.drop 66).drop 2 by rw [List.drop_drop], List.take_append_drop]
  rw [e2]
  have e1 : (cl.drop 1).take 65 ++ cl.drop 66 = cl.drop 1 := by
    rw [show cl.drop 66 = (cl.drop 1).drop 65 by rw [List.drop_drop], List.take_append_drop]
  rw [e1]
  cases cl with
  | nil => simp at hl
  | cons a r => rfl
end
end Go.Proofs.Ytlgaljlbjbfdgaa
