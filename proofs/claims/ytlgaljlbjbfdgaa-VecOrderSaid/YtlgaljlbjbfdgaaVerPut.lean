/- The document's own Put of layer 12: versions in order, each once, with one more. -/
import Derived.Test.YtlgaljlbjbfdgaaVerRef
import Derived.Test.YtlgaljlbjbfdgaaOwn2
import Derived.Shelf.SlSortCmp.QuietGrown
set_option linter.unusedSimpArgs false
set_option linter.unusedVariables false
namespace Go.Proofs.Ytlgaljlbjbfdgaa
open Go.RowKit Go.Sort

set_option maxRecDepth 100000 in
theorem verInfo : (Try.prog.info? 25).map (fun i => (i.zero, i.size, i.bytes)) = some (some (.agg #[.int .i64 0, .int .i64 0]), 2, 16) := by kernel_rfl
set_option maxRecDepth 100000 in
theorem ver_parts {P : Program} {t : TypeId} {z : Value} {s b : Nat} (h : (P.info? t).map (fun i => (i.zero, i.size, i.bytes)) = some (some z, s, b)) : ∃ i, P.info? t = some i ∧ i.zero = some z ∧ i.size = s ∧ i.bytes = b := by
  cases hi : P.info? t with
  | none => rw [hi] at h; cases h
  | some i =>
    rw [hi] at h
    injection h with h
    injection h with h1 h2
    injection h2 with h2 h3
    exact ⟨i, rfl, h1, h2, h3⟩
set_option maxRecDepth 100000 in
/-- One version, just made. -/
theorem ver_made (W : World) (t : TypeId) (x : Ver.V) : Vrs (W.alloc (.cells #[.int .i64 x.by_, .int .i64 x.n] t)) (fun i => i = W.heap.size) (.slice (some ⟨W.heap.size, 0, none⟩) 1 1) [x] :=
  ⟨some ⟨W.heap.size, 0, none⟩, 1, rfl, Nat.le_refl _, fun _ => ⟨W.heap.size, 0, rfl, rfl, by simp, fun i y hy j u hu => by
    rw [(Row.made W _ _).at]
    match i, hy with
    | 0, hy => (simp at hy; subst hy; match j, hu with
      | 0, hu => simp [verV] at hu; subst hu; rfl
      | 1, hu => simp [verV] at hu; subst hu; rfl)⟩⟩

set_option maxRecDepth 100000 in
theorem cells_grown {w : World} {b o : Nat} {u : Value} (h : w.cell? ⟨b, o, none⟩ = some u) (n : Nat) (os : Array Obj) : (grow (w.drewN n) os).cell? ⟨b, o, none⟩ = some u :=
  cell_grown (World.block_lt_of_cell? w _ h) h n os

end Go.Proofs.Ytlgaljlbjbfdgaa
