/- 'append([]api.Ver{}, l...)': a copy of the call's own; more behind it. -/
import Derived.Test.YtnpnjophlajfkaaVerPut
set_option linter.unusedVariables false
namespace Go.Proofs.Ytnpnjophlajfkaa
open Go.RowKit

section
variable {ops : Array Oper} {rest : List Oper} {o : Oper} {a : Act} {W : World} {Q : Exit → Act → World → Prop} {F : Nat → Prop} {v xv : Value} {l m : List Ver.V}
set_option maxRecDepth 100000 in
theorem wp_copied (hgd : o.guard = none) (s x : Operand) (ho : o.op = .call { callee := .builtin .append, args := #[s, x], argTypes := #[22, 22] }) (hs : a.eval s = .slice (some ⟨W.heap.size, 0, none⟩) 0 0) (hx : a.eval x = xv)
    (hr : Vrs W F xv l) (hl : l.length ≤ 1000000) (h : ∀ v' w', RowsOwn 24 2 verV W l v' w' → wpList Try.prog ops Q rest (a.put o.dst v') w') : wpList Try.prog ops Q (o :: rest) a (W.alloc (.cells #[] 24)) := by
  obtain ⟨i0, hi0, hz0, hz1, hz2⟩ := ver_parts verInfo
  refine wp_joins (f := verV) (k := 2) hgd s x 22 ho W.heap.size 24 i0 (.agg #[.int .i64 0, .int .i64 0]) 16 Try.underlying22 hi0 hz0 hz1 hz2 rfl (by decide) hs hx
    (World.ownsRow_made W #[] 0 (Nat.le_refl _) (by decide) rfl) (hr.below ((Below.refl _ _).alloc (Nat.le_refl _) _)) (fun _ _ => rfl) (fun x _ => ver_one x) (by unfold maxLen; omega) (by omega) (by simp) ?_
  intro v2 w2 own2 hg2 _
  exact h v2 w2 (RowsOwn.front (l := l) (f := verV) (k := 2) (t := 24) hg2 (by rw [Nat.zero_add, List.nil_append]; simpa using own2))
set_option maxRecDepth 100000 in
theorem wp_added {w : World} (hgd : o.guard = none) (s x : Operand) (ho : o.op = .call { callee := .builtin .append, args := #[s, x], argTypes := #[22, 22] }) (hs : a.eval s = v) (hx : a.eval x = xv)
    (hv : RowsOwn 24 2 verV w l v W) (hr : Vrs W F xv m) (hl : (l ++ m).length ≤ 1000000) (h : ∀ v' w', RowsOwn 24 2 verV w (l ++ m) v' w' → Below w.heap.size W w' → wpList Try.prog ops Q rest (a.put o.dst v') w') : wpList Try.prog ops Q (o :: rest) a W := by
  obtain ⟨i0, hi0, hz0, hz1, hz2⟩ := ver_parts verInfo
  rw [List.length_append] at hl
  refine wp_joins (f := verV) (k := 2) hgd s x 22 ho w.heap.size 24 i0 (.agg #[.int .i64 0, .int .i64 0]) 16 Try.underlying22 hi0 hz0 hz1 hz2 rfl (by decide) hs hx
    hv.1 hr (fun _ _ => rfl) (fun x _ => ver_one x) (by unfold maxLen; omega) (by omega) hv.2.size ?_
  intro v2 w2 own2 hg2 _
  exact h v2 w2 (hv.rest hg2 own2) ((Below.refl _ W).grown hg2 hv.2.size (fun k hk => (hv.1.lt k hk).1))
end
end Go.Proofs.Ytnpnjophlajfkaa
