/- Regions that draw, whose operations only read and whose callees leave all that was there alone: walked once, in the order of the text, in the class 'all that was there is as it was' (Below). No program is spoken of. -/
import Derived.Test.YtnpnjophlajfkaaBase
import Derived.Deep.Quiet
import Derived.Deep.QuietTactic
import Derived.Sort.Grow
namespace Go.Proofs.Ytnpnjophlajfkaa
open Go.RowKit

/-- All that was there is as it was. -/
def InB (w w' : World) : Prop := Below w.heap.size w w'
set_option maxRecDepth 100000 in
theorem InB.refl (w : World) : InB w w := Below.refl _ _
set_option maxRecDepth 100000 in
theorem InB.below {w w' : World} (h : InB w w') : Below w.heap.size w w' := h
set_option maxRecDepth 100000 in
theorem InB.drew {w w' : World} (h : InB w w') : InB w w'.drew := Below.drew h
set_option maxRecDepth 100000 in
theorem InB.trans {a b c : World} (h : InB a b) (k : Below b.heap.size b c) : InB a c := Below.trans h (k.mono h.below.size)

section
variable {P : Program} {ops : Array Oper} {C : World → Prop} {Q : Act → Prop} {o : Oper} {rest : List Oper} {a : Act}

/-- What is asked of the operations that are left, shut (else whoever looks at it unfolds it through all of them). -/
structure WQ (P : Program) (ops : Array Oper) (C : World → Prop) (Q : Act → Prop) (l : List Oper) (a : Act) : Prop where
  out : wpQuiet P ops C Q l a

set_option maxRecDepth 100000 in
theorem wp_region_below {id : Nat} {Q : Exit → Act → World → Prop} {a : Act} {w : World} {l : List Oper} (hm : P.follows .mixedOrders = true) (hB : Region.lexB .any l.toArray = true)
    (h : WQ P l.toArray (InB w) (fun a' => ∀ w', InB w w' → Q .normal a' w') l a) : (Code.region id l.toArray true).wp P Q a w :=
  wp_region_quiet (C := InB w) hm hB ⟨rfl, rfl, rfl, Nat.le_refl _, fun _ _ => rfl⟩ (by simpa using h.out)

set_option maxRecDepth 100000 in
theorem wq_nil (h : Q a) : WQ P ops C Q [] a := ⟨wpQuiet_nil h⟩
set_option maxRecDepth 100000 in
/-- An operation that is passed over. -/
theorem wq_skip (hw : Region.wanted o (yielded ops a.tmps) = false) (k : WQ P ops C Q rest (a.put o.dst undef)) : WQ P ops C Q (o :: rest) a := by
  refine ⟨?_⟩
  unfold wpQuiet
  rw [if_neg (by rw [hw]; decide)]
  exact k.out
set_option maxRecDepth 100000 in
/-- One that yields a value. -/
theorem wq_take {v : Value} (hw : Region.wanted o (yielded ops a.tmps) = true) (h : ∀ w, C w → (execOp a.eval o).run P w = .ok (.value v) w) (k : WQ P ops C Q rest (a.put o.dst v)) : WQ P ops C Q (o :: rest) a := by
  refine ⟨?_⟩
  unfold wpQuiet
  rw [if_pos hw]
  refine ⟨v, fun w hC => ?_, k.out⟩
  unfold Oper.quietAt
  rw [h w hC]
  exact ⟨rfl, rfl⟩
set_option maxRecDepth 100000 in
/-- A call. -/
theorem wq_call {v : Value} {f : FuncId} {args : Array Value} (hw : Region.wanted o (yielded ops a.tmps) = true) (h : ∀ w, C w → (execOp a.eval o).run P w = .ok (.enter f args) w) (hc : ∀ w, C w → Calls P f args w fun e w' => e = .returned v ∧ C w') (k : WQ P ops C Q rest (a.put o.dst v)) : WQ P ops C Q (o :: rest) a := by
  refine ⟨?_⟩
  unfold wpQuiet
  rw [if_pos hw]
  refine ⟨v, fun w hC => ?_, k.out⟩
  unfold Oper.quietAt
  rw [h w hC]
  exact ⟨rfl, hc w hC⟩
end

set_option maxRecDepth 100000 in
/-- A contract, met in a world of the class. -/
theorem inB_calls {P : Program} {f : FuncId} {args : Array Value} {W w : World} {v : Value} (hC : InB W w) (h : Calls P f args w fun e w' => e = .returned v ∧ Below w.heap.size w w') : Calls P f args w fun e w' => e = .returned v ∧ InB W w' :=
  h.mono fun _ _ ⟨he, hb⟩ => ⟨he, hC.trans hb⟩
end Go.Proofs.Ytnpnjophlajfkaa
