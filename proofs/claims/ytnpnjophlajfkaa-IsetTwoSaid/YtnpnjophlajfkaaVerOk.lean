/- What the package vers is to answer to layer 12's laws and those above (VersOk); versions and stamps in memory. -/
import Derived.Test.YtnpnjophlajfkaaVerMath
import Derived.Test.YtnpnjophlajfkaaRowsOwn
import Derived.Test.YtnpnjophlajfkaaFrame
import Derived.Sort.Grow
namespace Go.Proofs.Ytnpnjophlajfkaa
open Go.RowKit

def verV (v : Ver.V) : List Value := [.int .i64 v.by_, .int .i64 v.n]
def stpV (s : Ver.S) : List Value := [.int .i64 s.v.by_, .int .i64 s.v.n, .int .i64 s.time]
def numV (n : Int) : List Value := [.int .i64 n]
abbrev verA (v : Ver.V) : Value := .agg #[.int .i64 v.by_, .int .i64 v.n]
abbrev stpA (s : Ver.S) : Value := .agg #[.int .i64 s.v.by_, .int .i64 s.v.n, .int .i64 s.time]
/-- Versions, stamps, numbers in memory. -/
abbrev Vrs (w : World) (F : Nat → Prop) (v : Value) (l : List Ver.V) : Prop := Rws 2 verV w F v l
abbrev Sts (w : World) (F : Nat → Prop) (v : Value) (l : List Ver.S) : Prop := Rws 3 stpV w F v l
abbrev Nums (w : World) (F : Nat → Prop) (v : Value) (l : List Int) : Prop := Rws 1 numV w F v l

/-- Numbers as a program can hold them. -/
def Ver.I64 (n : Int) : Prop := -9223372036854775808 ≤ n ∧ n ≤ 9223372036854775807
def Ver.Bd (v : Ver.V) : Prop := Ver.I64 v.by_ ∧ Ver.I64 v.n
def Ver.BdS (s : Ver.S) : Prop := Ver.Bd s.v ∧ Ver.I64 s.time
instance (n : Int) : Decidable (Ver.I64 n) := inferInstanceAs (Decidable (_ ∧ _))
instance (v : Ver.V) : Decidable (Ver.Bd v) := inferInstanceAs (Decidable (_ ∧ _))
instance (s : Ver.S) : Decidable (Ver.BdS s) := inferInstanceAs (Decidable (_ ∧ _))
def Ver.next (t : Int) (l : List Int) : Int × Int := if Ver.most t l = 9223372036854775807 then (0, 15) else (Ver.most t l + 1, 0)
/-- What the checks answer. -/
def Ver.checkV (v : Ver.V) : Int := if Ver.Right v then 0 else 2
def Ver.checkS (s : Ver.S) : Int := if Ver.RightS s then 0 else 2
def Ver.zero : Ver.S := ⟨0, 0, 0⟩

set_option maxRecDepth 100000 in
theorem ver_len (v : Ver.V) : (verV v).length = 2 := rfl
set_option maxRecDepth 100000 in
theorem stp_len (s : Ver.S) : (stpV s).length = 3 := rfl
set_option maxRecDepth 100000 in
theorem num_len (n : Int) : (numV n).length = 1 := rfl
set_option maxRecDepth 100000 in
theorem ver_one (v : Ver.V) : ∀ u ∈ verV v, u.oneCell' = true := by
  intro u hu
  unfold verV at hu
  simp only [List.mem_cons, List.not_mem_nil, or_false] at hu
  rcases hu with rfl | rfl <;> rfl
set_option maxRecDepth 100000 in
theorem stp_one (s : Ver.S) : ∀ u ∈ stpV s, u.oneCell' = true := by
  intro u hu
  unfold stpV at hu
  simp only [List.mem_cons, List.not_mem_nil, or_false] at hu
  rcases hu with rfl | rfl | rfl <;> rfl

/-- Only orders were drawn and new blocks laid. -/
def Laid (w w' : World) : Prop := ∃ q os, w' = Sort.grow (w.drewN q) os
set_option maxRecDepth 100000 in
theorem Laid.refl (w : World) : Laid w w := ⟨0, #[], by rw [Sort.grow_empty]; rfl⟩
set_option maxRecDepth 100000 in
theorem Laid.new (w : World) (o : Obj) : Laid w (w.alloc o) := ⟨0, #[o], by rw [Sort.alloc_eq_grow]; rfl⟩
set_option maxRecDepth 100000 in
theorem Laid.trans {a b c : World} (h : Laid a b) (k : Laid b c) : Laid a c := by
  obtain ⟨q, os, rfl⟩ := h
  obtain ⟨q2, os2, rfl⟩ := k
  refine ⟨q + q2, os ++ os2, ?_⟩
  show Sort.grow (Sort.grow ((a.drewN q).drewN q2) os) os2 = _
  rw [Sort.grow_grow, World.drewN_drewN]
set_option maxRecDepth 100000 in
theorem Laid.below {w w' : World} (h : Laid w w') : Below w.heap.size w w' := by
  obtain ⟨q, os, rfl⟩ := h
  exact ⟨rfl, rfl, rfl, by rw [Sort.size_grow]; exact Nat.le_add_right _ _, fun i hi => Sort.heap_grow_old (w.drewN q) os hi⟩

structure VersOk : Prop where
  before : ∀ {w : World} (a b : Ver.V), Calls Try.prog 38 #[verA a, verA b] w fun e w' => e = .returned (.bool (decide (Ver.Before a b))) ∧ Laid w w'
  sort : ∀ {w : World} {F : Nat → Prop} {v : Value} {l : List Ver.V}, Vrs w F v l → l.length ≤ 1000000 → Calls Try.prog 23 #[v] w fun e w' => ∃ v', e = .returned v' ∧ Vrs w' (NewIn w w') v' (Ver.sort l) ∧ Below w.heap.size w w'
section
variable {w : World} {F : Nat → Prop} {b o n cap : Nat}
set_option maxRecDepth 100000 in
theorem Vrs.at {l : List Ver.V} (h : Vrs w F (.slice (some ⟨b, o, none⟩) n cap) l) {i : Nat} {x : Ver.V} (hx : l[i]? = some x) :
    w.cell? ⟨b, o + i * 2, none⟩ = some (.int .i64 x.by_) ∧ w.cell? ⟨b, o + i * 2 + 1, none⟩ = some (.int .i64 x.n) := by
  obtain ⟨A, c, e, -, hat⟩ := h
  injection e with e1 e2 e3
  obtain ⟨b', o', e, -, -, hc⟩ := hat (by obtain ⟨hl, _⟩ := List.getElem?_eq_some_iff.1 hx; omega)
  rw [e] at e1
  injection e1 with e1
  injection e1 with e1 e2
  subst e1 e2
  exact ⟨hc i x hx 0 _ rfl, hc i x hx 1 _ rfl⟩
set_option maxRecDepth 100000 in
theorem Sts.at {l : List Ver.S} (h : Sts w F (.slice (some ⟨b, o, none⟩) n cap) l) {i : Nat} {x : Ver.S} (hx : l[i]? = some x) :
    w.cell? ⟨b, o + i * 3, none⟩ = some (.int .i64 x.v.by_) ∧ w.cell? ⟨b, o + i * 3 + 1, none⟩ = some (.int .i64 x.v.n) ∧ w.cell? ⟨b, o + i * 3 + 2, none⟩ = some (.int .i64 x.time) := by
  obtain ⟨A, c, e, -, hat⟩ := h
  injection e with e1 e2 e3
  obtain ⟨b', o', e, -, -, hc⟩ := hat (by obtain ⟨hl, _⟩ := List.getElem?_eq_some_iff.1 hx; omega)
  rw [e] at e1
  injection e1 with e1
  injection e1 with e1 e2
  subst e1 e2
  exact ⟨hc i x hx 0 _ rfl, hc i x hx 1 _ rfl, hc i x hx 2 _ rfl⟩
set_option maxRecDepth 100000 in
theorem Nums.at {l : List Int} (h : Nums w F (.slice (some ⟨b, o, none⟩) n cap) l) {i : Nat} {x : Int} (hx : l[i]? = some x) : w.cell? ⟨b, o + i, none⟩ = some (.int .i64 x) := by
  obtain ⟨A, c, e, -, hat⟩ := h
  injection e with e1 e2 e3
  obtain ⟨b', o', e, -, -, hc⟩ := hat (by obtain ⟨hl, _⟩ := List.getElem?_eq_some_iff.1 hx; omega)
  rw [e] at e1
  injection e1 with e1
  injection e1 with e1 e2
  subst e1 e2
  have := hc i x hx 0 _ rfl
  rwa [Nat.mul_one, Nat.add_zero] at this
end
end Go.Proofs.Ytnpnjophlajfkaa
