/- What the package sizes is to answer to layer 8's laws and those above (SizesOk); ranges in memory. -/
import Derived.Test.YtenlcadndfbnaaaSzMath
import Derived.Test.YtenlcadndfbnaaaRws
import Derived.Test.YtenlcadndfbnaaaFrmRef
namespace Go.Proofs.Ytenlcadndfbnaaa
open Go.RowKit

def rgV (r : Sz.Rg) : List Value := [.int .i64 r.1, .int .i64 r.2]
/-- Ranges in memory. -/
abbrev Rgs (w : World) (F : Nat → Prop) (v : Value) (l : List Sz.Rg) : Prop := Rws 2 rgV w F v l
/-- Numbers as a program can hold them. -/
def Bd (r : Sz.Rg) : Prop := -9223372036854775808 ≤ r.1 ∧ r.1 ≤ 9223372036854775807 ∧ -9223372036854775808 ≤ r.2 ∧ r.2 ≤ 9223372036854775807

set_option maxRecDepth 100000 in
theorem rg_len (r : Sz.Rg) : (rgV r).length = 2 := rfl
set_option maxRecDepth 100000 in
theorem rg_one (r : Sz.Rg) : ∀ u ∈ rgV r, u.oneCell' = true := by
  intro u hu
  unfold rgV at hu
  simp only [List.mem_cons, List.not_mem_nil, or_false] at hu
  rcases hu with rfl | rfl <;> rfl

structure SizesOk : Prop where
  norm : ∀ {w : World} {F : Nat → Prop} {v : Value} {l : List Sz.Rg}, Rgs w F v l → l.length ≤ 100000 → (∀ r ∈ l, Bd r) → Calls Try.prog 7 #[v] w fun e w' => ∃ v', e = .returned v' ∧ Rgs w' (NewIn w w') v' (Sz.norm l) ∧ Below w.heap.size w w'
  holds : ∀ {w : World} {F : Nat → Prop} {v : Value} {l : List Sz.Rg} (n : Int), Rgs w F v l → l.length ≤ 100000 → (∀ r ∈ l, Bd r) → -9223372036854775808 ≤ n → n ≤ 9223372036854775807 → Calls Try.prog 12 #[v, .int .i64 n] w fun e w' => e = .returned (.bool (Sz.holds l n)) ∧ Below w.heap.size w w'
  join : ∀ {w : World} {F G : Nat → Prop} {u v : Value} {a b : List Sz.Rg}, Rgs w F u a → Rgs w G v b → a.length ≤ 100000 → b.length ≤ 100000 → (∀ r ∈ a, Bd r) → (∀ r ∈ b, Bd r) → Calls Try.prog 15 #[u, v] w fun e w' => ∃ v', e = .returned v' ∧ Rgs w' (NewIn w w') v' (Sz.two 0 a b) ∧ Below w.heap.size w w'
  meet : ∀ {w : World} {F G : Nat → Prop} {u v : Value} {a b : List Sz.Rg}, Rgs w F u a → Rgs w G v b → a.length ≤ 100000 → b.length ≤ 100000 → (∀ r ∈ a, Bd r) → (∀ r ∈ b, Bd r) → Calls Try.prog 17 #[u, v] w fun e w' => ∃ v', e = .returned v' ∧ Rgs w' (NewIn w w') v' (Sz.two 1 a b) ∧ Below w.heap.size w w'
  minus : ∀ {w : World} {F G : Nat → Prop} {u v : Value} {a b : List Sz.Rg}, Rgs w F u a → Rgs w G v b → a.length ≤ 100000 → b.length ≤ 100000 → (∀ r ∈ a, Bd r) → (∀ r ∈ b, Bd r) → Calls Try.prog 18 #[u, v] w fun e w' => ∃ v', e = .returned v' ∧ Rgs w' (NewIn w w') v' (Sz.two 2 a b) ∧ Below w.heap.size w w'
  covers : ∀ {w : World} {F G : Nat → Prop} {u v : Value} {a b : List Sz.Rg}, Rgs w F u a → Rgs w G v b → a.length ≤ 100000 → b.length ≤ 100000 → (∀ r ∈ a, Bd r) → (∀ r ∈ b, Bd r) → Calls Try.prog 19 #[u, v] w fun e w' => e = .returned (.bool (decide (Sz.Covers a b))) ∧ Below w.heap.size w w'
  same : ∀ {w : World} {F G : Nat → Prop} {u v : Value} {a b : List Sz.Rg}, Rgs w F u a → Rgs w G v b → a.length ≤ 100000 → b.length ≤ 100000 → (∀ r ∈ a, Bd r) → (∀ r ∈ b, Bd r) → Calls Try.prog 20 #[u, v] w fun e w' => e = .returned (.bool (decide (Sz.Covers a b ∧ Sz.Covers b a))) ∧ Below w.heap.size w w'
  many : ∀ {w : World} {F : Nat → Prop} {v : Value} {l : List Sz.Rg}, Rgs w F v l → l.length ≤ 100000 → (∀ r ∈ l, Bd r) → Calls Try.prog 14 #[v] w fun e w' => e = .returned (.int .i64 (Sz.many l : Int)) ∧ Below w.heap.size w w'

set_option maxRecDepth 100000 in
theorem Rgs.at {w : World} {F : Nat → Prop} {b o : Nat} {n cap : Nat} {l : List Sz.Rg} (h : Rgs w F (.slice (some ⟨b, o, none⟩) n cap) l) {i : Nat} {x : Sz.Rg} (hx : l[i]? = some x) :
    w.cell? ⟨b, o + i * 2, none⟩ = some (.int .i64 x.1) ∧ w.cell? ⟨b, o + i * 2 + 1, none⟩ = some (.int .i64 x.2) := by
  obtain ⟨A, c, e, -, hat⟩ := h
  injection e with e1 e2 e3
  obtain ⟨b', o', e, -, -, hc⟩ := hat (by obtain ⟨hl, _⟩ := List.getElem?_eq_some_iff.1 hx; omega)
  rw [e] at e1
  injection e1 with e1
  injection e1 with e1 e2
  subst e1 e2
  exact ⟨hc i x hx 0 _ rfl, hc i x hx 1 _ rfl⟩

set_option maxRecDepth 100000 in
theorem Rgs.slice {w : World} {F : Nat → Prop} {v : Value} {l : List Sz.Rg} (h : Rgs w F v l) : ∃ A cap, v = .slice A l.length cap ∧ l.length ≤ cap := by
  obtain ⟨A, c, e, hc, hat⟩ := h
  exact ⟨A, c, e, hc⟩

set_option maxRecDepth 100000 in
theorem Rgs.shape {w : World} {F : Nat → Prop} {v : Value} {l : List Sz.Rg} (h : Rgs w F v l) (h0 : 0 < l.length) : ∃ b o cap, v = .slice (some ⟨b, o, Option.none⟩) l.length cap ∧ l.length ≤ cap ∧ F b ∧ b < w.heap.size := by
  obtain ⟨A, c, e, hc, hat⟩ := h
  obtain ⟨b, o, rfl, hb, hl, -⟩ := hat h0
  exact ⟨b, o, c, e, hc, hb, hl⟩

set_option maxRecDepth 100000 in
theorem norm_bd (l : List Sz.Rg) : (∀ r ∈ Sz.norm l, Bd r) ∧ (Sz.norm l).length ≤ 202 := by
  refine ⟨fun r hr => ?_, ?_⟩
  · have := Sz.formR_bd (Sz.of l) 0 none (by rw [Sz.of_len]; omega) (fun lo h => by cases h) r hr
    unfold Bd; omega
  · have := Sz.formR_len (Sz.of l) 0 none
    rw [Sz.of_len] at this
    exact this
set_option maxRecDepth 100000 in
theorem two_bd (k : Nat) (a b : List Sz.Rg) : (∀ r ∈ Sz.two k a b, Bd r) ∧ (Sz.two k a b).length ≤ 202 := by
  refine ⟨fun r hr => ?_, ?_⟩
  · have := Sz.formR_bd _ 0 none (by simp) (fun lo h => by cases h) r hr
    unfold Bd; omega
  · have := Sz.formR_len ((List.range 201).map fun (i : Nat) => Sz.pick k (Sz.holds a (i : Int)) (Sz.holds b (i : Int))) 0 none
    rw [List.length_map, List.length_range] at this
    exact this
end Go.Proofs.Ytenlcadndfbnaaa
