/- The landed sizes: whether two lists of ranges are one. -/
import Derived.Test.YtenlcadndfbnaaaSzAdd
import Derived.Test.YtenlcadndfbnaaaShelf
import Derived.Laws.StructEq
set_option linter.unusedSimpArgs false
set_option linter.unusedVariables false
namespace Go.Proofs.Ytenlcadndfbnaaa
open Go.RowKit Go.Shelf Go.Lib

set_option maxRecDepth 100000 in
theorem rg_neq : NeqAt Try.prog 29 (fun x : Sz.Rg => .agg (rgV x).toArray) (fun x y => decide (x = y)) := by
  refine ⟨fun x y w => ?_, GuardAt.agg _ (by kernel_rfl)⟩
  have hS : Try.prog.underlying 29 = some (.struct (Try.prog.fieldsOf 29)) := by kernel_rfl
  have hp : Try.prog.stoodInHeld 29 = false := by kernel_rfl
  have u3 := Try.underlying3
  have a3 := Try.isAgg3
  have z3 := Try.sizeOf3
  simp only [rgV]
  rw [run_neq_struct, show (10000 : Nat) = 9999 + 1 from rfl, run_equalIn_agg w 9999 29 _ _ hS hp]
  simp only [Program.fieldsOf, Try.underlying29]
  go_simp
  obtain ⟨x1, x2⟩ := x
  obtain ⟨y1, y2⟩ := y
  by_cases h1 : x1 = y1 <;> by_cases h2 : x2 = y2 <;> simp [h1, h2]

set_option maxRecDepth 100000 in
theorem all_eq : ∀ (a b : List Sz.Rg), Lib.allEq (fun x y : Sz.Rg => decide (x = y)) a b = decide (a = b)
  | [], [] => rfl
  | [], y :: b => by rw [Lib.allEq_len _ _ _ (by simp)]; simp
  | x :: a, [] => by rw [Lib.allEq_len _ _ _ (by simp)]; simp
  | x :: a, y :: b => by
    show (decide (x = y) && Lib.allEq (fun x y : Sz.Rg => decide (x = y)) a b) = _
    rw [all_eq a b]
    simp

set_option maxRecDepth 100000 in
theorem eq_len {A B : Option Addr} {n m c d : Nat} (h : n ≠ m) (w : World) : Calls Try.prog 26 #[.slice A n c, .slice B m d] w fun e w' => e = .returned (.bool false) ∧ w' = w := by
  have hn : ¬ (n : Int) = (m : Int) := by omega
  go_enter Try.func26, Try.ntmps26
  go_wp2_with fail
  go_ret
  exact ⟨rfl, rfl⟩
set_option maxRecDepth 100000 in
theorem eq_none {A B : Option Addr} {c d : Nat} (w : World) : Calls Try.prog 26 #[.slice A 0 c, .slice B 0 d] w fun e w' => e = .returned (.bool true) ∧ w' = w := by
  go_enter Try.func26, Try.ntmps26
  go_wp2_with fail
  refine wp_loop_rounds 1 ?_
  rw [rounds_succ]
  go_wp2_with fail
  go_ret
  exact ⟨rfl, rfl⟩

set_option maxRecDepth 100000 in
/-- Whatever two slices of ranges. -/
theorem eq_any {w : World} {F G : Nat → Prop} {u v : Value} {a b : List Sz.Rg} (ha : Rgs w F u a) (hb : Rgs w G v b) (la : a.length ≤ 1000000) (lb : b.length ≤ 1000000) :
    Calls Try.prog 26 #[u, v] w fun e w' => e = .returned (.bool (decide (a = b))) ∧ Below w.heap.size w w' := by
  obtain ⟨A, c, rfl, hc, hat⟩ := ha
  obtain ⟨B, d, rfl, hd, hbt⟩ := hb
  by_cases hl : a.length = b.length
  · by_cases h0 : 0 < a.length
    · obtain ⟨b1, o1, rfl, -, -, hcl1⟩ := hat h0
      obtain ⟨b2, o2, rfl, -, -, hcl2⟩ := hbt (by omega)
      have hcon := AnyQ.slices_Equal Try.eqRg 2 Try.isAgg29 Try.sizeOf29 rgV rg_len _ rg_neq b1 o1 a.length c b2 o2 b.length d a b w (Nat.le_refl _) (Nat.le_refl _) (by omega) (by omega)
        (fun j hj i u hi => hcl1 j _ (by rw [List.getElem?_eq_getElem hj, getElem!_pos a j hj]) i u hi) (fun j hj i u hi => hcl2 j _ (by rw [List.getElem?_eq_getElem hj, getElem!_pos b j hj]) i u hi)
      rw [List.take_length, List.take_length, all_eq] at hcon
      refine hcon.mono ?_
      rintro e w' ⟨rfl, q, rfl⟩
      exact ⟨rfl, below_drews' _ q⟩
    · have ea : a = [] := List.eq_nil_of_length_eq_zero (by omega)
      have eb : b = [] := List.eq_nil_of_length_eq_zero (by omega)
      subst ea eb
      refine (eq_none w).mono ?_
      rintro e w' ⟨rfl, rfl⟩
      exact ⟨rfl, Below.refl _ _⟩
  · have hne : decide (a = b) = false := decide_eq_false (fun e => hl (by rw [e]))
    rw [hne]
    refine (eq_len hl w).mono ?_
    rintro e w' ⟨rfl, rfl⟩
    exact ⟨rfl, Below.refl _ _⟩
end Go.Proofs.Ytenlcadndfbnaaa
