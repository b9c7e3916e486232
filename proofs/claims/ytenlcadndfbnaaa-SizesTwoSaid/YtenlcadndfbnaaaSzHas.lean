/- The landed sizes: whether a size is in a set. -/
import Derived.Test.YtenlcadndfbnaaaSzAdd
import Derived.Test.YtenlcadndfbnaaaShelf
import Derived.BigQuiet
set_option linter.unusedSimpArgs false
set_option linter.unusedVariables false
namespace Go.Proofs.Ytenlcadndfbnaaa
open Go.RowKit Go.Shelf Go.Lib

set_option maxRecDepth 100000 in
set_option maxHeartbeats 1600000 in
theorem sz_pred (n : Int) (B : Nat) (w : World) (hB : B < w.heap.size) (hcell : w.cell? ⟨B, 0, none⟩ = some (.int .i64 n)) :
    PredBelow Try.prog 23 #[.pointer (some ⟨B, 0, none⟩)] (fun x : Sz.Rg => .agg (rgV x).toArray) (fun x => decide (x.1 ≤ n ∧ n ≤ x.2)) w := fun W x hb => by
  have hc : W.cell? ⟨B, 0, none⟩ = some (.int .i64 n) := (hb.cell (p := ⟨B, 0, none⟩) hB).trans hcell
  have hBW : B < W.heap.size := Nat.lt_of_lt_of_le hB hb.size
  have hne : B ≠ W.heap.size := by omega
  have Hb := Lib.hid hb
  clear hb hcell hB
  obtain ⟨x1, x2⟩ := x
  show Calls Try.prog 23 #[.agg #[.int .i64 x1, .int .i64 x2], .pointer (some ⟨B, 0, none⟩)] W _
  by_cases h1 : x1 ≤ n
  · by_cases h2 : n ≤ x2
    · have d1 : decide (x1 ≤ n) = true := decide_eq_true h1
      have d2 : decide (n ≤ x2) = true := decide_eq_true h2
      have hr : Hid (decide (x1 ≤ n ∧ n ≤ x2) = true) := Lib.hid (decide_eq_true ⟨h1, h2⟩)
      go_enter Try.func23, Try.ntmps23
      go_wp2_with fail
      go_ret
      exact ⟨by first | rfl | (rw [hr.out]; rfl), Hb.out.alloc Hb.out.size _⟩
    · have d1 : decide (x1 ≤ n) = true := decide_eq_true h1
      have d2 : decide (n ≤ x2) = false := decide_eq_false h2
      have hr : Hid (decide (x1 ≤ n ∧ n ≤ x2) = false) := Lib.hid (decide_eq_false (fun h => h2 h.2))
      go_enter Try.func23, Try.ntmps23
      go_wp2_with fail
      go_ret
      exact ⟨by first | rfl | (rw [hr.out]; rfl), Hb.out.alloc Hb.out.size _⟩
  · have d1 : decide (x1 ≤ n) = false := decide_eq_false h1
    have hr : Hid (decide (x1 ≤ n ∧ n ≤ x2) = false) := Lib.hid (decide_eq_false (fun h => h1 h.1))
    go_enter Try.func23, Try.ntmps23
    go_wp2_with fail
    go_ret
    exact ⟨by first | rfl | (rw [hr.out]; rfl), Hb.out.alloc Hb.out.size _⟩

set_option maxRecDepth 100000 in
theorem idx_none (A : Option Addr) (c : Nat) (fv : Value) (w : World) :
    Calls Try.prog 31 #[.slice A 0 c, fv] w fun e w' => e = .returned (.int .i64 (-1)) ∧ w' = w := by
  go_enter Try.func31, Try.ntmps31
  go_wp2_with fail
  refine wp_loop_rounds 1 ?_
  rw [rounds_succ]
  go_wp2_with fail
  go_ret
  exact ⟨rfl, rfl⟩

set_option maxRecDepth 100000 in
theorem has_none (A : Option Addr) (c : Nat) (fv : Value) (w : World) :
    Calls Try.prog 22 #[.slice A 0 c, fv] w fun e w' => e = .returned (.bool false) ∧ w' = w := by
  go_enter Try.func22, Try.ntmps22
  go_wp2_with (go_at_call 31; refine (idx_none _ _ _ _).mono ?_; rintro e w' ⟨rfl, rfl⟩)
  go_ret
  exact ⟨rfl, rfl⟩

set_option maxRecDepth 100000 in
/-- Whatever slice of ranges: whether one of them has the number. -/
theorem has_any {w : World} {F : Nat → Prop} {v : Value} {l : List Sz.Rg} (h : Rgs w F v l) (hl : l.length ≤ 1000000) (n : Int) (B : Nat) (hB : B < w.heap.size) (hcell : w.cell? ⟨B, 0, none⟩ = some (.int .i64 n)) :
    Calls Try.prog 22 #[v, .func (.func 23) #[] #[.pointer (some ⟨B, 0, none⟩)]] w fun e w' => e = .returned (.bool (l.any fun r => decide (r.1 ≤ n ∧ n ≤ r.2))) ∧ Below w.heap.size w w' := by
  by_cases h0 : 0 < l.length
  · obtain ⟨A, cap, rfl, hc, hat⟩ := h
    obtain ⟨b, o, rfl, -, hb, hcl⟩ := hat h0
    have eg : ∀ args w, (callFunc 23 args).run Try.prog w = .ok (.enter 23 args) w := enters_of Try.func23 (by kernel_rfl) rfl
    have hcon := AnyQ.slices_ContainsFunc Try.hasRg 2 Try.isAgg29 Try.sizeOf29 rgV rg_len (fun r : Sz.Rg => decide (r.1 ≤ n ∧ n ≤ r.2)) 23 #[.pointer (some ⟨B, 0, none⟩)] eg b o l.length cap l w (sz_pred n B w hB hcell) (Nat.le_refl _) (by omega) hb
      (fun j hj i u hi => hcl j _ (by rw [List.getElem?_eq_getElem hj, getElem!_pos l j hj]) i u hi)
    rw [List.take_length] at hcon
    exact hcon
  · have hl0 : l = [] := List.eq_nil_of_length_eq_zero (by omega)
    subst hl0
    obtain ⟨A, cap, rfl, -, -⟩ := h
    exact (has_none A cap _ w).mono (fun e w' h => ⟨h.1, by rw [h.2]; exact Below.refl _ _⟩)

set_option maxRecDepth 100000 in
set_option maxHeartbeats 1600000 in
theorem sz_holds {w : World} {F : Nat → Prop} {v : Value} {l : List Sz.Rg} (h : Rgs w F v l) (hl : l.length ≤ 1000000) (n : Int) :
    Calls Try.prog 12 #[v, .int .i64 n] w fun e w' => e = .returned (.bool (Sz.holds l n)) ∧ Below w.heap.size w w' := by
  have hb0 : Below w.heap.size w (w.alloc (.cells #[.int .i64 n] 3)) := (Below.refl _ _).alloc (Nat.le_refl _) _
  have hC := Lib.hid (has_any (h.below hb0) hl n w.heap.size (by simp) (by simp))
  have Hb0 := Lib.hid hb0
  clear h hb0
  by_cases h0 : n < 0
  · have hr : Hid (Sz.holds l n = false) := Lib.hid (Sz.holds_out (by omega))
    go_enter Try.func12, Try.ntmps12
    go_wp2_with fail
    go_ret
    exact ⟨by rw [hr.out]; rfl, Hb0.out⟩
  · by_cases h1 : 200 < n
    · have hr : Hid (Sz.holds l n = false) := Lib.hid (Sz.holds_out (by omega))
      go_enter Try.func12, Try.ntmps12
      go_wp2_with fail
      go_ret
      exact ⟨by rw [hr.out]; rfl, Hb0.out⟩
    · have hr : Hid (Sz.holds l n = l.any fun r => decide (r.1 ≤ n ∧ n ≤ r.2)) := Lib.hid (by unfold Sz.holds; rw [decide_eq_true (p := 0 ≤ n ∧ n ≤ 200) (by omega), Bool.true_and])
      generalize (l.any fun r => decide (r.1 ≤ n ∧ n ≤ r.2)) = R at *
      go_enter Try.func12, Try.ntmps12
      go_wp2_with (go_at_call 22; refine (hC.out).mono ?_; rintro e w1 ⟨rfl, hb1⟩)
      go_ret
      exact ⟨by rw [hr.out]; rfl, Hb0.out.trans (hb1.mono Hb0.out.size)⟩
end Go.Proofs.Ytenlcadndfbnaaa
