/- The landed path: the function that is told names, one behind the other. -/
import Derived.Test.YtadgdppkokbphaaPthChars
set_option linter.unusedSimpArgs false
set_option linter.unusedVariables false
namespace Go.Proofs.Ytadgdppkokbphaa
open Go.RowKit

def mayF (c1 c2 : Nat) : Value := .func (.func 25) #[] #[.pointer (some ⟨c1, 0, none⟩), .pointer (some ⟨c2, 0, none⟩)]

set_option maxRecDepth 100000 in
theorem pth_namer (w : World) :
    Calls Try.prog 19 #[] w fun e w' => e = .returned (mayF w.heap.size (w.heap.size + 1)) ∧ w' = (w.alloc (.cells #[.int .i64 6] 3)).alloc (.cells #[.int .i64 41] 3) := by
  unfold mayF
  go_enter Try.func19, Try.ntmps19
  go_wp2_with fail
  go_ret
  exact ⟨rfl, rfl⟩

set_option maxRecDepth 100000 in
theorem next_dec (d : List (List UInt8)) (t : List UInt8) : decide (Pth.Next d t) = (decide (Pth.Name t) && decide ((0 : Int) ≤ (6 - (d.length : Int)) - 1) && decide ((0 : Int) ≤ (41 - (Pth.lens d : Int)) - ((t.length : Int) + 1))) := by
  rw [Bool.eq_iff_iff]
  simp only [Bool.and_eq_true, decide_eq_true_eq, and_assoc]
  exact Iff.rfl

def cnt (d : List (List UInt8)) : Value := .int .i64 (6 - (d.length : Int))
def room (d : List (List UInt8)) : Value := .int .i64 (41 - (Pth.lens d : Int))

set_option maxRecDepth 100000 in
set_option maxHeartbeats 1600000 in
theorem pth_may {w : World} {c1 c2 : Nat} {d : List (List UInt8)} (t : List UInt8) (r1 : Row w c1 3 #[cnt d]) (r2 : Row w c2 3 #[room d]) (hne : c1 ≠ c2) (hd : Pth.Fit d) (ht : t.length ≤ 100000) :
    Calls Try.prog 25 #[.string (mk t), .pointer (some ⟨c1, 0, none⟩), .pointer (some ⟨c2, 0, none⟩)] w fun e w' =>
      e = .returned (.bool (decide (Pth.Next d t))) ∧ (Pth.Next d t → Row w' c1 3 #[cnt (d ++ [t])] ∧ Row w' c2 3 #[room (d ++ [t])]) ∧ Kept (fun i => i = c1 ∨ i = c2) w w' := by
  have HN := Lib.hid (fun W => pth_isname t W ht)
  have ht63 : ((mk t).size : Int) ≤ 100000 := by rw [mk_len]; omega
  have hls : ((mk t).size : Int) = (t.length : Int) := by rw [mk_len]
  have hnd := next_dec d t
  by_cases hn : Pth.Name t
  · rw [decide_eq_true hn] at hnd HN
    have hd6 : (d.length : Int) ≤ 6 := by have := hd.2.1; omega
    have hd0 : (0 : Int) ≤ (d.length : Int) := by omega
    have hr41 : (Pth.lens d : Int) ≤ 41 := by have := hd.2.2; omega
    have hr0 : (0 : Int) ≤ (Pth.lens d : Int) := by omega
    have e1 : cnt (d ++ [t]) = .int .i64 (6 - (d.length : Int) - 1) := by unfold cnt; rw [List.length_append, List.length_singleton]; congr 1; omega
    have e2 : room (d ++ [t]) = .int .i64 (41 - (Pth.lens d : Int) - ((t.length : Int) + 1)) := by unfold room; rw [Pth.lens_append]; simp only [Pth.lens]; congr 1; omega
    rw [e1, e2]
    have r1' := r1
    have r2' := r2
    unfold cnt at r1'
    unfold room at r2'
    have q1 : w.cell? ⟨c1, 0, none⟩ = some (.int .i64 (6 - (d.length : Int))) := r1'.at 0
    have q2 : w.cell? ⟨c2, 0, none⟩ = some (.int .i64 (41 - (Pth.lens d : Int))) := r2'.at 0
    have l1 := r1.inHeap
    have l2 := r2.inHeap
    have R1 := Lib.hid r1'
    have R2 := Lib.hid r2'
    clear e1 e2 hd hn r1 r2 r1' r2'
    have hl0 : (0 : Int) ≤ (t.length : Int) := by omega
    have hl9 : (t.length : Int) ≤ 100000 := by omega
    rw [hls] at ht63
    have Hnd := Lib.hid hnd
    have Hne := Lib.hid hne
    clear hnd
    generalize hx : mk t = x at *
    generalize (d.length : Int) = n at *
    generalize (Pth.lens d : Int) = r at *
    generalize (t.length : Int) = tl at *
    generalize decide (Pth.Next d t) = R at *
    go_enter Try.func25, Try.ntmps25
    go_wp2_with fail
    refine (HN.out _).mono ?_
    rintro e w1 ⟨rfl, hb1⟩
    have s1 := (R1.out.below hb1 l1)
    have s2 := (R2.out.below hb1 l2)
    have p1 : w1.cell? ⟨c1, 0, none⟩ = some (.int .i64 (6 - n)) := s1.at 0
    have f1 := s1.free 0
    have t1 : Row (w1.setCell ⟨c1, 0, none⟩ (.int .i64 (6 - n - 1))) c1 3 #[.int .i64 (6 - n - 1)] := by simpa using s1.stored 0 (.int .i64 (6 - n - 1))
    have t2 := s2.storedElsewhere (p := ⟨c1, 0, none⟩) (by exact Hne.out) (.int .i64 (6 - n - 1))
    have p2 : (w1.setCell ⟨c1, 0, none⟩ (.int .i64 (6 - n - 1))).cell? ⟨c2, 0, none⟩ = some (.int .i64 (41 - r)) := t2.at 0
    have f2 := t2.free 0
    have K1 : Kept (fun i => i = c1 ∨ i = c2) w (w1.setCell ⟨c1, 0, none⟩ (.int .i64 (6 - n - 1))) := (Kept.ofBelow hb1 _).stored (Or.inl (Or.inl rfl)) _
    generalize hw2 : w1.setCell ⟨c1, 0, none⟩ (.int .i64 (6 - n - 1)) = w2 at *
    have u1 := t1.storedElsewhere (p := ⟨c2, 0, none⟩) (by exact fun e => Hne.out e.symm) (.int .i64 (41 - r - (tl + 1)))
    have u2 : Row (w2.setCell ⟨c2, 0, none⟩ (.int .i64 (41 - r - (tl + 1)))) c2 3 #[.int .i64 (41 - r - (tl + 1))] := by simpa using t2.stored 0 (.int .i64 (41 - r - (tl + 1)))
    have K2 : Kept (fun i => i = c1 ∨ i = c2) w (w2.setCell ⟨c2, 0, none⟩ (.int .i64 (41 - r - (tl + 1)))) := K1.stored (Or.inl (Or.inr rfl)) _
    have p3 : (w2.setCell ⟨c2, 0, none⟩ (.int .i64 (41 - r - (tl + 1)))).cell? ⟨c1, 0, none⟩ = some (.int .i64 (6 - n - 1)) := u1.at 0
    have p4 : (w2.setCell ⟨c2, 0, none⟩ (.int .i64 (41 - r - (tl + 1)))).cell? ⟨c2, 0, none⟩ = some (.int .i64 (41 - r - (tl + 1))) := u2.at 0
    generalize hw3 : w2.setCell ⟨c2, 0, none⟩ (.int .i64 (41 - r - (tl + 1))) = w3 at *
    have U1 := Lib.hid u1
    have U2 := Lib.hid u2
    have HK2 := Lib.hid K2
    clear u1 u2 K1 K2 t1 t2 s1 s2
    have gA : decide ((0 : Int) ≤ 6 - n - 1) = decide ((1 : Int) ≤ 6 - n) := by rw [decide_eq_decide]; omega
    have gB : decide ((0 : Int) ≤ 41 - r - (tl + 1)) = decide (tl + 1 ≤ 41 - r) := by rw [decide_eq_decide]; omega
    rw [gA, gB] at Hnd
    clear gA gB
    cases hA : decide ((1 : Int) ≤ 6 - n) <;> cases hB : decide (tl + 1 ≤ 41 - r)
    all_goals
      rw [hA, hB] at Hnd
      go_wp2_with fail
      go_ret
      exact ⟨by rw [Hnd.out]; rfl, fun _ => ⟨U1.out, U2.out⟩, HK2.out⟩
  · rw [decide_eq_false hn] at hnd HN
    have hx : ¬ Pth.Next d t := fun h => hn h.1
    have Hx := Lib.hid hx
    have Hnd := Lib.hid hnd
    clear hd hn hnd hls hx r1 r2
    generalize mk t = x at *
    go_enter Try.func25, Try.ntmps25
    go_wp2_with (go_at_call 26; refine (HN.out _).mono ?_; rintro e w1 ⟨rfl, hb1⟩)
    go_ret
    exact ⟨by rw [Hnd.out]; rfl, fun h => absurd h Hx.out, Kept.ofBelow hb1 _⟩
end Go.Proofs.Ytadgdppkokbphaa
