/- What must come at any rate ('awake' of layer 8), at most so many ranges; SizesTwo out of the contracts. -/
import Derived.Test.YtenlcadndfbnaaaSzRef
namespace Go.Proofs.Ytenlcadndfbnaaa
open Go.RowKit

set_option maxRecDepth 100000 in
set_option maxHeartbeats 1600000 in
theorem few_any {w : World} {F : Nat → Prop} {v : Value} {l : List Sz.Rg} (h : Rgs w F v l) (hl : l.length ≤ 9223372036854775807) :
    Calls Try.prog 6 #[v] w fun e w' => ∃ v', e = .returned v' ∧ Rgs w F v' (l.take 30) ∧ w = w' := by
  by_cases h30 : 30 < l.length
  · obtain ⟨b, o, cap, rfl, hc, hF, hb⟩ := h.block (by omega)
    have hT : Hid (Rgs w F (.slice (some ⟨b, o, none⟩) 30 cap) (l.take 30)) := Lib.hid (h.take rfl 30 (by omega) cap (by omega))
    have g1 : (30 : Int) < (l.length : Int) := by omega
    have g2 : 30 ≤ cap := by omega
    have g3 : (30 : Int) ≤ (cap : Int) := by omega
    clear h
    go_enter Try.func6, Try.ntmps6
    go_wp2_with fail
    go_ret
    exact ⟨_, rfl, hT.out, rfl⟩
  · obtain ⟨A, cap, rfl, hc⟩ := h.parts
    have hT : Hid (Rgs w F (.slice A l.length cap) (l.take 30)) := Lib.hid (by rw [List.take_of_length_le (by omega)]; exact h)
    have g1 : ¬ (30 : Int) < (l.length : Int) := by omega
    clear h
    go_enter Try.func6, Try.ntmps6
    go_wp2_with fail
    go_ret
    exact ⟨_, rfl, hT.out, rfl⟩

set_option maxRecDepth 100000 in
/-- Clean up behind calls that touch only what is new. -/
theorem sz_step {w A B : World} (h : Below w.heap.size w A) (k : Below A.heap.size A B) : Below w.heap.size w B := h.trans (k.mono h.size)

instance (r : Sz.Rg) : Decidable (Bd r) := inferInstanceAs (Decidable (_ ∧ _))
def szThree : List Sz.Rg := [(5, 9), (0, 3), (4, 4)]
set_option maxRecDepth 100000 in
theorem szThree_rows (W : World) : Rgs (W.alloc (.cells #[.int .i64 5, .int .i64 9, .int .i64 0, .int .i64 3, .int .i64 4, .int .i64 4] 29)) (fun i => i = W.heap.size) (.slice (some ⟨W.heap.size, 0, none⟩) 3 3) szThree :=
  ⟨some ⟨W.heap.size, 0, none⟩, 3, rfl, Nat.le_refl _, fun _ => ⟨W.heap.size, 0, rfl, rfl, by simp, fun i x hx j u hu => by
    rw [(Row.made W _ _).at]
    match i, hx with
    | 0, hx => (simp [szThree] at hx; subst hx; match j, hu with
      | 0, hu => simp [rgV] at hu; subst hu; rfl
      | 1, hu => simp [rgV] at hu; subst hu; rfl)
    | 1, hx => (simp [szThree] at hx; subst hx; match j, hu with
      | 0, hu => simp [rgV] at hu; subst hu; rfl
      | 1, hu => simp [rgV] at hu; subst hu; rfl)
    | 2, hx => (simp [szThree] at hx; subst hx; match j, hu with
      | 0, hu => simp [rgV] at hu; subst hu; rfl
      | 1, hu => simp [rgV] at hu; subst hu; rfl)⟩⟩

set_option maxRecDepth 100000 in
set_option maxHeartbeats 1600000 in
theorem sz_awake (H : SizesOk) (w : World) : Calls Try.prog 10 #[] w fun e w' => e = .returned (.bool true) ∧ Below w.heap.size w w' := by
  have bd3 : ∀ r ∈ szThree, Bd r := by decide
  have bd1 : ∀ r ∈ ([(0, 9)] : List Sz.Rg), Bd r := by decide
  have hnorm : Sz.norm szThree = [(0, 9)] := by decide +kernel
  have C1 := Lib.hid (fun W => by
    have := H.norm (szThree_rows W) (by decide) bd3
    rw [hnorm] at this
    exact this)
  go_enter Try.func10, Try.ntmps10
  go_wp2_with fail
  refine (C1.out _).mono ?_
  rintro e w1 ⟨v, rfl, hr, b1⟩
  obtain ⟨b, o, cap, rfl, hc, -, hb⟩ := hr.block (by decide)
  obtain ⟨c0, c1⟩ := Rgs.at hr (i := 0) (x := (0, 9)) rfl
  simp only [Nat.zero_mul, Nat.add_zero] at c0 c1
  have g9 : Sz.holds [(0, 9)] 9 = true := by decide +kernel
  have g10 : Sz.holds [(0, 9)] 10 = false := by decide +kernel
  have gm : Sz.many [(0, 9)] = 10 := by decide +kernel
  have B1 := Lib.hid b1
  have Hr := Lib.hid hr
  have h9 := Lib.hid (H.holds 9 hr (by decide) bd1 (by decide) (by decide))
  have h10 : Hid (∀ W, Below w1.heap.size w1 W → _) := Lib.hid (fun W (hW : Below w1.heap.size w1 W) => H.holds 10 (hr.below hW) (by decide) bd1 (by decide) (by decide))
  have hmm : Hid (∀ W, Below w1.heap.size w1 W → _) := Lib.hid (fun W (hW : Below w1.heap.size w1 W) => H.many (hr.below hW) (by decide) bd1)
  rw [g9] at h9
  simp only [g10] at h10
  simp only [gm] at hmm
  clear hr b1 C1
  go_wp2_with fail
  refine (h9.out).mono ?_
  rintro e w2 ⟨rfl, b2⟩
  go_wp2_with fail
  refine (h10.out _ b2).mono ?_
  rintro e w3 ⟨rfl, b3⟩
  have b3 := sz_step b2 b3
  go_wp2_with fail
  refine (hmm.out _ b3).mono ?_
  rintro e w4 ⟨rfl, b4⟩
  have b4 := sz_step b3 b4
  go_wp2_with fail
  go_ret
  exact ⟨rfl, sz_step ((Below.refl _ _).alloc (Nat.le_refl _) _) (sz_step B1.out b4)⟩

set_option maxRecDepth 100000 in
theorem bd_take {l : List Sz.Rg} (h : ∀ r ∈ l, Bd r) (n : Nat) : ∀ r ∈ l.take n, Bd r := fun r hr => h r (List.mem_of_mem_take hr)
set_option maxRecDepth 100000 in
theorem len_take (l : List Sz.Rg) : (l.take 30).length ≤ 30 := by rw [List.length_take]; omega

set_option maxRecDepth 100000 in
set_option maxHeartbeats 3200000 in
theorem stwo_walk (H : SizesOk) {w : World} {u v : Value} {a b : List Sz.Rg} (ha : Rgs w (fun i => i < w.heap.size) u a) (hb : Rgs w (fun i => i < w.heap.size) v b) (la : a.length ≤ 9223372036854775807) (lb : b.length ≤ 9223372036854775807) (ba : ∀ r ∈ a, Bd r) (bb : ∀ r ∈ b, Bd r) :
    Calls Try.prog 4 #[u, v] w fun e w' => e = .returned (.bool true) ∧ Below w.heap.size w w' := by
  have AW := Lib.hid (fun W => sz_awake H W)
  have FA := Lib.hid (few_any ha la)
  have FB := Lib.hid (few_any hb lb)
  have ba := bd_take ba 30
  have bb := bd_take bb 30
  have la := len_take a
  have lb := len_take b
  clear ha hb
  generalize a.take 30 = a at *
  generalize b.take 30 = b at *
  go_enter Try.func4, Try.ntmps4
  go_wp2_with fail
  refine (FA.out).mono ?_
  rintro e w' ⟨u, rfl, ha, rfl⟩
  go_wp2_with fail
  refine (FB.out).mono ?_
  rintro e w' ⟨v, rfl, hb, rfl⟩
  have HA := Lib.hid ha
  have HB := Lib.hid hb
  have J := Lib.hid (fun (W : World) (hW : Below w.heap.size w W) => H.join (ha.below hW) (hb.below hW) (by omega) (by omega) ba bb)
  have M := Lib.hid (fun (W : World) (hW : Below w.heap.size w W) => H.meet (ha.below hW) (hb.below hW) (by omega) (by omega) ba bb)
  have N := Lib.hid (fun (W : World) (hW : Below w.heap.size w W) => H.minus (ha.below hW) (hb.below hW) (by omega) (by omega) ba bb)
  have T := Lib.hid (fun (k : Nat) (hk : k ≤ 2) (W : World) (hW : Below w.heap.size w W) => ref_two (ha.below hW) (hb.below hW) (by omega) (by omega) k hk)
  have T0 : Hid (∀ W, Below w.heap.size w W → Calls Try.prog 16 #[u, v, .int .i64 0] W fun e w' => ∃ v', e = .returned v' ∧ RowsOwn 29 2 rgV W (Sz.two 0 a b) v' w') := Lib.hid (fun W hW => T.out 0 (by omega) W hW)
  have T1 : Hid (∀ W, Below w.heap.size w W → Calls Try.prog 16 #[u, v, .int .i64 1] W fun e w' => ∃ v', e = .returned v' ∧ RowsOwn 29 2 rgV W (Sz.two 1 a b) v' w') := Lib.hid (fun W hW => T.out 1 (by omega) W hW)
  have T2 : Hid (∀ W, Below w.heap.size w W → Calls Try.prog 16 #[u, v, .int .i64 2] W fun e w' => ∃ v', e = .returned v' ∧ RowsOwn 29 2 rgV W (Sz.two 2 a b) v' w') := Lib.hid (fun W hW => T.out 2 (by omega) W hW)
  have SAME : Hid (∀ (k : Nat) (W A B : World) (x y : Value), Rgs A (NewIn W A) x (Sz.two k a b) → RowsOwn 29 2 rgV A (Sz.two k a b) y B → Calls Try.prog 11 #[x, y] B fun e w' => e = .returned (.bool true) ∧ Below B.heap.size B w') := Lib.hid (fun k W A B x y hx hy => by
    have hl := (two_bd k a b).2
    have := ref_same (hx.below hy.2) (hy.rows (fun r _ => rg_len r)) (by omega) (by omega)
    rw [decide_eq_true (rfl : Sz.two k a b = Sz.two k a b)] at this
    exact this)
  have B0 := Below.refl w.heap.size w
  clear FA FB T ha hb HA HB
  go_wp2_with fail
  refine (AW.out _).mono ?_
  rintro e w1 ⟨rfl, k⟩
  have B1 := sz_step B0 k
  clear k B0
  go_wp2_with fail
  refine (J.out _ B1).mono ?_
  rintro e w2 ⟨x0, rfl, r0, k⟩
  have B2 := sz_step B1 k
  clear k B1
  go_wp2_with fail
  refine (T0.out _ B2).mono ?_
  rintro e w3 ⟨y0, rfl, s0⟩
  have B3 := sz_step B2 s0.2
  clear B2
  go_wp2_with fail
  refine (SAME.out 0 _ _ _ _ _ r0 s0).mono ?_
  rintro e w4 ⟨rfl, k⟩
  have B4 := sz_step B3 k
  clear k B3 r0 s0
  go_wp2_with fail
  refine (M.out _ B4).mono ?_
  rintro e w5 ⟨x1, rfl, r1, k⟩
  have B5 := sz_step B4 k
  clear k B4
  go_wp2_with fail
  refine (T1.out _ B5).mono ?_
  rintro e w6 ⟨y1, rfl, s1⟩
  have B6 := sz_step B5 s1.2
  clear B5
  go_wp2_with fail
  refine (SAME.out 1 _ _ _ _ _ r1 s1).mono ?_
  rintro e w7 ⟨rfl, k⟩
  have B7 := sz_step B6 k
  clear k B6 r1 s1
  go_wp2_with fail
  refine (N.out _ B7).mono ?_
  rintro e w8 ⟨x2, rfl, r2, k⟩
  have B8 := sz_step B7 k
  clear k B7
  go_wp2_with fail
  refine (T2.out _ B8).mono ?_
  rintro e w9 ⟨y2, rfl, s2⟩
  have B9 := sz_step B8 s2.2
  clear B8
  go_wp2_with fail
  refine (SAME.out 2 _ _ _ _ _ r2 s2).mono ?_
  rintro e w10 ⟨rfl, k⟩
  have B10 := sz_step B9 k
  clear k B9 r2 s2
  go_wp2_with fail
  go_ret
  exact ⟨rfl, B10⟩
end Go.Proofs.Ytenlcadndfbnaaa
