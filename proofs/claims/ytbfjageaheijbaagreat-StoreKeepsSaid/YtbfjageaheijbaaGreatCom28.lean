/- The landed journal: a sector's head is read. -/
import Derived.Test.YtbfjageaheijbaaGreatCom27
set_option linter.unusedSimpArgs false
set_option linter.unusedVariables false
namespace Go.Proofs.YtbfjageaheijbaaGreat
open Go.RowKit Dsk Jnl

section
variable {w : World} {s : ByteArray}

set_option maxRecDepth 100000 in
theorem has_prefix (hs : s.size = 64) (w : World) : Calls Tryz.prog 100 #[.string s, .string ⟨#[76, 73, 71, 72, 84, 69, 82]⟩] w fun e w' => e = .returned (.bool (decide (s.data.toList.take 7 = tag))) ∧ w = w' := by
  have hsz : (s.size : Int) = 64 := by omega
  have hp : ((⟨#[76, 73, 71, 72, 84, 69, 82]⟩ : ByteArray).size : Int) = 7 := rfl
  have hct : s.extract 0 7 = mk (s.data.toList.take 7) := bytes_ext (by rw [Lib.extract_data, mk_data, List.drop_zero, Nat.sub_zero])
  have Ht7 : Hid (((s.extract 0 7).toList == [76, 73, 71, 72, 84, 69, 82]) = decide (s.data.toList.take 7 = tag)) := Lib.hid (by
    rw [hct, Lib.toList_data, mk_data]
    by_cases h : s.data.toList.take 7 = tag
    · rw [decide_eq_true h, h]; rfl
    · rw [decide_eq_false h]; exact beq_eq_false_iff_ne.2 h)
  clear hct
  by_cases t7 : s.data.toList.take 7 = tag
  · have a7 : ((s.extract 0 7).toList == [76, 73, 71, 72, 84, 69, 82]) = true := by rw [Ht7.out]; exact decide_eq_true t7
    have n7 : ((s.extract 0 7).toList != [76, 73, 71, 72, 84, 69, 82]) = false := by rw [bne, a7]; rfl
    rw [decide_eq_true t7]
    clear t7
    go_enter Tryz.func100, Tryz.ntmps100
    go_wp2_with fail
    go_ret
    exact ⟨rfl, rfl⟩
  · have a7 : ((s.extract 0 7).toList == [76, 73, 71, 72, 84, 69, 82]) = false := by rw [Ht7.out]; exact decide_eq_false t7
    have n7 : ((s.extract 0 7).toList != [76, 73, 71, 72, 84, 69, 82]) = true := by rw [bne, a7]; rfl
    rw [decide_eq_false t7]
    clear t7
    go_enter Tryz.func100, Tryz.ntmps100
    go_wp2_with fail
    go_ret
    exact ⟨rfl, rfl⟩

set_option maxRecDepth 100000 in
theorem cut_yes (hs : s.size = 64) (ht : s.data.toList.take 7 = tag) (w : World) : Calls Tryz.prog 104 #[.string s, .string ⟨#[76, 73, 71, 72, 84, 69, 82]⟩] w fun e w' => e = .returned (.tuple #[.string (mk (s.data.toList.drop 7)), .bool true]) ∧ w = w' := by
  have HP := Lib.hid (fun W => has_prefix hs W)
  have hin : ∀ W, Calls Tryz.prog 132 #[.string s, .string ⟨#[76, 73, 71, 72, 84, 69, 82]⟩] W fun e w' => e = .returned (.tuple #[.string (mk (s.data.toList.drop 7)), .bool true]) ∧ W = w' := by
    intro W
    have hsz : (s.size : Int) = 64 := by omega
    have hz : (7 : Int) ≤ (s.size : Int) := by omega
    have hcut : Hid (s.extract 7 s.size = mk (s.data.toList.drop 7)) := Lib.hid (bytes_ext (by rw [Lib.extract_data, mk_data, Lib.size_eq, ← List.length_drop, List.take_length]))
    have hd : decide (s.data.toList.take 7 = tag) = true := decide_eq_true ht
    rw [hd] at HP
    clear ht hd hs
    go_enter Tryz.func132, Tryz.ntmps132
    go_wp2_with (go_at_call 100; with_reducible refine (HP.out _).mono ?_; rintro e w' ⟨rfl, rfl⟩)
    go_ret2
    exact ⟨by rw [← hcut.out]; rfl, rfl⟩
  have Hin := Lib.hid hin
  clear hin HP
  generalize mk (s.data.toList.drop 7) = r at *
  clear ht hs
  go_enter Tryz.func104, Tryz.ntmps104
  go_wp2_with (go_at_call 132; with_reducible refine (Hin.out _).mono ?_; rintro e w' ⟨rfl, rfl⟩)
  go_ret2
  exact ⟨rfl, rfl⟩

set_option maxRecDepth 100000 in
theorem cut_no (hs : s.size = 64) (ht : s.data.toList.take 7 ≠ tag) (w : World) : Calls Tryz.prog 104 #[.string s, .string ⟨#[76, 73, 71, 72, 84, 69, 82]⟩] w fun e w' => e = .returned (.tuple #[.string s, .bool false]) ∧ w = w' := by
  have HP := Lib.hid (fun W => has_prefix hs W)
  have hin : ∀ W, Calls Tryz.prog 132 #[.string s, .string ⟨#[76, 73, 71, 72, 84, 69, 82]⟩] W fun e w' => e = .returned (.tuple #[.string s, .bool false]) ∧ W = w' := by
    intro W
    have hd : decide (s.data.toList.take 7 = tag) = false := decide_eq_false ht
    rw [hd] at HP
    clear ht hd hs
    go_enter Tryz.func132, Tryz.ntmps132
    go_wp2_with (go_at_call 100; with_reducible refine (HP.out _).mono ?_; rintro e w' ⟨rfl, rfl⟩)
    go_ret2
    exact ⟨rfl, rfl⟩
  have Hin := Lib.hid hin
  clear hin HP ht hs
  go_enter Tryz.func104, Tryz.ntmps104
  go_wp2_with (go_at_call 132; with_reducible refine (Hin.out _).mono ?_; rintro e w' ⟨rfl, rfl⟩)
  go_ret2
  exact ⟨rfl, rfl⟩
end

/-- What readHead answers. -/
def scanned : Option (Nat × Nat × Nat) → Array Value
  | some (q, a, u) => #[.agg #[.int .i64 (q : Int), .int .i64 (a : Int), .int .i64 (u : Int)], .bool true]
  | none => #[.agg #[.int .i64 0, .int .i64 0, .int .i64 0], .bool false]

set_option maxRecDepth 100000 in
theorem rd_new {w : World} {b : Nat} {r : ByteArray} {e : Int} (h : Rd w b r e) (o : Obj) : Rd (w.alloc o) b r e := Row.behindNew h o

set_option maxRecDepth 100000 in
theorem below_store {B : Nat} {a b : World} (h : Below B a b) {p : Addr} (hp : B ≤ p.block) (u : Value) : Below B a (b.setCell p u) :=
  ⟨h.os, h.tape, h.output, by simpa [World.setCell] using h.size, fun i hi => (Below.heap_setCell b p u i (by omega)).trans (h.block i hi)⟩

set_option maxRecDepth 100000 in
theorem below_store3 {B b : Nat} {w w' : World} (h : Below B w w') (hb : B ≤ b) (x y z : Value) : Below B w (((w'.setCell ⟨b, 0, none⟩ x).setCell ⟨b, 1, none⟩ y).setCell ⟨b, 2, none⟩ z) :=
  below_store (below_store (below_store h hb x) hb y) hb z

set_option maxRecDepth 100000 in
/-- The result's cells are as they were, and the reader's numbers lie behind them. -/
theorem scan_row {w w1 w2 w3 w4 : World} {o : Array Value} {b q1 q2 q3 : Nat} (hx : (w.alloc (.cells o 96)).heap.size ≤ b) (hb1 : Below (w.alloc (.cells o 96)).heap.size (w.alloc (.cells o 96)) w1) (hb2 : w1.grownBy w2 (some b)) (hb3 : w2.grownBy w3 (some b)) (hb4 : w3.grownBy w4 (some b)) :
    Row (w4.alloc (.cells #[.int .i64 (q1 : Int), .int .i64 (q2 : Int), .int .i64 (q3 : Int)] 96)) w.heap.size 96 o ∧ Below w.heap.size w (w4.alloc (.cells #[.int .i64 (q1 : Int), .int .i64 (q2 : Int), .int .i64 (q3 : Int)] 96)) ∧ w.heap.size < w4.heap.size ∧ Row (w4.alloc (.cells #[.int .i64 (q1 : Int), .int .i64 (q2 : Int), .int .i64 (q3 : Int)] 96)) w4.heap.size 96 #[.int .i64 (q1 : Int), .int .i64 (q2 : Int), .int .i64 (q3 : Int)] := by
  have hr := Row.made w 96 o
  have e : (w.alloc (.cells o 96)).heap.size = w.heap.size + 1 := by simp
  have hne : (some b : Option Nat) ≠ some w.heap.size := by
    intro h; injection h with h; omega
  have h1 := hr.below hb1 (by omega)
  have h4 := ((h1.grown hb2 hne).grown hb3 hne).grown hb4 hne
  have k := ((Below.refl w.heap.size w).alloc (Nat.le_refl _) (.cells o 96)).trans (hb1.mono (by omega))
  have z1 := k.size
  have z2 := hb2.size
  have z3 := hb3.size
  have k2 := k.trans (below_gb hb2 (by omega) (by omega))
  have k3 := k2.trans (below_gb hb3 (by omega) (by omega))
  have k4 := k3.trans (below_gb hb4 (by omega) (by omega))
  exact ⟨h4.behindNew _, k4.alloc k4.size _, h4.inHeap, Row.made _ _ _⟩

set_option maxRecDepth 100000 in
set_option maxHeartbeats 1600000 in
theorem read_head (s : ByteArray) (hs : s.size = 64) (n : Nat) (hn : n ≤ 4096) (w : World) :
    Calls Tryz.prog 77 #[.string s, .int .i64 ((64 * n : Nat) : Int)] w fun e w' => e = .returned (.tuple (scanned (headAt n s.data.toList))) ∧ Below w.heap.size w w' := by
  have hl : s.data.toList.length = 64 := by rw [← Lib.size_eq]; exact hs
  by_cases ht : s.data.toList.take 7 = tag
  · have HCut := Lib.hid (fun W => cut_yes hs ht W)
    have f1 := T1_fits s.data.toList hl
    have f2 := stepN_fits (T1 s.data.toList).2.1 (T1 s.data.toList).2.2 f1
    have f3 : (T2 s.data.toList).2.1.length ≤ 64 := f2
    have N1 : Hid (∀ W b, RdL W b (s.data.toList.drop 7) 0 → Calls Tryz.prog 88 #[.pointer (some ⟨b, 0, none⟩)] W fun e w' => e = .returned (.int .i64 ((T1 s.data.toList).1 : Int)) ∧ RdL w' b (T1 s.data.toList).2.1 (T1 s.data.toList).2.2 ∧ W.grownBy w' (some b)) := Lib.hid (fun W b h => n_any h (by rw [List.length_drop]; omega))
    have N2 : Hid (∀ W b, RdL W b (T1 s.data.toList).2.1 (T1 s.data.toList).2.2 → Calls Tryz.prog 88 #[.pointer (some ⟨b, 0, none⟩)] W fun e w' => e = .returned (.int .i64 ((T2 s.data.toList).1 : Int)) ∧ RdL w' b (T2 s.data.toList).2.1 (T2 s.data.toList).2.2 ∧ W.grownBy w' (some b)) := Lib.hid (fun W b h => n_any h (by omega))
    have N3 : Hid (∀ W b, RdL W b (T2 s.data.toList).2.1 (T2 s.data.toList).2.2 → Calls Tryz.prog 88 #[.pointer (some ⟨b, 0, none⟩)] W fun e w' => e = .returned (.int .i64 ((T3 s.data.toList).1 : Int)) ∧ Rd w' b (mk (T3 s.data.toList).2.1) (T3 s.data.toList).2.2 ∧ W.grownBy w' (some b)) := Lib.hid (fun W b h => n_any h (by omega))
    have hov : Hid (∀ W, Calls Tryz.prog 58 #[.string (mk (s.data.toList.drop 7))] W fun e w' => ∃ b, e = .returned (.pointer (some ⟨b, 0, none⟩)) ∧ RdL w' b (s.data.toList.drop 7) 0 ∧ W.heap.size ≤ b ∧ Below W.heap.size W w') := Lib.hid (fun W => by
      have := over_any (mk (s.data.toList.drop 7)) W
      rw [mk_data] at this
      refine this.mono ?_
      rintro e w' ⟨rfl, h1, h2⟩
      exact ⟨_, rfl, h1, Nat.le_refl _, h2⟩)
    clear f1 f2 f3
    by_cases he : (T3 s.data.toList).2.2 = 0
    · obtain ⟨k, hk, hlen, hyes, hno, b1, b2, b3⟩ := headAt_read s.data.toList n hl ht he
      have hi : Hid (checkOf (s.extract 0 k) (s.extract k (k + 4)) = 0 ↔ (s.data.toList.drop k).take 4 = Frm.sumOf (s.data.toList.take k)) := Lib.hid (check_parts s k hs hk)
      have HC : Hid (∀ W, Calls Tryz.prog 105 #[.string (s.extract 0 k), .string (s.extract k (k + 4))] W fun e w' => e = .returned (.int .i64 (checkOf (s.extract 0 k) (s.extract k (k + 4)))) ∧ Below W.heap.size W w') := Lib.hid (fun W => crc_ok.check _ _ W (by rw [ByteArray.size_extract]; omega))
      have hR3 : (mk (T3 s.data.toList).2.1).size = 64 - k := by rw [mk_len, hlen]
      have hsub : (s.size : Int) - ((mk (T3 s.data.toList).2.1).size : Int) = (k : Int) := by omega
      have hk0 : (k : Int) ≤ (s.size : Int) := by omega
      have hk4 : (k : Int) + 4 ≤ (s.size : Int) := by omega
      have hsz : (s.size : Int) ≤ 64 := by omega
      have hw1 : IntKind.i64.wrap ((k : Int) + 4) = (k : Int) + 4 := IntWalk.i64_in _ ⟨by omega, by omega⟩
      have hw2 : (0 : Int) ≤ (k : Int) + 4 := by omega
      have hw4 : (k : Int) ≤ (k : Int) + 4 := by omega
      have hw3 : ((k : Int) + 4).toNat = k + 4 := by omega
      have Hyes := Lib.hid hyes
      have Hno := Lib.hid hno
      clear hyes hno hlen hl ht hs hk b1 b2 b3 hR3
      rw [he] at N3
      clear he
      generalize (s.data.toList.drop k).take 4 = f4 at *
      generalize Frm.sumOf (s.data.toList.take k) = so at *
      generalize checkOf (s.extract 0 k) (s.extract k (k + 4)) = x at *
      generalize headAt n s.data.toList = H at *
      generalize T1 s.data.toList = t1 at *
      generalize T2 s.data.toList = t2 at *
      generalize T3 s.data.toList = t3 at *
      obtain ⟨q1, l1, x1⟩ := t1
      obtain ⟨q2, l2, x2⟩ := t2
      obtain ⟨q3, l3, x3⟩ := t3
      simp only at *
      generalize hR : s.data.toList.drop 7 = R at *
      generalize mk R = mR at *
      clear hR
      generalize mk l3 = R3 at *
      by_cases hq2 : q2 ≤ 1
      · have d2 : decide ((q2 : Int) ≥ 2) = false := decide_eq_false (by omega)
        by_cases hq3 : q3 ≤ 64 * n
        · have d3 : decide ((q3 : Int) > 64 * (n : Int)) = false := decide_eq_false (by omega)
          by_cases hx0 : x = 0
          · have hH : H = some (q1, q2, q3) := Hyes.out ⟨hq2, hq3, hi.out.1 hx0⟩
            rw [hH]
            subst hx0
            clear hq2 hq3 hH Hyes Hno hi
            go_enter Tryz.func77, Tryz.ntmps77
            go_wp2_with (first
              | (go_at_call 104; with_reducible refine (HCut.out _).mono ?_; rintro e w0 ⟨rfl, rfl⟩)
              | (go_at_call 58; with_reducible refine (hov.out _).mono ?_; rintro e w1 ⟨bx, rfl, h1, hx, hb1⟩)
              | (go_at_call 88; first
                  | (with_reducible refine (N1.out _ _ h1).mono ?_; rintro e w2 ⟨rfl, h2, hb2⟩)
                  | (with_reducible refine (N2.out _ _ h2).mono ?_; rintro e w3 ⟨rfl, h3, hb3⟩)
                  | (with_reducible refine (N3.out _ _ h3).mono ?_; rintro e w4 ⟨rfl, h4, hb4⟩
                     have hr5 := scan_row (q1 := q1) (q2 := q2) (q3 := q3) hx hb1 hb2 hb3 hb4
                     have h5 := rd_new h4 (.cells #[.int .i64 (q1 : Int), .int .i64 (q2 : Int), .int .i64 (q3 : Int)] 96)))
              | (go_at_call 61; with_reducible refine (err_any h5).mono ?_; rintro e w6 ⟨rfl, e6⟩
                 rw [e6] at hr5 h5
                 clear e6 h1 h2 h3 h4 hb1 hb2 hb3 hb4 hx
                 have c0 := hr5.1.at 0
                 have c1 := hr5.1.at 1
                 have c2 := hr5.1.at 2
                 have f0 := hr5.1.free 0
                 have f1 := hr5.1.free 1
                 have f2 := hr5.1.free 2
                 have g0 := hr5.2.2.2.at 0
                 have g1 := hr5.2.2.2.at 1
                 have g2 := hr5.2.2.2.at 2)
              | (go_at_call 59; with_reducible refine (left_any h5).mono ?_; rintro e w7 ⟨rfl, rfl⟩))
            refine wp_region_held_drew (S := (fun w' => Below w6.heap.size w6 w')) (by kernel_rfl) (Below.drew (Below.refl _ _)) (fun hHeld => ?_)
            refine wpAnyH_take (i := 0) (v := ?_) rfl (by kernel_rfl) (by kernel_rfl) (by kernel_rfl) (fun _ _ _ h => h) (Or.inl ⟨by rfl, (by intro w hSw; go_simp; try with_reducible rfl)⟩) (by assumption) ?_
            simp only [Act.put, List.getElem_toArray, List.getElem_cons_zero, List.getElem_cons_succ, List.setIfInBounds_toArray, List.set_cons_zero, List.set_cons_succ]
            refine wpAnyH_take (i := 1) (v := ?_) rfl (by kernel_rfl) (by kernel_rfl) (by kernel_rfl) (fun _ _ _ h => h) (Or.inl ⟨by rfl, (by intro w hSw; go_simp; try with_reducible rfl)⟩) (by assumption) ?_
            simp only [Act.put, List.getElem_toArray, List.getElem_cons_zero, List.getElem_cons_succ, List.setIfInBounds_toArray, List.set_cons_zero, List.set_cons_succ]
            refine wpAnyH_take (i := 2) (v := ?_) rfl (by kernel_rfl) (by kernel_rfl) (by kernel_rfl) (fun _ _ _ h => h) (Or.inl ⟨by rfl, (by intro w hSw; go_simp; try with_reducible rfl)⟩) (by assumption) ?_
            simp only [Act.put, List.getElem_toArray, List.getElem_cons_zero, List.getElem_cons_succ, List.setIfInBounds_toArray, List.set_cons_zero, List.set_cons_succ]
            refine wpAnyH_take (i := 3) (v := ?_) rfl (by kernel_rfl) (by kernel_rfl) (by kernel_rfl) (fun _ _ _ h => h) (Or.inl ⟨by rfl, (by intro w hSw; go_simp; try with_reducible rfl)⟩) (by assumption) ?_
            simp only [Act.put, List.getElem_toArray, List.getElem_cons_zero, List.getElem_cons_succ, List.setIfInBounds_toArray, List.set_cons_zero, List.set_cons_succ]
            refine wpAnyH_take (i := 4) (v := ?_) rfl (by kernel_rfl) (by kernel_rfl) (by kernel_rfl) (fun _ _ _ h => h) (Or.inl ⟨by rfl, (by intro w hSw; go_simp; try with_reducible rfl)⟩) (by assumption) ?_
            simp only [Act.put, List.getElem_toArray, List.getElem_cons_zero, List.getElem_cons_succ, List.setIfInBounds_toArray, List.set_cons_zero, List.set_cons_succ]
            refine wpAnyH_take (i := 5) (v := ?_) rfl (by kernel_rfl) (by kernel_rfl) (by kernel_rfl) (fun _ _ _ h => h) (Or.inl ⟨by rfl, (by intro w hSw; go_simp; try with_reducible rfl)⟩) (by assumption) ?_
            simp only [Act.put, List.getElem_toArray, List.getElem_cons_zero, List.getElem_cons_succ, List.setIfInBounds_toArray, List.set_cons_zero, List.set_cons_succ]
            refine wpAnyH_take (i := 6) (v := ?_) rfl (by kernel_rfl) (by kernel_rfl) (by kernel_rfl) (fun _ _ _ h => h) (Or.inl ⟨by rfl, (by intro w hSw; go_simp; try with_reducible rfl)⟩) (by assumption) ?_
            simp only [Act.put, List.getElem_toArray, List.getElem_cons_zero, List.getElem_cons_succ, List.setIfInBounds_toArray, List.set_cons_zero, List.set_cons_succ]
            refine wpAnyH_take (i := 7) (v := ?_) rfl (by kernel_rfl) (by kernel_rfl) (by kernel_rfl) (fun _ _ _ h => h) (Or.inl ⟨by rfl, (by intro w hSw; go_simp; try with_reducible rfl)⟩) (by assumption) ?_
            simp only [Act.put, List.getElem_toArray, List.getElem_cons_zero, List.getElem_cons_succ, List.setIfInBounds_toArray, List.set_cons_zero, List.set_cons_succ]
            refine wpAnyH_ready (rs := [8]) (by kernel_rfl) (by simp) ?_
            refine AllReadyH.cons rfl (fun K hK => ?_) AllReadyH.nil
            go_simp
            go_at_call 105
            refine (HC.out _).mono ?_
            rintro e w8 ⟨rfl, hb8⟩
            refine hK.out _ _ (hHeld.trans (hb8.mono hHeld.size)) (fun hHeld => ?_)
            clear hb8
            clear hK K
            refine wpAnyH_take (i := 9) (v := ?_) rfl (by kernel_rfl) (by kernel_rfl) (by kernel_rfl) (fun _ _ _ h => h) (Or.inl ⟨by rfl, (by intro w hSw; go_simp; try with_reducible rfl)⟩) (by assumption) ?_
            simp only [Act.put, List.getElem_toArray, List.getElem_cons_zero, List.getElem_cons_succ, List.setIfInBounds_toArray, List.set_cons_zero, List.set_cons_succ]
            refine wpAnyH_done (by kernel_rfl) ?_ _
            have k1 := hr5.1.below hHeld hr5.1.inHeap
            have k9 := hr5.2.2.2.below hHeld hr5.2.2.2.inHeap
            have kb := hr5.2.1.trans (hHeld.mono hr5.2.1.size)
            have c0 := k1.at 0
            have c1 := k1.at 1
            have c2 := k1.at 2
            have f0 := k1.free 0
            have f1 := k1.free 1
            have f2 := k1.free 2
            have g0 := k9.at 0
            have g1 := k9.at 1
            have g2 := k9.at 2
            have Kb := Lib.hid kb
            clear hr5 k1 k9 kb hHeld h5
            go_wp2_with fail
            refine bodyPost_ret (v := .tuple #[.agg #[.int .i64 (q1 : Int), .int .i64 (q2 : Int), .int .i64 (q3 : Int)], .bool true]) (by simp [results, Tryz.results77, go_sem, c0, c1, c2]) rfl ⟨rfl, below_store3 Kb.out (Nat.le_refl _) _ _ _⟩
          · have hH : H = none := Hno.out (fun h => hx0 (hi.out.2 h.2.2))
            rw [hH]
            have hxb : (x != 0) = true := by simpa using hx0
            clear hq2 hq3 hH Hyes Hno hi hx0
            go_enter Tryz.func77, Tryz.ntmps77
            go_wp2_with (first
              | (go_at_call 104; with_reducible refine (HCut.out _).mono ?_; rintro e w0 ⟨rfl, rfl⟩)
              | (go_at_call 58; with_reducible refine (hov.out _).mono ?_; rintro e w1 ⟨bx, rfl, h1, hx, hb1⟩)
              | (go_at_call 88; first
                  | (with_reducible refine (N1.out _ _ h1).mono ?_; rintro e w2 ⟨rfl, h2, hb2⟩)
                  | (with_reducible refine (N2.out _ _ h2).mono ?_; rintro e w3 ⟨rfl, h3, hb3⟩)
                  | (with_reducible refine (N3.out _ _ h3).mono ?_; rintro e w4 ⟨rfl, h4, hb4⟩
                     have hr5 := scan_row (q1 := q1) (q2 := q2) (q3 := q3) hx hb1 hb2 hb3 hb4
                     have h5 := rd_new h4 (.cells #[.int .i64 (q1 : Int), .int .i64 (q2 : Int), .int .i64 (q3 : Int)] 96)))
              | (go_at_call 61; with_reducible refine (err_any h5).mono ?_; rintro e w6 ⟨rfl, e6⟩
                 rw [e6] at hr5 h5
                 clear e6 h1 h2 h3 h4 hb1 hb2 hb3 hb4 hx
                 have c0 := hr5.1.at 0
                 have c1 := hr5.1.at 1
                 have c2 := hr5.1.at 2
                 have f0 := hr5.1.free 0
                 have f1 := hr5.1.free 1
                 have f2 := hr5.1.free 2
                 have g0 := hr5.2.2.2.at 0
                 have g1 := hr5.2.2.2.at 1
                 have g2 := hr5.2.2.2.at 2)
              | (go_at_call 59; with_reducible refine (left_any h5).mono ?_; rintro e w7 ⟨rfl, rfl⟩))
            refine wp_region_held_drew (S := (fun w' => Below w6.heap.size w6 w')) (by kernel_rfl) (Below.drew (Below.refl _ _)) (fun hHeld => ?_)
            refine wpAnyH_take (i := 0) (v := ?_) rfl (by kernel_rfl) (by kernel_rfl) (by kernel_rfl) (fun _ _ _ h => h) (Or.inl ⟨by rfl, (by intro w hSw; go_simp; try with_reducible rfl)⟩) (by assumption) ?_
            simp only [Act.put, List.getElem_toArray, List.getElem_cons_zero, List.getElem_cons_succ, List.setIfInBounds_toArray, List.set_cons_zero, List.set_cons_succ]
            refine wpAnyH_take (i := 1) (v := ?_) rfl (by kernel_rfl) (by kernel_rfl) (by kernel_rfl) (fun _ _ _ h => h) (Or.inl ⟨by rfl, (by intro w hSw; go_simp; try with_reducible rfl)⟩) (by assumption) ?_
            simp only [Act.put, List.getElem_toArray, List.getElem_cons_zero, List.getElem_cons_succ, List.setIfInBounds_toArray, List.set_cons_zero, List.set_cons_succ]
            refine wpAnyH_take (i := 2) (v := ?_) rfl (by kernel_rfl) (by kernel_rfl) (by kernel_rfl) (fun _ _ _ h => h) (Or.inl ⟨by rfl, (by intro w hSw; go_simp; try with_reducible rfl)⟩) (by assumption) ?_
            simp only [Act.put, List.getElem_toArray, List.getElem_cons_zero, List.getElem_cons_succ, List.setIfInBounds_toArray, List.set_cons_zero, List.set_cons_succ]
            refine wpAnyH_take (i := 3) (v := ?_) rfl (by kernel_rfl) (by kernel_rfl) (by kernel_rfl) (fun _ _ _ h => h) (Or.inl ⟨by rfl, (by intro w hSw; go_simp; try with_reducible rfl)⟩) (by assumption) ?_
            simp only [Act.put, List.getElem_toArray, List.getElem_cons_zero, List.getElem_cons_succ, List.setIfInBounds_toArray, List.set_cons_zero, List.set_cons_succ]
            refine wpAnyH_take (i := 4) (v := ?_) rfl (by kernel_rfl) (by kernel_rfl) (by kernel_rfl) (fun _ _ _ h => h) (Or.inl ⟨by rfl, (by intro w hSw; go_simp; try with_reducible rfl)⟩) (by assumption) ?_
            simp only [Act.put, List.getElem_toArray, List.getElem_cons_zero, List.getElem_cons_succ, List.setIfInBounds_toArray, List.set_cons_zero, List.set_cons_succ]
            refine wpAnyH_take (i := 5) (v := ?_) rfl (by kernel_rfl) (by kernel_rfl) (by kernel_rfl) (fun _ _ _ h => h) (Or.inl ⟨by rfl, (by intro w hSw; go_simp; try with_reducible rfl)⟩) (by assumption) ?_
            simp only [Act.put, List.getElem_toArray, List.getElem_cons_zero, List.getElem_cons_succ, List.setIfInBounds_toArray, List.set_cons_zero, List.set_cons_succ]
            refine wpAnyH_take (i := 6) (v := ?_) rfl (by kernel_rfl) (by kernel_rfl) (by kernel_rfl) (fun _ _ _ h => h) (Or.inl ⟨by rfl, (by intro w hSw; go_simp; try with_reducible rfl)⟩) (by assumption) ?_
            simp only [Act.put, List.getElem_toArray, List.getElem_cons_zero, List.getElem_cons_succ, List.setIfInBounds_toArray, List.set_cons_zero, List.set_cons_succ]
            refine wpAnyH_take (i := 7) (v := ?_) rfl (by kernel_rfl) (by kernel_rfl) (by kernel_rfl) (fun _ _ _ h => h) (Or.inl ⟨by rfl, (by intro w hSw; go_simp; try with_reducible rfl)⟩) (by assumption) ?_
            simp only [Act.put, List.getElem_toArray, List.getElem_cons_zero, List.getElem_cons_succ, List.setIfInBounds_toArray, List.set_cons_zero, List.set_cons_succ]
            refine wpAnyH_ready (rs := [8]) (by kernel_rfl) (by simp) ?_
            refine AllReadyH.cons rfl (fun K hK => ?_) AllReadyH.nil
            go_simp
            go_at_call 105
            refine (HC.out _).mono ?_
            rintro e w8 ⟨rfl, hb8⟩
            refine hK.out _ _ (hHeld.trans (hb8.mono hHeld.size)) (fun hHeld => ?_)
            clear hb8
            clear hK K
            refine wpAnyH_take (i := 9) (v := ?_) rfl (by kernel_rfl) (by kernel_rfl) (by kernel_rfl) (fun _ _ _ h => h) (Or.inl ⟨by rfl, (by intro w hSw; go_simp; try with_reducible rfl)⟩) (by assumption) ?_
            simp only [Act.put, List.getElem_toArray, List.getElem_cons_zero, List.getElem_cons_succ, List.setIfInBounds_toArray, List.set_cons_zero, List.set_cons_succ]
            refine wpAnyH_done (by kernel_rfl) ?_ _
            have k1 := hr5.1.below hHeld hr5.1.inHeap
            have kb := hr5.2.1.trans (hHeld.mono hr5.2.1.size)
            have c0 := k1.at 0
            have c1 := k1.at 1
            have c2 := k1.at 2
            have f0 := k1.free 0
            have f1 := k1.free 1
            have f2 := k1.free 2
            have Kb := Lib.hid kb
            clear hr5 k1 kb hHeld h5
            go_wp2_with fail
            refine bodyPost_ret (v := .tuple #[.agg #[.int .i64 0, .int .i64 0, .int .i64 0], .bool false]) (by simp [results, Tryz.results77, go_sem, c0, c1, c2]) rfl ⟨rfl, below_store3 Kb.out (Nat.le_refl _) _ _ _⟩
        · have d3 : decide ((q3 : Int) > 64 * (n : Int)) = true := decide_eq_true (by omega)
          have hH : H = none := Hno.out (fun h => hq3 h.2.1)
          rw [hH]
          clear hq2 hq3 hH Hyes Hno hi
          go_enter Tryz.func77, Tryz.ntmps77
          go_wp2_with (first
            | (go_at_call 104; with_reducible refine (HCut.out _).mono ?_; rintro e w0 ⟨rfl, rfl⟩)
            | (go_at_call 58; with_reducible refine (hov.out _).mono ?_; rintro e w1 ⟨bx, rfl, h1, hx, hb1⟩)
            | (go_at_call 88; first
                | (with_reducible refine (N1.out _ _ h1).mono ?_; rintro e w2 ⟨rfl, h2, hb2⟩)
                | (with_reducible refine (N2.out _ _ h2).mono ?_; rintro e w3 ⟨rfl, h3, hb3⟩)
                | (with_reducible refine (N3.out _ _ h3).mono ?_; rintro e w4 ⟨rfl, h4, hb4⟩
                   have hr5 := scan_row (q1 := q1) (q2 := q2) (q3 := q3) hx hb1 hb2 hb3 hb4
                   have h5 := rd_new h4 (.cells #[.int .i64 (q1 : Int), .int .i64 (q2 : Int), .int .i64 (q3 : Int)] 96)))
            | (go_at_call 61; with_reducible refine (err_any h5).mono ?_; rintro e w6 ⟨rfl, e6⟩
               rw [e6] at hr5 h5
               clear e6 h1 h2 h3 h4 hb1 hb2 hb3 hb4 hx
               have c0 := hr5.1.at 0
               have c1 := hr5.1.at 1
               have c2 := hr5.1.at 2
               have f0 := hr5.1.free 0
               have f1 := hr5.1.free 1
               have f2 := hr5.1.free 2
               have g0 := hr5.2.2.2.at 0
               have g1 := hr5.2.2.2.at 1
               have g2 := hr5.2.2.2.at 2)
            | (go_at_call 59; with_reducible refine (left_any h5).mono ?_; rintro e w7 ⟨rfl, rfl⟩))
          refine bodyPost_ret (v := .tuple #[.agg #[.int .i64 0, .int .i64 0, .int .i64 0], .bool false]) (by simp [results, Tryz.results77, go_sem, c0, c1, c2]) rfl ⟨rfl, below_store3 hr5.2.1 (Nat.le_refl _) _ _ _⟩
      · have d2 : decide ((q2 : Int) ≥ 2) = true := decide_eq_true (by omega)
        have hH : H = none := Hno.out (fun h => hq2 h.1)
        rw [hH]
        clear hq2 hH Hyes Hno hi
        go_enter Tryz.func77, Tryz.ntmps77
        go_wp2_with (first
          | (go_at_call 104; with_reducible refine (HCut.out _).mono ?_; rintro e w0 ⟨rfl, rfl⟩)
          | (go_at_call 58; with_reducible refine (hov.out _).mono ?_; rintro e w1 ⟨bx, rfl, h1, hx, hb1⟩)
          | (go_at_call 88; first
              | (with_reducible refine (N1.out _ _ h1).mono ?_; rintro e w2 ⟨rfl, h2, hb2⟩)
              | (with_reducible refine (N2.out _ _ h2).mono ?_; rintro e w3 ⟨rfl, h3, hb3⟩)
              | (with_reducible refine (N3.out _ _ h3).mono ?_; rintro e w4 ⟨rfl, h4, hb4⟩
                 have hr5 := scan_row (q1 := q1) (q2 := q2) (q3 := q3) hx hb1 hb2 hb3 hb4
                 have h5 := rd_new h4 (.cells #[.int .i64 (q1 : Int), .int .i64 (q2 : Int), .int .i64 (q3 : Int)] 96)))
          | (go_at_call 61; with_reducible refine (err_any h5).mono ?_; rintro e w6 ⟨rfl, e6⟩
             rw [e6] at hr5 h5
             clear e6 h1 h2 h3 h4 hb1 hb2 hb3 hb4 hx
             have c0 := hr5.1.at 0
             have c1 := hr5.1.at 1
             have c2 := hr5.1.at 2
             have f0 := hr5.1.free 0
             have f1 := hr5.1.free 1
             have f2 := hr5.1.free 2
             have g0 := hr5.2.2.2.at 0
             have g1 := hr5.2.2.2.at 1
             have g2 := hr5.2.2.2.at 2)
          | (go_at_call 59; with_reducible refine (left_any h5).mono ?_; rintro e w7 ⟨rfl, rfl⟩))
        refine bodyPost_ret (v := .tuple #[.agg #[.int .i64 0, .int .i64 0, .int .i64 0], .bool false]) (by simp [results, Tryz.results77, go_sem, c0, c1, c2]) rfl ⟨rfl, below_store3 hr5.2.1 (Nat.le_refl _) _ _ _⟩
    · have hfin : Hid (headAt n s.data.toList = none) := Lib.hid (headAt_bad s.data.toList n he)
      have hb : ((T3 s.data.toList).2.2 != 0) = true := by simpa using he
      rw [hfin.out]
      clear hfin he hl ht hs
      generalize T1 s.data.toList = t1 at *
      generalize T2 s.data.toList = t2 at *
      generalize T3 s.data.toList = t3 at *
      obtain ⟨q1, l1, x1⟩ := t1
      obtain ⟨q2, l2, x2⟩ := t2
      obtain ⟨q3, l3, x3⟩ := t3
      simp only at *
      generalize hR : s.data.toList.drop 7 = R at *
      generalize mk R = mR at *
      generalize mk l3 = R3 at *
      clear hR
      go_enter Tryz.func77, Tryz.ntmps77
      go_wp2_with (first
        | (go_at_call 104; with_reducible refine (HCut.out _).mono ?_; rintro e w0 ⟨rfl, rfl⟩)
        | (go_at_call 58; with_reducible refine (hov.out _).mono ?_; rintro e w1 ⟨bx, rfl, h1, hx, hb1⟩)
        | (go_at_call 88; first
            | (with_reducible refine (N1.out _ _ h1).mono ?_; rintro e w2 ⟨rfl, h2, hb2⟩)
            | (with_reducible refine (N2.out _ _ h2).mono ?_; rintro e w3 ⟨rfl, h3, hb3⟩)
            | (with_reducible refine (N3.out _ _ h3).mono ?_; rintro e w4 ⟨rfl, h4, hb4⟩
               have hr5 := scan_row (q1 := q1) (q2 := q2) (q3 := q3) hx hb1 hb2 hb3 hb4
               have h5 := rd_new h4 (.cells #[.int .i64 (q1 : Int), .int .i64 (q2 : Int), .int .i64 (q3 : Int)] 96)))
        | (go_at_call 61; with_reducible refine (err_any h5).mono ?_; rintro e w6 ⟨rfl, e6⟩
           rw [e6] at hr5 h5
           clear e6 h1 h2 h3 h4 hb1 hb2 hb3 hb4 hx
           have c0 := hr5.1.at 0
           have c1 := hr5.1.at 1
           have c2 := hr5.1.at 2
           have f0 := hr5.1.free 0
           have f1 := hr5.1.free 1
           have f2 := hr5.1.free 2))
      refine bodyPost_ret (v := .tuple #[.agg #[.int .i64 0, .int .i64 0, .int .i64 0], .bool false]) (by simp [results, Tryz.results77, go_sem, c0, c1, c2]) rfl ⟨rfl, below_store3 hr5.2.1 (Nat.le_refl _) _ _ _⟩
  · have HCut := Lib.hid (fun W => cut_no hs ht W)
    have hfin : Hid (headAt n s.data.toList = none) := Lib.hid (headAt_untagged s.data.toList n ht)
    rw [hfin.out]
    clear hl ht hs hfin
    go_enter Tryz.func77, Tryz.ntmps77
    go_wp2_with (go_at_call 104; with_reducible refine (HCut.out _).mono ?_; rintro e w0 ⟨rfl, rfl⟩)
    refine bodyPost_ret (v := .tuple #[.agg #[.int .i64 0, .int .i64 0, .int .i64 0], .bool false]) (by simp [results, Tryz.results77, go_sem]) rfl ⟨rfl, (Below.refl _ _).alloc (Nat.le_refl _) _⟩
end Go.Proofs.YtbfjageaheijbaaGreat
