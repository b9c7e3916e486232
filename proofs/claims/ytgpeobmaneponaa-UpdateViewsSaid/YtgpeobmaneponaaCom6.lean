import Derived.Test.YtgpeobmaneponaaCom3
import Derived.Test.YtgpeobmaneponaaCom4
import Derived.Test.YtgpeobmaneponaaCom5
set_option maxRecDepth 100000
set_option linter.unusedVariables false
set_option linter.unusedSimpArgs false
set_option maxHeartbeats 12800000
namespace Go.Proofs.Ytgpeobmaneponaa
open Go.RowKit Go.Sort
theorem txt_nil (p : List UInt8) : ((mk p).toList == []) = decide (p = []) := by rw [Lib.toList_data, mk_data]; cases p <;> rfl
theorem txt_empty (p : List UInt8) : (mk p).toList.isEmpty = decide (p = []) := by rw [Lib.toList_data, mk_data]; cases p <;> rfl
theorem ref_uright (u : Upd.U) (hu : Upd.Bd u) (w : World) : Calls Try.prog 31 #[upA u] w fun e w' => e = .returned (.bool (decide (Upd.err u = 0))) ∧ Below w.heap.size w w' := by
 have C1 := Lib.hid (fun W => (ref_vright W u.item).mono (fun _ _ h => (⟨h.1, h.2.below⟩ : _ ∧ Below W.heap.size W _)))
 have C2 := Lib.hid (fun W => (ref_vright W u.stamp.v).mono (fun _ _ h => (⟨h.1, h.2.below⟩ : _ ∧ Below W.heap.size W _)))
 have C3 := Lib.hid (fun W => ref_right u.path W hu.path)
 obtain ⟨E, hE⟩ : ∃ E, E = Upd.err u := ⟨_, rfl⟩
 rw [← hE]
 clear hu
 obtain ⟨⟨i1, i2⟩, ⟨t, ⟨v1, v2⟩⟩, p, d, dd⟩ := u
 dsimp only [upA, mtA, verA] at C1 C2 C3 ⊢
 obtain ⟨n, hn⟩ : ∃ n : Int, n = (d.length : Int) := ⟨_, rfl⟩
 have hE0 : E = Upd.errM ⟨⟨i1, i2⟩, ⟨t, ⟨v1, v2⟩⟩, p, n, dd⟩ := by rw [hE, hn]; rfl
 have hys : ((mk d).size : Int) = n := by rw [mk_len, hn]
 have ea := txt_nil d
 have ia := txt_empty d
 have e0 : decide (d = []) = decide (n = 0) := by rw [decide_eq_decide, hn]; exact ⟨fun h => by rw [h]; rfl, fun h => List.eq_nil_of_length_eq_zero (by omega)⟩
 rw [e0] at ea ia
 have hn0 : ¬ (n < 0) := by omega
 clear e0 hE hn
 generalize mk d = y at *
 replace hE0 := Lib.hid hE0
 generalize mk p = x at *
 have hb : Below w.heap.size w (w.alloc (.cells #[.int .i64 i1, .int .i64 i2, .int .i64 v1, .int .i64 v2, .int .i64 t, .string x, .string y, .bool dd] 27)) := (Below.refl _ _).alloc (Nat.le_refl _) _
 have XB := Lib.hid (fun (W : World) (h : Below (w.alloc (.cells #[.int .i64 i1, .int .i64 i2, .int .i64 v1, .int .i64 v2, .int .i64 t, .string x, .string y, .bool dd] 27)).heap.size (w.alloc (.cells #[.int .i64 i1, .int .i64 i2, .int .i64 v1, .int .i64 v2, .int .i64 t, .string x, .string y, .bool dd] 27)) W) => (by
  have r := (Row.made w 27 #[.int .i64 i1, .int .i64 i2, .int .i64 v1, .int .i64 v2, .int .i64 t, .string x, .string y, .bool dd]).below h (by simp)
  exact ⟨r.at 0, r.at 1, r.at 2, r.at 3, r.at 4, r.at 5, r.at 6, r.at 7⟩ : W.cell? ⟨w.heap.size, 0, none⟩ = some (.int .i64 i1) ∧ W.cell? ⟨w.heap.size, 1, none⟩ = some (.int .i64 i2) ∧ W.cell? ⟨w.heap.size, 2, none⟩ = some (.int .i64 v1) ∧ W.cell? ⟨w.heap.size, 3, none⟩ = some (.int .i64 v2) ∧ W.cell? ⟨w.heap.size, 4, none⟩ = some (.int .i64 t) ∧ W.cell? ⟨w.heap.size, 5, none⟩ = some (.string x) ∧ W.cell? ⟨w.heap.size, 6, none⟩ = some (.string y) ∧ W.cell? ⟨w.heap.size, 7, none⟩ = some (.bool dd)))
 have HB0 := Lib.hid hb
 have HW : Hid (Below (w.alloc (.cells #[.int .i64 i1, .int .i64 i2, .int .i64 v1, .int .i64 v2, .int .i64 t, .string x, .string y, .bool dd] 27)).heap.size (w.alloc (.cells #[.int .i64 i1, .int .i64 i2, .int .i64 v1, .int .i64 v2, .int .i64 t, .string x, .string y, .bool dd] 27)) (w.alloc (.cells #[.int .i64 i1, .int .i64 i2, .int .i64 v1, .int .i64 v2, .int .i64 t, .string x, .string y, .bool dd] 27))) := Lib.hid (Below.refl _ _)
 clear hb
 by_cases h1 : Ver.Right ⟨i1, i2⟩
 ·replace C1 : Hid (∀ W, Calls Try.prog 29 #[.agg #[.int .i64 i1, .int .i64 i2]] W fun e w' => e = .returned (.bool true) ∧ Below W.heap.size W w') := Lib.hid (fun W => by have := C1.out W; rwa [decide_eq_true h1] at this)
  by_cases h2 : Ver.Right ⟨v1, v2⟩
  ·replace C2 : Hid (∀ W, Calls Try.prog 29 #[.agg #[.int .i64 v1, .int .i64 v2]] W fun e w' => e = .returned (.bool true) ∧ Below W.heap.size W w') := Lib.hid (fun W => by have := C2.out W; rwa [decide_eq_true h2] at this)
   by_cases h2b : (1 : Int) ≤ t
   ·by_cases h3 : Pth.Right p
    ·replace C3 : Hid (∀ W, Calls Try.prog 30 #[.string x] W fun e w' => e = .returned (.bool true) ∧ Below W.heap.size W w') := Lib.hid (fun W => by have := C3.out W; rwa [decide_eq_true h3] at this)
     by_cases h4 : (200 : Int) < n
     ·have hE : Hid (E = 4) := Lib.hid (by rw [hE0.out]; simp [Upd.errM, Ver.RightS, h1, h2, h2b, h3, h4])
      clear h1 h2 h3
      go_enter Try.func31, Try.ntmps31
      go_wp2_with fail
      refine (C1.out _).mono ?_
      rintro e w1 ⟨rfl, b1⟩
      have B1 := Lib.hid (HW.out.trans (b1.mono HW.out.size))
      obtain ⟨c0, c1, c2, c3, c4, c5, c6, c7⟩ := XB.out _ B1.out
      clear b1
      go_wp2_with fail
      clear c0 c1 c2 c3 c4 c5 c6 c7
      refine (C2.out _).mono ?_
      rintro e w2 ⟨rfl, b2⟩
      have B2 := Lib.hid (B1.out.trans (b2.mono B1.out.size))
      obtain ⟨c0, c1, c2, c3, c4, c5, c6, c7⟩ := XB.out _ B2.out
      clear b2
      go_wp2_with fail
      clear c0 c1 c2 c3 c4 c5 c6 c7
      refine (C3.out _).mono ?_
      rintro e w3 ⟨rfl, b3⟩
      have B3 := Lib.hid (B2.out.trans (b3.mono B2.out.size))
      obtain ⟨c0, c1, c2, c3, c4, c5, c6, c7⟩ := XB.out _ B3.out
      clear b3
      go_wp2_with fail
      go_ret
      exact ⟨by rw [hE.out] <;> rfl, HB0.out.trans (B3.out.mono HB0.out.size)⟩
     ·cases dd
      ·have hE : Hid (E = 0) := Lib.hid (by rw [hE0.out]; simp [Upd.errM, Ver.RightS, h1, h2, h2b, h3, h4, hn0])
       clear h1 h2 h3
       go_enter Try.func31, Try.ntmps31
       go_wp2_with fail
       refine (C1.out _).mono ?_
       rintro e w1 ⟨rfl, b1⟩
       have B1 := Lib.hid (HW.out.trans (b1.mono HW.out.size))
       obtain ⟨c0, c1, c2, c3, c4, c5, c6, c7⟩ := XB.out _ B1.out
       clear b1
       go_wp2_with fail
       clear c0 c1 c2 c3 c4 c5 c6 c7
       refine (C2.out _).mono ?_
       rintro e w2 ⟨rfl, b2⟩
       have B2 := Lib.hid (B1.out.trans (b2.mono B1.out.size))
       obtain ⟨c0, c1, c2, c3, c4, c5, c6, c7⟩ := XB.out _ B2.out
       clear b2
       go_wp2_with fail
       clear c0 c1 c2 c3 c4 c5 c6 c7
       refine (C3.out _).mono ?_
       rintro e w3 ⟨rfl, b3⟩
       have B3 := Lib.hid (B2.out.trans (b3.mono B2.out.size))
       obtain ⟨c0, c1, c2, c3, c4, c5, c6, c7⟩ := XB.out _ B3.out
       clear b3
       go_wp2_with fail
       go_ret
       exact ⟨by rw [hE.out] <;> rfl, HB0.out.trans (B3.out.mono HB0.out.size)⟩
      ·by_cases h6 : n = 0
       ·rw [decide_eq_true h6] at ea ia
        have hE : Hid (E = 0) := Lib.hid (by rw [hE0.out]; simp [Upd.errM, Ver.RightS, h1, h2, h2b, h3, h6])
        clear h1 h2 h3
        go_enter Try.func31, Try.ntmps31
        go_wp2_with fail
        refine (C1.out _).mono ?_
        rintro e w1 ⟨rfl, b1⟩
        have B1 := Lib.hid (HW.out.trans (b1.mono HW.out.size))
        obtain ⟨c0, c1, c2, c3, c4, c5, c6, c7⟩ := XB.out _ B1.out
        clear b1
        go_wp2_with fail
        clear c0 c1 c2 c3 c4 c5 c6 c7
        refine (C2.out _).mono ?_
        rintro e w2 ⟨rfl, b2⟩
        have B2 := Lib.hid (B1.out.trans (b2.mono B1.out.size))
        obtain ⟨c0, c1, c2, c3, c4, c5, c6, c7⟩ := XB.out _ B2.out
        clear b2
        go_wp2_with fail
        clear c0 c1 c2 c3 c4 c5 c6 c7
        refine (C3.out _).mono ?_
        rintro e w3 ⟨rfl, b3⟩
        have B3 := Lib.hid (B2.out.trans (b3.mono B2.out.size))
        obtain ⟨c0, c1, c2, c3, c4, c5, c6, c7⟩ := XB.out _ B3.out
        clear b3
        go_wp2_with fail
        go_ret
        exact ⟨by rw [hE.out] <;> rfl, HB0.out.trans (B3.out.mono HB0.out.size)⟩
       ·rw [decide_eq_false h6] at ea ia
        have h7 : (0 : Int) < n := by omega
        have hE : Hid (E = 6) := Lib.hid (by rw [hE0.out]; simp [Upd.errM, Ver.RightS, h1, h2, h2b, h3, h4, hn0, h7])
        clear h1 h2 h3
        go_enter Try.func31, Try.ntmps31
        go_wp2_with fail
        refine (C1.out _).mono ?_
        rintro e w1 ⟨rfl, b1⟩
        have B1 := Lib.hid (HW.out.trans (b1.mono HW.out.size))
        obtain ⟨c0, c1, c2, c3, c4, c5, c6, c7⟩ := XB.out _ B1.out
        clear b1
        go_wp2_with fail
        clear c0 c1 c2 c3 c4 c5 c6 c7
        refine (C2.out _).mono ?_
        rintro e w2 ⟨rfl, b2⟩
        have B2 := Lib.hid (B1.out.trans (b2.mono B1.out.size))
        obtain ⟨c0, c1, c2, c3, c4, c5, c6, c7⟩ := XB.out _ B2.out
        clear b2
        go_wp2_with fail
        clear c0 c1 c2 c3 c4 c5 c6 c7
        refine (C3.out _).mono ?_
        rintro e w3 ⟨rfl, b3⟩
        have B3 := Lib.hid (B2.out.trans (b3.mono B2.out.size))
        obtain ⟨c0, c1, c2, c3, c4, c5, c6, c7⟩ := XB.out _ B3.out
        clear b3
        go_wp2_with fail
        go_ret
        exact ⟨by rw [hE.out] <;> rfl, HB0.out.trans (B3.out.mono HB0.out.size)⟩
    ·replace C3 : Hid (∀ W, Calls Try.prog 30 #[.string x] W fun e w' => e = .returned (.bool false) ∧ Below W.heap.size W w') := Lib.hid (fun W => by have := C3.out W; rwa [decide_eq_false h3] at this)
     have hE : Hid (E = 13) := Lib.hid (by rw [hE0.out]; simp [Upd.errM, Ver.RightS, h1, h2, h2b, h3])
     clear h1 h2 h3
     go_enter Try.func31, Try.ntmps31
     go_wp2_with fail
     refine (C1.out _).mono ?_
     rintro e w1 ⟨rfl, b1⟩
     have B1 := Lib.hid (HW.out.trans (b1.mono HW.out.size))
     obtain ⟨c0, c1, c2, c3, c4, c5, c6, c7⟩ := XB.out _ B1.out
     clear b1
     go_wp2_with fail
     clear c0 c1 c2 c3 c4 c5 c6 c7
     refine (C2.out _).mono ?_
     rintro e w2 ⟨rfl, b2⟩
     have B2 := Lib.hid (B1.out.trans (b2.mono B1.out.size))
     obtain ⟨c0, c1, c2, c3, c4, c5, c6, c7⟩ := XB.out _ B2.out
     clear b2
     go_wp2_with fail
     clear c0 c1 c2 c3 c4 c5 c6 c7
     refine (C3.out _).mono ?_
     rintro e w3 ⟨rfl, b3⟩
     have B3 := Lib.hid (B2.out.trans (b3.mono B2.out.size))
     obtain ⟨c0, c1, c2, c3, c4, c5, c6, c7⟩ := XB.out _ B3.out
     clear b3
     go_wp2_with fail
     go_ret
     exact ⟨by rw [hE.out] <;> rfl, HB0.out.trans (B3.out.mono HB0.out.size)⟩
   ·have hE : Hid (E = 2) := Lib.hid (by rw [hE0.out]; simp [Upd.errM, Ver.RightS, h1, h2, h2b])
    clear h1 h2
    go_enter Try.func31, Try.ntmps31
    go_wp2_with fail
    refine (C1.out _).mono ?_
    rintro e w1 ⟨rfl, b1⟩
    have B1 := Lib.hid (HW.out.trans (b1.mono HW.out.size))
    obtain ⟨c0, c1, c2, c3, c4, c5, c6, c7⟩ := XB.out _ B1.out
    clear b1
    go_wp2_with fail
    clear c0 c1 c2 c3 c4 c5 c6 c7
    refine (C2.out _).mono ?_
    rintro e w2 ⟨rfl, b2⟩
    have B2 := Lib.hid (B1.out.trans (b2.mono B1.out.size))
    obtain ⟨c0, c1, c2, c3, c4, c5, c6, c7⟩ := XB.out _ B2.out
    clear b2
    go_wp2_with fail
    go_ret
    exact ⟨by rw [hE.out] <;> rfl, HB0.out.trans (B2.out.mono HB0.out.size)⟩
  ·replace C2 : Hid (∀ W, Calls Try.prog 29 #[.agg #[.int .i64 v1, .int .i64 v2]] W fun e w' => e = .returned (.bool false) ∧ Below W.heap.size W w') := Lib.hid (fun W => by have := C2.out W; rwa [decide_eq_false h2] at this)
   have hE : Hid (E = 2) := Lib.hid (by rw [hE0.out]; simp [Upd.errM, Ver.RightS, h1, h2])
   clear h1 h2
   go_enter Try.func31, Try.ntmps31
   go_wp2_with fail
   refine (C1.out _).mono ?_
   rintro e w1 ⟨rfl, b1⟩
   have B1 := Lib.hid (HW.out.trans (b1.mono HW.out.size))
   obtain ⟨c0, c1, c2, c3, c4, c5, c6, c7⟩ := XB.out _ B1.out
   clear b1
   go_wp2_with fail
   clear c0 c1 c2 c3 c4 c5 c6 c7
   refine (C2.out _).mono ?_
   rintro e w2 ⟨rfl, b2⟩
   have B2 := Lib.hid (B1.out.trans (b2.mono B1.out.size))
   obtain ⟨c0, c1, c2, c3, c4, c5, c6, c7⟩ := XB.out _ B2.out
   clear b2
   go_wp2_with fail
   go_ret
   exact ⟨by rw [hE.out] <;> rfl, HB0.out.trans (B2.out.mono HB0.out.size)⟩
 ·replace C1 : Hid (∀ W, Calls Try.prog 29 #[.agg #[.int .i64 i1, .int .i64 i2]] W fun e w' => e = .returned (.bool false) ∧ Below W.heap.size W w') := Lib.hid (fun W => by have := C1.out W; rwa [decide_eq_false h1] at this)
  have hE : Hid (E = 2) := Lib.hid (by rw [hE0.out]; simp [Upd.errM, Ver.RightS, h1])
  clear h1
  go_enter Try.func31, Try.ntmps31
  go_wp2_with fail
  refine (C1.out _).mono ?_
  rintro e w1 ⟨rfl, b1⟩
  have B1 := Lib.hid (HW.out.trans (b1.mono HW.out.size))
  obtain ⟨c0, c1, c2, c3, c4, c5, c6, c7⟩ := XB.out _ B1.out
  clear b1
  go_wp2_with fail
  go_ret
  exact ⟨by rw [hE.out] <;> rfl, HB0.out.trans (B1.out.mono HB0.out.size)⟩
theorem ref_ucheck (u : Upd.U) (hu : Upd.Bd u) (w : World) : Calls Try.prog 12 #[upA u] w fun e w' => e = .returned (.int .i64 (Upd.err u)) ∧ Below w.heap.size w w' := by
 have C1 := Lib.hid (fun W => (ref_vright W u.item).mono (fun _ _ h => (⟨h.1, h.2.below⟩ : _ ∧ Below W.heap.size W _)))
 have C2 := Lib.hid (fun W => (ref_vright W u.stamp.v).mono (fun _ _ h => (⟨h.1, h.2.below⟩ : _ ∧ Below W.heap.size W _)))
 have C3 := Lib.hid (fun W => ref_right u.path W hu.path)
 have C4 := Lib.hid (fun W => ref_uright u hu W)
 obtain ⟨E, hE⟩ : ∃ E, E = Upd.err u := ⟨_, rfl⟩
 rw [← hE] at C4 ⊢
 clear hu
 obtain ⟨⟨i1, i2⟩, ⟨t, ⟨v1, v2⟩⟩, p, d, dd⟩ := u
 dsimp only [upA, mtA, verA] at C1 C2 C3 ⊢
 dsimp only [upA] at C4
 obtain ⟨n, hn⟩ : ∃ n : Int, n = (d.length : Int) := ⟨_, rfl⟩
 have hE0 : E = Upd.errM ⟨⟨i1, i2⟩, ⟨t, ⟨v1, v2⟩⟩, p, n, dd⟩ := by rw [hE, hn]; rfl
 have hys : ((mk d).size : Int) = n := by rw [mk_len, hn]
 have ea := txt_nil d
 have ia := txt_empty d
 have e0 : decide (d = []) = decide (n = 0) := by rw [decide_eq_decide, hn]; exact ⟨fun h => by rw [h]; rfl, fun h => List.eq_nil_of_length_eq_zero (by omega)⟩
 rw [e0] at ea ia
 have hn0 : ¬ (n < 0) := by omega
 clear e0 hE hn
 generalize mk d = y at *
 replace hE0 := Lib.hid hE0
 generalize mk p = x at *
 have hb : Below w.heap.size w (w.alloc (.cells #[.int .i64 i1, .int .i64 i2, .int .i64 v1, .int .i64 v2, .int .i64 t, .string x, .string y, .bool dd] 27)) := (Below.refl _ _).alloc (Nat.le_refl _) _
 have XB := Lib.hid (fun (W : World) (h : Below (w.alloc (.cells #[.int .i64 i1, .int .i64 i2, .int .i64 v1, .int .i64 v2, .int .i64 t, .string x, .string y, .bool dd] 27)).heap.size (w.alloc (.cells #[.int .i64 i1, .int .i64 i2, .int .i64 v1, .int .i64 v2, .int .i64 t, .string x, .string y, .bool dd] 27)) W) => (by
  have r := (Row.made w 27 #[.int .i64 i1, .int .i64 i2, .int .i64 v1, .int .i64 v2, .int .i64 t, .string x, .string y, .bool dd]).below h (by simp)
  exact ⟨r.at 0, r.at 1, r.at 2, r.at 3, r.at 4, r.at 5, r.at 6, r.at 7⟩ : W.cell? ⟨w.heap.size, 0, none⟩ = some (.int .i64 i1) ∧ W.cell? ⟨w.heap.size, 1, none⟩ = some (.int .i64 i2) ∧ W.cell? ⟨w.heap.size, 2, none⟩ = some (.int .i64 v1) ∧ W.cell? ⟨w.heap.size, 3, none⟩ = some (.int .i64 v2) ∧ W.cell? ⟨w.heap.size, 4, none⟩ = some (.int .i64 t) ∧ W.cell? ⟨w.heap.size, 5, none⟩ = some (.string x) ∧ W.cell? ⟨w.heap.size, 6, none⟩ = some (.string y) ∧ W.cell? ⟨w.heap.size, 7, none⟩ = some (.bool dd)))
 have HB0 := Lib.hid hb
 have HW : Hid (Below (w.alloc (.cells #[.int .i64 i1, .int .i64 i2, .int .i64 v1, .int .i64 v2, .int .i64 t, .string x, .string y, .bool dd] 27)).heap.size (w.alloc (.cells #[.int .i64 i1, .int .i64 i2, .int .i64 v1, .int .i64 v2, .int .i64 t, .string x, .string y, .bool dd] 27)) (w.alloc (.cells #[.int .i64 i1, .int .i64 i2, .int .i64 v1, .int .i64 v2, .int .i64 t, .string x, .string y, .bool dd] 27))) := Lib.hid (Below.refl _ _)
 clear hb
 by_cases h1 : Ver.Right ⟨i1, i2⟩
 ·replace C1 : Hid (∀ W, Calls Try.prog 29 #[.agg #[.int .i64 i1, .int .i64 i2]] W fun e w' => e = .returned (.bool true) ∧ Below W.heap.size W w') := Lib.hid (fun W => by have := C1.out W; rwa [decide_eq_true h1] at this)
  by_cases h2 : Ver.Right ⟨v1, v2⟩
  ·replace C2 : Hid (∀ W, Calls Try.prog 29 #[.agg #[.int .i64 v1, .int .i64 v2]] W fun e w' => e = .returned (.bool true) ∧ Below W.heap.size W w') := Lib.hid (fun W => by have := C2.out W; rwa [decide_eq_true h2] at this)
   by_cases h2b : (1 : Int) ≤ t
   ·by_cases h3 : Pth.Right p
    ·replace C3 : Hid (∀ W, Calls Try.prog 30 #[.string x] W fun e w' => e = .returned (.bool true) ∧ Below W.heap.size W w') := Lib.hid (fun W => by have := C3.out W; rwa [decide_eq_true h3] at this)
     by_cases h4 : (200 : Int) < n
     ·have hE : Hid (E = 4) := Lib.hid (by rw [hE0.out]; simp [Upd.errM, Ver.RightS, h1, h2, h2b, h3, h4])
      clear h1 h2 h3
      go_enter Try.func12, Try.ntmps12
      go_wp2_with fail
      refine (C1.out _).mono ?_
      rintro e w1 ⟨rfl, b1⟩
      have B1 := Lib.hid (HW.out.trans (b1.mono HW.out.size))
      obtain ⟨c0, c1, c2, c3, c4, c5, c6, c7⟩ := XB.out _ B1.out
      clear b1
      go_wp2_with fail
      clear c0 c1 c2 c3 c4 c5 c6 c7
      refine (C2.out _).mono ?_
      rintro e w2 ⟨rfl, b2⟩
      have B2 := Lib.hid (B1.out.trans (b2.mono B1.out.size))
      obtain ⟨c0, c1, c2, c3, c4, c5, c6, c7⟩ := XB.out _ B2.out
      clear b2
      go_wp2_with fail
      clear c0 c1 c2 c3 c4 c5 c6 c7
      refine (C3.out _).mono ?_
      rintro e w3 ⟨rfl, b3⟩
      have B3 := Lib.hid (B2.out.trans (b3.mono B2.out.size))
      obtain ⟨c0, c1, c2, c3, c4, c5, c6, c7⟩ := XB.out _ B3.out
      clear b3
      go_wp2_with fail
      go_ret
      exact ⟨by rw [hE.out] <;> rfl, HB0.out.trans (B3.out.mono HB0.out.size)⟩
     ·cases dd
      ·have hE : Hid (E = 0) := Lib.hid (by rw [hE0.out]; simp [Upd.errM, Ver.RightS, h1, h2, h2b, h3, h4, hn0])
       replace C4 : Hid (∀ W, Calls Try.prog 31 #[.agg #[.int .i64 i1, .int .i64 i2, .int .i64 v1, .int .i64 v2, .int .i64 t, .string x, .string y, .bool false]] W fun e w' => e = .returned (.bool true) ∧ Below W.heap.size W w') := Lib.hid (fun W => by have := C4.out W; rw [hE.out] at this; exact this)
       clear h1 h2 h3
       go_enter Try.func12, Try.ntmps12
       go_wp2_with fail
       refine (C1.out _).mono ?_
       rintro e w1 ⟨rfl, b1⟩
       have B1 := Lib.hid (HW.out.trans (b1.mono HW.out.size))
       obtain ⟨c0, c1, c2, c3, c4, c5, c6, c7⟩ := XB.out _ B1.out
       clear b1
       go_wp2_with fail
       clear c0 c1 c2 c3 c4 c5 c6 c7
       refine (C2.out _).mono ?_
       rintro e w2 ⟨rfl, b2⟩
       have B2 := Lib.hid (B1.out.trans (b2.mono B1.out.size))
       obtain ⟨c0, c1, c2, c3, c4, c5, c6, c7⟩ := XB.out _ B2.out
       clear b2
       go_wp2_with fail
       clear c0 c1 c2 c3 c4 c5 c6 c7
       refine (C3.out _).mono ?_
       rintro e w3 ⟨rfl, b3⟩
       have B3 := Lib.hid (B2.out.trans (b3.mono B2.out.size))
       obtain ⟨c0, c1, c2, c3, c4, c5, c6, c7⟩ := XB.out _ B3.out
       clear b3
       go_wp2_with fail
       clear c0 c1 c2 c3 c4 c5 c6 c7
       refine (C4.out _).mono ?_
       rintro e w4 ⟨rfl, b4⟩
       have B4 := Lib.hid (B3.out.trans (b4.mono B3.out.size))
       obtain ⟨c0, c1, c2, c3, c4, c5, c6, c7⟩ := XB.out _ B4.out
       clear b4
       go_wp2_with fail
       go_ret
       exact ⟨by rw [hE.out] <;> rfl, HB0.out.trans (B4.out.mono HB0.out.size)⟩
      ·by_cases h6 : n = 0
       ·rw [decide_eq_true h6] at ea ia
        have hE : Hid (E = 0) := Lib.hid (by rw [hE0.out]; simp [Upd.errM, Ver.RightS, h1, h2, h2b, h3, h6])
        replace C4 : Hid (∀ W, Calls Try.prog 31 #[.agg #[.int .i64 i1, .int .i64 i2, .int .i64 v1, .int .i64 v2, .int .i64 t, .string x, .string y, .bool true]] W fun e w' => e = .returned (.bool true) ∧ Below W.heap.size W w') := Lib.hid (fun W => by have := C4.out W; rw [hE.out] at this; exact this)
        clear h1 h2 h3
        go_enter Try.func12, Try.ntmps12
        go_wp2_with fail
        refine (C1.out _).mono ?_
        rintro e w1 ⟨rfl, b1⟩
        have B1 := Lib.hid (HW.out.trans (b1.mono HW.out.size))
        obtain ⟨c0, c1, c2, c3, c4, c5, c6, c7⟩ := XB.out _ B1.out
        clear b1
        go_wp2_with fail
        clear c0 c1 c2 c3 c4 c5 c6 c7
        refine (C2.out _).mono ?_
        rintro e w2 ⟨rfl, b2⟩
        have B2 := Lib.hid (B1.out.trans (b2.mono B1.out.size))
        obtain ⟨c0, c1, c2, c3, c4, c5, c6, c7⟩ := XB.out _ B2.out
        clear b2
        go_wp2_with fail
        clear c0 c1 c2 c3 c4 c5 c6 c7
        refine (C3.out _).mono ?_
        rintro e w3 ⟨rfl, b3⟩
        have B3 := Lib.hid (B2.out.trans (b3.mono B2.out.size))
        obtain ⟨c0, c1, c2, c3, c4, c5, c6, c7⟩ := XB.out _ B3.out
        clear b3
        go_wp2_with fail
        clear c0 c1 c2 c3 c4 c5 c6 c7
        refine (C4.out _).mono ?_
        rintro e w4 ⟨rfl, b4⟩
        have B4 := Lib.hid (B3.out.trans (b4.mono B3.out.size))
        obtain ⟨c0, c1, c2, c3, c4, c5, c6, c7⟩ := XB.out _ B4.out
        clear b4
        go_wp2_with fail
        go_ret
        exact ⟨by rw [hE.out] <;> rfl, HB0.out.trans (B4.out.mono HB0.out.size)⟩
       ·rw [decide_eq_false h6] at ea ia
        have h7 : (0 : Int) < n := by omega
        have hE : Hid (E = 6) := Lib.hid (by rw [hE0.out]; simp [Upd.errM, Ver.RightS, h1, h2, h2b, h3, h4, hn0, h7])
        replace C4 : Hid (∀ W, Calls Try.prog 31 #[.agg #[.int .i64 i1, .int .i64 i2, .int .i64 v1, .int .i64 v2, .int .i64 t, .string x, .string y, .bool true]] W fun e w' => e = .returned (.bool false) ∧ Below W.heap.size W w') := Lib.hid (fun W => by have := C4.out W; rw [hE.out] at this; exact this)
        clear h1 h2 h3
        go_enter Try.func12, Try.ntmps12
        go_wp2_with fail
        refine (C1.out _).mono ?_
        rintro e w1 ⟨rfl, b1⟩
        have B1 := Lib.hid (HW.out.trans (b1.mono HW.out.size))
        obtain ⟨c0, c1, c2, c3, c4, c5, c6, c7⟩ := XB.out _ B1.out
        clear b1
        go_wp2_with fail
        clear c0 c1 c2 c3 c4 c5 c6 c7
        refine (C2.out _).mono ?_
        rintro e w2 ⟨rfl, b2⟩
        have B2 := Lib.hid (B1.out.trans (b2.mono B1.out.size))
        obtain ⟨c0, c1, c2, c3, c4, c5, c6, c7⟩ := XB.out _ B2.out
        clear b2
        go_wp2_with fail
        clear c0 c1 c2 c3 c4 c5 c6 c7
        refine (C3.out _).mono ?_
        rintro e w3 ⟨rfl, b3⟩
        have B3 := Lib.hid (B2.out.trans (b3.mono B2.out.size))
        obtain ⟨c0, c1, c2, c3, c4, c5, c6, c7⟩ := XB.out _ B3.out
        clear b3
        go_wp2_with fail
        clear c0 c1 c2 c3 c4 c5 c6 c7
        refine (C4.out _).mono ?_
        rintro e w4 ⟨rfl, b4⟩
        have B4 := Lib.hid (B3.out.trans (b4.mono B3.out.size))
        obtain ⟨c0, c1, c2, c3, c4, c5, c6, c7⟩ := XB.out _ B4.out
        clear b4
        go_wp2_with fail
        go_ret
        exact ⟨by rw [hE.out] <;> rfl, HB0.out.trans (B4.out.mono HB0.out.size)⟩
    ·replace C3 : Hid (∀ W, Calls Try.prog 30 #[.string x] W fun e w' => e = .returned (.bool false) ∧ Below W.heap.size W w') := Lib.hid (fun W => by have := C3.out W; rwa [decide_eq_false h3] at this)
     have hE : Hid (E = 13) := Lib.hid (by rw [hE0.out]; simp [Upd.errM, Ver.RightS, h1, h2, h2b, h3])
     clear h1 h2 h3
     go_enter Try.func12, Try.ntmps12
     go_wp2_with fail
     refine (C1.out _).mono ?_
     rintro e w1 ⟨rfl, b1⟩
     have B1 := Lib.hid (HW.out.trans (b1.mono HW.out.size))
     obtain ⟨c0, c1, c2, c3, c4, c5, c6, c7⟩ := XB.out _ B1.out
     clear b1
     go_wp2_with fail
     clear c0 c1 c2 c3 c4 c5 c6 c7
     refine (C2.out _).mono ?_
     rintro e w2 ⟨rfl, b2⟩
     have B2 := Lib.hid (B1.out.trans (b2.mono B1.out.size))
     obtain ⟨c0, c1, c2, c3, c4, c5, c6, c7⟩ := XB.out _ B2.out
     clear b2
     go_wp2_with fail
     clear c0 c1 c2 c3 c4 c5 c6 c7
     refine (C3.out _).mono ?_
     rintro e w3 ⟨rfl, b3⟩
     have B3 := Lib.hid (B2.out.trans (b3.mono B2.out.size))
     obtain ⟨c0, c1, c2, c3, c4, c5, c6, c7⟩ := XB.out _ B3.out
     clear b3
     go_wp2_with fail
     go_ret
     exact ⟨by rw [hE.out] <;> rfl, HB0.out.trans (B3.out.mono HB0.out.size)⟩
   ·have hE : Hid (E = 2) := Lib.hid (by rw [hE0.out]; simp [Upd.errM, Ver.RightS, h1, h2, h2b])
    clear h1 h2
    go_enter Try.func12, Try.ntmps12
    go_wp2_with fail
    refine (C1.out _).mono ?_
    rintro e w1 ⟨rfl, b1⟩
    have B1 := Lib.hid (HW.out.trans (b1.mono HW.out.size))
    obtain ⟨c0, c1, c2, c3, c4, c5, c6, c7⟩ := XB.out _ B1.out
    clear b1
    go_wp2_with fail
    clear c0 c1 c2 c3 c4 c5 c6 c7
    refine (C2.out _).mono ?_
    rintro e w2 ⟨rfl, b2⟩
    have B2 := Lib.hid (B1.out.trans (b2.mono B1.out.size))
    obtain ⟨c0, c1, c2, c3, c4, c5, c6, c7⟩ := XB.out _ B2.out
    clear b2
    go_wp2_with fail
    go_ret
    exact ⟨by rw [hE.out] <;> rfl, HB0.out.trans (B2.out.mono HB0.out.size)⟩
  ·replace C2 : Hid (∀ W, Calls Try.prog 29 #[.agg #[.int .i64 v1, .int .i64 v2]] W fun e w' => e = .returned (.bool false) ∧ Below W.heap.size W w') := Lib.hid (fun W => by have := C2.out W; rwa [decide_eq_false h2] at this)
   have hE : Hid (E = 2) := Lib.hid (by rw [hE0.out]; simp [Upd.errM, Ver.RightS, h1, h2])
   clear h1 h2
   go_enter Try.func12, Try.ntmps12
   go_wp2_with fail
   refine (C1.out _).mono ?_
   rintro e w1 ⟨rfl, b1⟩
   have B1 := Lib.hid (HW.out.trans (b1.mono HW.out.size))
   obtain ⟨c0, c1, c2, c3, c4, c5, c6, c7⟩ := XB.out _ B1.out
   clear b1
   go_wp2_with fail
   clear c0 c1 c2 c3 c4 c5 c6 c7
   refine (C2.out _).mono ?_
   rintro e w2 ⟨rfl, b2⟩
   have B2 := Lib.hid (B1.out.trans (b2.mono B1.out.size))
   obtain ⟨c0, c1, c2, c3, c4, c5, c6, c7⟩ := XB.out _ B2.out
   clear b2
   go_wp2_with fail
   go_ret
   exact ⟨by rw [hE.out] <;> rfl, HB0.out.trans (B2.out.mono HB0.out.size)⟩
 ·replace C1 : Hid (∀ W, Calls Try.prog 29 #[.agg #[.int .i64 i1, .int .i64 i2]] W fun e w' => e = .returned (.bool false) ∧ Below W.heap.size W w') := Lib.hid (fun W => by have := C1.out W; rwa [decide_eq_false h1] at this)
  have hE : Hid (E = 2) := Lib.hid (by rw [hE0.out]; simp [Upd.errM, Ver.RightS, h1])
  clear h1
  go_enter Try.func12, Try.ntmps12
  go_wp2_with fail
  refine (C1.out _).mono ?_
  rintro e w1 ⟨rfl, b1⟩
  have B1 := Lib.hid (HW.out.trans (b1.mono HW.out.size))
  obtain ⟨c0, c1, c2, c3, c4, c5, c6, c7⟩ := XB.out _ B1.out
  clear b1
  go_wp2_with fail
  go_ret
  exact ⟨by rw [hE.out] <;> rfl, HB0.out.trans (B1.out.mono HB0.out.size)⟩
theorem ref_ucheckM (m : Upd.M) (hm : Upd.BdM m) (w : World) : Calls Try.prog 14 #[mtA m] w fun e w' => e = .returned (.int .i64 (Upd.errM m)) ∧ Below w.heap.size w w' := by
 have C1 := Lib.hid (fun W => (ref_vright W m.item).mono (fun _ _ h => (⟨h.1, h.2.below⟩ : _ ∧ Below W.heap.size W _)))
 have C2 := Lib.hid (fun W => (ref_vright W m.stamp.v).mono (fun _ _ h => (⟨h.1, h.2.below⟩ : _ ∧ Below W.heap.size W _)))
 have C3 := Lib.hid (fun W => ref_right m.path W hm.path)
 obtain ⟨E, hE⟩ : ∃ E, E = Upd.errM m := ⟨_, rfl⟩
 rw [← hE]
 clear hm
 obtain ⟨⟨i1, i2⟩, ⟨t, ⟨v1, v2⟩⟩, p, n, dd⟩ := m
 dsimp only [upA, mtA, verA] at C1 C2 C3 ⊢
 have hE0 := hE
 clear hE
 replace hE0 := Lib.hid hE0
 generalize mk p = x at *
 have hb : Below w.heap.size w (w.alloc (.cells #[.int .i64 i1, .int .i64 i2, .int .i64 v1, .int .i64 v2, .int .i64 t, .string x, .int .i64 n, .bool dd] 29)) := (Below.refl _ _).alloc (Nat.le_refl _) _
 have XB := Lib.hid (fun (W : World) (h : Below (w.alloc (.cells #[.int .i64 i1, .int .i64 i2, .int .i64 v1, .int .i64 v2, .int .i64 t, .string x, .int .i64 n, .bool dd] 29)).heap.size (w.alloc (.cells #[.int .i64 i1, .int .i64 i2, .int .i64 v1, .int .i64 v2, .int .i64 t, .string x, .int .i64 n, .bool dd] 29)) W) => (by
  have r := (Row.made w 29 #[.int .i64 i1, .int .i64 i2, .int .i64 v1, .int .i64 v2, .int .i64 t, .string x, .int .i64 n, .bool dd]).below h (by simp)
  exact ⟨r.at 0, r.at 1, r.at 2, r.at 3, r.at 4, r.at 5, r.at 6, r.at 7⟩ : W.cell? ⟨w.heap.size, 0, none⟩ = some (.int .i64 i1) ∧ W.cell? ⟨w.heap.size, 1, none⟩ = some (.int .i64 i2) ∧ W.cell? ⟨w.heap.size, 2, none⟩ = some (.int .i64 v1) ∧ W.cell? ⟨w.heap.size, 3, none⟩ = some (.int .i64 v2) ∧ W.cell? ⟨w.heap.size, 4, none⟩ = some (.int .i64 t) ∧ W.cell? ⟨w.heap.size, 5, none⟩ = some (.string x) ∧ W.cell? ⟨w.heap.size, 6, none⟩ = some (.int .i64 n) ∧ W.cell? ⟨w.heap.size, 7, none⟩ = some (.bool dd)))
 have HB0 := Lib.hid hb
 have HW : Hid (Below (w.alloc (.cells #[.int .i64 i1, .int .i64 i2, .int .i64 v1, .int .i64 v2, .int .i64 t, .string x, .int .i64 n, .bool dd] 29)).heap.size (w.alloc (.cells #[.int .i64 i1, .int .i64 i2, .int .i64 v1, .int .i64 v2, .int .i64 t, .string x, .int .i64 n, .bool dd] 29)) (w.alloc (.cells #[.int .i64 i1, .int .i64 i2, .int .i64 v1, .int .i64 v2, .int .i64 t, .string x, .int .i64 n, .bool dd] 29))) := Lib.hid (Below.refl _ _)
 clear hb
 by_cases h1 : Ver.Right ⟨i1, i2⟩
 ·replace C1 : Hid (∀ W, Calls Try.prog 29 #[.agg #[.int .i64 i1, .int .i64 i2]] W fun e w' => e = .returned (.bool true) ∧ Below W.heap.size W w') := Lib.hid (fun W => by have := C1.out W; rwa [decide_eq_true h1] at this)
  by_cases h2 : Ver.Right ⟨v1, v2⟩
  ·replace C2 : Hid (∀ W, Calls Try.prog 29 #[.agg #[.int .i64 v1, .int .i64 v2]] W fun e w' => e = .returned (.bool true) ∧ Below W.heap.size W w') := Lib.hid (fun W => by have := C2.out W; rwa [decide_eq_true h2] at this)
   by_cases h2b : (1 : Int) ≤ t
   ·by_cases h3 : Pth.Right p
    ·replace C3 : Hid (∀ W, Calls Try.prog 30 #[.string x] W fun e w' => e = .returned (.bool true) ∧ Below W.heap.size W w') := Lib.hid (fun W => by have := C3.out W; rwa [decide_eq_true h3] at this)
     by_cases h4 : (200 : Int) < n
     ·have hE : Hid (E = 4) := Lib.hid (by rw [hE0.out]; simp [Upd.errM, Ver.RightS, h1, h2, h2b, h3, h4])
      clear h1 h2 h3
      go_enter Try.func14, Try.ntmps14
      go_wp2_with fail
      refine (C1.out _).mono ?_
      rintro e w1 ⟨rfl, b1⟩
      have B1 := Lib.hid (HW.out.trans (b1.mono HW.out.size))
      obtain ⟨c0, c1, c2, c3, c4, c5, c6, c7⟩ := XB.out _ B1.out
      clear b1
      go_wp2_with fail
      clear c0 c1 c2 c3 c4 c5 c6 c7
      refine (C2.out _).mono ?_
      rintro e w2 ⟨rfl, b2⟩
      have B2 := Lib.hid (B1.out.trans (b2.mono B1.out.size))
      obtain ⟨c0, c1, c2, c3, c4, c5, c6, c7⟩ := XB.out _ B2.out
      clear b2
      go_wp2_with fail
      clear c0 c1 c2 c3 c4 c5 c6 c7
      refine (C3.out _).mono ?_
      rintro e w3 ⟨rfl, b3⟩
      have B3 := Lib.hid (B2.out.trans (b3.mono B2.out.size))
      obtain ⟨c0, c1, c2, c3, c4, c5, c6, c7⟩ := XB.out _ B3.out
      clear b3
      go_wp2_with fail
      go_ret
      exact ⟨by rw [hE.out] <;> rfl, HB0.out.trans (B3.out.mono HB0.out.size)⟩
     ·by_cases h5 : n < 0
      ·have hE : Hid (E = 6) := Lib.hid (by rw [hE0.out]; simp [Upd.errM, Ver.RightS, h1, h2, h2b, h3, h4, h5])
       clear h1 h2 h3
       go_enter Try.func14, Try.ntmps14
       go_wp2_with fail
       refine (C1.out _).mono ?_
       rintro e w1 ⟨rfl, b1⟩
       have B1 := Lib.hid (HW.out.trans (b1.mono HW.out.size))
       obtain ⟨c0, c1, c2, c3, c4, c5, c6, c7⟩ := XB.out _ B1.out
       clear b1
       go_wp2_with fail
       clear c0 c1 c2 c3 c4 c5 c6 c7
       refine (C2.out _).mono ?_
       rintro e w2 ⟨rfl, b2⟩
       have B2 := Lib.hid (B1.out.trans (b2.mono B1.out.size))
       obtain ⟨c0, c1, c2, c3, c4, c5, c6, c7⟩ := XB.out _ B2.out
       clear b2
       go_wp2_with fail
       clear c0 c1 c2 c3 c4 c5 c6 c7
       refine (C3.out _).mono ?_
       rintro e w3 ⟨rfl, b3⟩
       have B3 := Lib.hid (B2.out.trans (b3.mono B2.out.size))
       obtain ⟨c0, c1, c2, c3, c4, c5, c6, c7⟩ := XB.out _ B3.out
       clear b3
       go_wp2_with fail
       go_ret
       exact ⟨by rw [hE.out] <;> rfl, HB0.out.trans (B3.out.mono HB0.out.size)⟩
      ·cases dd
       ·have hE : Hid (E = 0) := Lib.hid (by rw [hE0.out]; simp [Upd.errM, Ver.RightS, h1, h2, h2b, h3, h4, h5])
        clear h1 h2 h3
        go_enter Try.func14, Try.ntmps14
        go_wp2_with fail
        refine (C1.out _).mono ?_
        rintro e w1 ⟨rfl, b1⟩
        have B1 := Lib.hid (HW.out.trans (b1.mono HW.out.size))
        obtain ⟨c0, c1, c2, c3, c4, c5, c6, c7⟩ := XB.out _ B1.out
        clear b1
        go_wp2_with fail
        clear c0 c1 c2 c3 c4 c5 c6 c7
        refine (C2.out _).mono ?_
        rintro e w2 ⟨rfl, b2⟩
        have B2 := Lib.hid (B1.out.trans (b2.mono B1.out.size))
        obtain ⟨c0, c1, c2, c3, c4, c5, c6, c7⟩ := XB.out _ B2.out
        clear b2
        go_wp2_with fail
        clear c0 c1 c2 c3 c4 c5 c6 c7
        refine (C3.out _).mono ?_
        rintro e w3 ⟨rfl, b3⟩
        have B3 := Lib.hid (B2.out.trans (b3.mono B2.out.size))
        obtain ⟨c0, c1, c2, c3, c4, c5, c6, c7⟩ := XB.out _ B3.out
        clear b3
        go_wp2_with fail
        go_ret
        exact ⟨by rw [hE.out] <;> rfl, HB0.out.trans (B3.out.mono HB0.out.size)⟩
       ·by_cases h6 : n = 0
        ·subst h6
         have hE : Hid (E = 0) := Lib.hid (by rw [hE0.out]; simp [Upd.errM, Ver.RightS, h1, h2, h2b, h3])
         clear h1 h2 h3
         go_enter Try.func14, Try.ntmps14
         go_wp2_with fail
         refine (C1.out _).mono ?_
         rintro e w1 ⟨rfl, b1⟩
         have B1 := Lib.hid (HW.out.trans (b1.mono HW.out.size))
         obtain ⟨c0, c1, c2, c3, c4, c5, c6, c7⟩ := XB.out _ B1.out
         clear b1
         go_wp2_with fail
         clear c0 c1 c2 c3 c4 c5 c6 c7
         refine (C2.out _).mono ?_
         rintro e w2 ⟨rfl, b2⟩
         have B2 := Lib.hid (B1.out.trans (b2.mono B1.out.size))
         obtain ⟨c0, c1, c2, c3, c4, c5, c6, c7⟩ := XB.out _ B2.out
         clear b2
         go_wp2_with fail
         clear c0 c1 c2 c3 c4 c5 c6 c7
         refine (C3.out _).mono ?_
         rintro e w3 ⟨rfl, b3⟩
         have B3 := Lib.hid (B2.out.trans (b3.mono B2.out.size))
         obtain ⟨c0, c1, c2, c3, c4, c5, c6, c7⟩ := XB.out _ B3.out
         clear b3
         go_wp2_with fail
         go_ret
         exact ⟨by rw [hE.out] <;> rfl, HB0.out.trans (B3.out.mono HB0.out.size)⟩
        ·have h7 : (0 : Int) < n := by omega
         have hE : Hid (E = 6) := Lib.hid (by rw [hE0.out]; simp [Upd.errM, Ver.RightS, h1, h2, h2b, h3, h4, h5, h7])
         clear h1 h2 h3
         go_enter Try.func14, Try.ntmps14
         go_wp2_with fail
         refine (C1.out _).mono ?_
         rintro e w1 ⟨rfl, b1⟩
         have B1 := Lib.hid (HW.out.trans (b1.mono HW.out.size))
         obtain ⟨c0, c1, c2, c3, c4, c5, c6, c7⟩ := XB.out _ B1.out
         clear b1
         go_wp2_with fail
         clear c0 c1 c2 c3 c4 c5 c6 c7
         refine (C2.out _).mono ?_
         rintro e w2 ⟨rfl, b2⟩
         have B2 := Lib.hid (B1.out.trans (b2.mono B1.out.size))
         obtain ⟨c0, c1, c2, c3, c4, c5, c6, c7⟩ := XB.out _ B2.out
         clear b2
         go_wp2_with fail
         clear c0 c1 c2 c3 c4 c5 c6 c7
         refine (C3.out _).mono ?_
         rintro e w3 ⟨rfl, b3⟩
         have B3 := Lib.hid (B2.out.trans (b3.mono B2.out.size))
         obtain ⟨c0, c1, c2, c3, c4, c5, c6, c7⟩ := XB.out _ B3.out
         clear b3
         go_wp2_with fail
         go_ret
         exact ⟨by rw [hE.out] <;> rfl, HB0.out.trans (B3.out.mono HB0.out.size)⟩
    ·replace C3 : Hid (∀ W, Calls Try.prog 30 #[.string x] W fun e w' => e = .returned (.bool false) ∧ Below W.heap.size W w') := Lib.hid (fun W => by have := C3.out W; rwa [decide_eq_false h3] at this)
     have hE : Hid (E = 13) := Lib.hid (by rw [hE0.out]; simp [Upd.errM, Ver.RightS, h1, h2, h2b, h3])
     clear h1 h2 h3
     go_enter Try.func14, Try.ntmps14
     go_wp2_with fail
     refine (C1.out _).mono ?_
     rintro e w1 ⟨rfl, b1⟩
     have B1 := Lib.hid (HW.out.trans (b1.mono HW.out.size))
     obtain ⟨c0, c1, c2, c3, c4, c5, c6, c7⟩ := XB.out _ B1.out
     clear b1
     go_wp2_with fail
     clear c0 c1 c2 c3 c4 c5 c6 c7
     refine (C2.out _).mono ?_
     rintro e w2 ⟨rfl, b2⟩
     have B2 := Lib.hid (B1.out.trans (b2.mono B1.out.size))
     obtain ⟨c0, c1, c2, c3, c4, c5, c6, c7⟩ := XB.out _ B2.out
     clear b2
     go_wp2_with fail
     clear c0 c1 c2 c3 c4 c5 c6 c7
     refine (C3.out _).mono ?_
     rintro e w3 ⟨rfl, b3⟩
     have B3 := Lib.hid (B2.out.trans (b3.mono B2.out.size))
     obtain ⟨c0, c1, c2, c3, c4, c5, c6, c7⟩ := XB.out _ B3.out
     clear b3
     go_wp2_with fail
     go_ret
     exact ⟨by rw [hE.out] <;> rfl, HB0.out.trans (B3.out.mono HB0.out.size)⟩
   ·have hE : Hid (E = 2) := Lib.hid (by rw [hE0.out]; simp [Upd.errM, Ver.RightS, h1, h2, h2b])
    clear h1 h2
    go_enter Try.func14, Try.ntmps14
    go_wp2_with fail
    refine (C1.out _).mono ?_
    rintro e w1 ⟨rfl, b1⟩
    have B1 := Lib.hid (HW.out.trans (b1.mono HW.out.size))
    obtain ⟨c0, c1, c2, c3, c4, c5, c6, c7⟩ := XB.out _ B1.out
    clear b1
    go_wp2_with fail
    clear c0 c1 c2 c3 c4 c5 c6 c7
    refine (C2.out _).mono ?_
    rintro e w2 ⟨rfl, b2⟩
    have B2 := Lib.hid (B1.out.trans (b2.mono B1.out.size))
    obtain ⟨c0, c1, c2, c3, c4, c5, c6, c7⟩ := XB.out _ B2.out
    clear b2
    go_wp2_with fail
    go_ret
    exact ⟨by rw [hE.out] <;> rfl, HB0.out.trans (B2.out.mono HB0.out.size)⟩
  ·replace C2 : Hid (∀ W, Calls Try.prog 29 #[.agg #[.int .i64 v1, .int .i64 v2]] W fun e w' => e = .returned (.bool false) ∧ Below W.heap.size W w') := Lib.hid (fun W => by have := C2.out W; rwa [decide_eq_false h2] at this)
   have hE : Hid (E = 2) := Lib.hid (by rw [hE0.out]; simp [Upd.errM, Ver.RightS, h1, h2])
   clear h1 h2
   go_enter Try.func14, Try.ntmps14
   go_wp2_with fail
   refine (C1.out _).mono ?_
   rintro e w1 ⟨rfl, b1⟩
   have B1 := Lib.hid (HW.out.trans (b1.mono HW.out.size))
   obtain ⟨c0, c1, c2, c3, c4, c5, c6, c7⟩ := XB.out _ B1.out
   clear b1
   go_wp2_with fail
   clear c0 c1 c2 c3 c4 c5 c6 c7
   refine (C2.out _).mono ?_
   rintro e w2 ⟨rfl, b2⟩
   have B2 := Lib.hid (B1.out.trans (b2.mono B1.out.size))
   obtain ⟨c0, c1, c2, c3, c4, c5, c6, c7⟩ := XB.out _ B2.out
   clear b2
   go_wp2_with fail
   go_ret
   exact ⟨by rw [hE.out] <;> rfl, HB0.out.trans (B2.out.mono HB0.out.size)⟩
 ·replace C1 : Hid (∀ W, Calls Try.prog 29 #[.agg #[.int .i64 i1, .int .i64 i2]] W fun e w' => e = .returned (.bool false) ∧ Below W.heap.size W w') := Lib.hid (fun W => by have := C1.out W; rwa [decide_eq_false h1] at this)
  have hE : Hid (E = 2) := Lib.hid (by rw [hE0.out]; simp [Upd.errM, Ver.RightS, h1])
  clear h1
  go_enter Try.func14, Try.ntmps14
  go_wp2_with fail
  refine (C1.out _).mono ?_
  rintro e w1 ⟨rfl, b1⟩
  have B1 := Lib.hid (HW.out.trans (b1.mono HW.out.size))
  obtain ⟨c0, c1, c2, c3, c4, c5, c6, c7⟩ := XB.out _ B1.out
  clear b1
  go_wp2_with fail
  go_ret
  exact ⟨by rw [hE.out] <;> rfl, HB0.out.trans (B1.out.mono HB0.out.size)⟩
end Go.Proofs.Ytgpeobmaneponaa
