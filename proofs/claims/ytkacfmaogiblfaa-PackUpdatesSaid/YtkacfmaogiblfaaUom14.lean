import Derived.Test.YtkacfmaogiblfaaUom13
import Derived.Test.YtkacfmaogiblfaaUom7
import Derived.Test.YtkacfmaogiblfaaUom4
import Derived.Test.YtkacfmaogiblfaaUom6
import Derived.Test.YtkacfmaogiblfaaUom9
import Derived.Deep.Fields
set_option maxRecDepth 100000
set_option linter.all false
set_option maxHeartbeats 12800000
namespace Go.Proofs.Ytkacfmaogiblfaa
open Go.RowKit Go.Sort
theorem txt_nil (p : List UInt8) : ((mk p).toList == []) = decide (p = []) := by rw [Lib.toList_data, mk_data]; cases p <;> rfl
theorem txt_empty (p : List UInt8) : (mk p).toList.isEmpty = decide (p = []) := by rw [Lib.toList_data, mk_data]; cases p <;> rfl
theorem ref_uright (u : Upd.U) (hu : Upd.Bd u) (w : World) : Calls Try.prog 11 #[upA u] w fun e w' => e = .returned (.bool (decide (Upd.err u = 0))) ∧ Below w.heap.size w w' := by
 have C1 := Lib.hid (fun W => (ref_vright W u.item).mono (fun _ _ h => (⟨h.1, h.2.below⟩ : _ ∧ Below W.heap.size W _)))
 have C2 := Lib.hid (fun W => (ref_vright W u.stamp.v).mono (fun _ _ h => (⟨h.1, h.2.below⟩ : _ ∧ Below W.heap.size W _)))
 have C3 := Lib.hid (fun W => ref_right u.path W hu.path)
 obtain ⟨E, hE⟩ : ∃ E, E = Upd.err u := ⟨_, rfl⟩
 rw [← hE]
 clear hu
 obtain ⟨⟨i1, i2⟩, ⟨t, ⟨v1, v2⟩⟩, p, d, dd⟩ := u
 dsimp only [upA, mtA, verA] at C1 C2 C3 ⊢
 obtain ⟨n, hn⟩ : ∃ n : Int, n = (d.length : Int) := ⟨_, rfl⟩
 have hE0 : E = Upd.errM ⟨⟨i1, i2⟩, ⟨t, ⟨v1, v2⟩⟩, p, n, dd⟩ := by rw [hE, hn]; rfl
 have hys : ((mk d).size : Int) = n := by rw [mk_len, hn]
 have ea := txt_nil d
 have ia := txt_empty d
 have e0 : decide (d = []) = decide (n = 0) := by rw [decide_eq_decide, hn]; exact ⟨fun h => by rw [h]; rfl, fun h => List.eq_nil_of_length_eq_zero (by omega)⟩
 rw [e0] at ea ia
 have hn0 : ¬ (n < 0) := by omega
 clear e0 hE hn
 generalize mk d = y at *
 replace hE0 := Lib.hid hE0
 generalize mk p = x at *
 have hb : Below w.heap.size w (w.alloc (.cells #[.int .i64 i1, .int .i64 i2, .int .i64 v1, .int .i64 v2, .int .i64 t, .string x, .string y, .bool dd] 27)) := (Below.refl _ _).alloc (Nat.le_refl _) _
 have XB := Lib.hid (fun (W : World) (h : Below (w.alloc (.cells #[.int .i64 i1, .int .i64 i2, .int .i64 v1, .int .i64 v2, .int .i64 t, .string x, .string y, .bool dd] 27)).heap.size (w.alloc (.cells #[.int .i64 i1, .int .i64 i2, .int .i64 v1, .int .i64 v2, .int .i64 t, .string x, .string y, .bool dd] 27)) W) => (by
  have r := (Row.made w 27 #[.int .i64 i1, .int .i64 i2, .int .i64 v1, .int .i64 v2, .int .i64 t, .string x, .string y, .bool dd]).below h (by simp)
  exact ⟨r.at 0, r.at 1, r.at 2, r.at 3, r.at 4, r.at 5, r.at 6, r.at 7⟩ : W.cell? ⟨w.heap.size, 0, none⟩ = some (.int .i64 i1) ∧ W.cell? ⟨w.heap.size, 1, none⟩ = some (.int .i64 i2) ∧ W.cell? ⟨w.heap.size, 2, none⟩ = some (.int .i64 v1) ∧ W.cell? ⟨w.heap.size, 3, none⟩ = some (.int .i64 v2) ∧ W.cell? ⟨w.heap.size, 4, none⟩ = some (.int .i64 t) ∧ W.cell? ⟨w.heap.size, 5, none⟩ = some (.string x) ∧ W.cell? ⟨w.heap.size, 6, none⟩ = some (.string y) ∧ W.cell? ⟨w.heap.size, 7, none⟩ = some (.bool dd)))
 have HB0 := Lib.hid hb
 have HW : Hid (Below (w.alloc (.cells #[.int .i64 i1, .int .i64 i2, .int .i64 v1, .int .i64 v2, .int .i64 t, .string x, .string y, .bool dd] 27)).heap.size (w.alloc (.cells #[.int .i64 i1, .int .i64 i2, .int .i64 v1, .int .i64 v2, .int .i64 t, .string x, .string y, .bool dd] 27)) (w.alloc (.cells #[.int .i64 i1, .int .i64 i2, .int .i64 v1, .int .i64 v2, .int .i64 t, .string x, .string y, .bool dd] 27))) := Lib.hid (Below.refl _ _)
 clear hb
 by_cases h1 : Ver.Right ⟨i1, i2⟩
 ·replace C1 : Hid (∀ W, Calls Try.prog 38 #[.agg #[.int .i64 i1, .int .i64 i2]] W fun e w' => e = .returned (.bool true) ∧ Below W.heap.size W w') := Lib.hid (fun W => by have := C1.out W; rwa [decide_eq_true h1] at this)
  by_cases h2 : Ver.Right ⟨v1, v2⟩
  ·replace C2 : Hid (∀ W, Calls Try.prog 38 #[.agg #[.int .i64 v1, .int .i64 v2]] W fun e w' => e = .returned (.bool true) ∧ Below W.heap.size W w') := Lib.hid (fun W => by have := C2.out W; rwa [decide_eq_true h2] at this)
   by_cases h2b : (1 : Int) ≤ t
   ·by_cases h3 : Pth.Right p
    ·replace C3 : Hid (∀ W, Calls Try.prog 39 #[.string x] W fun e w' => e = .returned (.bool true) ∧ Below W.heap.size W w') := Lib.hid (fun W => by have := C3.out W; rwa [decide_eq_true h3] at this)
     by_cases h4 : (200 : Int) < n
     ·have hE : Hid (E = 4) := Lib.hid (by rw [hE0.out]; simp [Upd.errM, Ver.RightS, h1, h2, h2b, h3, h4])
      clear h1 h2 h3
      go_enter Try.func11, Try.ntmps11
      go_wp2_with fail
      refine (C1.out _).mono ?_
      rintro e w1 ⟨rfl, b1⟩
      have B1 := Lib.hid (HW.out.trans (b1.mono HW.out.size))
      obtain ⟨c0, c1, c2, c3, c4, c5, c6, c7⟩ := XB.out _ B1.out
      clear b1
      go_wp2_with fail
      clear c0 c1 c2 c3 c4 c5 c6 c7
      refine (C2.out _).mono ?_
      rintro e w2 ⟨rfl, b2⟩
      have B2 := Lib.hid (B1.out.trans (b2.mono B1.out.size))
      obtain ⟨c0, c1, c2, c3, c4, c5, c6, c7⟩ := XB.out _ B2.out
      clear b2
      go_wp2_with fail
      clear c0 c1 c2 c3 c4 c5 c6 c7
      refine (C3.out _).mono ?_
      rintro e w3 ⟨rfl, b3⟩
      have B3 := Lib.hid (B2.out.trans (b3.mono B2.out.size))
      obtain ⟨c0, c1, c2, c3, c4, c5, c6, c7⟩ := XB.out _ B3.out
      clear b3
      go_wp2_with fail
      go_ret
      exact ⟨by rw [hE.out] <;> rfl, HB0.out.trans (B3.out.mono HB0.out.size)⟩
     ·cases dd
      ·have hE : Hid (E = 0) := Lib.hid (by rw [hE0.out]; simp [Upd.errM, Ver.RightS, h1, h2, h2b, h3, h4, hn0])
       clear h1 h2 h3
       go_enter Try.func11, Try.ntmps11
       go_wp2_with fail
       refine (C1.out _).mono ?_
       rintro e w1 ⟨rfl, b1⟩
       have B1 := Lib.hid (HW.out.trans (b1.mono HW.out.size))
       obtain ⟨c0, c1, c2, c3, c4, c5, c6, c7⟩ := XB.out _ B1.out
       clear b1
       go_wp2_with fail
       clear c0 c1 c2 c3 c4 c5 c6 c7
       refine (C2.out _).mono ?_
       rintro e w2 ⟨rfl, b2⟩
       have B2 := Lib.hid (B1.out.trans (b2.mono B1.out.size))
       obtain ⟨c0, c1, c2, c3, c4, c5, c6, c7⟩ := XB.out _ B2.out
       clear b2
       go_wp2_with fail
       clear c0 c1 c2 c3 c4 c5 c6 c7
       refine (C3.out _).mono ?_
       rintro e w3 ⟨rfl, b3⟩
       have B3 := Lib.hid (B2.out.trans (b3.mono B2.out.size))
       obtain ⟨c0, c1, c2, c3, c4, c5, c6, c7⟩ := XB.out _ B3.out
       clear b3
       go_wp2_with fail
       go_ret
       exact ⟨by rw [hE.out] <;> rfl, HB0.out.trans (B3.out.mono HB0.out.size)⟩
      ·by_cases h6 : n = 0
       ·rw [decide_eq_true h6] at ea ia
        have hE : Hid (E = 0) := Lib.hid (by rw [hE0.out]; simp [Upd.errM, Ver.RightS, h1, h2, h2b, h3, h6])
        clear h1 h2 h3
        go_enter Try.func11, Try.ntmps11
        go_wp2_with fail
        refine (C1.out _).mono ?_
        rintro e w1 ⟨rfl, b1⟩
        have B1 := Lib.hid (HW.out.trans (b1.mono HW.out.size))
        obtain ⟨c0, c1, c2, c3, c4, c5, c6, c7⟩ := XB.out _ B1.out
        clear b1
        go_wp2_with fail
        clear c0 c1 c2 c3 c4 c5 c6 c7
        refine (C2.out _).mono ?_
        rintro e w2 ⟨rfl, b2⟩
        have B2 := Lib.hid (B1.out.trans (b2.mono B1.out.size))
        obtain ⟨c0, c1, c2, c3, c4, c5, c6, c7⟩ := XB.out _ B2.out
        clear b2
        go_wp2_with fail
        clear c0 c1 c2 c3 c4 c5 c6 c7
        refine (C3.out _).mono ?_
        rintro e w3 ⟨rfl, b3⟩
        have B3 := Lib.hid (B2.out.trans (b3.mono B2.out.size))
        obtain ⟨c0, c1, c2, c3, c4, c5, c6, c7⟩ := XB.out _ B3.out
        clear b3
        go_wp2_with fail
        go_ret
        exact ⟨by rw [hE.out] <;> rfl, HB0.out.trans (B3.out.mono HB0.out.size)⟩
       ·rw [decide_eq_false h6] at ea ia
        have h7 : (0 : Int) < n := by omega
        have hE : Hid (E = 6) := Lib.hid (by rw [hE0.out]; simp [Upd.errM, Ver.RightS, h1, h2, h2b, h3, h4, hn0, h7])
        clear h1 h2 h3
        go_enter Try.func11, Try.ntmps11
        go_wp2_with fail
        refine (C1.out _).mono ?_
        rintro e w1 ⟨rfl, b1⟩
        have B1 := Lib.hid (HW.out.trans (b1.mono HW.out.size))
        obtain ⟨c0, c1, c2, c3, c4, c5, c6, c7⟩ := XB.out _ B1.out
        clear b1
        go_wp2_with fail
        clear c0 c1 c2 c3 c4 c5 c6 c7
        refine (C2.out _).mono ?_
        rintro e w2 ⟨rfl, b2⟩
        have B2 := Lib.hid (B1.out.trans (b2.mono B1.out.size))
        obtain ⟨c0, c1, c2, c3, c4, c5, c6, c7⟩ := XB.out _ B2.out
        clear b2
        go_wp2_with fail
        clear c0 c1 c2 c3 c4 c5 c6 c7
        refine (C3.out _).mono ?_
        rintro e w3 ⟨rfl, b3⟩
        have B3 := Lib.hid (B2.out.trans (b3.mono B2.out.size))
        obtain ⟨c0, c1, c2, c3, c4, c5, c6, c7⟩ := XB.out _ B3.out
        clear b3
        go_wp2_with fail
        go_ret
        exact ⟨by rw [hE.out] <;> rfl, HB0.out.trans (B3.out.mono HB0.out.size)⟩
    ·replace C3 : Hid (∀ W, Calls Try.prog 39 #[.string x] W fun e w' => e = .returned (.bool false) ∧ Below W.heap.size W w') := Lib.hid (fun W => by have := C3.out W; rwa [decide_eq_false h3] at this)
     have hE : Hid (E = 13) := Lib.hid (by rw [hE0.out]; simp [Upd.errM, Ver.RightS, h1, h2, h2b, h3])
     clear h1 h2 h3
     go_enter Try.func11, Try.ntmps11
     go_wp2_with fail
     refine (C1.out _).mono ?_
     rintro e w1 ⟨rfl, b1⟩
     have B1 := Lib.hid (HW.out.trans (b1.mono HW.out.size))
     obtain ⟨c0, c1, c2, c3, c4, c5, c6, c7⟩ := XB.out _ B1.out
     clear b1
     go_wp2_with fail
     clear c0 c1 c2 c3 c4 c5 c6 c7
     refine (C2.out _).mono ?_
     rintro e w2 ⟨rfl, b2⟩
     have B2 := Lib.hid (B1.out.trans (b2.mono B1.out.size))
     obtain ⟨c0, c1, c2, c3, c4, c5, c6, c7⟩ := XB.out _ B2.out
     clear b2
     go_wp2_with fail
     clear c0 c1 c2 c3 c4 c5 c6 c7
     refine (C3.out _).mono ?_
     rintro e w3 ⟨rfl, b3⟩
     have B3 := Lib.hid (B2.out.trans (b3.mono B2.out.size))
     obtain ⟨c0, c1, c2, c3, c4, c5, c6, c7⟩ := XB.out _ B3.out
     clear b3
     go_wp2_with fail
     go_ret
     exact ⟨by rw [hE.out] <;> rfl, HB0.out.trans (B3.out.mono HB0.out.size)⟩
   ·have hE : Hid (E = 2) := Lib.hid (by rw [hE0.out]; simp [Upd.errM, Ver.RightS, h1, h2, h2b])
    clear h1 h2
    go_enter Try.func11, Try.ntmps11
    go_wp2_with fail
    refine (C1.out _).mono ?_
    rintro e w1 ⟨rfl, b1⟩
    have B1 := Lib.hid (HW.out.trans (b1.mono HW.out.size))
    obtain ⟨c0, c1, c2, c3, c4, c5, c6, c7⟩ := XB.out _ B1.out
    clear b1
    go_wp2_with fail
    clear c0 c1 c2 c3 c4 c5 c6 c7
    refine (C2.out _).mono ?_
    rintro e w2 ⟨rfl, b2⟩
    have B2 := Lib.hid (B1.out.trans (b2.mono B1.out.size))
    obtain ⟨c0, c1, c2, c3, c4, c5, c6, c7⟩ := XB.out _ B2.out
    clear b2
    go_wp2_with fail
    go_ret
    exact ⟨by rw [hE.out] <;> rfl, HB0.out.trans (B2.out.mono HB0.out.size)⟩
  ·replace C2 : Hid (∀ W, Calls Try.prog 38 #[.agg #[.int .i64 v1, .int .i64 v2]] W fun e w' => e = .returned (.bool false) ∧ Below W.heap.size W w') := Lib.hid (fun W => by have := C2.out W; rwa [decide_eq_false h2] at this)
   have hE : Hid (E = 2) := Lib.hid (by rw [hE0.out]; simp [Upd.errM, Ver.RightS, h1, h2])
   clear h1 h2
   go_enter Try.func11, Try.ntmps11
   go_wp2_with fail
   refine (C1.out _).mono ?_
   rintro e w1 ⟨rfl, b1⟩
   have B1 := Lib.hid (HW.out.trans (b1.mono HW.out.size))
   obtain ⟨c0, c1, c2, c3, c4, c5, c6, c7⟩ := XB.out _ B1.out
   clear b1
   go_wp2_with fail
   clear c0 c1 c2 c3 c4 c5 c6 c7
   refine (C2.out _).mono ?_
   rintro e w2 ⟨rfl, b2⟩
   have B2 := Lib.hid (B1.out.trans (b2.mono B1.out.size))
   obtain ⟨c0, c1, c2, c3, c4, c5, c6, c7⟩ := XB.out _ B2.out
   clear b2
   go_wp2_with fail
   go_ret
   exact ⟨by rw [hE.out] <;> rfl, HB0.out.trans (B2.out.mono HB0.out.size)⟩
 ·replace C1 : Hid (∀ W, Calls Try.prog 38 #[.agg #[.int .i64 i1, .int .i64 i2]] W fun e w' => e = .returned (.bool false) ∧ Below W.heap.size W w') := Lib.hid (fun W => by have := C1.out W; rwa [decide_eq_false h1] at this)
  have hE : Hid (E = 2) := Lib.hid (by rw [hE0.out]; simp [Upd.errM, Ver.RightS, h1])
  clear h1
  go_enter Try.func11, Try.ntmps11
  go_wp2_with fail
  refine (C1.out _).mono ?_
  rintro e w1 ⟨rfl, b1⟩
  have B1 := Lib.hid (HW.out.trans (b1.mono HW.out.size))
  obtain ⟨c0, c1, c2, c3, c4, c5, c6, c7⟩ := XB.out _ B1.out
  clear b1
  go_wp2_with fail
  go_ret
  exact ⟨by rw [hE.out] <;> rfl, HB0.out.trans (B1.out.mono HB0.out.size)⟩
theorem ref_ucheckM (m : Upd.M) (hm : Upd.BdM m) (w : World) : Calls Try.prog 13 #[mtA m] w fun e w' => e = .returned (.int .i64 (Upd.errM m)) ∧ Below w.heap.size w w' := by
 have C1 := Lib.hid (fun W => (ref_vright W m.item).mono (fun _ _ h => (⟨h.1, h.2.below⟩ : _ ∧ Below W.heap.size W _)))
 have C2 := Lib.hid (fun W => (ref_vright W m.stamp.v).mono (fun _ _ h => (⟨h.1, h.2.below⟩ : _ ∧ Below W.heap.size W _)))
 have C3 := Lib.hid (fun W => ref_right m.path W hm.path)
 obtain ⟨E, hE⟩ : ∃ E, E = Upd.errM m := ⟨_, rfl⟩
 rw [← hE]
 clear hm
 obtain ⟨⟨i1, i2⟩, ⟨t, ⟨v1, v2⟩⟩, p, n, dd⟩ := m
 dsimp only [upA, mtA, verA] at C1 C2 C3 ⊢
 have hE0 := hE
 clear hE
 replace hE0 := Lib.hid hE0
 generalize mk p = x at *
 have hb : Below w.heap.size w (w.alloc (.cells #[.int .i64 i1, .int .i64 i2, .int .i64 v1, .int .i64 v2, .int .i64 t, .string x, .int .i64 n, .bool dd] 29)) := (Below.refl _ _).alloc (Nat.le_refl _) _
 have XB := Lib.hid (fun (W : World) (h : Below (w.alloc (.cells #[.int .i64 i1, .int .i64 i2, .int .i64 v1, .int .i64 v2, .int .i64 t, .string x, .int .i64 n, .bool dd] 29)).heap.size (w.alloc (.cells #[.int .i64 i1, .int .i64 i2, .int .i64 v1, .int .i64 v2, .int .i64 t, .string x, .int .i64 n, .bool dd] 29)) W) => (by
  have r := (Row.made w 29 #[.int .i64 i1, .int .i64 i2, .int .i64 v1, .int .i64 v2, .int .i64 t, .string x, .int .i64 n, .bool dd]).below h (by simp)
  exact ⟨r.at 0, r.at 1, r.at 2, r.at 3, r.at 4, r.at 5, r.at 6, r.at 7⟩ : W.cell? ⟨w.heap.size, 0, none⟩ = some (.int .i64 i1) ∧ W.cell? ⟨w.heap.size, 1, none⟩ = some (.int .i64 i2) ∧ W.cell? ⟨w.heap.size, 2, none⟩ = some (.int .i64 v1) ∧ W.cell? ⟨w.heap.size, 3, none⟩ = some (.int .i64 v2) ∧ W.cell? ⟨w.heap.size, 4, none⟩ = some (.int .i64 t) ∧ W.cell? ⟨w.heap.size, 5, none⟩ = some (.string x) ∧ W.cell? ⟨w.heap.size, 6, none⟩ = some (.int .i64 n) ∧ W.cell? ⟨w.heap.size, 7, none⟩ = some (.bool dd)))
 have HB0 := Lib.hid hb
 have HW : Hid (Below (w.alloc (.cells #[.int .i64 i1, .int .i64 i2, .int .i64 v1, .int .i64 v2, .int .i64 t, .string x, .int .i64 n, .bool dd] 29)).heap.size (w.alloc (.cells #[.int .i64 i1, .int .i64 i2, .int .i64 v1, .int .i64 v2, .int .i64 t, .string x, .int .i64 n, .bool dd] 29)) (w.alloc (.cells #[.int .i64 i1, .int .i64 i2, .int .i64 v1, .int .i64 v2, .int .i64 t, .string x, .int .i64 n, .bool dd] 29))) := Lib.hid (Below.refl _ _)
 clear hb
 by_cases h1 : Ver.Right ⟨i1, i2⟩
 ·replace C1 : Hid (∀ W, Calls Try.prog 38 #[.agg #[.int .i64 i1, .int .i64 i2]] W fun e w' => e = .returned (.bool true) ∧ Below W.heap.size W w') := Lib.hid (fun W => by have := C1.out W; rwa [decide_eq_true h1] at this)
  by_cases h2 : Ver.Right ⟨v1, v2⟩
  ·replace C2 : Hid (∀ W, Calls Try.prog 38 #[.agg #[.int .i64 v1, .int .i64 v2]] W fun e w' => e = .returned (.bool true) ∧ Below W.heap.size W w') := Lib.hid (fun W => by have := C2.out W; rwa [decide_eq_true h2] at this)
   by_cases h2b : (1 : Int) ≤ t
   ·by_cases h3 : Pth.Right p
    ·replace C3 : Hid (∀ W, Calls Try.prog 39 #[.string x] W fun e w' => e = .returned (.bool true) ∧ Below W.heap.size W w') := Lib.hid (fun W => by have := C3.out W; rwa [decide_eq_true h3] at this)
     by_cases h4 : (200 : Int) < n
     ·have hE : Hid (E = 4) := Lib.hid (by rw [hE0.out]; simp [Upd.errM, Ver.RightS, h1, h2, h2b, h3, h4])
      clear h1 h2 h3
      go_enter Try.func13, Try.ntmps13
      go_wp2_with fail
      refine (C1.out _).mono ?_
      rintro e w1 ⟨rfl, b1⟩
      have B1 := Lib.hid (HW.out.trans (b1.mono HW.out.size))
      obtain ⟨c0, c1, c2, c3, c4, c5, c6, c7⟩ := XB.out _ B1.out
      clear b1
      go_wp2_with fail
      clear c0 c1 c2 c3 c4 c5 c6 c7
      refine (C2.out _).mono ?_
      rintro e w2 ⟨rfl, b2⟩
      have B2 := Lib.hid (B1.out.trans (b2.mono B1.out.size))
      obtain ⟨c0, c1, c2, c3, c4, c5, c6, c7⟩ := XB.out _ B2.out
      clear b2
      go_wp2_with fail
      clear c0 c1 c2 c3 c4 c5 c6 c7
      refine (C3.out _).mono ?_
      rintro e w3 ⟨rfl, b3⟩
      have B3 := Lib.hid (B2.out.trans (b3.mono B2.out.size))
      obtain ⟨c0, c1, c2, c3, c4, c5, c6, c7⟩ := XB.out _ B3.out
      clear b3
      go_wp2_with fail
      go_ret
      exact ⟨by rw [hE.out] <;> rfl, HB0.out.trans (B3.out.mono HB0.out.size)⟩
     ·by_cases h5 : n < 0
      ·have hE : Hid (E = 6) := Lib.hid (by rw [hE0.out]; simp [Upd.errM, Ver.RightS, h1, h2, h2b, h3, h4, h5])
       clear h1 h2 h3
       go_enter Try.func13, Try.ntmps13
       go_wp2_with fail
       refine (C1.out _).mono ?_
       rintro e w1 ⟨rfl, b1⟩
       have B1 := Lib.hid (HW.out.trans (b1.mono HW.out.size))
       obtain ⟨c0, c1, c2, c3, c4, c5, c6, c7⟩ := XB.out _ B1.out
       clear b1
       go_wp2_with fail
       clear c0 c1 c2 c3 c4 c5 c6 c7
       refine (C2.out _).mono ?_
       rintro e w2 ⟨rfl, b2⟩
       have B2 := Lib.hid (B1.out.trans (b2.mono B1.out.size))
       obtain ⟨c0, c1, c2, c3, c4, c5, c6, c7⟩ := XB.out _ B2.out
       clear b2
       go_wp2_with fail
       clear c0 c1 c2 c3 c4 c5 c6 c7
       refine (C3.out _).mono ?_
       rintro e w3 ⟨rfl, b3⟩
       have B3 := Lib.hid (B2.out.trans (b3.mono B2.out.size))
       obtain ⟨c0, c1, c2, c3, c4, c5, c6, c7⟩ := XB.out _ B3.out
       clear b3
       go_wp2_with fail
       go_ret
       exact ⟨by rw [hE.out] <;> rfl, HB0.out.trans (B3.out.mono HB0.out.size)⟩
      ·cases dd
       ·have hE : Hid (E = 0) := Lib.hid (by rw [hE0.out]; simp [Upd.errM, Ver.RightS, h1, h2, h2b, h3, h4, h5])
        clear h1 h2 h3
        go_enter Try.func13, Try.ntmps13
        go_wp2_with fail
        refine (C1.out _).mono ?_
        rintro e w1 ⟨rfl, b1⟩
        have B1 := Lib.hid (HW.out.trans (b1.mono HW.out.size))
        obtain ⟨c0, c1, c2, c3, c4, c5, c6, c7⟩ := XB.out _ B1.out
        clear b1
        go_wp2_with fail
        clear c0 c1 c2 c3 c4 c5 c6 c7
        refine (C2.out _).mono ?_
        rintro e w2 ⟨rfl, b2⟩
        have B2 := Lib.hid (B1.out.trans (b2.mono B1.out.size))
        obtain ⟨c0, c1, c2, c3, c4, c5, c6, c7⟩ := XB.out _ B2.out
        clear b2
        go_wp2_with fail
        clear c0 c1 c2 c3 c4 c5 c6 c7
        refine (C3.out _).mono ?_
        rintro e w3 ⟨rfl, b3⟩
        have B3 := Lib.hid (B2.out.trans (b3.mono B2.out.size))
        obtain ⟨c0, c1, c2, c3, c4, c5, c6, c7⟩ := XB.out _ B3.out
        clear b3
        go_wp2_with fail
        go_ret
        exact ⟨by rw [hE.out] <;> rfl, HB0.out.trans (B3.out.mono HB0.out.size)⟩
       ·by_cases h6 : n = 0
        ·subst h6
         have hE : Hid (E = 0) := Lib.hid (by rw [hE0.out]; simp [Upd.errM, Ver.RightS, h1, h2, h2b, h3])
         clear h1 h2 h3
         go_enter Try.func13, Try.ntmps13
         go_wp2_with fail
         refine (C1.out _).mono ?_
         rintro e w1 ⟨rfl, b1⟩
         have B1 := Lib.hid (HW.out.trans (b1.mono HW.out.size))
         obtain ⟨c0, c1, c2, c3, c4, c5, c6, c7⟩ := XB.out _ B1.out
         clear b1
         go_wp2_with fail
         clear c0 c1 c2 c3 c4 c5 c6 c7
         refine (C2.out _).mono ?_
         rintro e w2 ⟨rfl, b2⟩
         have B2 := Lib.hid (B1.out.trans (b2.mono B1.out.size))
         obtain ⟨c0, c1, c2, c3, c4, c5, c6, c7⟩ := XB.out _ B2.out
         clear b2
         go_wp2_with fail
         clear c0 c1 c2 c3 c4 c5 c6 c7
         refine (C3.out _).mono ?_
         rintro e w3 ⟨rfl, b3⟩
         have B3 := Lib.hid (B2.out.trans (b3.mono B2.out.size))
         obtain ⟨c0, c1, c2, c3, c4, c5, c6, c7⟩ := XB.out _ B3.out
         clear b3
         go_wp2_with fail
         go_ret
         exact ⟨by rw [hE.out] <;> rfl, HB0.out.trans (B3.out.mono HB0.out.size)⟩
        ·have h7 : (0 : Int) < n := by omega
         have hE : Hid (E = 6) := Lib.hid (by rw [hE0.out]; simp [Upd.errM, Ver.RightS, h1, h2, h2b, h3, h4, h5, h7])
         clear h1 h2 h3
         go_enter Try.func13, Try.ntmps13
         go_wp2_with fail
         refine (C1.out _).mono ?_
         rintro e w1 ⟨rfl, b1⟩
         have B1 := Lib.hid (HW.out.trans (b1.mono HW.out.size))
         obtain ⟨c0, c1, c2, c3, c4, c5, c6, c7⟩ := XB.out _ B1.out
         clear b1
         go_wp2_with fail
         clear c0 c1 c2 c3 c4 c5 c6 c7
         refine (C2.out _).mono ?_
         rintro e w2 ⟨rfl, b2⟩
         have B2 := Lib.hid (B1.out.trans (b2.mono B1.out.size))
         obtain ⟨c0, c1, c2, c3, c4, c5, c6, c7⟩ := XB.out _ B2.out
         clear b2
         go_wp2_with fail
         clear c0 c1 c2 c3 c4 c5 c6 c7
         refine (C3.out _).mono ?_
         rintro e w3 ⟨rfl, b3⟩
         have B3 := Lib.hid (B2.out.trans (b3.mono B2.out.size))
         obtain ⟨c0, c1, c2, c3, c4, c5, c6, c7⟩ := XB.out _ B3.out
         clear b3
         go_wp2_with fail
         go_ret
         exact ⟨by rw [hE.out] <;> rfl, HB0.out.trans (B3.out.mono HB0.out.size)⟩
    ·replace C3 : Hid (∀ W, Calls Try.prog 39 #[.string x] W fun e w' => e = .returned (.bool false) ∧ Below W.heap.size W w') := Lib.hid (fun W => by have := C3.out W; rwa [decide_eq_false h3] at this)
     have hE : Hid (E = 13) := Lib.hid (by rw [hE0.out]; simp [Upd.errM, Ver.RightS, h1, h2, h2b, h3])
     clear h1 h2 h3
     go_enter Try.func13, Try.ntmps13
     go_wp2_with fail
     refine (C1.out _).mono ?_
     rintro e w1 ⟨rfl, b1⟩
     have B1 := Lib.hid (HW.out.trans (b1.mono HW.out.size))
     obtain ⟨c0, c1, c2, c3, c4, c5, c6, c7⟩ := XB.out _ B1.out
     clear b1
     go_wp2_with fail
     clear c0 c1 c2 c3 c4 c5 c6 c7
     refine (C2.out _).mono ?_
     rintro e w2 ⟨rfl, b2⟩
     have B2 := Lib.hid (B1.out.trans (b2.mono B1.out.size))
     obtain ⟨c0, c1, c2, c3, c4, c5, c6, c7⟩ := XB.out _ B2.out
     clear b2
     go_wp2_with fail
     clear c0 c1 c2 c3 c4 c5 c6 c7
     refine (C3.out _).mono ?_
     rintro e w3 ⟨rfl, b3⟩
     have B3 := Lib.hid (B2.out.trans (b3.mono B2.out.size))
     obtain ⟨c0, c1, c2, c3, c4, c5, c6, c7⟩ := XB.out _ B3.out
     clear b3
     go_wp2_with fail
     go_ret
     exact ⟨by rw [hE.out] <;> rfl, HB0.out.trans (B3.out.mono HB0.out.size)⟩
   ·have hE : Hid (E = 2) := Lib.hid (by rw [hE0.out]; simp [Upd.errM, Ver.RightS, h1, h2, h2b])
    clear h1 h2
    go_enter Try.func13, Try.ntmps13
    go_wp2_with fail
    refine (C1.out _).mono ?_
    rintro e w1 ⟨rfl, b1⟩
    have B1 := Lib.hid (HW.out.trans (b1.mono HW.out.size))
    obtain ⟨c0, c1, c2, c3, c4, c5, c6, c7⟩ := XB.out _ B1.out
    clear b1
    go_wp2_with fail
    clear c0 c1 c2 c3 c4 c5 c6 c7
    refine (C2.out _).mono ?_
    rintro e w2 ⟨rfl, b2⟩
    have B2 := Lib.hid (B1.out.trans (b2.mono B1.out.size))
    obtain ⟨c0, c1, c2, c3, c4, c5, c6, c7⟩ := XB.out _ B2.out
    clear b2
    go_wp2_with fail
    go_ret
    exact ⟨by rw [hE.out] <;> rfl, HB0.out.trans (B2.out.mono HB0.out.size)⟩
  ·replace C2 : Hid (∀ W, Calls Try.prog 38 #[.agg #[.int .i64 v1, .int .i64 v2]] W fun e w' => e = .returned (.bool false) ∧ Below W.heap.size W w') := Lib.hid (fun W => by have := C2.out W; rwa [decide_eq_false h2] at this)
   have hE : Hid (E = 2) := Lib.hid (by rw [hE0.out]; simp [Upd.errM, Ver.RightS, h1, h2])
   clear h1 h2
   go_enter Try.func13, Try.ntmps13
   go_wp2_with fail
   refine (C1.out _).mono ?_
   rintro e w1 ⟨rfl, b1⟩
   have B1 := Lib.hid (HW.out.trans (b1.mono HW.out.size))
   obtain ⟨c0, c1, c2, c3, c4, c5, c6, c7⟩ := XB.out _ B1.out
   clear b1
   go_wp2_with fail
   clear c0 c1 c2 c3 c4 c5 c6 c7
   refine (C2.out _).mono ?_
   rintro e w2 ⟨rfl, b2⟩
   have B2 := Lib.hid (B1.out.trans (b2.mono B1.out.size))
   obtain ⟨c0, c1, c2, c3, c4, c5, c6, c7⟩ := XB.out _ B2.out
   clear b2
   go_wp2_with fail
   go_ret
   exact ⟨by rw [hE.out] <;> rfl, HB0.out.trans (B2.out.mono HB0.out.size)⟩
 ·replace C1 : Hid (∀ W, Calls Try.prog 38 #[.agg #[.int .i64 i1, .int .i64 i2]] W fun e w' => e = .returned (.bool false) ∧ Below W.heap.size W w') := Lib.hid (fun W => by have := C1.out W; rwa [decide_eq_false h1] at this)
  have hE : Hid (E = 2) := Lib.hid (by rw [hE0.out]; simp [Upd.errM, Ver.RightS, h1])
  clear h1
  go_enter Try.func13, Try.ntmps13
  go_wp2_with fail
  refine (C1.out _).mono ?_
  rintro e w1 ⟨rfl, b1⟩
  have B1 := Lib.hid (HW.out.trans (b1.mono HW.out.size))
  obtain ⟨c0, c1, c2, c3, c4, c5, c6, c7⟩ := XB.out _ B1.out
  clear b1
  go_wp2_with fail
  go_ret
  exact ⟨by rw [hE.out] <;> rfl, HB0.out.trans (B1.out.mono HB0.out.size)⟩
open Go.ChangeShapes Go.WideShapes Go.ChangeAt Go.RowKit Go.Deep
theorem Ver.intCells : Try.prog.cellsOf 3 = 1 := by kernel_rfl
theorem Ver.verCells : Try.prog.cellsOf 23 = 2 := by kernel_rfl
theorem Ver.stpCells : Try.prog.cellsOf 25 = 3 := by kernel_rfl
theorem Ver.in_heap {W : World} {a : Addr} {v : Value} (h : W.cell? a = some v) : a.block < W.heap.size ∧ a.spot = none :=
 ⟨World.block_lt_of_cell? W a h, World.cell?_spot h⟩
theorem Ver.rows_of {α : Type} {k : Nat} {f : α → List Value} {W : World} {a : Addr} {len cap : Nat} {l : List α} (hk : 0 < k) (hf : ∀ x, (f x).length = k) (hll : l.length = len) (hl : len ≤ cap)
  (h : ∀ i x, l[i]? = some x → ∀ j u, (f x)[j]? = some u → W.cell? (a.add (i * k + j)) = some u) : Rws k f W (fun i => i < W.heap.size) (.slice (some a) len cap) l := by
 refine ⟨some a, cap, by rw [hll], by rw [hll]; exact hl, fun hpos => ?_⟩
 obtain ⟨x0, hx0⟩ : ∃ x, l[0]? = some x := ⟨_, List.getElem?_eq_getElem hpos⟩
 obtain ⟨u0, hu0⟩ : ∃ u, (f x0)[0]? = some u := ⟨_, List.getElem?_eq_getElem (by rw [hf]; exact hk)⟩
 have hb := Ver.in_heap (h 0 x0 hx0 0 u0 hu0)
 obtain ⟨b, off, spot⟩ := a
 have hs : spot = none := by simpa [Addr.add] using hb.2
 subst hs
 have hb1 : b < W.heap.size := by simpa [Addr.add] using hb.1
 refine ⟨b, off, rfl, hb1, hb1, fun i x hx j u hu => ?_⟩
 have := h i x hx j u hu
 rwa [Go.WideShapes.add_plain, ← Nat.add_assoc] at this
section
variable {H : Type} {enc : TypeId × Value → H}
theorem open_ver2 {W : World} {n : Nat} {cs : List Value} {x : DataW H × List MemPlace} (hl : cs.length = 2) (h : DataW.trod enc Try.prog W 0 (fun _ => true) true n 23 cs = some x) : ∃ v : Ver.V, cs = verV v ∧ Ver.Bd v := by
 obtain ⟨xs, n'', _, _, _, hxs, hfs⟩ := DataW.trod_struct Try.underlying23 h
 match cs, hl with
 | [c0, c1], _ =>
  have hl2 : xs.length = 2 := hxs
  have k0 : DataW.trod enc Try.prog W 0 (fun _ => true) true n'' 3 (([c0, c1].drop 0).take (Try.prog.cellsOf 3)) = xs[0]? := hfs 0 _ rfl
  have k1 : DataW.trod enc Try.prog W 0 (fun _ => true) true n'' 3 (([c0, c1].drop 1).take (Try.prog.cellsOf 3)) = xs[1]? := hfs 1 _ rfl
  rw [Ver.intCells, List.getElem?_eq_getElem (by omega)] at k0 k1
  obtain ⟨x0, e0, _, w0⟩ := DataW.trod_int Try.underlying3 k0
  obtain ⟨x1, e1, _, w1⟩ := DataW.trod_int Try.underlying3 k1
  have e0 : c0 = .int .i64 x0 := by simpa using e0
  have e1 : c1 = .int .i64 x1 := by simpa using e1
  have b0 := bounds_i64 w0
  have b1 := bounds_i64 w1
  exact ⟨⟨x0, x1⟩, by rw [e0, e1]; rfl, by unfold Ver.Bd Ver.I64; simp only; omega⟩
theorem open_stp3 {W : World} {n : Nat} {cs : List Value} {x : DataW H × List MemPlace} (hl : cs.length = 3) (h : DataW.trod enc Try.prog W 0 (fun _ => true) true n 25 cs = some x) : ∃ s : Ver.S, cs = stpV s ∧ Ver.BdS s := by
 obtain ⟨xs, n'', _, _, _, hxs, hfs⟩ := DataW.trod_struct Try.underlying25 h
 match cs, hl with
 | [c0, c1, c2], _ =>
  have hl2 : xs.length = 2 := hxs
  have k0 : DataW.trod enc Try.prog W 0 (fun _ => true) true n'' 23 (([c0, c1, c2].drop 0).take (Try.prog.cellsOf 23)) = xs[0]? := hfs 0 _ rfl
  have k1 : DataW.trod enc Try.prog W 0 (fun _ => true) true n'' 3 (([c0, c1, c2].drop 2).take (Try.prog.cellsOf 3)) = xs[1]? := hfs 1 _ rfl
  rw [Ver.verCells, List.getElem?_eq_getElem (by omega)] at k0
  rw [Ver.intCells, List.getElem?_eq_getElem (by omega)] at k1
  obtain ⟨v, ev, hv⟩ := open_ver2 (cs := [c0, c1]) rfl k0
  obtain ⟨x1, e1, _, w1⟩ := DataW.trod_int Try.underlying3 k1
  have e1 : c2 = .int .i64 x1 := by simpa using e1
  have b1 := bounds_i64 w1
  have ev : c0 = .int .i64 v.by_ ∧ c1 = .int .i64 v.n := by simpa [verV] using ev
  exact ⟨⟨x1, v⟩, by rw [ev.1, ev.2, e1]; rfl, hv, by unfold Ver.I64; simp only; omega⟩
end
open Go.ChangeShapes Go.WideShapes Go.ChangeAt Go.RowKit Go.Deep
theorem Sz.intCells : Try.prog.cellsOf 3 = 1 := by kernel_rfl
theorem Sz.in_heap {W : World} {a : Addr} {v : Value} (h : W.cell? a = some v) : a.block < W.heap.size ∧ a.spot = none := by
 refine ⟨World.block_lt_of_cell? W a h, ?_⟩
 exact World.cell?_spot h
section
variable {H : Type} {enc : TypeId × Value → H}
end
open Go.ChangeShapes Go.WideShapes Go.ChangeAt Go.RowKit Go.Deep
theorem Flt.stringCells : Try.prog.cellsOf 9 = 1 := by kernel_rfl
theorem Flt.boolCells : Try.prog.cellsOf 4 = 1 := by kernel_rfl
section
variable {H : Type} {enc : TypeId × Value → H}
def Flt.In (c : Flt.Cl) : Prop := c.pre.length ≤ 9223372036854775807 ∧ Go.Proofs.Ytkacfmaogiblfaa.Bd (Flt.rg c)
end
open Go.ChangeShapes Go.WideShapes Go.ChangeAt Go.RowKit Go.Deep
theorem Upd.updCells : Try.prog.cellsOf 27 = 8 := by kernel_rfl
theorem Upd.metaCells : Try.prog.cellsOf 29 = 8 := by kernel_rfl
structure Upd.In (u : Upd.U) : Prop where
 item : Ver.Bd u.item
 stamp : Ver.BdS u.stamp
 path : u.path.length ≤ 9223372036854775807
 data : u.data.length ≤ 9223372036854775807
structure Upd.InM (m : Upd.M) : Prop where
 item : Ver.Bd m.item
 stamp : Ver.BdS m.stamp
 path : m.path.length ≤ 9223372036854775807
 size : Ver.I64 m.size
section
variable {H : Type} {enc : TypeId × Value → H}
theorem open_up8 {W : World} {n : Nat} {cs : List Value} {x : DataW H × List MemPlace} (hl : cs.length = 8) (h : DataW.trod enc Try.prog W 0 (fun _ => true) true n 27 cs = some x) : ∃ u : Upd.U, cs = upV u ∧ Upd.In u := by
 obtain ⟨xs, n'', _, _, _, hxs, hfs⟩ := DataW.trod_struct Try.underlying27 h
 match cs, hl with
 | [c0, c1, c2, c3, c4, c5, c6, c7], _ =>
  have hl5 : xs.length = 5 := hxs
  have k0 : DataW.trod enc Try.prog W 0 (fun _ => true) true n'' 23 (([c0, c1, c2, c3, c4, c5, c6, c7].drop 0).take (Try.prog.cellsOf 23)) = xs[0]? := hfs 0 _ rfl
  have k1 : DataW.trod enc Try.prog W 0 (fun _ => true) true n'' 25 (([c0, c1, c2, c3, c4, c5, c6, c7].drop 2).take (Try.prog.cellsOf 25)) = xs[1]? := hfs 1 _ rfl
  have k2 : DataW.trod enc Try.prog W 0 (fun _ => true) true n'' 9 (([c0, c1, c2, c3, c4, c5, c6, c7].drop 5).take (Try.prog.cellsOf 9)) = xs[2]? := hfs 2 _ rfl
  have k3 : DataW.trod enc Try.prog W 0 (fun _ => true) true n'' 9 (([c0, c1, c2, c3, c4, c5, c6, c7].drop 6).take (Try.prog.cellsOf 9)) = xs[3]? := hfs 3 _ rfl
  have k4 : DataW.trod enc Try.prog W 0 (fun _ => true) true n'' 4 (([c0, c1, c2, c3, c4, c5, c6, c7].drop 7).take (Try.prog.cellsOf 4)) = xs[4]? := hfs 4 _ rfl
  rw [Ver.verCells, List.getElem?_eq_getElem (by omega)] at k0
  rw [Ver.stpCells, List.getElem?_eq_getElem (by omega)] at k1
  rw [Flt.stringCells, List.getElem?_eq_getElem (by omega)] at k2 k3
  rw [Flt.boolCells, List.getElem?_eq_getElem (by omega)] at k4
  obtain ⟨v, ev, hv⟩ := open_ver2 (cs := [c0, c1]) rfl k0
  obtain ⟨s, es, hs⟩ := open_stp3 (cs := [c2, c3, c4]) rfl k1
  obtain ⟨x2, e2, _, w2⟩ := DataW.trod_string Try.underlying9 k2
  obtain ⟨x3, e3, _, w3⟩ := DataW.trod_string Try.underlying9 k3
  obtain ⟨x4, e4, _⟩ := DataW.trod_bool Try.underlying4 k4
  have ev : c0 = .int .i64 v.by_ ∧ c1 = .int .i64 v.n := by simpa [verV] using ev
  have es : c2 = .int .i64 s.v.by_ ∧ c3 = .int .i64 s.v.n ∧ c4 = .int .i64 s.time := by simpa [stpV] using es
  have e2 : c5 = .string x2 := by simpa using e2
  have e3 : c6 = .string x3 := by simpa using e3
  have e4 : c7 = .bool x4 := by simpa using e4
  unfold maxLen at w2 w3
  exact ⟨⟨v, s, x2.data.toList, x3.data.toList, x4⟩, by unfold upV; simp only; rw [ev.1, ev.2, es.1, es.2.1, es.2.2, e2, e3, e4, mk_of, mk_of], hv, hs, by simpa using w2, by simpa using w3⟩
theorem open_mt8 {W : World} {n : Nat} {cs : List Value} {x : DataW H × List MemPlace} (hl : cs.length = 8) (h : DataW.trod enc Try.prog W 0 (fun _ => true) true n 29 cs = some x) : ∃ u : Upd.M, cs = mtV u ∧ Upd.InM u := by
 obtain ⟨xs, n'', _, _, _, hxs, hfs⟩ := DataW.trod_struct Try.underlying29 h
 match cs, hl with
 | [c0, c1, c2, c3, c4, c5, c6, c7], _ =>
  have hl5 : xs.length = 5 := hxs
  have k0 : DataW.trod enc Try.prog W 0 (fun _ => true) true n'' 23 (([c0, c1, c2, c3, c4, c5, c6, c7].drop 0).take (Try.prog.cellsOf 23)) = xs[0]? := hfs 0 _ rfl
  have k1 : DataW.trod enc Try.prog W 0 (fun _ => true) true n'' 25 (([c0, c1, c2, c3, c4, c5, c6, c7].drop 2).take (Try.prog.cellsOf 25)) = xs[1]? := hfs 1 _ rfl
  have k2 : DataW.trod enc Try.prog W 0 (fun _ => true) true n'' 9 (([c0, c1, c2, c3, c4, c5, c6, c7].drop 5).take (Try.prog.cellsOf 9)) = xs[2]? := hfs 2 _ rfl
  have k3 : DataW.trod enc Try.prog W 0 (fun _ => true) true n'' 3 (([c0, c1, c2, c3, c4, c5, c6, c7].drop 6).take (Try.prog.cellsOf 3)) = xs[3]? := hfs 3 _ rfl
  have k4 : DataW.trod enc Try.prog W 0 (fun _ => true) true n'' 4 (([c0, c1, c2, c3, c4, c5, c6, c7].drop 7).take (Try.prog.cellsOf 4)) = xs[4]? := hfs 4 _ rfl
  rw [Ver.verCells, List.getElem?_eq_getElem (by omega)] at k0
  rw [Ver.stpCells, List.getElem?_eq_getElem (by omega)] at k1
  rw [Flt.stringCells, List.getElem?_eq_getElem (by omega)] at k2
  rw [Ver.intCells, List.getElem?_eq_getElem (by omega)] at k3
  rw [Flt.boolCells, List.getElem?_eq_getElem (by omega)] at k4
  obtain ⟨v, ev, hv⟩ := open_ver2 (cs := [c0, c1]) rfl k0
  obtain ⟨s, es, hs⟩ := open_stp3 (cs := [c2, c3, c4]) rfl k1
  obtain ⟨x2, e2, _, w2⟩ := DataW.trod_string Try.underlying9 k2
  obtain ⟨x3, e3, _, w3⟩ := DataW.trod_int Try.underlying3 k3
  obtain ⟨x4, e4, _⟩ := DataW.trod_bool Try.underlying4 k4
  have ev : c0 = .int .i64 v.by_ ∧ c1 = .int .i64 v.n := by simpa [verV] using ev
  have es : c2 = .int .i64 s.v.by_ ∧ c3 = .int .i64 s.v.n ∧ c4 = .int .i64 s.time := by simpa [stpV] using es
  have e2 : c5 = .string x2 := by simpa using e2
  have e3 : c6 = .int .i64 x3 := by simpa using e3
  have e4 : c7 = .bool x4 := by simpa using e4
  have b3 := bounds_i64 w3
  unfold maxLen at w2
  exact ⟨⟨v, s, x2.data.toList, x3, x4⟩, by unfold mtV; simp only; rw [ev.1, ev.2, es.1, es.2.1, es.2.2, e2, e3, e4, mk_of], hv, hs, by simpa using w2, by unfold Ver.I64; simp only; omega⟩
theorem open_up {W : World} {v : Value} {d : DataW H} {p : List MemPlace} (hv : ∃ cs, v = .agg cs ∧ cs.size = Try.prog.cellsOf 27) (h : DataW.Trod enc Try.prog W 0 (fun _ => true) true 27 v d p) : ∃ x : Upd.U, v = upA x ∧ Upd.In x := by
 obtain ⟨cs, rfl, hcs⟩ := hv
 rw [Upd.updCells] at hcs
 obtain ⟨fuel, hf⟩ := h
 obtain ⟨cl⟩ := cs
 obtain ⟨x, e, hx⟩ := open_up8 (cs := cl) (by simpa using hcs) hf
 exact ⟨x, by rw [e]; rfl, hx⟩
theorem open_mt {W : World} {v : Value} {d : DataW H} {p : List MemPlace} (hv : ∃ cs, v = .agg cs ∧ cs.size = Try.prog.cellsOf 29) (h : DataW.Trod enc Try.prog W 0 (fun _ => true) true 29 v d p) : ∃ x : Upd.M, v = mtA x ∧ Upd.InM x := by
 obtain ⟨cs, rfl, hcs⟩ := hv
 rw [Upd.metaCells] at hcs
 obtain ⟨fuel, hf⟩ := h
 obtain ⟨cl⟩ := cs
 obtain ⟨x, e, hx⟩ := open_mt8 (cs := cl) (by simpa using hcs) hf
 exact ⟨x, by rw [e]; rfl, hx⟩
end
open Go.RowKit Go.Sort
def Upd.light (u : Upd.U) : Prop := u.path.length < 200 ∧ u.data.length < 400
instance Upd.lightDec (u : Upd.U) : Decidable (Upd.light u) := inferInstanceAs (Decidable (_ ∧ _))
theorem ulight_any (u : Upd.U) (w : World) : Calls Try.prog 6 #[upA u] w fun e w' => e = .returned (.bool (decide (Upd.light u))) ∧ Below w.heap.size w w' := by
 have hE : Hid (decide (Upd.light u) = (decide (u.path.length < 200) && decide (u.data.length < 400))) := Lib.hid (by rw [Bool.eq_iff_iff, decide_eq_true_iff]; simp [Upd.light])
 generalize decide (Upd.light u) = E at *
 obtain ⟨⟨i1, i2⟩, ⟨t, ⟨v1, v2⟩⟩, p, d, dd⟩ := u
 dsimp only [upA] at *
 have lp := mk_len p
 have ld := mk_len d
 generalize mk d = y at *
 generalize mk p = x at *
 have HB : Hid (Below w.heap.size w (w.alloc (.cells #[.int .i64 i1, .int .i64 i2, .int .i64 v1, .int .i64 v2, .int .i64 t, .string x, .string y, .bool dd] 27))) := Lib.hid ((Below.refl _ _).alloc (Nat.le_refl _) _)
 by_cases h1 : p.length < 200
 ·have g1 : (x.size : Int) < 200 := by omega
  rw [decide_eq_true h1] at hE
  by_cases h2 : d.length < 400
  ·have g2 : (y.size : Int) < 400 := by omega
   rw [decide_eq_true h2] at hE
   clear h1 h2 lp ld
   go_enter Try.func6, Try.ntmps6
   go_wp2_with fail
   go_ret
   exact ⟨by rw [hE.out] <;> rfl, HB.out⟩
  ·have g2 : ¬ (y.size : Int) < 400 := by omega
   rw [decide_eq_false h2] at hE
   clear h1 h2 lp ld
   go_enter Try.func6, Try.ntmps6
   go_wp2_with fail
   go_ret
   exact ⟨by rw [hE.out] <;> rfl, HB.out⟩
 ·have g1 : ¬ (x.size : Int) < 200 := by omega
  rw [decide_eq_false h1] at hE
  clear h1 lp ld
  go_enter Try.func6, Try.ntmps6
  go_wp2_with fail
  go_ret
  exact ⟨by rw [hE.out] <;> rfl, HB.out⟩
theorem Upd.light_bd {u : Upd.U} (h : Upd.In u) (l : Upd.light u) : Upd.Bd u := ⟨h.item, h.stamp, by have := l.1; omega, by have := l.2; omega⟩
end Go.Proofs.Ytkacfmaogiblfaa
