import Derived.Test.YtgpeobmaneponaaCom2
import Derived.Test.YtgpeobmaneponaaCom4
import Derived.Test.YtgpeobmaneponaaCom3
import Derived.Test.YtgpeobmaneponaaCom1
set_option maxRecDepth 100000
set_option linter.unusedVariables false
set_option linter.unusedSimpArgs false
set_option maxHeartbeats 12800000
namespace Go.Proofs.Ytgpeobmaneponaa
open Go.RowKit Go.Sort
theorem upInfo : (Try.prog.info? 27).map (fun i => (i.zero, i.size, i.bytes)) = some (some (upA Upd.zeroU), 8, 80) := by kernel_rfl
theorem upSize (u : Upd.U) : (Try.prog.info? 27).map (·.size) = some (upV u).length := by kernel_rfl
theorem upd_filefn (m : Upd.M) (w : World) : Calls Try.prog 28 #[mtA m] w fun e w' => e = .returned (fileV m.path m.size m.dead) ∧ Below w.heap.size w w' := by
 obtain ⟨⟨i1, i2⟩, ⟨t, ⟨v1, v2⟩⟩, p, n, dd⟩ := m
 have hb : Below w.heap.size w ((w.alloc (.cells #[.int .i64 i1, .int .i64 i2, .int .i64 v1, .int .i64 v2, .int .i64 t, .string (mk p), .int .i64 n, .bool dd] 29)).alloc (.cells #[.string (mk p), .int .i64 n, .bool dd] 34)) := ((Below.refl _ _).alloc (Nat.le_refl _) _).alloc (by simp) _
 have HB := Lib.hid hb
 have Hsz : Hid ((Try.prog.info? 34).map (·.size) = some 3) := Lib.hid (by kernel_rfl)
 have HA := Lib.hid (heap_alloc_new (w.alloc (.cells #[.int .i64 i1, .int .i64 i2, .int .i64 v1, .int .i64 v2, .int .i64 t, .string (mk p), .int .i64 n, .bool dd] 29)) (.cells #[.string (mk p), .int .i64 n, .bool dd] 34))
 rw [World.size_alloc] at HA
 clear hb
 dsimp only [mtA, fileV]
 generalize mk p = x at *
 go_enter Try.func28, Try.ntmps28
 go_wp2_with fail
 exact bodyPost_ret (v := .agg #[.string x, .int .i64 n, .bool dd]) (results_cell_row (by rfl) _ _ (w.heap.size + 1) 34 _ (0, 0) _ (by rfl) HA.out Try.underlying34 rfl Hsz.out) rfl ⟨rfl, HB.out⟩
theorem upd_meta (u : Upd.U) (w : World) (hd : u.data.length ≤ 100000) : Calls Try.prog 9 #[upA u] w fun e w' => e = .returned (mtA (Upd.meta_ u)) ∧ Below w.heap.size w w' := by
 obtain ⟨⟨i1, i2⟩, ⟨t, ⟨v1, v2⟩⟩, p, d, dd⟩ := u
 obtain ⟨n, hn⟩ : ∃ n : Int, n = (d.length : Int) := ⟨_, rfl⟩
 have hsz : ((mk d).size : Int) = n := by rw [mk_len, hn]
 have hE : Hid (mtA (Upd.meta_ ⟨⟨i1, i2⟩, ⟨t, ⟨v1, v2⟩⟩, p, d, dd⟩) = .agg #[.int .i64 i1, .int .i64 i2, .int .i64 v1, .int .i64 v2, .int .i64 t, .string (mk p), .int .i64 n, .bool dd]) := Lib.hid (by rw [hn]; rfl)
 have hb : Below w.heap.size w ((w.alloc (.cells #[.int .i64 i1, .int .i64 i2, .int .i64 v1, .int .i64 v2, .int .i64 t, .string (mk p), .string (mk d), .bool dd] 27)).alloc (.cells #[.int .i64 i1, .int .i64 i2, .int .i64 v1, .int .i64 v2, .int .i64 t, .string (mk p), .int .i64 n, .bool dd] 29)) := ((Below.refl _ _).alloc (Nat.le_refl _) _).alloc (by simp) _
 have HB := Lib.hid hb
 have Hsz : Hid ((Try.prog.info? 29).map (·.size) = some 8) := Lib.hid (by kernel_rfl)
 have HA := Lib.hid (heap_alloc_new (w.alloc (.cells #[.int .i64 i1, .int .i64 i2, .int .i64 v1, .int .i64 v2, .int .i64 t, .string (mk p), .string (mk d), .bool dd] 27)) (.cells #[.int .i64 i1, .int .i64 i2, .int .i64 v1, .int .i64 v2, .int .i64 t, .string (mk p), .int .i64 n, .bool dd] 29))
 rw [World.size_alloc] at HA
 clear hb hn hd
 rw [hE.out]
 dsimp only [upA]
 generalize mk p = x at *
 generalize mk d = y at *
 go_enter Try.func9, Try.ntmps9
 go_wp2_with fail
 exact bodyPost_ret (v := .agg #[.int .i64 i1, .int .i64 i2, .int .i64 v1, .int .i64 v2, .int .i64 t, .string x, .int .i64 n, .bool dd]) (results_cell_row (by rfl) _ _ (w.heap.size + 1) 29 _ (0, 0) _ (by rfl) HA.out Try.underlying29 rfl Hsz.out) rfl ⟨rfl, HB.out⟩
theorem upd_file (u : Upd.U) (w : World) (hd : u.data.length ≤ 100000) : Calls Try.prog 10 #[upA u] w fun e w' => e = .returned (fileV u.path (u.data.length : Int) u.dead) ∧ Below w.heap.size w w' := by
 have ME := Lib.hid (fun W => upd_meta u W hd)
 have FI := Lib.hid (fun W => upd_filefn (Upd.meta_ u) W)
 obtain ⟨⟨i1, i2⟩, ⟨t, ⟨v1, v2⟩⟩, p, d, dd⟩ := u
 dsimp only [upA, mtA, fileV, Upd.meta_] at ME FI ⊢
 generalize ((d.length : Nat) : Int) = n at *
 generalize mk p = x at *
 generalize mk d = y at *
 clear hd
 have hb : Below w.heap.size w ((w.alloc (.cells #[.int .i64 i1, .int .i64 i2, .int .i64 v1, .int .i64 v2, .int .i64 t, .string x, .string y, .bool dd] 27)).alloc (.cells #[.string ⟨#[]⟩, .int .i64 0, .bool false] 34)) := ((Below.refl _ _).alloc (Nat.le_refl _) _).alloc (by simp) _
 have R0 := Row.made (w.alloc (.cells #[.int .i64 i1, .int .i64 i2, .int .i64 v1, .int .i64 v2, .int .i64 t, .string x, .string y, .bool dd] 27)) 34 #[.string ⟨#[]⟩, .int .i64 0, .bool false]
 rw [World.size_alloc] at R0
 have HR := Lib.hid R0
 have HB := Lib.hid hb
 have Hsz : Hid ((Try.prog.info? 34).map (·.size) = some 3) := Lib.hid (by kernel_rfl)
 clear hb R0
 go_enter Try.func10, Try.ntmps10
 go_wp2_with fail
 refine (ME.out _).mono ?_
 rintro e w1 ⟨rfl, b1⟩
 have B1 := Lib.hid (HB.out.trans (b1.mono HB.out.size))
 have R1 := Lib.hid (HR.out.below b1 HR.out.inHeap)
 clear b1
 go_wp2_with fail
 refine (FI.out _).mono ?_
 rintro e w2 ⟨rfl, b2⟩
 have B2 := Lib.hid (B1.out.trans (b2.mono B1.out.size))
 have R2 := Lib.hid (R1.out.below b2 R1.out.inHeap)
 clear b2
 go_wp2_with (refine wpList_rstore (cs := [.string x, .int .i64 n, .bool dd]) (by rfl) (.tmp 2) (.tmp 5) (by rfl) (by rfl) (by rfl) R2.out Hsz.out rfl (by simp [Value.oneCell']) ?_)
 rintro w3 hr3 hk3
 have B3 := Lib.hid (B2.out.trans (hk3.below B2.out.size (fun i e => by omega)))
 have R3 := Lib.hid hr3
 clear hr3 hk3
 go_wp2_with fail
 exact bodyPost_ret (v := .agg #[.string x, .int .i64 n, .bool dd]) (results_cell_row (by rfl) _ _ (w.heap.size + 1) 34 _ (0, 0) _ (by rfl) R3.out Try.underlying34 rfl Hsz.out) rfl ⟨rfl, B3.out⟩
theorem upd_checkM (P : PathOk) (V : VersOk) (m : Upd.M) (hm : Upd.BdM m) (w : World) : Calls Try.prog 13 #[mtA m] w fun e w' => e = .returned (.int .i64 (Upd.errM m)) ∧ Below w.heap.size w w' := by
 have C1 := Lib.hid (fun W => (V.check (w := W) m.item hm.item).mono (fun _ _ h => (⟨h.1, h.2.below⟩ : _ ∧ Below W.heap.size W _)))
 have C2 := Lib.hid (fun W => (V.stamp (w := W) m.stamp hm.stamp).mono (fun _ _ h => (⟨h.1, h.2.below⟩ : _ ∧ Below W.heap.size W _)))
 have C3 := Lib.hid (fun W => P.check m.path W hm.path)
 obtain ⟨E, hE⟩ : ∃ E, E = Upd.errM m := ⟨_, rfl⟩
 rw [← hE]
 obtain ⟨⟨i1, i2⟩, ⟨t, ⟨v1, v2⟩⟩, p, n, dd⟩ := m
 unfold Upd.errM at hE
 unfold Ver.checkV at C1
 unfold Ver.checkS at C2
 dsimp only [verA, stpA, mtA] at C1 C2 C3 hE ⊢
 replace hE := Lib.hid hE
 clear hm
 generalize hx : mk p = x at *
 clear hx
 have hb : Below w.heap.size w (w.alloc (.cells #[.int .i64 i1, .int .i64 i2, .int .i64 v1, .int .i64 v2, .int .i64 t, .string x, .int .i64 n, .bool dd] 29)) := (Below.refl _ _).alloc (Nat.le_refl _) _
 have XB := Lib.hid (fun (W : World) (h : Below (w.alloc (.cells #[.int .i64 i1, .int .i64 i2, .int .i64 v1, .int .i64 v2, .int .i64 t, .string x, .int .i64 n, .bool dd] 29)).heap.size (w.alloc (.cells #[.int .i64 i1, .int .i64 i2, .int .i64 v1, .int .i64 v2, .int .i64 t, .string x, .int .i64 n, .bool dd] 29)) W) => (by
  have r := (Row.made w 29 #[.int .i64 i1, .int .i64 i2, .int .i64 v1, .int .i64 v2, .int .i64 t, .string x, .int .i64 n, .bool dd]).below h (by simp)
  exact ⟨r.at 0, r.at 1, r.at 2, r.at 3, r.at 4, r.at 5, r.at 6, r.at 7⟩ : W.cell? ⟨w.heap.size, 0, none⟩ = some (.int .i64 i1) ∧ W.cell? ⟨w.heap.size, 1, none⟩ = some (.int .i64 i2) ∧ W.cell? ⟨w.heap.size, 2, none⟩ = some (.int .i64 v1) ∧ W.cell? ⟨w.heap.size, 3, none⟩ = some (.int .i64 v2) ∧ W.cell? ⟨w.heap.size, 4, none⟩ = some (.int .i64 t) ∧ W.cell? ⟨w.heap.size, 5, none⟩ = some (.string x) ∧ W.cell? ⟨w.heap.size, 6, none⟩ = some (.int .i64 n) ∧ W.cell? ⟨w.heap.size, 7, none⟩ = some (.bool dd)))
 have HB0 := Lib.hid hb
 have HW : Hid (Below (w.alloc (.cells #[.int .i64 i1, .int .i64 i2, .int .i64 v1, .int .i64 v2, .int .i64 t, .string x, .int .i64 n, .bool dd] 29)).heap.size (w.alloc (.cells #[.int .i64 i1, .int .i64 i2, .int .i64 v1, .int .i64 v2, .int .i64 t, .string x, .int .i64 n, .bool dd] 29)) (w.alloc (.cells #[.int .i64 i1, .int .i64 i2, .int .i64 v1, .int .i64 v2, .int .i64 t, .string x, .int .i64 n, .bool dd] 29))) := Lib.hid (Below.refl _ _)
 clear hb
 by_cases h1 : Ver.Right ⟨i1, i2⟩
 ·replace C1 : Hid (∀ W, Calls Try.prog 32 #[.agg #[.int .i64 i1, .int .i64 i2]] W fun e w' => e = .returned (.int .i64 0) ∧ Below W.heap.size W w') := Lib.hid (fun W => by have := C1.out W; rwa [if_pos h1] at this)
  by_cases h2 : Ver.RightS ⟨t, ⟨v1, v2⟩⟩
  ·replace C2 : Hid (∀ W, Calls Try.prog 33 #[.agg #[.int .i64 v1, .int .i64 v2, .int .i64 t]] W fun e w' => e = .returned (.int .i64 0) ∧ Below W.heap.size W w') := Lib.hid (fun W => by have := C2.out W; rwa [if_pos h2] at this)
   rw [if_neg (fun h => h ⟨h1, h2⟩)] at hE
   by_cases h3 : Pth.Right p
   ·replace C3 : Hid (∀ W, Calls Try.prog 34 #[.string x] W fun e w' => e = .returned (.int .i64 0) ∧ Below W.heap.size W w') := Lib.hid (fun W => by have := C3.out W; rwa [if_pos h3] at this)
    rw [if_neg (fun h => h h3)] at hE
    by_cases h4 : (200 : Int) < n
    ·rw [if_pos h4] at hE
     clear h1 h2 h3
     go_enter Try.func13, Try.ntmps13
     go_wp2_with fail
     refine (C1.out _).mono ?_
     rintro e w1 ⟨rfl, b1⟩
     have B1 := Lib.hid (HW.out.trans (b1.mono HW.out.size))
     obtain ⟨c0, c1, c2, c3, c4, c5, c6, c7⟩ := XB.out _ B1.out
     clear b1
     go_wp2_with fail
     clear c0 c1 c2 c3 c4 c5 c6 c7
     refine (C2.out _).mono ?_
     rintro e w2 ⟨rfl, b2⟩
     have B2 := Lib.hid (B1.out.trans (b2.mono B1.out.size))
     obtain ⟨c0, c1, c2, c3, c4, c5, c6, c7⟩ := XB.out _ B2.out
     clear b2
     go_wp2_with fail
     clear c0 c1 c2 c3 c4 c5 c6 c7
     refine (C3.out _).mono ?_
     rintro e w3 ⟨rfl, b3⟩
     have B3 := Lib.hid (B2.out.trans (b3.mono B2.out.size))
     obtain ⟨c0, c1, c2, c3, c4, c5, c6, c7⟩ := XB.out _ B3.out
     clear b3
     go_wp2_with fail
     go_ret
     exact ⟨by rw [hE.out] <;> rfl, HB0.out.trans (B3.out.mono HB0.out.size)⟩
    ·rw [if_neg h4] at hE
     by_cases h5 : n < 0
     ·rw [if_pos (Or.inl h5)] at hE
      clear h1 h2 h3
      go_enter Try.func13, Try.ntmps13
      go_wp2_with fail
      refine (C1.out _).mono ?_
      rintro e w1 ⟨rfl, b1⟩
      have B1 := Lib.hid (HW.out.trans (b1.mono HW.out.size))
      obtain ⟨c0, c1, c2, c3, c4, c5, c6, c7⟩ := XB.out _ B1.out
      clear b1
      go_wp2_with fail
      clear c0 c1 c2 c3 c4 c5 c6 c7
      refine (C2.out _).mono ?_
      rintro e w2 ⟨rfl, b2⟩
      have B2 := Lib.hid (B1.out.trans (b2.mono B1.out.size))
      obtain ⟨c0, c1, c2, c3, c4, c5, c6, c7⟩ := XB.out _ B2.out
      clear b2
      go_wp2_with fail
      clear c0 c1 c2 c3 c4 c5 c6 c7
      refine (C3.out _).mono ?_
      rintro e w3 ⟨rfl, b3⟩
      have B3 := Lib.hid (B2.out.trans (b3.mono B2.out.size))
      obtain ⟨c0, c1, c2, c3, c4, c5, c6, c7⟩ := XB.out _ B3.out
      clear b3
      go_wp2_with fail
      go_ret
      exact ⟨by rw [hE.out] <;> rfl, HB0.out.trans (B3.out.mono HB0.out.size)⟩
     ·cases dd
      ·rw [if_neg (fun h => h.elim h5 (fun k => by cases k.1))] at hE
       clear h1 h2 h3
       go_enter Try.func13, Try.ntmps13
       go_wp2_with fail
       refine (C1.out _).mono ?_
       rintro e w1 ⟨rfl, b1⟩
       have B1 := Lib.hid (HW.out.trans (b1.mono HW.out.size))
       obtain ⟨c0, c1, c2, c3, c4, c5, c6, c7⟩ := XB.out _ B1.out
       clear b1
       go_wp2_with fail
       clear c0 c1 c2 c3 c4 c5 c6 c7
       refine (C2.out _).mono ?_
       rintro e w2 ⟨rfl, b2⟩
       have B2 := Lib.hid (B1.out.trans (b2.mono B1.out.size))
       obtain ⟨c0, c1, c2, c3, c4, c5, c6, c7⟩ := XB.out _ B2.out
       clear b2
       go_wp2_with fail
       clear c0 c1 c2 c3 c4 c5 c6 c7
       refine (C3.out _).mono ?_
       rintro e w3 ⟨rfl, b3⟩
       have B3 := Lib.hid (B2.out.trans (b3.mono B2.out.size))
       obtain ⟨c0, c1, c2, c3, c4, c5, c6, c7⟩ := XB.out _ B3.out
       clear b3
       go_wp2_with fail
       go_ret
       exact ⟨by rw [hE.out] <;> rfl, HB0.out.trans (B3.out.mono HB0.out.size)⟩
      ·by_cases h6 : n = 0
       ·subst h6
        rw [if_neg (fun h => h.elim h5 (fun k => by have := k.2; omega))] at hE
        clear h1 h2 h3
        go_enter Try.func13, Try.ntmps13
        go_wp2_with fail
        refine (C1.out _).mono ?_
        rintro e w1 ⟨rfl, b1⟩
        have B1 := Lib.hid (HW.out.trans (b1.mono HW.out.size))
        obtain ⟨c0, c1, c2, c3, c4, c5, c6, c7⟩ := XB.out _ B1.out
        clear b1
        go_wp2_with fail
        clear c0 c1 c2 c3 c4 c5 c6 c7
        refine (C2.out _).mono ?_
        rintro e w2 ⟨rfl, b2⟩
        have B2 := Lib.hid (B1.out.trans (b2.mono B1.out.size))
        obtain ⟨c0, c1, c2, c3, c4, c5, c6, c7⟩ := XB.out _ B2.out
        clear b2
        go_wp2_with fail
        clear c0 c1 c2 c3 c4 c5 c6 c7
        refine (C3.out _).mono ?_
        rintro e w3 ⟨rfl, b3⟩
        have B3 := Lib.hid (B2.out.trans (b3.mono B2.out.size))
        obtain ⟨c0, c1, c2, c3, c4, c5, c6, c7⟩ := XB.out _ B3.out
        clear b3
        go_wp2_with fail
        go_ret
        exact ⟨by rw [hE.out] <;> rfl, HB0.out.trans (B3.out.mono HB0.out.size)⟩
       ·rw [if_pos (Or.inr ⟨rfl, by omega⟩)] at hE
        clear h1 h2 h3
        go_enter Try.func13, Try.ntmps13
        go_wp2_with fail
        refine (C1.out _).mono ?_
        rintro e w1 ⟨rfl, b1⟩
        have B1 := Lib.hid (HW.out.trans (b1.mono HW.out.size))
        obtain ⟨c0, c1, c2, c3, c4, c5, c6, c7⟩ := XB.out _ B1.out
        clear b1
        go_wp2_with fail
        clear c0 c1 c2 c3 c4 c5 c6 c7
        refine (C2.out _).mono ?_
        rintro e w2 ⟨rfl, b2⟩
        have B2 := Lib.hid (B1.out.trans (b2.mono B1.out.size))
        obtain ⟨c0, c1, c2, c3, c4, c5, c6, c7⟩ := XB.out _ B2.out
        clear b2
        go_wp2_with fail
        clear c0 c1 c2 c3 c4 c5 c6 c7
        refine (C3.out _).mono ?_
        rintro e w3 ⟨rfl, b3⟩
        have B3 := Lib.hid (B2.out.trans (b3.mono B2.out.size))
        obtain ⟨c0, c1, c2, c3, c4, c5, c6, c7⟩ := XB.out _ B3.out
        clear b3
        go_wp2_with fail
        go_ret
        exact ⟨by rw [hE.out] <;> rfl, HB0.out.trans (B3.out.mono HB0.out.size)⟩
   ·replace C3 : Hid (∀ W, Calls Try.prog 34 #[.string x] W fun e w' => e = .returned (.int .i64 13) ∧ Below W.heap.size W w') := Lib.hid (fun W => by have := C3.out W; rwa [if_neg h3] at this)
    rw [if_pos h3] at hE
    clear h1 h2 h3
    go_enter Try.func13, Try.ntmps13
    go_wp2_with fail
    refine (C1.out _).mono ?_
    rintro e w1 ⟨rfl, b1⟩
    have B1 := Lib.hid (HW.out.trans (b1.mono HW.out.size))
    obtain ⟨c0, c1, c2, c3, c4, c5, c6, c7⟩ := XB.out _ B1.out
    clear b1
    go_wp2_with fail
    clear c0 c1 c2 c3 c4 c5 c6 c7
    refine (C2.out _).mono ?_
    rintro e w2 ⟨rfl, b2⟩
    have B2 := Lib.hid (B1.out.trans (b2.mono B1.out.size))
    obtain ⟨c0, c1, c2, c3, c4, c5, c6, c7⟩ := XB.out _ B2.out
    clear b2
    go_wp2_with fail
    clear c0 c1 c2 c3 c4 c5 c6 c7
    refine (C3.out _).mono ?_
    rintro e w3 ⟨rfl, b3⟩
    have B3 := Lib.hid (B2.out.trans (b3.mono B2.out.size))
    obtain ⟨c0, c1, c2, c3, c4, c5, c6, c7⟩ := XB.out _ B3.out
    clear b3
    go_wp2_with fail
    go_ret
    exact ⟨by rw [hE.out] <;> rfl, HB0.out.trans (B3.out.mono HB0.out.size)⟩
  ·replace C2 : Hid (∀ W, Calls Try.prog 33 #[.agg #[.int .i64 v1, .int .i64 v2, .int .i64 t]] W fun e w' => e = .returned (.int .i64 2) ∧ Below W.heap.size W w') := Lib.hid (fun W => by have := C2.out W; rwa [if_neg h2] at this)
   rw [if_pos (fun h => h2 h.2)] at hE
   clear h1 h2
   go_enter Try.func13, Try.ntmps13
   go_wp2_with fail
   refine (C1.out _).mono ?_
   rintro e w1 ⟨rfl, b1⟩
   have B1 := Lib.hid (HW.out.trans (b1.mono HW.out.size))
   obtain ⟨c0, c1, c2, c3, c4, c5, c6, c7⟩ := XB.out _ B1.out
   clear b1
   go_wp2_with fail
   clear c0 c1 c2 c3 c4 c5 c6 c7
   refine (C2.out _).mono ?_
   rintro e w2 ⟨rfl, b2⟩
   have B2 := Lib.hid (B1.out.trans (b2.mono B1.out.size))
   obtain ⟨c0, c1, c2, c3, c4, c5, c6, c7⟩ := XB.out _ B2.out
   clear b2
   go_wp2_with fail
   go_ret
   exact ⟨by rw [hE.out] <;> rfl, HB0.out.trans (B2.out.mono HB0.out.size)⟩
 ·replace C1 : Hid (∀ W, Calls Try.prog 32 #[.agg #[.int .i64 i1, .int .i64 i2]] W fun e w' => e = .returned (.int .i64 2) ∧ Below W.heap.size W w') := Lib.hid (fun W => by have := C1.out W; rwa [if_neg h1] at this)
  rw [if_pos (fun h => h1 h.1)] at hE
  clear h1
  go_enter Try.func13, Try.ntmps13
  go_wp2_with fail
  refine (C1.out _).mono ?_
  rintro e w1 ⟨rfl, b1⟩
  have B1 := Lib.hid (HW.out.trans (b1.mono HW.out.size))
  obtain ⟨c0, c1, c2, c3, c4, c5, c6, c7⟩ := XB.out _ B1.out
  clear b1
  go_wp2_with fail
  go_ret
  exact ⟨by rw [hE.out] <;> rfl, HB0.out.trans (B1.out.mono HB0.out.size)⟩
theorem upd_check (P : PathOk) (V : VersOk) (u : Upd.U) (hu : Upd.Bd u) (w : World) : Calls Try.prog 11 #[upA u] w fun e w' => e = .returned (.int .i64 (Upd.err u)) ∧ Below w.heap.size w w' := by
 have ME := Lib.hid (fun W => upd_meta u W hu.data)
 have CH := Lib.hid (fun W => upd_checkM P V (Upd.meta_ u) (Upd.bd_meta hu) W)
 rw [show Upd.err u = Upd.errM (Upd.meta_ u) from rfl]
 generalize Upd.errM (Upd.meta_ u) = E at *
 clear hu
 obtain ⟨⟨i1, i2⟩, ⟨t, ⟨v1, v2⟩⟩, p, d, dd⟩ := u
 dsimp only [upA, mtA, Upd.meta_] at ME CH ⊢
 generalize ((d.length : Nat) : Int) = n at *
 generalize mk p = x at *
 generalize mk d = y at *
 have hb : Below w.heap.size w (w.alloc (.cells #[.int .i64 i1, .int .i64 i2, .int .i64 v1, .int .i64 v2, .int .i64 t, .string x, .string y, .bool dd] 27)) := (Below.refl _ _).alloc (Nat.le_refl _) _
 have HB := Lib.hid hb
 clear hb
 go_enter Try.func11, Try.ntmps11
 go_wp2_with fail
 refine (ME.out _).mono ?_
 rintro e w1 ⟨rfl, b1⟩
 have B1 := Lib.hid (HB.out.trans (b1.mono HB.out.size))
 clear b1
 go_wp2_with fail
 refine (CH.out _).mono ?_
 rintro e w2 ⟨rfl, b2⟩
 have B2 := Lib.hid (B1.out.trans (b2.mono B1.out.size))
 clear b2
 go_wp2_with fail
 go_ret
 exact ⟨rfl, B2.out⟩
theorem upd_hit (Z : FilterOk) {w : World} {F : Nat → Prop} {v : Value} {f : List Flt.Cl} (u : Upd.U) (h : Cls w F v f) (hl : f.length ≤ 100000) (hf : ∀ c ∈ f, Flt.Bd c) (hu : Upd.Bd u) : Calls Try.prog 17 #[v, upA u] w fun e w' => e = .returned (.bool (Upd.hit f u)) ∧ Below w.heap.size w w' := by
 obtain ⟨A, cap, rfl, -⟩ := h.parts
 have FI := Lib.hid (fun W => upd_file u W hu.data)
 have MA := Lib.hid (fun (W : World) (hW : Below w.heap.size w W) => Z.hits u.path (u.data.length : Int) u.dead (Rws.below h hW) hl hf hu.path (by have := hu.data; omega) (by have := hu.data; omega))
 rw [show Upd.hit f u = Flt.hits f u.path (u.data.length : Int) u.dead from rfl]
 generalize Flt.hits f u.path (u.data.length : Int) u.dead = E at *
 generalize f.length = fl at *
 clear hl hf hu
 obtain ⟨⟨i1, i2⟩, ⟨t, ⟨v1, v2⟩⟩, p, d, dd⟩ := u
 dsimp only [upA, mtA, fileV] at FI MA ⊢
 generalize ((d.length : Nat) : Int) = n at *
 generalize mk d = y at *
 generalize mk p = x at *
 have hb : Below w.heap.size w (w.alloc (.cells #[.int .i64 i1, .int .i64 i2, .int .i64 v1, .int .i64 v2, .int .i64 t, .string x, .string y, .bool dd] 27)) := (Below.refl _ _).alloc (Nat.le_refl _) _
 have HB := Lib.hid hb
 clear hb
 go_enter Try.func17, Try.ntmps17
 go_wp2_with fail
 refine (FI.out _).mono ?_
 rintro e w1 ⟨rfl, b1⟩
 have B1 := Lib.hid (HB.out.trans (b1.mono HB.out.size))
 clear b1
 go_wp2_with fail
 refine (MA.out _ B1.out).mono ?_
 rintro e w2 ⟨rfl, b2⟩
 have B2 := Lib.hid (B1.out.trans (b2.mono B1.out.size))
 clear b2
 go_wp2_with fail
 go_ret
 exact ⟨rfl, B2.out⟩
theorem upd_hitM (Z : FilterOk) {w : World} {F : Nat → Prop} {v : Value} {f : List Flt.Cl} (m : Upd.M) (h : Cls w F v f) (hl : f.length ≤ 100000) (hf : ∀ c ∈ f, Flt.Bd c) (hm : Upd.BdM m) : Calls Try.prog 18 #[v, mtA m] w fun e w' => e = .returned (.bool (Upd.hitM f m)) ∧ Below w.heap.size w w' := by
 obtain ⟨A, cap, rfl, -⟩ := h.parts
 have FI := Lib.hid (fun W => upd_filefn m W)
 have MA := Lib.hid (fun (W : World) (hW : Below w.heap.size w W) => Z.hits m.path m.size m.dead (Rws.below h hW) hl hf hm.path hm.size.1 hm.size.2)
 rw [show Upd.hitM f m = Flt.hits f m.path m.size m.dead from rfl]
 generalize Flt.hits f m.path m.size m.dead = E at *
 generalize f.length = fl at *
 clear hl hf hm
 obtain ⟨⟨i1, i2⟩, ⟨t, ⟨v1, v2⟩⟩, p, n, dd⟩ := m
 dsimp only [upA, mtA, fileV] at FI MA ⊢
 generalize mk p = x at *
 have hb : Below w.heap.size w (w.alloc (.cells #[.int .i64 i1, .int .i64 i2, .int .i64 v1, .int .i64 v2, .int .i64 t, .string x, .int .i64 n, .bool dd] 29)) := (Below.refl _ _).alloc (Nat.le_refl _) _
 have HB := Lib.hid hb
 clear hb
 go_enter Try.func18, Try.ntmps18
 go_wp2_with fail
 refine (FI.out _).mono ?_
 rintro e w1 ⟨rfl, b1⟩
 have B1 := Lib.hid (HB.out.trans (b1.mono HB.out.size))
 clear b1
 go_wp2_with fail
 refine (MA.out _ B1.out).mono ?_
 rintro e w2 ⟨rfl, b2⟩
 have B2 := Lib.hid (B1.out.trans (b2.mono B1.out.size))
 clear b2
 go_wp2_with fail
 go_ret
 exact ⟨rfl, B2.out⟩
theorem upd_wins (V : VersOk) (a b : Upd.U) (w : World) : Calls Try.prog 25 #[upA a, upA b] w fun e w' => e = .returned (.bool (decide (Upd.Wins a b))) ∧ Laid w w' := by
 have BE := Lib.hid (fun W => V.before (w := W) b.stamp.v a.stamp.v)
 have hE : Hid (decide (Upd.Wins a b) = if a.stamp.time = b.stamp.time then decide (Ver.Before b.stamp.v a.stamp.v) else decide (b.stamp.time < a.stamp.time)) := Lib.hid (by
  rw [Bool.eq_iff_iff, decide_eq_true_iff]
  unfold Upd.Wins Ver.Older
  by_cases h : a.stamp.time = b.stamp.time
  ·simp [h]
  ·have h' : ¬ b.stamp.time = a.stamp.time := fun q => h q.symm
   simp [h, h'])
 generalize decide (Upd.Wins a b) = E at *
 generalize decide (Ver.Before b.stamp.v a.stamp.v) = B at *
 obtain ⟨⟨i1, i2⟩, ⟨t, ⟨v1, v2⟩⟩, p, d, dd⟩ := a
 obtain ⟨⟨j1, j2⟩, ⟨s, ⟨u1, u2⟩⟩, p2, d', d2⟩ := b
 dsimp only [upA, verA] at BE hE ⊢
 generalize mk p = x at *
 generalize mk d = y at *
 generalize mk p2 = x2 at *
 generalize mk d' = y2 at *
 have L := Lib.hid (laid_two w (.cells #[.int .i64 i1, .int .i64 i2, .int .i64 v1, .int .i64 v2, .int .i64 t, .string x, .string y, .bool dd] 27) (.cells #[.int .i64 j1, .int .i64 j2, .int .i64 u1, .int .i64 u2, .int .i64 s, .string x2, .string y2, .bool d2] 27))
 by_cases h1 : t = s
 ·rw [if_pos h1] at hE
  subst h1
  go_enter Try.func25, Try.ntmps25
  go_wp2_with fail
  refine (BE.out _).mono ?_
  rintro e w1 ⟨rfl, hl⟩
  have HL := Lib.hid (L.out.trans hl)
  clear hl
  go_wp2_with fail
  go_ret
  exact ⟨by rw [hE.out] <;> rfl, HL.out⟩
 ·rw [if_neg h1] at hE
  have h2 : (t != s) = true := by rw [bne_iff_ne]; exact h1
  go_enter Try.func25, Try.ntmps25
  go_wp2_with fail
  go_ret
  exact ⟨by rw [hE.out] <;> rfl, L.out⟩
def Upd.order (a b : Upd.U) : Int := if Ver.Before a.item b.item then -1 else if Ver.Before b.item a.item then 1 else 0
theorem upd_order (V : VersOk) (a b : Upd.U) (w : World) : Calls Try.prog 39 #[upA a, upA b] w fun e w' => e = .returned (.int .i64 (Upd.order a b)) ∧ Laid w w' := by
 have BE := Lib.hid (fun W => V.before (w := W) a.item b.item)
 have BF := Lib.hid (fun W => V.before (w := W) b.item a.item)
 obtain ⟨E, hE⟩ : ∃ E, E = Upd.order a b := ⟨_, rfl⟩
 rw [← hE]
 unfold Upd.order at hE
 replace hE := Lib.hid hE
 obtain ⟨⟨i1, i2⟩, ⟨t, ⟨v1, v2⟩⟩, p, d, dd⟩ := a
 obtain ⟨⟨j1, j2⟩, ⟨s, ⟨u1, u2⟩⟩, p2, d', d2⟩ := b
 dsimp only [upA, verA] at BE BF hE ⊢
 generalize mk p = x at *
 generalize mk d = y at *
 generalize mk p2 = x2 at *
 generalize mk d' = y2 at *
 have L := Lib.hid (laid_two w (.cells #[.int .i64 i1, .int .i64 i2, .int .i64 v1, .int .i64 v2, .int .i64 t, .string x, .string y, .bool dd] 27) (.cells #[.int .i64 j1, .int .i64 j2, .int .i64 u1, .int .i64 u2, .int .i64 s, .string x2, .string y2, .bool d2] 27))
 have r1 := (Row.made w 27 #[.int .i64 i1, .int .i64 i2, .int .i64 v1, .int .i64 v2, .int .i64 t, .string x, .string y, .bool dd]).behindNew (.cells #[.int .i64 j1, .int .i64 j2, .int .i64 u1, .int .i64 u2, .int .i64 s, .string x2, .string y2, .bool d2] 27)
 have r2 := Row.made (w.alloc (.cells #[.int .i64 i1, .int .i64 i2, .int .i64 v1, .int .i64 v2, .int .i64 t, .string x, .string y, .bool dd] 27)) 27 #[.int .i64 j1, .int .i64 j2, .int .i64 u1, .int .i64 u2, .int .i64 s, .string x2, .string y2, .bool d2]
 rw [World.size_alloc] at r2
 have XL := Lib.hid (fun (W : World) (h : Below ((w.alloc (.cells #[.int .i64 i1, .int .i64 i2, .int .i64 v1, .int .i64 v2, .int .i64 t, .string x, .string y, .bool dd] 27)).alloc (.cells #[.int .i64 j1, .int .i64 j2, .int .i64 u1, .int .i64 u2, .int .i64 s, .string x2, .string y2, .bool d2] 27)).heap.size ((w.alloc (.cells #[.int .i64 i1, .int .i64 i2, .int .i64 v1, .int .i64 v2, .int .i64 t, .string x, .string y, .bool dd] 27)).alloc (.cells #[.int .i64 j1, .int .i64 j2, .int .i64 u1, .int .i64 u2, .int .i64 s, .string x2, .string y2, .bool d2] 27)) W) => (⟨(r1.below h r1.inHeap).at 0, (r1.below h r1.inHeap).at 1, (r2.below h r2.inHeap).at 0, (r2.below h r2.inHeap).at 1⟩ : W.cell? ⟨w.heap.size, 0, none⟩ = some (.int .i64 i1) ∧ W.cell? ⟨w.heap.size, 1, none⟩ = some (.int .i64 i2) ∧ W.cell? ⟨w.heap.size + 1, 0, none⟩ = some (.int .i64 j1) ∧ W.cell? ⟨w.heap.size + 1, 1, none⟩ = some (.int .i64 j2)))
 clear r1 r2
 by_cases h1 : Ver.Before ⟨i1, i2⟩ ⟨j1, j2⟩
 ·rw [if_pos h1] at hE
  rw [decide_eq_true h1] at BE
  clear h1
  go_enter Try.func39, Try.ntmps39
  go_wp2_with fail
  refine (BE.out _).mono ?_
  rintro e w1 ⟨rfl, hl⟩
  have HL := Lib.hid (L.out.trans hl)
  clear hl
  go_wp2_with fail
  go_ret
  exact ⟨by rw [hE.out] <;> rfl, HL.out⟩
 ·rw [if_neg h1] at hE
  rw [decide_eq_false h1] at BE
  clear h1
  by_cases h2 : Ver.Before ⟨j1, j2⟩ ⟨i1, i2⟩
  ·rw [if_pos h2] at hE
   rw [decide_eq_true h2] at BF
   clear h2
   go_enter Try.func39, Try.ntmps39
   go_wp2_with fail
   refine (BE.out _).mono ?_
   rintro e w1 ⟨rfl, hl⟩
   have HL := Lib.hid (L.out.trans hl)
   obtain ⟨c0, c1, c2, c3⟩ := XL.out _ hl.below
   clear hl
   go_wp2_with fail
   clear c0 c1 c2 c3
   refine (BF.out _).mono ?_
   rintro e w2 ⟨rfl, hl⟩
   have HL2 := Lib.hid (HL.out.trans hl)
   clear hl
   go_wp2_with fail
   go_ret
   exact ⟨by rw [hE.out] <;> rfl, HL2.out⟩
  ·rw [if_neg h2] at hE
   rw [decide_eq_false h2] at BF
   clear h2
   go_enter Try.func39, Try.ntmps39
   go_wp2_with fail
   refine (BE.out _).mono ?_
   rintro e w1 ⟨rfl, hl⟩
   have HL := Lib.hid (L.out.trans hl)
   obtain ⟨c0, c1, c2, c3⟩ := XL.out _ hl.below
   clear hl
   go_wp2_with fail
   clear c0 c1 c2 c3
   refine (BF.out _).mono ?_
   rintro e w2 ⟨rfl, hl⟩
   have HL2 := Lib.hid (HL.out.trans hl)
   clear hl
   go_wp2_with fail
   go_ret
   exact ⟨by rw [hE.out] <;> rfl, HL2.out⟩
end Go.Proofs.Ytgpeobmaneponaa
namespace Go.Proofs.Ytgpeobmaneponaa.Upd
open Flt (Tx Cl)
open Ver (V S)
instance : Inhabited U := ⟨⟨⟨0, 0⟩, ⟨0, 0, 0⟩, [], [], false⟩⟩
instance (l : List U) (item : V) (u : U) : Decidable (best l item = some u) := inferInstanceAs (Decidable (_ = _))
def UpI (l : List U) : Prop := l.Pairwise fun a b => Ver.Before a.item b.item
theorem upI_same : ∀ {l m : List U}, UpI l → UpI m → (∀ x, x ∈ l ↔ x ∈ m) → l = m
 | [], [], _, _, _ => rfl
 | [], b :: m, _, _, h => by have := (h b).2 (by simp); cases this
 | a :: l, [], _, _, h => by have := (h a).1 (by simp); cases this
 | a :: l, b :: m, hl, hm, h => by
  have h1 := List.pairwise_cons.1 hl
  have h2 := List.pairwise_cons.1 hm
  have e : a = b := by
   refine Classical.byContradiction (fun e => ?_)
   have ha : a ∈ m := ((List.mem_cons.1 ((h a).1 (by simp))).resolve_left e)
   have hb : b ∈ l := ((List.mem_cons.1 ((h b).2 (by simp))).resolve_left (fun k => e k.symm))
   exact Ver.before_asymm (h1.1 b hb) (h2.1 a ha)
  subst e
  rw [upI_same h1.2 h2.2 (fun x => ?_)]
  have hx := h x
  constructor
  ·intro hm'
   rcases List.mem_cons.1 (hx.1 (List.mem_cons_of_mem _ hm')) with rfl | k
   ·exact absurd (h1.1 x hm') (Ver.before_irrefl x.item)
   ·exact k
  ·intro hm'
   rcases List.mem_cons.1 (hx.2 (List.mem_cons_of_mem _ hm')) with rfl | k
   ·exact absurd (h2.1 x hm') (Ver.before_irrefl x.item)
   ·exact k
def keepB (l : List U) (P : U → Bool) (u : U) : Bool := decide (best l u.item = some u) && P u
theorem view_mem {l : List U} {P : U → Bool} {u : U} : u ∈ view l P ↔ u ∈ l ∧ keepB l P u = true := by
 unfold view keepB
 rw [List.mem_filterMap, Bool.and_eq_true, decide_eq_true_iff]
 constructor
 ·rintro ⟨i, hi, h⟩
  cases hb : best l i with
  | none => rw [hb] at h; cases h
  | some x =>
   rw [hb] at h
   simp only at h
   split at h
   ·rename_i hp
    injection h with h
    subst h
    obtain ⟨e, hm⟩ := best_item hb
    exact ⟨hm, by rw [e]; exact hb, hp⟩
   ·cases h
 ·rintro ⟨hm, hb, hp⟩
  refine ⟨u.item, (Ver.sort_mem _ _).2 (List.mem_map.2 ⟨u, hm, rfl⟩), ?_⟩
  rw [hb]
  simp only
  rw [if_pos hp]
theorem view_up (l : List U) (P : U → Bool) : UpI (view l P) := by
 unfold UpI view
 have key : ∀ (i : V) (z : U), (match best l i with | some u => if P u then some u else none | none => none) = some z → z.item = i := by
  intro i z hz
  cases hb : best l i with
  | none => rw [hb] at hz; cases hz
  | some v =>
   rw [hb] at hz
   simp only at hz
   split at hz
   ·injection hz with hz; rw [← hz]; exact (best_item hb).1
   ·cases hz
 have hs : List.Pairwise Ver.Before (Ver.sort (l.map (·.item))) := Ver.sort_up _
 refine List.Pairwise.filterMap (R := Ver.Before) _ (fun a b hab x hx y hy => ?_) hs
 rw [key a x hx, key b y hy]
 exact hab
theorem compact_up {T : List U} (h : ∀ (i j : Nat) (x y : U), i < j → T[i]? = some x → T[j]? = some y → ¬ Ver.Before y.item x.item) (hk : ∀ x ∈ T, ∀ y ∈ T, x.item = y.item → x = y) : UpI (Lib.compact T) ∧ ∀ x, x ∈ Lib.compact T ↔ x ∈ T := by
 have at_ : ∀ i, i < T.length → T[i]? = some T.toArray[i]! := fun i hi => by
  have := getI_to T.toArray (i := i) (by simpa using hi)
  simpa using this
 have mem_ : ∀ i, i < T.length → T.toArray[i]! ∈ T := fun i hi => List.mem_of_getElem? (at_ i hi)
 constructor
 ·unfold UpI Lib.compact Lib.compactUpTo
  rw [List.pairwise_map]
  have hr : List.Pairwise (fun a b => a < b ∧ b < T.length) (List.range T.length) := by
   have h1 : List.Pairwise (fun a b : Nat => a < b) (List.range T.length) := List.pairwise_lt_range
   refine List.Pairwise.imp_of_mem (fun {a b} ha hb hab => ⟨hab, List.mem_range.1 hb⟩) h1
  have hf := hr.filter (Lib.keeps T.toArray)
  refine List.Pairwise.imp_of_mem (fun {a b} ha hb hab => ?_) hf
  obtain ⟨hab, hbl⟩ := hab
  have hk' := (List.mem_filter.1 hb).2
  have hne : T.toArray[b]! ≠ T.toArray[b - 1]! := by
   have := of_decide_eq_true hk'
   rcases this with h0 | h0
   ·omega
   ·exact h0
  have hnei : T.toArray[b]!.item ≠ T.toArray[b - 1]!.item := fun e => hne (hk _ (mem_ b hbl) _ (mem_ (b - 1) (by omega)) e)
  have q1 := h (b - 1) b _ _ (by omega) (at_ _ (by omega)) (at_ _ hbl)
  have q2 := h a b _ _ hab (at_ _ (by omega)) (at_ _ hbl)
  by_cases e : T.toArray[a]!.item = T.toArray[b]!.item
  ·exfalso
   have q3 : ¬ Ver.Before T.toArray[b - 1]!.item T.toArray[b]!.item := by
    rcases Nat.lt_or_ge a (b - 1) with hlt | hge
    ·have := h a (b - 1) _ _ hlt (at_ _ (by omega)) (at_ _ (by omega))
     rwa [e] at this
    ·have : a = b - 1 := by omega
     subst this
     rw [e]; exact Ver.before_irrefl _
   rcases Ver.before_or hnei with k | k
   ·exact q1 k
   ·exact q3 k
  ·exact (Ver.before_or e).resolve_right q2
 ·intro x
  unfold Lib.compact Lib.compactUpTo
  rw [List.mem_map]
  constructor
  ·rintro ⟨i, hi, rfl⟩
   have hi := List.mem_range.1 (List.mem_filter.1 hi).1
   exact List.mem_of_getElem? (at_ i hi)
  ·intro hx
   obtain ⟨i, hi⟩ := List.getElem?_of_mem hx
   have hil : i < T.length := (List.getElem?_eq_some_iff.1 hi).1
   have hxi : T.toArray[i]! = x := getI_of hi
   clear hi
   induction i with
   | zero => exact ⟨0, List.mem_filter.2 ⟨List.mem_range.2 hil, Lib.keeps_lt_one _ 0 (by omega)⟩, hxi⟩
   | succ i ih =>
    by_cases hk : T.toArray[i + 1]! = T.toArray[i]!
    ·exact ih (by omega) (by rw [← hxi, hk])
    ·exact ⟨i + 1, List.mem_filter.2 ⟨List.mem_range.2 hil, Lib.keeps_pos (by simpa using hk)⟩, hxi⟩
theorem view_is {l T : List U} {P : U → Bool} (hp : T.Perm (l.filter (keepB l P))) (h : ∀ (i j : Nat) (x y : U), i < j → T[i]? = some x → T[j]? = some y → ¬ Ver.Before y.item x.item) : Lib.compact T = view l P := by
 have hm : ∀ x, x ∈ T ↔ x ∈ l ∧ keepB l P x = true := fun x => hp.mem_iff.trans List.mem_filter
 have hk : ∀ x ∈ T, ∀ y ∈ T, x.item = y.item → x = y := by
  intro x hx y hy e
  have h1 := ((hm x).1 hx).2
  have h2 := ((hm y).1 hy).2
  unfold keepB at h1 h2
  rw [Bool.and_eq_true, decide_eq_true_iff] at h1 h2
  rw [e, h2.1] at h1
  exact (Option.some.inj h1.1).symm
 obtain ⟨h1, h2⟩ := compact_up h hk
 exact upI_same h1 (view_up l P) (fun x => (h2 x).trans ((hm x).trans view_mem.symm))
theorem best_own (l : List U) (item : V) : best (l.filter fun u => decide (u.item = item)) item = best l item := by
 unfold best
 rw [List.foldl_filter]
 congr 1
 funext acc u
 by_cases h : u.item = item
 ·rw [decide_eq_true h, if_pos rfl]
 ·rw [decide_eq_false h]
  unfold step
  rw [if_neg h]
  rfl
theorem filter_take {α : Type} (p : α → Bool) (l : List α) (i : Nat) (x : α) (hx : l[i]? = some x) : (l.take (i + 1)).filter p = (l.take i).filter p ++ if p x then [x] else [] := by
 obtain ⟨hl, he⟩ := List.getElem?_eq_some_iff.1 hx
 rw [List.take_succ_eq_append_getElem hl, he, List.filter_append]
 cases h : p x <;> simp [h]
theorem filterMap_take {α β : Type} (p : α → Option β) (l : List α) (i : Nat) (x : α) (hx : l[i]? = some x) : (l.take (i + 1)).filterMap p = (l.take i).filterMap p ++ (p x).toList := by
 obtain ⟨hl, he⟩ := List.getElem?_eq_some_iff.1 hx
 rw [List.take_succ_eq_append_getElem hl, he, List.filterMap_append]
 cases h : p x <;> simp [h]
theorem best_len (l : List U) (P : U → Bool) : (view l P).length ≤ l.length := by
 unfold view
 refine Nat.le_trans (List.length_filterMap_le _ _) (Nat.le_trans (Ver.sort_len _) ?_)
 rw [List.length_map]; exact Nat.le_refl _
end Go.Proofs.Ytgpeobmaneponaa.Upd
