import Derived.Test.YtkacfmaogiblfaaUom9
import Derived.Test.YtkacfmaogiblfaaUom6
import Derived.Test.YtkacfmaogiblfaaUom7
import Derived.Test.YtkacfmaogiblfaaUom4
import Derived.Test.YtkacfmaogiblfaaUom13
import Derived.Test.YtkacfmaogiblfaaUom5
import Derived.DeepKeys4
import Derived.Maps.Keyed
import Derived.WideKeyElems
import Derived.Great.Walk
import Derived.Shelf.GgSortFunc.InsertionK
import Derived.Shelf.Small.Bits
import Derived.Shelf.Strconv.Itoa0
import Derived.Shelf.LaysM
import Derived.Shelf.Strconv.Clone
import Derived.Shelf.Strings.Search1
import Derived.Shelf.Strings.Search2
import Derived.Shelf.Strings.Cut
import Derived.Shelf.Strings.Shaped
import Derived.Shelf.SlicesQ.IndexFunc
import Derived.Shelf.SlLaysF0
import Derived.Shelf.SlicesE.Clone
import Derived.Test.YtkacfmaogiblfaaProg
import Derived.Shelf.SlSortCmp.NoneTotal
set_option maxRecDepth 100000
set_option linter.all false
set_option maxHeartbeats 12800000
namespace Go.Proofs.Ytkacfmaogiblfaa.Upd
open Flt (Tx Cl)
open Ver (V S)
instance : Inhabited U := ⟨⟨⟨0, 0⟩, ⟨0, 0, 0⟩, [], [], false⟩⟩
instance (l : List U) (item : V) (u : U) : Decidable (best l item = some u) := inferInstanceAs (Decidable (_ = _))
end Go.Proofs.Ytkacfmaogiblfaa.Upd
namespace Go.Proofs.Ytkacfmaogiblfaa
open Go.RowKit Go.Sort
theorem upd_meta (u : Upd.U) (w : World) (hd : u.data.length ≤ 100000) : Calls Try.prog 73 #[upA u] w fun e w' => e = .returned (mtA (Upd.meta_ u)) ∧ Below w.heap.size w w' := by
 obtain ⟨⟨i1, i2⟩, ⟨t, ⟨v1, v2⟩⟩, p, d, dd⟩ := u
 obtain ⟨n, hn⟩ : ∃ n : Int, n = (d.length : Int) := ⟨_, rfl⟩
 have hsz : ((mk d).size : Int) = n := by rw [mk_len, hn]
 have hE : Hid (mtA (Upd.meta_ ⟨⟨i1, i2⟩, ⟨t, ⟨v1, v2⟩⟩, p, d, dd⟩) = .agg #[.int .i64 i1, .int .i64 i2, .int .i64 v1, .int .i64 v2, .int .i64 t, .string (mk p), .int .i64 n, .bool dd]) := Lib.hid (by rw [hn]; rfl)
 have hb : Below w.heap.size w ((w.alloc (.cells #[.int .i64 i1, .int .i64 i2, .int .i64 v1, .int .i64 v2, .int .i64 t, .string (mk p), .string (mk d), .bool dd] 27)).alloc (.cells #[.int .i64 i1, .int .i64 i2, .int .i64 v1, .int .i64 v2, .int .i64 t, .string (mk p), .int .i64 n, .bool dd] 29)) := ((Below.refl _ _).alloc (Nat.le_refl _) _).alloc (by simp) _
 have HB := Lib.hid hb
 have Hsz : Hid ((Try.prog.info? 29).map (·.size) = some 8) := Lib.hid (by kernel_rfl)
 have HA := Lib.hid (heap_alloc_new (w.alloc (.cells #[.int .i64 i1, .int .i64 i2, .int .i64 v1, .int .i64 v2, .int .i64 t, .string (mk p), .string (mk d), .bool dd] 27)) (.cells #[.int .i64 i1, .int .i64 i2, .int .i64 v1, .int .i64 v2, .int .i64 t, .string (mk p), .int .i64 n, .bool dd] 29))
 rw [World.size_alloc] at HA
 clear hb hn hd
 rw [hE.out]
 dsimp only [upA]
 generalize mk p = x at *
 generalize mk d = y at *
 go_enter Try.func73, Try.ntmps73
 go_wp2_with fail
 exact bodyPost_ret (v := .agg #[.int .i64 i1, .int .i64 i2, .int .i64 v1, .int .i64 v2, .int .i64 t, .string x, .int .i64 n, .bool dd]) (results_cell_row (by rfl) _ _ (w.heap.size + 1) 29 _ (0, 0) _ (by rfl) HA.out Try.underlying29 rfl Hsz.out) rfl ⟨rfl, HB.out⟩
theorem upd_checkM (P : PathOk) (V : VersOk) (m : Upd.M) (hm : Upd.BdM m) (w : World) : Calls Try.prog 36 #[mtA m] w fun e w' => e = .returned (.int .i64 (Upd.errM m)) ∧ Below w.heap.size w w' := by
 have C1 := Lib.hid (fun W => (V.check (w := W) m.item hm.item).mono (fun _ _ h => (⟨h.1, h.2.below⟩ : _ ∧ Below W.heap.size W _)))
 have C2 := Lib.hid (fun W => (V.stamp (w := W) m.stamp hm.stamp).mono (fun _ _ h => (⟨h.1, h.2.below⟩ : _ ∧ Below W.heap.size W _)))
 have C3 := Lib.hid (fun W => P.check m.path W hm.path)
 obtain ⟨E, hE⟩ : ∃ E, E = Upd.errM m := ⟨_, rfl⟩
 rw [← hE]
 obtain ⟨⟨i1, i2⟩, ⟨t, ⟨v1, v2⟩⟩, p, n, dd⟩ := m
 unfold Upd.errM at hE
 unfold Ver.checkV at C1
 unfold Ver.checkS at C2
 dsimp only [verA, stpA, mtA] at C1 C2 C3 hE ⊢
 replace hE := Lib.hid hE
 clear hm
 generalize hx : mk p = x at *
 clear hx
 have hb : Below w.heap.size w (w.alloc (.cells #[.int .i64 i1, .int .i64 i2, .int .i64 v1, .int .i64 v2, .int .i64 t, .string x, .int .i64 n, .bool dd] 29)) := (Below.refl _ _).alloc (Nat.le_refl _) _
 have XB := Lib.hid (fun (W : World) (h : Below (w.alloc (.cells #[.int .i64 i1, .int .i64 i2, .int .i64 v1, .int .i64 v2, .int .i64 t, .string x, .int .i64 n, .bool dd] 29)).heap.size (w.alloc (.cells #[.int .i64 i1, .int .i64 i2, .int .i64 v1, .int .i64 v2, .int .i64 t, .string x, .int .i64 n, .bool dd] 29)) W) => (by
  have r := (Row.made w 29 #[.int .i64 i1, .int .i64 i2, .int .i64 v1, .int .i64 v2, .int .i64 t, .string x, .int .i64 n, .bool dd]).below h (by simp)
  exact ⟨r.at 0, r.at 1, r.at 2, r.at 3, r.at 4, r.at 5, r.at 6, r.at 7⟩ : W.cell? ⟨w.heap.size, 0, none⟩ = some (.int .i64 i1) ∧ W.cell? ⟨w.heap.size, 1, none⟩ = some (.int .i64 i2) ∧ W.cell? ⟨w.heap.size, 2, none⟩ = some (.int .i64 v1) ∧ W.cell? ⟨w.heap.size, 3, none⟩ = some (.int .i64 v2) ∧ W.cell? ⟨w.heap.size, 4, none⟩ = some (.int .i64 t) ∧ W.cell? ⟨w.heap.size, 5, none⟩ = some (.string x) ∧ W.cell? ⟨w.heap.size, 6, none⟩ = some (.int .i64 n) ∧ W.cell? ⟨w.heap.size, 7, none⟩ = some (.bool dd)))
 have HB0 := Lib.hid hb
 have HW : Hid (Below (w.alloc (.cells #[.int .i64 i1, .int .i64 i2, .int .i64 v1, .int .i64 v2, .int .i64 t, .string x, .int .i64 n, .bool dd] 29)).heap.size (w.alloc (.cells #[.int .i64 i1, .int .i64 i2, .int .i64 v1, .int .i64 v2, .int .i64 t, .string x, .int .i64 n, .bool dd] 29)) (w.alloc (.cells #[.int .i64 i1, .int .i64 i2, .int .i64 v1, .int .i64 v2, .int .i64 t, .string x, .int .i64 n, .bool dd] 29))) := Lib.hid (Below.refl _ _)
 clear hb
 by_cases h1 : Ver.Right ⟨i1, i2⟩
 ·replace C1 : Hid (∀ W, Calls Try.prog 77 #[.agg #[.int .i64 i1, .int .i64 i2]] W fun e w' => e = .returned (.int .i64 0) ∧ Below W.heap.size W w') := Lib.hid (fun W => by have := C1.out W; rwa [if_pos h1] at this)
  by_cases h2 : Ver.RightS ⟨t, ⟨v1, v2⟩⟩
  ·replace C2 : Hid (∀ W, Calls Try.prog 78 #[.agg #[.int .i64 v1, .int .i64 v2, .int .i64 t]] W fun e w' => e = .returned (.int .i64 0) ∧ Below W.heap.size W w') := Lib.hid (fun W => by have := C2.out W; rwa [if_pos h2] at this)
   rw [if_neg (fun h => h ⟨h1, h2⟩)] at hE
   by_cases h3 : Pth.Right p
   ·replace C3 : Hid (∀ W, Calls Try.prog 79 #[.string x] W fun e w' => e = .returned (.int .i64 0) ∧ Below W.heap.size W w') := Lib.hid (fun W => by have := C3.out W; rwa [if_pos h3] at this)
    rw [if_neg (fun h => h h3)] at hE
    by_cases h4 : (200 : Int) < n
    ·rw [if_pos h4] at hE
     clear h1 h2 h3
     go_enter Try.func36, Try.ntmps36
     go_wp2_with fail
     refine (C1.out _).mono ?_
     rintro e w1 ⟨rfl, b1⟩
     have B1 := Lib.hid (HW.out.trans (b1.mono HW.out.size))
     obtain ⟨c0, c1, c2, c3, c4, c5, c6, c7⟩ := XB.out _ B1.out
     clear b1
     go_wp2_with fail
     clear c0 c1 c2 c3 c4 c5 c6 c7
     refine (C2.out _).mono ?_
     rintro e w2 ⟨rfl, b2⟩
     have B2 := Lib.hid (B1.out.trans (b2.mono B1.out.size))
     obtain ⟨c0, c1, c2, c3, c4, c5, c6, c7⟩ := XB.out _ B2.out
     clear b2
     go_wp2_with fail
     clear c0 c1 c2 c3 c4 c5 c6 c7
     refine (C3.out _).mono ?_
     rintro e w3 ⟨rfl, b3⟩
     have B3 := Lib.hid (B2.out.trans (b3.mono B2.out.size))
     obtain ⟨c0, c1, c2, c3, c4, c5, c6, c7⟩ := XB.out _ B3.out
     clear b3
     go_wp2_with fail
     go_ret
     exact ⟨by rw [hE.out] <;> rfl, HB0.out.trans (B3.out.mono HB0.out.size)⟩
    ·rw [if_neg h4] at hE
     by_cases h5 : n < 0
     ·rw [if_pos (Or.inl h5)] at hE
      clear h1 h2 h3
      go_enter Try.func36, Try.ntmps36
      go_wp2_with fail
      refine (C1.out _).mono ?_
      rintro e w1 ⟨rfl, b1⟩
      have B1 := Lib.hid (HW.out.trans (b1.mono HW.out.size))
      obtain ⟨c0, c1, c2, c3, c4, c5, c6, c7⟩ := XB.out _ B1.out
      clear b1
      go_wp2_with fail
      clear c0 c1 c2 c3 c4 c5 c6 c7
      refine (C2.out _).mono ?_
      rintro e w2 ⟨rfl, b2⟩
      have B2 := Lib.hid (B1.out.trans (b2.mono B1.out.size))
      obtain ⟨c0, c1, c2, c3, c4, c5, c6, c7⟩ := XB.out _ B2.out
      clear b2
      go_wp2_with fail
      clear c0 c1 c2 c3 c4 c5 c6 c7
      refine (C3.out _).mono ?_
      rintro e w3 ⟨rfl, b3⟩
      have B3 := Lib.hid (B2.out.trans (b3.mono B2.out.size))
      obtain ⟨c0, c1, c2, c3, c4, c5, c6, c7⟩ := XB.out _ B3.out
      clear b3
      go_wp2_with fail
      go_ret
      exact ⟨by rw [hE.out] <;> rfl, HB0.out.trans (B3.out.mono HB0.out.size)⟩
     ·cases dd
      ·rw [if_neg (fun h => h.elim h5 (fun k => by cases k.1))] at hE
       clear h1 h2 h3
       go_enter Try.func36, Try.ntmps36
       go_wp2_with fail
       refine (C1.out _).mono ?_
       rintro e w1 ⟨rfl, b1⟩
       have B1 := Lib.hid (HW.out.trans (b1.mono HW.out.size))
       obtain ⟨c0, c1, c2, c3, c4, c5, c6, c7⟩ := XB.out _ B1.out
       clear b1
       go_wp2_with fail
       clear c0 c1 c2 c3 c4 c5 c6 c7
       refine (C2.out _).mono ?_
       rintro e w2 ⟨rfl, b2⟩
       have B2 := Lib.hid (B1.out.trans (b2.mono B1.out.size))
       obtain ⟨c0, c1, c2, c3, c4, c5, c6, c7⟩ := XB.out _ B2.out
       clear b2
       go_wp2_with fail
       clear c0 c1 c2 c3 c4 c5 c6 c7
       refine (C3.out _).mono ?_
       rintro e w3 ⟨rfl, b3⟩
       have B3 := Lib.hid (B2.out.trans (b3.mono B2.out.size))
       obtain ⟨c0, c1, c2, c3, c4, c5, c6, c7⟩ := XB.out _ B3.out
       clear b3
       go_wp2_with fail
       go_ret
       exact ⟨by rw [hE.out] <;> rfl, HB0.out.trans (B3.out.mono HB0.out.size)⟩
      ·by_cases h6 : n = 0
       ·subst h6
        rw [if_neg (fun h => h.elim h5 (fun k => by have := k.2; omega))] at hE
        clear h1 h2 h3
        go_enter Try.func36, Try.ntmps36
        go_wp2_with fail
        refine (C1.out _).mono ?_
        rintro e w1 ⟨rfl, b1⟩
        have B1 := Lib.hid (HW.out.trans (b1.mono HW.out.size))
        obtain ⟨c0, c1, c2, c3, c4, c5, c6, c7⟩ := XB.out _ B1.out
        clear b1
        go_wp2_with fail
        clear c0 c1 c2 c3 c4 c5 c6 c7
        refine (C2.out _).mono ?_
        rintro e w2 ⟨rfl, b2⟩
        have B2 := Lib.hid (B1.out.trans (b2.mono B1.out.size))
        obtain ⟨c0, c1, c2, c3, c4, c5, c6, c7⟩ := XB.out _ B2.out
        clear b2
        go_wp2_with fail
        clear c0 c1 c2 c3 c4 c5 c6 c7
        refine (C3.out _).mono ?_
        rintro e w3 ⟨rfl, b3⟩
        have B3 := Lib.hid (B2.out.trans (b3.mono B2.out.size))
        obtain ⟨c0, c1, c2, c3, c4, c5, c6, c7⟩ := XB.out _ B3.out
        clear b3
        go_wp2_with fail
        go_ret
        exact ⟨by rw [hE.out] <;> rfl, HB0.out.trans (B3.out.mono HB0.out.size)⟩
       ·rw [if_pos (Or.inr ⟨rfl, by omega⟩)] at hE
        clear h1 h2 h3
        go_enter Try.func36, Try.ntmps36
        go_wp2_with fail
        refine (C1.out _).mono ?_
        rintro e w1 ⟨rfl, b1⟩
        have B1 := Lib.hid (HW.out.trans (b1.mono HW.out.size))
        obtain ⟨c0, c1, c2, c3, c4, c5, c6, c7⟩ := XB.out _ B1.out
        clear b1
        go_wp2_with fail
        clear c0 c1 c2 c3 c4 c5 c6 c7
        refine (C2.out _).mono ?_
        rintro e w2 ⟨rfl, b2⟩
        have B2 := Lib.hid (B1.out.trans (b2.mono B1.out.size))
        obtain ⟨c0, c1, c2, c3, c4, c5, c6, c7⟩ := XB.out _ B2.out
        clear b2
        go_wp2_with fail
        clear c0 c1 c2 c3 c4 c5 c6 c7
        refine (C3.out _).mono ?_
        rintro e w3 ⟨rfl, b3⟩
        have B3 := Lib.hid (B2.out.trans (b3.mono B2.out.size))
        obtain ⟨c0, c1, c2, c3, c4, c5, c6, c7⟩ := XB.out _ B3.out
        clear b3
        go_wp2_with fail
        go_ret
        exact ⟨by rw [hE.out] <;> rfl, HB0.out.trans (B3.out.mono HB0.out.size)⟩
   ·replace C3 : Hid (∀ W, Calls Try.prog 79 #[.string x] W fun e w' => e = .returned (.int .i64 13) ∧ Below W.heap.size W w') := Lib.hid (fun W => by have := C3.out W; rwa [if_neg h3] at this)
    rw [if_pos h3] at hE
    clear h1 h2 h3
    go_enter Try.func36, Try.ntmps36
    go_wp2_with fail
    refine (C1.out _).mono ?_
    rintro e w1 ⟨rfl, b1⟩
    have B1 := Lib.hid (HW.out.trans (b1.mono HW.out.size))
    obtain ⟨c0, c1, c2, c3, c4, c5, c6, c7⟩ := XB.out _ B1.out
    clear b1
    go_wp2_with fail
    clear c0 c1 c2 c3 c4 c5 c6 c7
    refine (C2.out _).mono ?_
    rintro e w2 ⟨rfl, b2⟩
    have B2 := Lib.hid (B1.out.trans (b2.mono B1.out.size))
    obtain ⟨c0, c1, c2, c3, c4, c5, c6, c7⟩ := XB.out _ B2.out
    clear b2
    go_wp2_with fail
    clear c0 c1 c2 c3 c4 c5 c6 c7
    refine (C3.out _).mono ?_
    rintro e w3 ⟨rfl, b3⟩
    have B3 := Lib.hid (B2.out.trans (b3.mono B2.out.size))
    obtain ⟨c0, c1, c2, c3, c4, c5, c6, c7⟩ := XB.out _ B3.out
    clear b3
    go_wp2_with fail
    go_ret
    exact ⟨by rw [hE.out] <;> rfl, HB0.out.trans (B3.out.mono HB0.out.size)⟩
  ·replace C2 : Hid (∀ W, Calls Try.prog 78 #[.agg #[.int .i64 v1, .int .i64 v2, .int .i64 t]] W fun e w' => e = .returned (.int .i64 2) ∧ Below W.heap.size W w') := Lib.hid (fun W => by have := C2.out W; rwa [if_neg h2] at this)
   rw [if_pos (fun h => h2 h.2)] at hE
   clear h1 h2
   go_enter Try.func36, Try.ntmps36
   go_wp2_with fail
   refine (C1.out _).mono ?_
   rintro e w1 ⟨rfl, b1⟩
   have B1 := Lib.hid (HW.out.trans (b1.mono HW.out.size))
   obtain ⟨c0, c1, c2, c3, c4, c5, c6, c7⟩ := XB.out _ B1.out
   clear b1
   go_wp2_with fail
   clear c0 c1 c2 c3 c4 c5 c6 c7
   refine (C2.out _).mono ?_
   rintro e w2 ⟨rfl, b2⟩
   have B2 := Lib.hid (B1.out.trans (b2.mono B1.out.size))
   obtain ⟨c0, c1, c2, c3, c4, c5, c6, c7⟩ := XB.out _ B2.out
   clear b2
   go_wp2_with fail
   go_ret
   exact ⟨by rw [hE.out] <;> rfl, HB0.out.trans (B2.out.mono HB0.out.size)⟩
 ·replace C1 : Hid (∀ W, Calls Try.prog 77 #[.agg #[.int .i64 i1, .int .i64 i2]] W fun e w' => e = .returned (.int .i64 2) ∧ Below W.heap.size W w') := Lib.hid (fun W => by have := C1.out W; rwa [if_neg h1] at this)
  rw [if_pos (fun h => h1 h.1)] at hE
  clear h1
  go_enter Try.func36, Try.ntmps36
  go_wp2_with fail
  refine (C1.out _).mono ?_
  rintro e w1 ⟨rfl, b1⟩
  have B1 := Lib.hid (HW.out.trans (b1.mono HW.out.size))
  obtain ⟨c0, c1, c2, c3, c4, c5, c6, c7⟩ := XB.out _ B1.out
  clear b1
  go_wp2_with fail
  go_ret
  exact ⟨by rw [hE.out] <;> rfl, HB0.out.trans (B1.out.mono HB0.out.size)⟩
theorem upd_check (P : PathOk) (V : VersOk) (u : Upd.U) (hu : Upd.Bd u) (w : World) : Calls Try.prog 33 #[upA u] w fun e w' => e = .returned (.int .i64 (Upd.err u)) ∧ Below w.heap.size w w' := by
 have ME := Lib.hid (fun W => upd_meta u W hu.data)
 have CH := Lib.hid (fun W => upd_checkM P V (Upd.meta_ u) (Upd.bd_meta hu) W)
 rw [show Upd.err u = Upd.errM (Upd.meta_ u) from rfl]
 generalize Upd.errM (Upd.meta_ u) = E at *
 clear hu
 obtain ⟨⟨i1, i2⟩, ⟨t, ⟨v1, v2⟩⟩, p, d, dd⟩ := u
 dsimp only [upA, mtA, Upd.meta_] at ME CH ⊢
 generalize ((d.length : Nat) : Int) = n at *
 generalize mk p = x at *
 generalize mk d = y at *
 have hb : Below w.heap.size w (w.alloc (.cells #[.int .i64 i1, .int .i64 i2, .int .i64 v1, .int .i64 v2, .int .i64 t, .string x, .string y, .bool dd] 27)) := (Below.refl _ _).alloc (Nat.le_refl _) _
 have HB := Lib.hid hb
 clear hb
 go_enter Try.func33, Try.ntmps33
 go_wp2_with fail
 refine (ME.out _).mono ?_
 rintro e w1 ⟨rfl, b1⟩
 have B1 := Lib.hid (HB.out.trans (b1.mono HB.out.size))
 clear b1
 go_wp2_with fail
 refine (CH.out _).mono ?_
 rintro e w2 ⟨rfl, b2⟩
 have B2 := Lib.hid (B1.out.trans (b2.mono B1.out.size))
 clear b2
 go_wp2_with fail
 go_ret
 exact ⟨rfl, B2.out⟩
def Upd.order (a b : Upd.U) : Int := if Ver.Before a.item b.item then -1 else if Ver.Before b.item a.item then 1 else 0
open Go.RowKit Go.ChangeMaps
theorem ver_law : WideMaps.KeyLaw Try.prog 23 := deep_law_laid (m := 9) (by kernel_rfl) (by decide) (of_decide_eq_true (by kernel_rfl)) (by kernel_rfl) (by kernel_rfl)
theorem ver_wf {n : Int} (h : Ver.I64 n) : (Lit.int .i64 n).wf = true := by
 unfold Ver.I64 at h
 simp only [Lit.wf, Bool.and_eq_true, decide_eq_true_iff]
 have h1 : IntKind.i64.min = -9223372036854775808 := rfl
 have h2 : IntKind.i64.max = 9223372036854775807 := rfl
 omega
theorem ver_sized : ∃ m, Try.prog.types.size + 1 = m + 2 := ⟨_, rfl⟩
theorem ver_key {x : Ver.V} (h : Ver.Bd x) : ∃ l, keyOf Try.prog 23 (verA x) = some l := by
 have w1 := ver_wf h.1
 have w2 := ver_wf h.2
 have hc : Try.prog.cellsOf 23 = 2 := by kernel_rfl
 have hi : Try.prog.cellsOf 3 = 1 := by kernel_rfl
 have hkt : Try.prog.keyType 23 = true := by kernel_rfl
 obtain ⟨m, hm⟩ := ver_sized
 refine ⟨.string (keyBytes [.int .i64 x.by_, .int .i64 x.n]), ?_⟩
 unfold keyOf
 rw [hm]
 simp [Try.underlying23, hkt, Value.formed, hc, Program.keyLits, Try.underlying3, hi, w1, w2, Value.cells]
abbrev Ver.Fn := Ver.V → Option Value
def Ver.set (m : Ver.Fn) (x : Ver.V) (v : Value) : Ver.Fn := fun y => if y = x then some v else m y
def VmAt (w : World) (bm : Nat) (m : Ver.Fn) : Prop := ∃ es clock, w.heap[bm]? = some (.map es clock) ∧ (∀ e ∈ es.toList, ∃ x : Ver.V, Ver.Bd x ∧ e.key = verA x ∧ m x = some e.val) ∧
 (∀ x v, m x = some v → ∃ e ∈ es.toList, e.key = verA x) ∧ es.toList.Pairwise (fun a b => a.key ≠ b.key)
section
variable {w w' : World} {bm : Nat} {m : Ver.Fn} {T E : TypeId} {z : Value}
theorem VmAt.lt (h : VmAt w bm m) : bm < w.heap.size := by
 obtain ⟨es, clock, hb, -⟩ := h
 exact (Array.getElem?_eq_some_iff.1 hb).1
theorem VmAt.kept {G : Nat → Prop} (h : VmAt w bm m) (k : Kept G w w') (hd : ¬ G bm) : VmAt w' bm m := by
 have hl := h.lt
 obtain ⟨es, clock, hb, r⟩ := h
 exact ⟨es, clock, (k.block bm hl hd).trans hb, r⟩
theorem VmAt.below (h : VmAt w bm m) (k : Below w.heap.size w w') : VmAt w' bm m := h.kept (Kept.ofBelow k (fun _ => False)) (fun h => h)
theorem VmAt.made (w : World) : VmAt (w.alloc (.map #[] 0)) w.heap.size (fun _ => none) := ⟨#[], 0, Array.getElem?_push_size, fun e h => absurd h (List.not_mem_nil), fun x v h => (by cases h), List.Pairwise.nil⟩
theorem VmAt.put (h : VmAt w bm m) (hu : Try.prog.underlying T = some (.map 23 E)) {x : Ver.V} (hx : Ver.Bd x) (v : Value) :
  ∃ w', (Instr.mapUpdate T (.map (some bm)) (verA x) v).run Try.prog w = .ok () w' ∧ VmAt w' bm (Ver.set m x v) ∧ w.grownBy w' (some bm) := by
 have hlt := h.lt
 obtain ⟨es, clock, hb, h1, h2, h3⟩ := h
 have K := ver_law
 obtain ⟨kl, hkey⟩ := ver_key hx
 have hself : Ver.set m x v x = some v := by unfold Ver.set; rw [if_pos rfl]
 have hother : ∀ y, y ≠ x → Ver.set m x v y = m y := fun y hy => by unfold Ver.set; rw [if_neg hy]
 have hgrow : ∀ o : Obj, w.grownBy (setBlock w bm o) (some bm) := fun o => ⟨rfl, rfl, rfl, by simp [setBlock], fun k hk hne => by
  have hne : bm ≠ k := fun e => hne (by rw [e])
  simp [setBlock, Array.getElem?_setIfInBounds, hne]⟩
 have hget : ∀ o : Obj, (setBlock w bm o).heap[bm]? = some o := fun o => by simp [setBlock, hlt]
 rcases K.find w hkey es.toList (fun e he => by obtain ⟨y, hy, e1, -⟩ := h1 e he; rw [e1]; exact ver_key hy) with ⟨f1, f2⟩ | ⟨j, e0, f1, f2, f3⟩
 ·refine ⟨setBlock w bm (.map (es.push ⟨verA x, v, clock⟩) (clock + 1)), ?_, ⟨_, _, hget _, ?_, ?_, ?_⟩, hgrow _⟩
  ·simp [Instr.mapUpdate, run_underlying hu, MapKept.run_getObj_map hb, K.check w false hkey, f1, MapKept.run_setObj_map _ hb, Result.andThen, setBlock]
  ·intro e he
   rw [Array.toList_push] at he
   rcases List.mem_append.1 he with he | he
   ·obtain ⟨y, hy, e1, e2⟩ := h1 e he
    have hne : y ≠ x := fun q => f2 e he (by rw [e1, q])
    exact ⟨y, hy, e1, by rw [hother y hne]; exact e2⟩
   ·rw [List.mem_singleton.1 he]
    exact ⟨x, hx, rfl, hself⟩
  ·intro y u hy
   by_cases e : y = x
   ·exact ⟨⟨verA x, v, clock⟩, by rw [Array.toList_push]; simp, by rw [e]⟩
   ·rw [hother y e] at hy
    obtain ⟨e, he, e1⟩ := h2 y u hy
    exact ⟨e, by rw [Array.toList_push]; exact List.mem_append.2 (Or.inl he), e1⟩
  ·rw [Array.toList_push]
   refine List.pairwise_append.2 ⟨h3, List.pairwise_singleton .., fun a ha b hb' => ?_⟩
   rw [List.mem_singleton.1 hb']
   exact f2 a ha
 ·have hj : es[j]? = some e0 := by simpa using f2
  have hjl : j < es.toList.length := (List.getElem?_eq_some_iff.1 f2).1
  have hlist : (es.modify j (fun e' => { e' with key := verA x, val := v })).toList = es.toList.set j ⟨verA x, v, e0.born⟩ := by
   rw [Array.toList_modify]
   apply List.ext_getElem?
   intro k
   rw [List.getElem?_modify, List.getElem?_set]
   by_cases e : j = k
   ·subst e
    rw [f2, if_pos rfl, if_pos hjl]
    show some (if j = j then _ else _) = _
    rw [if_pos rfl]
   ·rw [if_neg e]
    cases es.toList[k]? with
    | none => rfl
    | some a =>
     show some (if j = k then _ else a) = some a
     rw [if_neg e]
  refine ⟨setBlock w bm (.map (es.modify j (fun e' => { e' with key := verA x, val := v })) clock), ?_, ⟨_, _, hget _, ?_, ?_, ?_⟩, hgrow _⟩
  ·simp [Instr.mapUpdate, run_underlying hu, MapKept.run_getObj_map hb, K.check w false hkey, f1, hj, f3, K.stays w hkey, MapKept.run_setObj_map _ hb, Result.andThen, setBlock]
  ·intro e he
   rw [hlist] at he
   obtain ⟨k, hk⟩ := List.getElem?_of_mem he
   rw [List.getElem?_set] at hk
   by_cases ejk : j = k
   ·rw [if_pos ejk] at hk
    split at hk
    ·injection hk with hk
     rw [← hk]
     exact ⟨x, hx, rfl, hself⟩
    ·exact absurd hjl (by assumption)
   ·rw [if_neg ejk] at hk
    have hm := List.mem_of_getElem? hk
    obtain ⟨y, hy, e1, e2⟩ := h1 e hm
    have hne : y ≠ x := fun q => by
     obtain ⟨hkl, ek⟩ := List.getElem?_eq_some_iff.1 hk
     obtain ⟨hjl', ej⟩ := List.getElem?_eq_some_iff.1 f2
     have hkey2 : e.key = e0.key := by rw [e1, f3, q]
     rcases Nat.lt_or_gt_of_ne ejk with hlt2 | hlt2
     ·have := List.pairwise_iff_getElem.1 h3 j k hjl' hkl hlt2
      rw [ek, ej] at this
      exact this hkey2.symm
     ·have := List.pairwise_iff_getElem.1 h3 k j hkl hjl' hlt2
      rw [ek, ej] at this
      exact this hkey2
    exact ⟨y, hy, e1, by rw [hother y hne]; exact e2⟩
  ·intro y u hy
   have hex : ∃ e ∈ es.toList, e.key = verA y := by
    by_cases e : y = x
    ·rw [e]
     exact ⟨e0, List.mem_of_getElem? f2, f3⟩
    ·rw [hother y e] at hy
     exact h2 y u hy
   obtain ⟨e, he, e1⟩ := hex
   obtain ⟨k, hk⟩ := List.getElem?_of_mem he
   by_cases ejk : j = k
   ·subst ejk
    rw [f2] at hk
    injection hk with hk
    refine ⟨_, by rw [hlist]; exact List.mem_of_getElem? (List.getElem?_set_self hjl), ?_⟩
    rw [← e1, ← hk, f3]
   ·exact ⟨e, by rw [hlist]; exact List.mem_of_getElem? (by rw [List.getElem?_set_ne ejk]; exact hk), e1⟩
  ·rw [hlist]
   have hmap : (es.toList.set j ⟨verA x, v, e0.born⟩).map (·.key) = es.toList.map (·.key) := by
    rw [List.map_set]
    apply List.ext_getElem?
    intro k
    rw [List.getElem?_set]
    by_cases e : j = k
    ·subst e
     rw [if_pos rfl, if_pos (by rw [List.length_map]; exact hjl), List.getElem?_map, f2]
     show some (verA x) = some e0.key
     rw [f3]
    ·rw [if_neg e]
   have h3' : (es.toList.map (·.key)).Pairwise (· ≠ ·) := List.pairwise_map.2 h3
   rw [← hmap] at h3'
   exact List.pairwise_map.1 h3'
end
open Go.RowKit Go.Sort
open Go.RowKit Go.Sort
open Go.RowKit Go.Sort
section
variable {α : Type} [Inhabited α] {enc : α → List Value} {k : Nat}
theorem flat_list (hk : ∀ x, (enc x).length = k) (h0 : 0 < k) (d : Array α) : (flatK enc k d).toList = d.toList.flatMap enc := by
 apply List.ext_getElem?
 intro j
 by_cases hj : j < d.size * k
 ·have hq : j / k < d.size := Nat.div_lt_of_lt_mul (by rwa [Nat.mul_comm])
  have hr : j % k < k := Nat.mod_lt _ h0
  have e := get_flatK enc k d j hj
  have hs : j < (flatK enc k d).size := by rw [size_flatK]; exact hj
  rw [Array.getElem?_toList, Array.getElem?_eq_getElem hs, ← getElem!_pos (flatK enc k d) j hs, e]
  have hx : d.toList[j / k]? = some d[j / k]! := by rw [Array.getElem?_toList, Array.getElem?_eq_getElem hq, getElem!_pos d _ hq]
  have hl : j % k < (enc d[j / k]!).length := by rw [hk]; exact hr
  have hu : (enc d[j / k]!)[j % k]? = some (enc d[j / k]!)[j % k]! := by rw [List.getElem?_eq_getElem hl, getElem!_pos (enc d[j / k]!) _ hl]
  have h1 := rows_at d.toList (fun x _ => hk x) (j / k) _ hx (j % k) _ hu
  rw [← h1]
  congr 1
  exact Nat.div_add_mod' j k
 ·have h2 := rows_len d.toList (fun x _ => hk x)
  rw [List.getElem?_eq_none (by simp; omega), List.getElem?_eq_none (by rw [h2]; simp; omega)]
theorem own_holds (hk : ∀ x, (enc x).length = k) (h0 : 0 < k) {w : World} {base t n g cap : Nat} {l : List α} (h : w.ownsRow base t k (.slice (some ⟨g, 0, none⟩) n cap) n (l.flatMap enc)) : HoldsK enc k w g 0 l.toArray := by
 intro j hj
 rw [size_flatK] at hj
 have hl : l.length * k = n * k := by rw [← rows_len l (fun x _ => hk x)]; exact h.1
 have hj2 : j < n * k := by rw [← hl]; simpa using hj
 refine ⟨?_, ?_⟩
 ·rw [Nat.zero_add, h.cellAt j hj2]
  have hs : j < (flatK enc k l.toArray).size := by rw [size_flatK]; exact hj
  have e : (flatK enc k l.toArray).toList[j]? = some (flatK enc k l.toArray)[j]! := by rw [Array.getElem?_toList, Array.getElem?_eq_getElem hs, getElem!_pos (flatK enc k l.toArray) j hs]
  rw [flat_list hk h0] at e
  exact e
 ·rw [Nat.zero_add]
  exact h.frozenAt j
theorem heap_sortK {w : World} {g n : Nat} {os : Array Obj} {cur : Array Value} {e : TypeId} {fr : Nat × Nat} (d : Array α) (hb : w.heap[g]? = some (.cells cur e fr)) :
  (Go.Proofs.sortWorldK enc k w g 0 n d os).heap[g]? = some (.cells (putCells id 0 (flatK enc k d) cur) e fr) := by
 have hg : g < w.heap.size := (Array.getElem?_eq_some_iff.1 hb).1
 unfold Go.Proofs.sortWorldK putRowK
 rw [heap_grow_old _ _ (by simpa using hg)]
 simp [putRow, mapBlock, Sort.ahead, Array.getElem?_modify, hb, onCells]
theorem grown_sortK {w : World} {g n : Nat} {os : Array Obj} (d : Array α) : w.grownBy (Go.Proofs.sortWorldK enc k w g 0 n d os) (some g) := by
 unfold Go.Proofs.sortWorldK putRowK
 refine ⟨rfl, rfl, rfl, by simp, fun j hj hne => ?_⟩
 rw [heap_grow_old _ _ (by simpa using hj)]
 have : g ≠ j := fun e => hne (by rw [e])
 simp [putRow, mapBlock, Sort.ahead, Array.getElem?_modify, this]
theorem take_put (cur F : Array Value) (h : F.size ≤ cur.size) : (putCells id 0 F cur).toList.take F.size = F.toList := by
 apply List.ext_getElem?
 intro j
 by_cases hj : j < F.size
 ·rw [List.getElem?_take_of_lt hj, Array.getElem?_toList]
  simp [putCells, hj, show j < cur.size by omega]
 ·rw [List.getElem?_take_eq_none (by omega), List.getElem?_eq_none (by simpa using hj)]
theorem own_sorted (hk : ∀ x, (enc x).length = k) (h0 : 0 < k) {w : World} {base t n m g cap : Nat} {l : List α} {d : Array α} {os : Array Obj} (h : w.ownsRow base t k (.slice (some ⟨g, 0, none⟩) n cap) n (l.flatMap enc)) (hd : d.size = n) :
  (Go.Proofs.sortWorldK enc k w g 0 m d os).ownsRow base t k (.slice (some ⟨g, 0, none⟩) n cap) n (d.toList.flatMap enc) := by
 refine ⟨by rw [rows_len d.toList (fun x _ => hk x)]; simp [hd], ?_⟩
 rcases h.2 with ⟨e, -⟩ | ⟨g2, cap2, cur, e, hb, hg, hc, hm, hs, ht⟩
 ·cases e
 ·injection e with e1 e2 e3
  injection e1 with e1
  injection e1 with e1
  subst e1 e3
  refine .inr ⟨g, cap, _, rfl, hb, heap_sortK d hg, hc, hm, by simp [putCells, hs], ?_⟩
  have hf : (flatK enc k d).size = n * k := by rw [size_flatK, hd]
  rw [← hf, take_put cur _ (by rw [hf, hs]; exact Nat.mul_le_mul_right _ hc), flat_list hk h0]
theorem RowsOwn.sorted (hk : ∀ x, (enc x).length = k) (h0 : 0 < k) {w wr : World} {t m g cap : Nat} {l : List α} {d : Array α} {os : Array Obj} (h : RowsOwn t k enc w l (.slice (some ⟨g, 0, none⟩) l.length cap) wr) (hd : d.size = l.length) :
  RowsOwn t k enc w d.toList (.slice (some ⟨g, 0, none⟩) l.length cap) (Go.Proofs.sortWorldK enc k wr g 0 m d os) := by
 have hg := h.1.lt g rfl
 refine ⟨?_, h.2.grown (grown_sortK d) h.2.size (fun j hj => by injection hj with hj; omega)⟩
 have h1 := own_sorted (m := m) (os := os) hk h0 h.1 hd
 have e : d.toList.length = l.length := by simpa using hd
 rw [e]
 exact h1
theorem perm_list {l : List α} {d : Array α} (h : PermIn 0 l.toArray.size l.toArray d) : d.toList.Perm l ∧ d.size = l.length := by
 obtain ⟨h1, -, h3⟩ := h
 have hs : d.size = l.length := by simpa using h1
 refine ⟨?_, hs⟩
 have e1 : d.extract 0 l.toArray.size = d := by rw [← h1]; exact Array.extract_size
 have e2 : l.toArray.extract 0 l.toArray.size = l.toArray := Array.extract_size
 rw [e1, e2] at h3
 exact h3
end
end Go.Proofs.Ytkacfmaogiblfaa
namespace Go.Proofs
open Go.Shelf
open Go.RowKit in
open Go.RowKit Go.Lib in
def Try.lays219_ren : Go.Shelf.Ren := ⟨fun | 219 => 139 | 217 => 150 | 225 => 151 | 224 => 152 | 267 => 153 | 266 => 159 | 314 => 160 | n => n, fun | 9 => 9 | 3 => 3 | 4 => 4 | 5 => 5 | 46 => 166 | 146 => 191 | 51 => 180 | n => n, fun | 1 => 0 | n => n⟩
theorem Try.lays219 : Go.Proofs.Lays.n219 Try.prog Try.lays219_ren := {
 mixed := by kernel_rfl
 f217 := Try.func150.trans (congrArg some (by kernel_rfl))
 f219 := Try.func139.trans (congrArg some (by kernel_rfl))
 f224 := Try.func152.trans (congrArg some (by kernel_rfl))
 f225 := Try.func151.trans (congrArg some (by kernel_rfl))
 f266 := Try.func159.trans (congrArg some (by kernel_rfl))
 f267 := Try.func153.trans (congrArg some (by kernel_rfl))
 f314 := Try.func160.trans (congrArg some (by kernel_rfl))
 t3 := Try.underlying3
 a3 := Try.isAgg3
 z3 := Try.sizeOf3
 v3 := Try.zeroValue3
 t4 := Try.underlying4
 a4 := Try.isAgg4
 z4 := Try.sizeOf4
 v4 := Try.zeroValue4
 t5 := Try.underlying5
 a5 := Try.isAgg5
 z5 := Try.sizeOf5
 v5 := Try.zeroValue5
 t9 := Try.underlying9
 a9 := Try.isAgg9
 z9 := Try.sizeOf9
 v9 := Try.zeroValue9
 t46 := Try.underlying166
 a46 := Try.isAgg166
 z46 := Try.sizeOf166
 v46 := Try.zeroValue166
 t51 := Try.underlying180
 a51 := Try.isAgg180
 z51 := Try.sizeOf180
 v51 := Try.zeroValue180
 t146 := Try.underlying191
 a146 := Try.isAgg191
 z146 := Try.sizeOf191
 v146 := Try.zeroValue191
 g1 := by kernel_rfl }
open Go.RowKit Go.Lib in
theorem Try.stringslite_Index_one (s : ByteArray) (c : UInt8) (w : World) :
  Calls Try.prog 139 #[.string s, .string ⟨#[c]⟩] w fun e w' => e = .returned (.int .i64 (Lib.indexByte s.data.toList c)) ∧ w' = w := Any.stringslite_Index_one Try.lays219 s c w
open Go.RowKit Go.Lib in
def Try.sortVr_ren : Go.Shelf.Ren := ⟨fun | 6 => 129 | 15 => 137 | 14 => 136 | 28 => 148 | 29 => 149 | 20 => 140 | 21 => 141 | 22 => 142 | 23 => 143 | 24 => 144 | 25 => 145 | 26 => 146 | 27 => 147 | 46 => 154 | 47 => 155 | 48 => 156 | 49 => 157 | 50 => 158 | 57 => 161 | n => n, fun | 22 => 47 | 24 => 23 | 25 => 164 | 3 => 3 | 39 => 166 | 0 => 0 | 53 => 180 | 55 => 182 | 4 => 4 | 46 => 173 | 45 => 172 | 50 => 177 | 5 => 5 | 9 => 9 | 66 => 185 | 70 => 189 | 76 => 193 | 77 => 194 | n => n, fun | n => n⟩
theorem Try.sortVr : Go.Proofs.SlLaysF0.n6 Try.prog Try.sortVr_ren := {
 mixed := by kernel_rfl
 f6 := ⟨Try.f129.name, by decide, Try.func129.trans (congrArg some (by kernel_rfl))⟩
 f14 := ⟨Try.f136.name, by decide, Try.func136.trans (congrArg some (by kernel_rfl))⟩
 f15 := Try.func137.trans (congrArg some (by kernel_rfl))
 f20 := ⟨Try.f140.name, by decide, Try.func140.trans (congrArg some (by kernel_rfl))⟩
 f21 := ⟨Try.f141.name, by decide, Try.func141.trans (congrArg some (by kernel_rfl))⟩
 f22 := ⟨Try.f142.name, by decide, Try.func142.trans (congrArg some (by kernel_rfl))⟩
 f23 := ⟨Try.f143.name, by decide, Try.func143.trans (congrArg some (by kernel_rfl))⟩
 f24 := ⟨Try.f144.name, by decide, Try.func144.trans (congrArg some (by kernel_rfl))⟩
 f25 := ⟨Try.f145.name, by decide, Try.func145.trans (congrArg some (by kernel_rfl))⟩
 f26 := ⟨Try.f146.name, by decide, Try.func146.trans (congrArg some (by kernel_rfl))⟩
 f27 := ⟨Try.f147.name, by decide, Try.func147.trans (congrArg some (by kernel_rfl))⟩
 f28 := Try.func148.trans (congrArg some (by kernel_rfl))
 f29 := Try.func149.trans (congrArg some (by kernel_rfl))
 f46 := ⟨Try.f154.name, by decide, Try.func154.trans (congrArg some (by kernel_rfl))⟩
 f47 := Try.func155.trans (congrArg some (by kernel_rfl))
 f48 := Try.func156.trans (congrArg some (by kernel_rfl))
 f49 := ⟨Try.f157.name, by decide, Try.func157.trans (congrArg some (by kernel_rfl))⟩
 f50 := ⟨Try.f158.name, by decide, Try.func158.trans (congrArg some (by kernel_rfl))⟩
 f57 := ⟨Try.f161.name, by decide, Try.func161.trans (congrArg some (by kernel_rfl))⟩
 t0 := Try.underlying0
 a0 := Try.isAgg0
 z0 := Try.sizeOf0
 v0 := Try.zeroValue0
 t3 := Try.underlying3
 a3 := Try.isAgg3
 z3 := Try.sizeOf3
 v3 := Try.zeroValue3
 t4 := Try.underlying4
 a4 := Try.isAgg4
 z4 := Try.sizeOf4
 v4 := Try.zeroValue4
 t5 := Try.underlying5
 a5 := Try.isAgg5
 z5 := Try.sizeOf5
 v5 := Try.zeroValue5
 t9 := Try.underlying9
 a9 := Try.isAgg9
 z9 := Try.sizeOf9
 v9 := Try.zeroValue9
 t22 := Try.underlying47
 a22 := Try.isAgg47
 z22 := Try.sizeOf47
 v22 := Try.zeroValue47
 t25 := Try.underlying164
 a25 := Try.isAgg164
 z25 := Try.sizeOf164
 v25 := Try.zeroValue164
 t39 := Try.underlying166
 a39 := Try.isAgg166
 z39 := Try.sizeOf166
 v39 := Try.zeroValue166
 t45 := Try.underlying172
 a45 := Try.isAgg172
 z45 := Try.sizeOf172
 v45 := Try.zeroValue172
 t46 := Try.underlying173
 a46 := Try.isAgg173
 z46 := Try.sizeOf173
 v46 := Try.zeroValue173
 t50 := Try.underlying177
 a50 := Try.isAgg177
 z50 := Try.sizeOf177
 v50 := Try.zeroValue177
 t53 := Try.underlying180
 a53 := Try.isAgg180
 z53 := Try.sizeOf180
 v53 := Try.zeroValue180
 t55 := Try.underlying182
 a55 := Try.isAgg182
 z55 := Try.sizeOf182
 v55 := Try.zeroValue182
 t66 := Try.underlying185
 a66 := Try.isAgg185
 z66 := Try.sizeOf185
 v66 := Try.zeroValue185
 t70 := Try.underlying189
 a70 := Try.isAgg189
 z70 := Try.sizeOf189
 v70 := Try.zeroValue189
 t76 := Try.underlying193
 a76 := Try.isAgg193
 z76 := Try.sizeOf193
 v76 := Try.zeroValue193
 t77 := Try.underlying194
 a77 := Try.isAgg194
 z77 := Try.sizeOf194
 v77 := Try.zeroValue194 }
end Go.Proofs
namespace Go.Proofs.Ytkacfmaogiblfaa
open Go.RowKit Go.Shelf Go.Lib Go.Sort
open Go.RowKit Go.Sort
open Go.RowKit Go.Sort
open Go.RowKit
theorem update_of (P : PathOk) (V : VersOk) (Z : FilterOk) : UpdateOk where
 check := fun {w} u hu => upd_check P V u hu w
 checkM := fun {w} m hm => upd_checkM P V m hm w
 toMeta := fun {w} u hu => upd_meta u w hu.data
end Go.Proofs.Ytkacfmaogiblfaa
