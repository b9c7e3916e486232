import Derived.Test.YtkacfmaogiblfaaUom7
import Derived.Test.YtkacfmaogiblfaaUom17
import Derived.Test.YtkacfmaogiblfaaUom16
import Derived.Test.YtkacfmaogiblfaaUom18
import Derived.Test.YtkacfmaogiblfaaUom5
import Derived.Test.YtkacfmaogiblfaaUom8
import Derived.Shelf.SlicesQ.Equal
import Derived.Shelf.SlicesQ.IndexFunc
import Derived.Laws.StructEq
import Derived.Sort.Walk0
import Derived.Shelf.SlSortCmp.NoneTotal
import Derived.Shelf.Slices.In.SortNone
import Derived.Sort.OwnSorted
import Derived.Great.Walk
import Derived.WalkMore
import Derived.BigQuiet
import Derived.Shelf.Spec.SlicesGrow
import Derived.Shelf.SlSortCmp.QuietGrown
set_option maxRecDepth 100000
set_option linter.all false
set_option maxHeartbeats 12800000
namespace Go.Proofs.Ytkacfmaogiblfaa
open Go.RowKit
theorem Flt.first_at {f : List Flt.Cl} {n : Nat} {c : Flt.Cl} (hc : f[n]? = some c) : Flt.first (f.drop n) = if c.pre ≠ [] ∧ ¬ Pth.Right c.pre then 13 else if Flt.Right c then Flt.first (f.drop (n + 1)) else 2 := by
 obtain ⟨hl, he⟩ := List.getElem?_eq_some_iff.1 hc
 rw [List.drop_eq_getElem_cons hl, he]
 rfl
theorem flt_check {w : World} {F : Nat → Prop} {v : Value} {f : List Flt.Cl} (h : Cls w F v f) (hl : f.length ≤ 100000) (bf : ∀ c ∈ f, Flt.Bd c) :
  Calls Try.prog 121 #[v] w fun e w' => e = .returned (.int .i64 (Flt.check f)) ∧ Below w.heap.size w w' := by
 obtain ⟨A, cap, rfl, hcap⟩ := h.parts
 have H := Lib.hid h
 have HS : Hid (∀ c ∈ f, c.pre.length ≤ 100000) := Lib.hid (fun c hc => (bf c hc).1)
 have hl' : (f.length : Int) ≤ 100000 := by omega
 clear h bf
 by_cases h8 : 8 < f.length
 ·have hfin : Hid (Flt.check f = 4) := Lib.hid (by unfold Flt.check; rw [if_pos h8])
  have g8 : (8 : Int) < (f.length : Int) := by omega
  go_enter Try.func121, Try.ntmps121
  go_wp2_with fail
  go_ret
  exact ⟨by rw [hfin.out]; rfl, Below.refl _ _⟩
 ·have hfin : Hid (Flt.check f = Flt.first (f.drop 0)) := Lib.hid (by unfold Flt.check; rw [if_neg h8]; rfl)
  have g8 : ¬ (8 : Int) < (f.length : Int) := by omega
  go_enter Try.func121, Try.ntmps121
  go_wp2_with fail
  go_loopw [4, 10] (fun _ i wr => ∃ n : Nat, n ≤ f.length ∧ i = .int .i64 (n : Int) ∧ Hid (Flt.check f = Flt.first (f.drop n)) ∧ Below w.heap.size w wr) (fun _ i _ => f.length - (intOf i).toNat)
  case atStart => exact ⟨0, Nat.zero_le _, rfl, hfin, Below.refl _ _⟩
  case round =>
   obtain ⟨n, hn, rfl, hck, hbel⟩ := hrel
   by_cases hlt : n < f.length
   ·obtain ⟨b, o, cap', e, -, -, hb⟩ := H.out.block (by omega)
    injection e with e1 e2 e3
    subst e1 e3
    clear e2
    obtain ⟨x, hx⟩ : ∃ x, f[n]? = some x := ⟨_, List.getElem?_eq_getElem hlt⟩
    have hpx := HS.out x (List.mem_of_getElem? hx)
    have hn0 : (0 : Int) ≤ (n : Int) := by omega
    have hn1 : (n : Int) < (f.length : Int) := by omega
    have CA : Hid (∀ W, Below w.heap.size w W → W.cell? ⟨b, o + n * 3, none⟩ = some (.string (mk x.pre)) ∧ W.cell? ⟨b, o + n * 3 + 1, none⟩ = some (.int .i64 x.lo) ∧ W.cell? ⟨b, o + n * 3 + 2, none⟩ = some (.int .i64 x.hi)) := Lib.hid (fun W hW => Cls.at (H.out.below hW) hx)
    obtain ⟨c0, c1, c2⟩ := CA.out wr hbel
    have hst := Lib.hid (Flt.first_at hx)
    obtain ⟨p, lo, hi⟩ := x
    simp only at c0 c1 c2 hpx CA
    have hst : Hid (Flt.first (f.drop n) = if p ≠ [] ∧ ¬ Pth.Right p then 13 else if Flt.Right ⟨p, lo, hi⟩ then Flt.first (f.drop (n + 1)) else 2) := hst
    have PC := Lib.hid (fun (W : World) => path_ok.check p W hpx)
    have ea := str_nil p
    have ia := str_empty p
    have hD : Hid (decide (Flt.Right ⟨p, lo, hi⟩) = ((decide (p = []) || decide (Pth.Right p)) && (decide (0 ≤ lo) && (decide (lo ≤ hi) && decide (hi ≤ 200))))) := Lib.hid (by rw [Bool.eq_iff_iff]; refine decide_eq_true_iff.trans ?_; simp only [Flt.Right, decide_eq_true_iff, Bool.and_eq_true, Bool.or_eq_true])
    have Hbel := Lib.hid hbel
    have Hbx := Lib.hid (Row.made wr 64 #[.string (mk p), .int .i64 lo, .int .i64 hi])
    have hz : wr.heap.size < (wr.alloc (.cells #[.string (mk p), .int .i64 lo, .int .i64 hi] 64)).heap.size := by simp
    have Hz := Lib.hid hz
    have HB1 : Hid (Below w.heap.size w (wr.alloc (.cells #[.string (mk p), .int .i64 lo, .int .i64 hi] 64))) := Lib.hid (hbel.alloc hbel.size _)
    clear hbel hx hz CA
    by_cases hp : p ≠ [] ∧ ¬ Pth.Right p
    ·have hck2 : Hid (Flt.check f = 13) := Lib.hid (by rw [hck.out, hst.out, if_pos hp])
     rw [decide_eq_false hp.1] at ea ia
     have PC : Hid (∀ W, Calls Try.prog 79 #[.string (mk p)] W fun e w' => e = .returned (.int .i64 13) ∧ Below W.heap.size W w') := Lib.hid (fun W => by have := PC.out W; rwa [if_neg hp.2] at this)
     clear hst hp hD hck
     generalize mk p = ps at *
     go_wp2_with fail
     refine (PC.out _).mono ?_
     rintro e w2 ⟨rfl, hb2⟩
     have HB2 := Lib.hid (HB1.out.trans (hb2.mono HB1.out.size))
     clear hb2
     go_wp2_with fail
     go_ret
     exact ⟨by rw [hck2.out]; rfl, HB2.out⟩
    ·have hst2 : Hid (Flt.check f = if decide (Flt.Right ⟨p, lo, hi⟩) = true then Flt.first (f.drop (n + 1)) else 2) := Lib.hid (by
      rw [hck.out, hst.out, if_neg hp]
      by_cases hr : Flt.Right ⟨p, lo, hi⟩
      ·rw [if_pos hr, if_pos (decide_eq_true hr)]
      ·rw [if_neg hr, if_neg (by simpa using hr)])
     have hD2 : Hid (decide (Flt.Right ⟨p, lo, hi⟩) = (decide (0 ≤ lo) && (decide (lo ≤ hi) && decide (hi ≤ 200)))) := Lib.hid (by
      rw [hD.out]
      by_cases h1 : p = []
      ·rw [decide_eq_true h1]; rfl
      ·rw [decide_eq_true (Classical.byContradiction fun k => hp ⟨h1, k⟩), Bool.or_true, Bool.true_and])
     rw [hD2.out] at hst2
     clear hst hD hD2 hck
     by_cases h1 : p = []
     ·rw [decide_eq_true h1] at ea ia
      clear hp h1 PC
      generalize mk p = ps at *
      by_cases k1 : lo < 0
      ·have hno : Hid (Flt.check f = 2) := Lib.hid (by rw [hst2.out, if_neg]; simp only [Bool.and_eq_true, decide_eq_true_eq]; omega)
       clear hst2
       have : decide (lo < (0 : Int)) = true := decide_eq_true (by omega)
       go_wp2_with fail
       go_ret
       exact ⟨by rw [hno.out]; rfl, HB1.out⟩
      ·by_cases k2 : hi < lo
       ·have hno : Hid (Flt.check f = 2) := Lib.hid (by rw [hst2.out, if_neg]; simp only [Bool.and_eq_true, decide_eq_true_eq]; omega)
        clear hst2
        have : decide (lo < (0 : Int)) = false := decide_eq_false (by omega)
        have : decide (hi < lo) = true := decide_eq_true (by omega)
        go_wp2_with fail
        go_ret
        exact ⟨by rw [hno.out]; rfl, HB1.out⟩
       ·by_cases k3 : 200 < hi
        ·have hno : Hid (Flt.check f = 2) := Lib.hid (by rw [hst2.out, if_neg]; simp only [Bool.and_eq_true, decide_eq_true_eq]; omega)
         clear hst2
         have : decide (lo < (0 : Int)) = false := decide_eq_false (by omega)
         have : decide (hi < lo) = false := decide_eq_false (by omega)
         have : decide ((200 : Int) < hi) = true := decide_eq_true (by omega)
         go_wp2_with fail
         go_ret
         exact ⟨by rw [hno.out]; rfl, HB1.out⟩
        ·have hnext : Hid (Flt.check f = Flt.first (f.drop (n + 1))) := Lib.hid (by rw [hst2.out, if_pos]; simp only [Bool.and_eq_true, decide_eq_true_eq]; omega)
         clear hst2
         have : decide (lo < (0 : Int)) = false := decide_eq_false (by omega)
         have : decide (hi < lo) = false := decide_eq_false (by omega)
         have : decide ((200 : Int) < hi) = false := decide_eq_false (by omega)
         go_wp2_with fail
         exact ⟨⟨n + 1, by omega, by go_num, hnext, HB1.out⟩, by show f.length - ((n : Int) + 1).toNat < f.length - (n : Int).toNat; omega⟩
     ·rw [decide_eq_false h1] at ea ia
      have PC : Hid (∀ W, Calls Try.prog 79 #[.string (mk p)] W fun e w' => e = .returned (.int .i64 0) ∧ Below W.heap.size W w') := Lib.hid (fun W => by have := PC.out W; rwa [if_pos (Classical.byContradiction fun k => hp ⟨h1, k⟩)] at this)
      clear hp h1
      generalize mk p = ps at *
      by_cases k1 : lo < 0
      ·have hno : Hid (Flt.check f = 2) := Lib.hid (by rw [hst2.out, if_neg]; simp only [Bool.and_eq_true, decide_eq_true_eq]; omega)
       clear hst2
       have : decide (lo < (0 : Int)) = true := decide_eq_true (by omega)
       go_wp2_with fail
       refine (PC.out _).mono ?_
       rintro e w2 ⟨rfl, hb2⟩
       have HB2 := Lib.hid (HB1.out.trans (hb2.mono HB1.out.size))
       have q1 : w2.cell? ⟨wr.heap.size, 1, none⟩ = some (.int .i64 lo) := (hb2.cell (p := ⟨wr.heap.size, 1, none⟩) Hz.out).trans (Hbx.out.at 1)
       have q2 : w2.cell? ⟨wr.heap.size, 2, none⟩ = some (.int .i64 hi) := (hb2.cell (p := ⟨wr.heap.size, 2, none⟩) Hz.out).trans (Hbx.out.at 2)
       clear hb2
       go_wp2_with fail
       go_ret
       exact ⟨by rw [hno.out]; rfl, HB2.out⟩
      ·by_cases k2 : hi < lo
       ·have hno : Hid (Flt.check f = 2) := Lib.hid (by rw [hst2.out, if_neg]; simp only [Bool.and_eq_true, decide_eq_true_eq]; omega)
        clear hst2
        have : decide (lo < (0 : Int)) = false := decide_eq_false (by omega)
        have : decide (hi < lo) = true := decide_eq_true (by omega)
        go_wp2_with fail
        refine (PC.out _).mono ?_
        rintro e w2 ⟨rfl, hb2⟩
        have HB2 := Lib.hid (HB1.out.trans (hb2.mono HB1.out.size))
        have q1 : w2.cell? ⟨wr.heap.size, 1, none⟩ = some (.int .i64 lo) := (hb2.cell (p := ⟨wr.heap.size, 1, none⟩) Hz.out).trans (Hbx.out.at 1)
        have q2 : w2.cell? ⟨wr.heap.size, 2, none⟩ = some (.int .i64 hi) := (hb2.cell (p := ⟨wr.heap.size, 2, none⟩) Hz.out).trans (Hbx.out.at 2)
        clear hb2
        go_wp2_with fail
        go_ret
        exact ⟨by rw [hno.out]; rfl, HB2.out⟩
       ·by_cases k3 : 200 < hi
        ·have hno : Hid (Flt.check f = 2) := Lib.hid (by rw [hst2.out, if_neg]; simp only [Bool.and_eq_true, decide_eq_true_eq]; omega)
         clear hst2
         have : decide (lo < (0 : Int)) = false := decide_eq_false (by omega)
         have : decide (hi < lo) = false := decide_eq_false (by omega)
         have : decide ((200 : Int) < hi) = true := decide_eq_true (by omega)
         go_wp2_with fail
         refine (PC.out _).mono ?_
         rintro e w2 ⟨rfl, hb2⟩
         have HB2 := Lib.hid (HB1.out.trans (hb2.mono HB1.out.size))
         have q1 : w2.cell? ⟨wr.heap.size, 1, none⟩ = some (.int .i64 lo) := (hb2.cell (p := ⟨wr.heap.size, 1, none⟩) Hz.out).trans (Hbx.out.at 1)
         have q2 : w2.cell? ⟨wr.heap.size, 2, none⟩ = some (.int .i64 hi) := (hb2.cell (p := ⟨wr.heap.size, 2, none⟩) Hz.out).trans (Hbx.out.at 2)
         clear hb2
         go_wp2_with fail
         go_ret
         exact ⟨by rw [hno.out]; rfl, HB2.out⟩
        ·have hnext : Hid (Flt.check f = Flt.first (f.drop (n + 1))) := Lib.hid (by rw [hst2.out, if_pos]; simp only [Bool.and_eq_true, decide_eq_true_eq]; omega)
         clear hst2
         have : decide (lo < (0 : Int)) = false := decide_eq_false (by omega)
         have : decide (hi < lo) = false := decide_eq_false (by omega)
         have : decide ((200 : Int) < hi) = false := decide_eq_false (by omega)
         go_wp2_with fail
         refine (PC.out _).mono ?_
         rintro e w2 ⟨rfl, hb2⟩
         have HB2 := Lib.hid (HB1.out.trans (hb2.mono HB1.out.size))
         have q1 : w2.cell? ⟨wr.heap.size, 1, none⟩ = some (.int .i64 lo) := (hb2.cell (p := ⟨wr.heap.size, 1, none⟩) Hz.out).trans (Hbx.out.at 1)
         have q2 : w2.cell? ⟨wr.heap.size, 2, none⟩ = some (.int .i64 hi) := (hb2.cell (p := ⟨wr.heap.size, 2, none⟩) Hz.out).trans (Hbx.out.at 2)
         clear hb2
         go_wp2_with fail
         exact ⟨⟨n + 1, by omega, by go_num, hnext, HB2.out⟩, by show f.length - ((n : Int) + 1).toNat < f.length - (n : Int).toNat; omega⟩
   ·obtain rfl : n = f.length := by omega
    rw [List.drop_length] at hck
    have Hbel := Lib.hid hbel
    clear hbel
    go_wp2_with fail
    go_ret
    exact ⟨by rw [hck.out]; rfl, Hbel.out⟩
open Go.RowKit Go.Shelf Go.Lib
instance : Inhabited Flt.Cl := ⟨⟨[], 0, 0⟩⟩
abbrev BCl := { c : Flt.Cl // Flt.Bd c }
instance : Inhabited BCl := ⟨⟨⟨[], 0, 0⟩, ⟨by simp, by unfold Go.Proofs.Ytkacfmaogiblfaa.Bd Flt.rg; simp⟩⟩⟩
open Go.RowKit
def txV (t : List UInt8) : List Value := [.string (mk t)]
abbrev Txs (w : World) (F : Nat → Prop) (v : Value) (l : List (List UInt8)) : Prop := Rws 1 txV w F v l
theorem Txs.cells {w : World} {F : Nat → Prop} {v : Value} {l : List (List UInt8)} (h : Txs w F v l) : Cells w F v (texts l) := by
 obtain ⟨A, c, rfl, hc, hat⟩ := h
 refine ⟨A, c, by rw [texts_len], by rw [texts_len]; exact hc, fun hp => ?_⟩
 rw [texts_len] at hp
 obtain ⟨b, o, rfl, h1, h2, h3⟩ := hat hp
 refine ⟨b, o, rfl, h1, h2, fun i u hu => ?_⟩
 unfold texts at hu
 rw [List.getElem?_map] at hu
 cases hx : l[i]? with
 | none => rw [hx] at hu; cases hu
 | some x =>
  rw [hx] at hu
  have := h3 i x hx 0 u (by simpa [txV] using hu)
  rw [Nat.mul_one] at this
  exact this
theorem Txs.at {w : World} {F : Nat → Prop} {b o : Nat} {n cap : Nat} {l : List (List UInt8)} (h : Txs w F (.slice (some ⟨b, o, none⟩) n cap) l) {i : Nat} {x : List UInt8} (hx : l[i]? = some x) : w.cell? ⟨b, o + i, none⟩ = some (.string (mk x)) := by
 obtain ⟨A, c, e, -, hat⟩ := h
 injection e with e1 e2 e3
 obtain ⟨b', o', e, -, -, hc⟩ := hat (by obtain ⟨hl, _⟩ := List.getElem?_eq_some_iff.1 hx; omega)
 rw [e] at e1
 injection e1 with e1
 injection e1 with e1 e2
 subst e1 e2
 have := hc i x hx 0 _ rfl
 rwa [Nat.mul_one] at this
open Go.RowKit Go.Shelf Go.Lib Go.Sort
open Go.RowKit
open Go.RowKit
open Go.RowKit
open Go.RowKit Go.Shelf Go.Lib
open Go.RowKit Go.Shelf Go.Lib Go.Sort
open Go.RowKit
open Go.RowKit
theorem flat_set (out : List Sz.Rg) (q : Sz.Rg) (u : Int) : ((out ++ [q]).flatMap rgV).set (out.length * 2 + 1) (.int .i64 u) = (out ++ [(q.1, u)]).flatMap rgV := by
 rw [List.flatMap_append, List.flatMap_append]
 have hl : (out.flatMap rgV).length = out.length * 2 := rows_len (f := rgV) (k := 2) out (fun _ _ => rfl)
 rw [List.set_append_right _ _ (by omega)]
 congr 1
 rw [hl, show out.length * 2 + 1 - out.length * 2 = 1 by omega]
 rfl
theorem RowsOwn.last {w wr : World} {out : List Sz.Rg} {q : Sz.Rg} {g cap : Nat} {T : Nat} (h : RowsOwn T 2 rgV w (out ++ [q]) (.slice (some ⟨g, 0, none⟩) (out ++ [q]).length cap) wr) (u : Int) :
  RowsOwn T 2 rgV w (out ++ [(q.1, u)]) (.slice (some ⟨g, 0, none⟩) (out ++ [q]).length cap) (wr.setCell ⟨g, out.length * 2 + 1, none⟩ (.int .i64 u)) := by
 have hg := h.1.lt g rfl
 have hs := h.1.stored (out.length * 2 + 1) (.int .i64 u)
 refine ⟨?_, h.2.grown hs.2 h.2.size (fun k hk => by injection hk with hk; omega)⟩
 have h1 := hs.1
 rw [flat_set] at h1
 rw [List.length_append, List.length_singleton] at h1 ⊢
 rw [List.length_append, List.length_singleton]
 exact h1
open Go.RowKit
theorem gb_set (w : World) (p : Addr) (u : Value) : w.grownBy (w.setCell p u) (some p.block) :=
 ⟨rfl, rfl, rfl, by simp [World.setCell], fun k _ hn => Below.heap_setCell w p u k (fun e => hn (by rw [e]))⟩
structure CutAt (W : World) (c hi : Int) (I O : List Sz.Rg) (vi vo : Value) (wr : World) : Prop where
 oi : wr.ownsRow (W.heap.size + 1) 62 2 vi I.length (I.flatMap rgV)
 oo : wr.ownsRow (W.heap.size + 1) 62 2 vo O.length (O.flatMap rgV)
 ap : ∀ g, vi.ownBlock = some g → vo.ownBlock ≠ some g
 row : Row wr W.heap.size 62 #[.int .i64 c, .int .i64 hi]
 bel : Below W.heap.size W wr
 sz : W.heap.size + 1 ≤ wr.heap.size
section
variable {W wr w' : World} {c hi : Int} {I O X : List Sz.Rg} {vi vo v' : Value}
theorem CutAt.start (W : World) (lo hi : Int) : CutAt W lo hi [] [] (.slice none 0 0) (.slice none 0 0) (W.alloc (.cells #[.int .i64 lo, .int .i64 hi] 62)) :=
 ⟨World.ownsRow_nil _ _ _ _, World.ownsRow_nil _ _ _ _, fun g h => (by cases h), Row.made W _ _, (Below.refl _ _).alloc (Nat.le_refl _) _, by simp⟩
theorem CutAt.alloc (h : CutAt W c hi I O vi vo wr) (o : Obj) : CutAt W c hi I O vi vo (wr.alloc o) :=
 ⟨h.oi.alloc o, h.oo.alloc o, h.ap, h.row.behindNew o, h.bel.alloc h.bel.size o, by have := h.sz; simp; omega⟩
theorem CutAt.out (h : CutAt W c hi I O vi vo wr) (ho : w'.ownsRow (W.heap.size + 1) 62 2 v' (O ++ X).length ((O ++ X).flatMap rgV)) (hg : wr.grownBy w' vo.ownBlock) (hn : Near wr vo v') : CutAt W c hi I (O ++ X) vi v' w' := by
 have hne : ∀ k, vo.ownBlock = some k → W.heap.size + 1 ≤ k := fun k hk => (h.oo.lt k hk).1
 exact ⟨own_left h.oi hg h.ap, ho, hn.apart h.ap h.oi (Nat.le_refl _), h.row.grown hg (fun e => by have := hne _ e; omega), h.bel.grown hg h.bel.size (fun k hk => by have := hne k hk; omega), by have := hg.size; have := h.sz; omega⟩
theorem CutAt.set (h : CutAt W c hi I O vi vo wr) (d : Int) : CutAt W d hi I O vi vo (wr.setCell ⟨W.heap.size, 0, none⟩ (.int .i64 d)) := by
 have hg := gb_set wr ⟨W.heap.size, 0, none⟩ (.int .i64 d)
 refine ⟨own_left h.oi hg (fun g e1 e2 => ?_), own_left h.oo hg (fun g e1 e2 => ?_), h.ap, by simpa using h.row.stored 0 (.int .i64 d), h.bel.grown hg h.bel.size (fun k hk => by injection hk with hk; exact Nat.le_of_eq hk), by simpa [World.setCell] using h.sz⟩
 ·have := (h.oi.lt g e1).1
  injection e2 with e2
  have e3 : W.heap.size = g := e2
  omega
 ·have := (h.oo.lt g e1).1
  injection e2 with e2
  have e3 : W.heap.size = g := e2
  omega
end
open Go.RowKit
structure PartAt (w : World) (I O : List Sz.Rg) (vi vo : Value) (wr : World) : Prop where
 oi : wr.ownsRow w.heap.size 62 2 vi I.length (I.flatMap rgV)
 oo : wr.ownsRow w.heap.size 62 2 vo O.length (O.flatMap rgV)
 ap : ∀ g, vi.ownBlock = some g → vo.ownBlock ≠ some g
 bel : Below w.heap.size w wr
section
variable {w wr w' : World} {I O X : List Sz.Rg} {vi vo v' : Value}
theorem PartAt.start (w : World) : PartAt w [] [] (.slice none 0 0) (.slice none 0 0) w := ⟨World.ownsRow_nil _ _ _ _, World.ownsRow_nil _ _ _ _, fun g h => (by cases h), Below.refl _ _⟩
theorem PartAt.below (h : PartAt w I O vi vo wr) (hb : Below wr.heap.size wr w') : PartAt w I O vi vo w' := by
 have hg : wr.grownBy w' none := ⟨hb.os, hb.tape, hb.output, hb.size, fun k hk _ => hb.block k hk⟩
 exact ⟨own_left h.oi hg (fun g _ e => by cases e), own_left h.oo hg (fun g _ e => by cases e), h.ap, h.bel.trans (hb.mono h.bel.size)⟩
theorem PartAt.out (h : PartAt w I O vi vo wr) (ho : w'.ownsRow w.heap.size 62 2 v' (O.length + X.length) (O.flatMap rgV ++ X.flatMap rgV)) (hg : wr.grownBy w' vo.ownBlock) (hn : Near wr vo v') : PartAt w I (O ++ X) vi v' w' := by
 have ho2 : w'.ownsRow w.heap.size 62 2 v' (O ++ X).length ((O ++ X).flatMap rgV) := by rw [List.length_append, List.flatMap_append]; exact ho
 exact ⟨own_left h.oi hg h.ap, ho2, hn.apart h.ap h.oi (Nat.le_refl _), h.bel.grown hg h.bel.size (fun k hk => (h.oo.lt k hk).1)⟩
end
open Go.RowKit Go.Shelf Go.Lib
open Go.RowKit
section
variable {w : World} {F G : Nat → Prop} {u v : Value} {a b l : List Sz.Rg}
end
open Go.RowKit Go.Shelf Go.Lib
open Go.RowKit
open Go.RowKit
theorem filter_ok : FilterOk where
 check := flt_check
open Go.RowKit
theorem update_ok : UpdateOk := update_of path_ok vers_ok filter_ok
open Go.RowKit Go.Sort
def Vec.putv (v : List Int) (x : Ver.V) : List Int := if Ver.Right x then v.set x.by_.toNat (max ((v[x.by_.toNat]?).getD 0) x.n) else v
theorem Vec.putv_up {v : List Int} (h : Vec.Plain v) (x : Ver.V) : Vec.putv v x = Vec.up v x := by
 unfold Vec.putv
 by_cases hx : Ver.Right x
 ·have hr := hx
  unfold Ver.Right at hr
  rw [if_pos hx, h.2 _ (by omega)]
  exact Vec.up_max h hx (h.2 _ (by omega))
 ·rw [if_neg hx, Vec.up_no (fun k => hx k.1)]
theorem vec_put {a w : World} {b : Nat} {v : List Int} (x : Ver.V) (hx : Ver.Bd x) (h : VRow w b v) (hl : Laid a w) (hb : a.heap.size ≤ b) : Calls Try.prog 70 #[.pointer (some ⟨b, 0, none⟩), verA x] w fun e w' => e = .returned (.tuple #[]) ∧ VRow w' b (Vec.putv v x) ∧ Laid a w' ∧ ∀ c u, c ≠ b → VRow w c u → VRow w' c u := by
 have CH := Lib.hid (fun W => ver_check W x hx)
 have hlt := h.inHeap
 have F := Lib.hid (show ∀ w1, Laid (w.alloc (.cells #[.int .i64 x.by_, .int .i64 x.n] 23)) w1 → w1.cell? ⟨w.heap.size, 0, none⟩ = some (.int .i64 x.by_) ∧ w1.cell? ⟨w.heap.size, 1, none⟩ = some (.int .i64 x.n) ∧ VRow w1 b v ∧ Laid a w1 ∧ (∀ c u, VRow w c u → VRow w1 c u) from fun w1 h1 => by
  have hr := (Row.made w 23 #[.int .i64 x.by_, .int .i64 x.n]).below h1.below (by simp)
  exact ⟨hr.at 0, hr.at 1, (h.alloc _).below h1.below (by simp; omega), (hl.alloc _).trans h1, fun c u hc => (hc.alloc _).below h1.below (by have := hc.inHeap; simp; omega)⟩)
 by_cases hr : Ver.Right x
 ·have e : Ver.checkV x = 0 := if_pos hr
  rw [e] at CH
  have ep : Hid (Vec.putv v x = v.set x.by_.toNat (max ((v[x.by_.toNat]?).getD 0) x.n)) := Lib.hid (if_pos hr)
  obtain ⟨k, hk, hk2⟩ : ∃ k : Nat, x.by_ = (k : Int) ∧ 1 ≤ k ∧ k ≤ 64 := by
   unfold Ver.Right at hr
   exact ⟨x.by_.toNat, by omega, by omega⟩
  obtain ⟨n, hn⟩ : ∃ n, v[k]? = some n := ⟨_, List.getElem?_eq_getElem (by rw [h.len]; omega)⟩
  rw [hk, Int.toNat_natCast, hn] at ep
  obtain ⟨x1, x2⟩ := x
  simp only at hk CH F ep
  subst hk
  have Hn := Lib.hid hn
  have HB := Lib.hid hb
  have Hk := Lib.hid hk2
  have hne : ¬ w.heap.size = b := by omega
  clear h hl hb hx hr e hn hk2 hlt
  go_enter Try.func70, Try.ntmps70
  go_wp2_with (go_at_call 77; refine (CH.out _).mono ?_; rintro e w1 ⟨rfl, hL⟩)
  obtain ⟨c0, c1, c2, c3, c4⟩ := F.out _ hL
  have cv := c2.at Hn.out
  have cf := c2.free k
  have had := vec_addr (k := k) (by have := Hk.out; omega) b
  have C2 := Lib.hid c2
  have C3 := Lib.hid c3
  have C4 := Lib.hid c4
  clear c2 c3 c4 hL
  refine wp_region_tail (n := 13) (S := (fun w' : World => w' = w1.drew)) (by kernel_rfl) (by kernel_rfl) (by rfl) rfl (fun hHeld => ?_)
  refine wpAnyH_tk (i := 0) (v := ?_) rfl (Or.inl ⟨by rfl, (by intro w hSw; subst hSw; go_simp; try with_reducible rfl)⟩) (by assumption) ?_
  simp only [zz]
  refine wpAnyH_tk (i := 1) (v := ?_) rfl (Or.inl ⟨by rfl, (by intro w hSw; subst hSw; go_simp; try with_reducible rfl)⟩) (by assumption) ?_
  simp only [zz]
  refine wpAnyH_tk (i := 2) (v := ?_) rfl (Or.inl ⟨by rfl, (by intro w hSw; subst hSw; go_simp; try with_reducible rfl)⟩) (by assumption) ?_
  simp only [zz]
  refine wpAnyH_tk (i := 3) (v := ?_) rfl (Or.inl ⟨by rfl, (by intro w hSw; subst hSw; go_simp; try with_reducible rfl)⟩) (by assumption) ?_
  simp only [zz]
  refine wpAnyH_tk (i := 4) (v := ?_) rfl (Or.inl ⟨by rfl, (by intro w hSw; subst hSw; go_simp; try with_reducible rfl)⟩) (by assumption) ?_
  simp only [zz]
  refine wpAnyH_tk (i := 5) (v := ?_) rfl (Or.inl ⟨by rfl, (by intro w hSw; subst hSw; go_simp; try with_reducible rfl)⟩) (by assumption) ?_
  simp only [zz]
  refine wpAnyH_tk (i := 6) (v := ?_) rfl (Or.inl ⟨by rfl, (by intro w hSw; subst hSw; go_simp; try with_reducible rfl)⟩) (by assumption) ?_
  simp only [zz]
  refine wpAnyH_tk (i := 7) (v := ?_) rfl (Or.inl ⟨by rfl, (by intro w hSw; subst hSw; go_simp; try with_reducible rfl)⟩) (by assumption) ?_
  simp only [zz]
  refine wpAnyH_tk (i := 8) (v := ?_) rfl (Or.inl ⟨by rfl, (by intro w hSw; subst hSw; go_simp; try with_reducible rfl)⟩) (by assumption) ?_
  simp only [zz]
  refine wpAnyH_tk (i := 9) (v := ?_) rfl (Or.inl ⟨by rfl, (by intro w hSw; subst hSw; go_simp; try with_reducible rfl)⟩) (by assumption) ?_
  simp only [zz]
  refine wpAnyH_tk (i := 10) (v := ?_) rfl (Or.inl ⟨by rfl, (by intro w hSw; subst hSw; go_simp; try with_reducible rfl)⟩) (by assumption) ?_
  simp only [zz]
  refine wpAnyH_tk (i := 11) (v := ?_) rfl (Or.inl ⟨by rfl, (by intro w hSw; subst hSw; go_simp; try with_reducible rfl)⟩) (by assumption) ?_
  simp only [zz]
  refine wpAnyH_tk (i := 12) (v := ?_) rfl (Or.inl ⟨by rfl, (by intro w hSw; subst hSw; go_simp; try with_reducible rfl)⟩) (by assumption) ?_
  simp only [zz]
  refine wpAnyH_done (by kernel_rfl) ?_ _
  refine wpAny_of_held (S := fun _ => True) _ _ _ _ ?_
  have hHeld : True := trivial
  refine wpAnyH_td (i := 13) rfl ?_
  simp only [zz]
  refine wpAnyH_ready (rs := [14]) (by kernel_rfl) (by simp) ?_
  refine AllReadyH.cons rfl (fun K hK => ?_) AllReadyH.nil
  go_simp
  refine hK.out _ _ trivial (fun hHeld => ?_)
  clear hK K
  refine wpAnyH_done (by kernel_rfl) ?_ _
  have h1 := C2.out.stored k (max n x2)
  exact Go.Great.bodyPost_end0 rfl rfl ⟨rfl, by rw [ep.out]; exact h1, (C3.out.stored HB.out _).drew, fun c u hc hu => (C4.out c u hu).storedElsewhere (fun e => hc e.symm) _⟩
 ·have e : Ver.checkV x = 2 := if_neg hr
  rw [e] at CH
  have ep : Hid (Vec.putv v x = v) := Lib.hid (if_neg hr)
  obtain ⟨x1, x2⟩ := x
  simp only at CH F ep
  clear h hl hb hx hr e hlt
  go_enter Try.func70, Try.ntmps70
  go_wp2_with (go_at_call 77; refine (CH.out _).mono ?_; rintro e w1 ⟨rfl, hL⟩; have F1 := Lib.hid (F.out _ hL); clear hL)
  exact Go.Great.bodyPost_end0 rfl rfl ⟨rfl, by rw [ep.out]; exact F1.out.2.2.1, F1.out.2.2.2.1, fun c u _ hu => F1.out.2.2.2.2 c u hu⟩
theorem vec_of {w : World} {F : Nat → Prop} {s : Value} {l : List Ver.V} (h : Vrs w F s l) (hl : l.length ≤ 1000000) (hb : ∀ x ∈ l, Ver.Bd x) : Calls Try.prog 31 #[s] w fun e w' => e = .returned (vecA (Vec.ofl l)) ∧ Laid w w' := by
 have hz := vecZero
 obtain ⟨A, c, rfl, hc⟩ := h.parts
 have hb1 : VRow ((w.alloc (.cells (vecR Vec.zeros) 46)).alloc (.cells (vecR Vec.zeros) 46)) w.heap.size Vec.zeros := (VRow.made w Vec.zeros_len).alloc _
 have hb2 : VRow ((w.alloc (.cells (vecR Vec.zeros) 46)).alloc (.cells (vecR Vec.zeros) 46)) (w.heap.size + 1) Vec.zeros := by
  have := VRow.made (w.alloc (.cells (vecR Vec.zeros) 46)) (v := Vec.zeros) Vec.zeros_len
  rwa [World.size_alloc] at this
 have HL0 : Hid (Laid w ((w.alloc (.cells (vecR Vec.zeros) 46)).alloc (.cells (vecR Vec.zeros) 46))) := Lib.hid ((Laid.new w _).alloc _)
 have HB1 := Lib.hid hb1
 have HB2 := Lib.hid hb2
 have H := Lib.hid h
 have HBd := Lib.hid hb
 have hl' : (l.length : Int) ≤ 1000000 := by omega
 clear h hb hb1 hb2
 go_enter Try.func31, Try.ntmps31
 go_wp2_with fail
 go_loopw [8] (fun i wr => ∃ k : Nat, k ≤ l.length ∧ i = .int .i64 (k : Int) ∧ VRow wr w.heap.size Vec.zeros ∧ VRow wr (w.heap.size + 1) (Vec.ofl (l.take k)) ∧ Laid w wr) (fun i _ => l.length - (intOf i).toNat)
 case atStart => exact ⟨0, Nat.zero_le _, rfl, HB1.out, by rw [List.take_zero]; exact HB2.out, HL0.out⟩
 case round =>
  obtain ⟨k, hk, rfl, h1, h2, h3⟩ := hrel
  by_cases hlt : k < l.length
  ·obtain ⟨b, o, cap, e, -, -, hb⟩ := H.out.block (by omega)
   injection e with e1 e2 e3
   subst e1 e3
   clear e2
   obtain ⟨x, hx⟩ : ∃ x, l[k]? = some x := ⟨_, List.getElem?_eq_getElem hlt⟩
   obtain ⟨c0, c1⟩ := Vrs.at (H.out.below h3.below) hx
   have hk0 : (0 : Int) ≤ (k : Int) := by omega
   have hk1 : (k : Int) < (l.length : Int) := by omega
   have e : Hid (Vec.putv (Vec.ofl (l.take k)) x = Vec.ofl (l.take (k + 1))) := Lib.hid (by rw [Vec.putv_up (Vec.ofl_plain _), Vec.ofl_take l k x hx])
   have hxb := HBd.out x (List.mem_of_getElem? hx)
   have PU := Lib.hid (vec_put (a := w) x hxb (h2.alloc (.cells #[.int .i64 x.by_, .int .i64 x.n] 23)) (h3.alloc _) (Nat.le_succ _))
   have K1 := Lib.hid (fun W' (hb : Laid w W') => hb)
   have H1 := Lib.hid (h1.alloc (.cells #[.int .i64 x.by_, .int .i64 x.n] 23))
   obtain ⟨x1, x2⟩ := x
   simp only at c0 c1 PU H1
   clear h1 h2 h3 hx hxb
   go_wp2_with fail
   refine PU.out.mono ?_
   rintro e w1 ⟨rfl, h4, h5, h6⟩
   have H4 : Hid (VRow w1 (w.heap.size + 1) (Vec.ofl (l.take (k + 1)))) := Lib.hid (by rw [← e.out]; exact h4)
   have H5 := Lib.hid h5
   have H6 : Hid (VRow w1 w.heap.size Vec.zeros) := Lib.hid (h6 _ _ (by omega) H1.out)
   clear h4 h5 h6
   go_wp2_with fail
   exact ⟨⟨k + 1, by omega, rfl, H6.out, H4.out, H5.out⟩, by show l.length - ((k : Int) + 1).toNat < l.length - (k : Int).toNat; omega⟩
  ·obtain rfl : k = l.length := by omega
   rw [List.take_length] at h2
   have H1 := Lib.hid h1
   have H2 := Lib.hid h2
   have H3 := Lib.hid h3
   have Hc : Hid ((Vec.ofl l).length = 65) := Lib.hid (Vec.ofl_plain l).1
   clear h1 h2 h3
   go_wp2_with (first | refine wpList_vload (by rfl) _ (by rfl) (by rfl) H2.out ?_ | refine wpList_vstore (by rfl) _ _ (by rfl) (by rfl) (by rfl) H1.out Hc.out ?_)
   exact bodyPost_ret (v := vecA (Vec.ofl l)) (results_cell_row (by rfl) _ _ w.heap.size 46 _ (0, 0) _ (by rfl) (H1.out.set _ Hc.out).row Try.underlying46 rfl (vecSize Hc.out)) rfl ⟨rfl, H3.out.set (Nat.le_refl _) _⟩
open Go.RowKit Go.Sort
theorem vec_ends (w : World) {v : List Int} (hv : v.length = 65) : Calls Try.prog 89 #[vecA v] w fun e w' => ∃ s, e = .returned s ∧ RowsOwn 23 2 verV w (Vec.ends v) s w' := by
 obtain ⟨i0, hi0, hz0, hz1, hz2⟩ := ver_parts verInfo
 have CL := Lib.hid (fun W => vec_clean W hv)
 have R0 := Lib.hid (VRow.made w hv)
 have HL := Lib.hid (Laid.new w (.cells (vecR v) 46))
 clear hv
 go_enter Try.func89, Try.ntmps89
 go_wp2_with (refine wpList_vload (by rfl) _ (by rfl) (by rfl) R0.out ?_)
 refine (CL.out _).mono ?_
 rintro e w1 ⟨rfl, h1⟩
 have H1 := Lib.hid (Laid.trans HL.out h1).below
 clear h1
 go_wp2_with fail
 go_loopw [3, 8] (fun sv i wr => ∃ k : Nat, k ≤ 65 ∧ i = .int .i64 (k : Int) ∧ RowsOwn 23 2 verV w (Vec.endsK v k) sv wr) (fun _ i _ => 65 - (intOf i).toNat)
 case atStart => exact ⟨0, Nat.zero_le _, rfl, RowsOwn.first H1.out⟩
 case round =>
  obtain ⟨k, hk, rfl, hr⟩ := hrel
  by_cases hlt : k < 65
  ·have hix := vec_index hlt (Vec.clean_get v hlt)
   have hk0 : (0 : Int) ≤ (k : Int) := by omega
   have hk1 : (k : Int) < 65 := by omega
   have Hk := Lib.hid hk
   by_cases hp : 0 < Vec.at_ v k
   ·have HE := Lib.hid (Vec.endsK_more v k hp)
    have Hlen := Lib.hid (Vec.endsK_len v k)
    generalize Vec.at_ v k = n at *
    have HR := Lib.hid hr
    have hown := hr.1.alloc (.cells #[.int .i64 (k : Int), .int .i64 n] 23)
    have Hmd := Lib.hid (ver_made wr 23 ⟨(k : Int), n⟩)
    have hsz : w.heap.size ≤ wr.heap.size := hr.2.size
    clear hr hk
    go_wp2_with (at_builtin; refine wp_joins (f := verV) (k := 2) rfl _ _ 47 rfl w.heap.size 23 i0 (.agg #[.int .i64 0, .int .i64 0]) 16 Try.underlying47 hi0 hz0 hz1 hz2 rfl (by decide) rfl rfl hown Hmd.out (fun _ _ => rfl) (fun x _ => ver_one x) ?c1 ?c2 ?c3 ?_; (case c1 => (have e1 := Hlen.out; have e2 := Hk.out; rw [show ([(⟨(k : Int), n⟩ : Ver.V)]).length = 1 from rfl]; unfold maxLen; omega)); (case c2 => (have e1 := Hlen.out; have e2 := Hk.out; rw [show ([(⟨(k : Int), n⟩ : Ver.V)]).length = 1 from rfl]; omega)); (case c3 => (simp; omega)); intro v2 w2 own2 hg2 _; have F2 := Lib.hid (HR.out.more (x := (⟨(k : Int), n⟩ : Ver.V)) (v' := v2) (by simpa [verV] using own2) hg2); clear own2 hg2)
    rw [← HE.out] at F2
    exact ⟨⟨k + 1, by omega, rfl, F2.out⟩, by show 65 - ((k : Int) + 1).toNat < 65 - (k : Int).toNat; omega⟩
   ·have hp' : Vec.at_ v k ≤ 0 := by omega
    rw [← Vec.endsK_same v k hp] at hr
    have HR := Lib.hid hr
    generalize Vec.at_ v k = n at *
    clear hr
    go_wp2_with fail
    exact ⟨⟨k + 1, by omega, rfl, HR.out⟩, by show 65 - ((k : Int) + 1).toNat < 65 - (k : Int).toNat; omega⟩
  ·obtain rfl : k = 65 := by omega
   have HR := Lib.hid hr
   clear hr
   go_wp2_with fail
   go_ret
   exact ⟨_, rfl, HR.out⟩
theorem vec_ok : VecOk where
 clean := fun hv => vec_clean _ hv
 ofl := fun h hl hb => vec_of h hl hb
 ends := fun hv => (vec_ends _ hv).mono (fun e w' h => by obtain ⟨s, e1, h⟩ := h; exact ⟨s, e1, h.rows (fun _ _ => rfl), h.2⟩)
end Go.Proofs.Ytkacfmaogiblfaa
