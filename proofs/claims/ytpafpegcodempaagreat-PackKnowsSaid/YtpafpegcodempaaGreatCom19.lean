import Derived.Test.YtpafpegcodempaaGreatCom9
import Derived.Test.YtpafpegcodempaaGreatCom18
import Derived.Test.YtpafpegcodempaaGreatCom17
import Derived.Test.YtpafpegcodempaaGreatCom13
import Derived.Test.YtpafpegcodempaaGreatCom16
import Derived.Test.YtpafpegcodempaaGreatCom4
import Derived.Shelf.SlicesQ.Equal
import Derived.Shelf.SlicesQ.IndexFunc
import Derived.Laws.StructEq
import Derived.Sort.Walk0
import Derived.Shelf.SlSortCmp.NoneTotal
import Derived.Shelf.Slices.In.SortNone
import Derived.Sort.OwnSorted
import Derived.Great.Walk
set_option maxRecDepth 100000
set_option linter.all false
set_option maxHeartbeats 12800000
namespace Go.Proofs.YtpafpegcodempaaGreat
open Go.RowKit
theorem Flt.first_at {f : List Flt.Cl} {n : Nat} {c : Flt.Cl} (hc : f[n]? = some c) : Flt.first (f.drop n) = if c.pre ≠ [] ∧ ¬ Pth.Right c.pre then 13 else if Flt.Right c then Flt.first (f.drop (n + 1)) else 2 := by
 obtain ⟨hl, he⟩ := List.getElem?_eq_some_iff.1 hc
 rw [List.drop_eq_getElem_cons hl, he]
 rfl
theorem flt_check {w : World} {F : Nat → Prop} {v : Value} {f : List Flt.Cl} (h : Cls w F v f) (hl : f.length ≤ 100000) (bf : ∀ c ∈ f, Flt.Bd c) :
  Calls Tryz.prog 366 #[v] w fun e w' => e = .returned (.int .i64 (Flt.check f)) ∧ Below w.heap.size w w' := by
 obtain ⟨A, cap, rfl, hcap⟩ := h.parts
 have H := Lib.hid h
 have HS : Hid (∀ c ∈ f, c.pre.length ≤ 100000) := Lib.hid (fun c hc => (bf c hc).1)
 have hl' : (f.length : Int) ≤ 100000 := by omega
 clear h bf
 by_cases h8 : 8 < f.length
 ·have hfin : Hid (Flt.check f = 4) := Lib.hid (by unfold Flt.check; rw [if_pos h8])
  have g8 : (8 : Int) < (f.length : Int) := by omega
  go_enter Tryz.func366, Tryz.ntmps366
  go_wp2_with fail
  go_ret
  exact ⟨by rw [hfin.out]; rfl, Below.refl _ _⟩
 ·have hfin : Hid (Flt.check f = Flt.first (f.drop 0)) := Lib.hid (by unfold Flt.check; rw [if_neg h8]; rfl)
  have g8 : ¬ (8 : Int) < (f.length : Int) := by omega
  go_enter Tryz.func366, Tryz.ntmps366
  go_wp2_with fail
  go_loopw [4, 10] (fun _ i wr => ∃ n : Nat, n ≤ f.length ∧ i = .int .i64 (n : Int) ∧ Hid (Flt.check f = Flt.first (f.drop n)) ∧ Below w.heap.size w wr) (fun _ i _ => f.length - (intOf i).toNat)
  case atStart => exact ⟨0, Nat.zero_le _, rfl, hfin, Below.refl _ _⟩
  case round =>
   obtain ⟨n, hn, rfl, hck, hbel⟩ := hrel
   by_cases hlt : n < f.length
   ·obtain ⟨b, o, cap', e, -, -, hb⟩ := H.out.block (by omega)
    injection e with e1 e2 e3
    subst e1 e3
    clear e2
    obtain ⟨x, hx⟩ : ∃ x, f[n]? = some x := ⟨_, List.getElem?_eq_getElem hlt⟩
    have hpx := HS.out x (List.mem_of_getElem? hx)
    have hn0 : (0 : Int) ≤ (n : Int) := by omega
    have hn1 : (n : Int) < (f.length : Int) := by omega
    have CA : Hid (∀ W, Below w.heap.size w W → W.cell? ⟨b, o + n * 3, none⟩ = some (.string (mk x.pre)) ∧ W.cell? ⟨b, o + n * 3 + 1, none⟩ = some (.int .i64 x.lo) ∧ W.cell? ⟨b, o + n * 3 + 2, none⟩ = some (.int .i64 x.hi)) := Lib.hid (fun W hW => Cls.at (H.out.below hW) hx)
    obtain ⟨c0, c1, c2⟩ := CA.out wr hbel
    have hst := Lib.hid (Flt.first_at hx)
    obtain ⟨p, lo, hi⟩ := x
    simp only at c0 c1 c2 hpx CA
    have hst : Hid (Flt.first (f.drop n) = if p ≠ [] ∧ ¬ Pth.Right p then 13 else if Flt.Right ⟨p, lo, hi⟩ then Flt.first (f.drop (n + 1)) else 2) := hst
    have PC := Lib.hid (fun (W : World) => path_ok.check p W hpx)
    have ea := str_nil p
    have ia := str_empty p
    have hD : Hid (decide (Flt.Right ⟨p, lo, hi⟩) = ((decide (p = []) || decide (Pth.Right p)) && (decide (0 ≤ lo) && (decide (lo ≤ hi) && decide (hi ≤ 200))))) := Lib.hid (by rw [Bool.eq_iff_iff]; refine decide_eq_true_iff.trans ?_; simp only [Flt.Right, decide_eq_true_iff, Bool.and_eq_true, Bool.or_eq_true])
    have Hbel := Lib.hid hbel
    have Hbx := Lib.hid (Row.made wr 116 #[.string (mk p), .int .i64 lo, .int .i64 hi])
    have hz : wr.heap.size < (wr.alloc (.cells #[.string (mk p), .int .i64 lo, .int .i64 hi] 116)).heap.size := by simp
    have Hz := Lib.hid hz
    have HB1 : Hid (Below w.heap.size w (wr.alloc (.cells #[.string (mk p), .int .i64 lo, .int .i64 hi] 116))) := Lib.hid (hbel.alloc hbel.size _)
    clear hbel hx hz CA
    by_cases hp : p ≠ [] ∧ ¬ Pth.Right p
    ·have hck2 : Hid (Flt.check f = 13) := Lib.hid (by rw [hck.out, hst.out, if_pos hp])
     rw [decide_eq_false hp.1] at ea ia
     have PC : Hid (∀ W, Calls Tryz.prog 340 #[.string (mk p)] W fun e w' => e = .returned (.int .i64 13) ∧ Below W.heap.size W w') := Lib.hid (fun W => by have := PC.out W; rwa [if_neg hp.2] at this)
     clear hst hp hD hck
     generalize mk p = ps at *
     go_wp2_with fail
     refine (PC.out _).mono ?_
     rintro e w2 ⟨rfl, hb2⟩
     have HB2 := Lib.hid (HB1.out.trans (hb2.mono HB1.out.size))
     clear hb2
     go_wp2_with fail
     go_ret
     exact ⟨by rw [hck2.out]; rfl, HB2.out⟩
    ·have hst2 : Hid (Flt.check f = if decide (Flt.Right ⟨p, lo, hi⟩) = true then Flt.first (f.drop (n + 1)) else 2) := Lib.hid (by
      rw [hck.out, hst.out, if_neg hp]
      by_cases hr : Flt.Right ⟨p, lo, hi⟩
      ·rw [if_pos hr, if_pos (decide_eq_true hr)]
      ·rw [if_neg hr, if_neg (by simpa using hr)])
     have hD2 : Hid (decide (Flt.Right ⟨p, lo, hi⟩) = (decide (0 ≤ lo) && (decide (lo ≤ hi) && decide (hi ≤ 200)))) := Lib.hid (by
      rw [hD.out]
      by_cases h1 : p = []
      ·rw [decide_eq_true h1]; rfl
      ·rw [decide_eq_true (Classical.byContradiction fun k => hp ⟨h1, k⟩), Bool.or_true, Bool.true_and])
     rw [hD2.out] at hst2
     clear hst hD hD2 hck
     by_cases h1 : p = []
     ·rw [decide_eq_true h1] at ea ia
      clear hp h1 PC
      generalize mk p = ps at *
      by_cases k1 : lo < 0
      ·have hno : Hid (Flt.check f = 2) := Lib.hid (by rw [hst2.out, if_neg]; simp only [Bool.and_eq_true, decide_eq_true_eq]; omega)
       clear hst2
       have : decide (lo < (0 : Int)) = true := decide_eq_true (by omega)
       go_wp2_with fail
       go_ret
       exact ⟨by rw [hno.out]; rfl, HB1.out⟩
      ·by_cases k2 : hi < lo
       ·have hno : Hid (Flt.check f = 2) := Lib.hid (by rw [hst2.out, if_neg]; simp only [Bool.and_eq_true, decide_eq_true_eq]; omega)
        clear hst2
        have : decide (lo < (0 : Int)) = false := decide_eq_false (by omega)
        have : decide (hi < lo) = true := decide_eq_true (by omega)
        go_wp2_with fail
        go_ret
        exact ⟨by rw [hno.out]; rfl, HB1.out⟩
       ·by_cases k3 : 200 < hi
        ·have hno : Hid (Flt.check f = 2) := Lib.hid (by rw [hst2.out, if_neg]; simp only [Bool.and_eq_true, decide_eq_true_eq]; omega)
         clear hst2
         have : decide (lo < (0 : Int)) = false := decide_eq_false (by omega)
         have : decide (hi < lo) = false := decide_eq_false (by omega)
         have : decide ((200 : Int) < hi) = true := decide_eq_true (by omega)
         go_wp2_with fail
         go_ret
         exact ⟨by rw [hno.out]; rfl, HB1.out⟩
        ·have hnext : Hid (Flt.check f = Flt.first (f.drop (n + 1))) := Lib.hid (by rw [hst2.out, if_pos]; simp only [Bool.and_eq_true, decide_eq_true_eq]; omega)
         clear hst2
         have : decide (lo < (0 : Int)) = false := decide_eq_false (by omega)
         have : decide (hi < lo) = false := decide_eq_false (by omega)
         have : decide ((200 : Int) < hi) = false := decide_eq_false (by omega)
         go_wp2_with fail
         exact ⟨⟨n + 1, by omega, by go_num, hnext, HB1.out⟩, by show f.length - ((n : Int) + 1).toNat < f.length - (n : Int).toNat; omega⟩
     ·rw [decide_eq_false h1] at ea ia
      have PC : Hid (∀ W, Calls Tryz.prog 340 #[.string (mk p)] W fun e w' => e = .returned (.int .i64 0) ∧ Below W.heap.size W w') := Lib.hid (fun W => by have := PC.out W; rwa [if_pos (Classical.byContradiction fun k => hp ⟨h1, k⟩)] at this)
      clear hp h1
      generalize mk p = ps at *
      by_cases k1 : lo < 0
      ·have hno : Hid (Flt.check f = 2) := Lib.hid (by rw [hst2.out, if_neg]; simp only [Bool.and_eq_true, decide_eq_true_eq]; omega)
       clear hst2
       have : decide (lo < (0 : Int)) = true := decide_eq_true (by omega)
       go_wp2_with fail
       refine (PC.out _).mono ?_
       rintro e w2 ⟨rfl, hb2⟩
       have HB2 := Lib.hid (HB1.out.trans (hb2.mono HB1.out.size))
       have q1 : w2.cell? ⟨wr.heap.size, 1, none⟩ = some (.int .i64 lo) := (hb2.cell (p := ⟨wr.heap.size, 1, none⟩) Hz.out).trans (Hbx.out.at 1)
       have q2 : w2.cell? ⟨wr.heap.size, 2, none⟩ = some (.int .i64 hi) := (hb2.cell (p := ⟨wr.heap.size, 2, none⟩) Hz.out).trans (Hbx.out.at 2)
       clear hb2
       go_wp2_with fail
       go_ret
       exact ⟨by rw [hno.out]; rfl, HB2.out⟩
      ·by_cases k2 : hi < lo
       ·have hno : Hid (Flt.check f = 2) := Lib.hid (by rw [hst2.out, if_neg]; simp only [Bool.and_eq_true, decide_eq_true_eq]; omega)
        clear hst2
        have : decide (lo < (0 : Int)) = false := decide_eq_false (by omega)
        have : decide (hi < lo) = true := decide_eq_true (by omega)
        go_wp2_with fail
        refine (PC.out _).mono ?_
        rintro e w2 ⟨rfl, hb2⟩
        have HB2 := Lib.hid (HB1.out.trans (hb2.mono HB1.out.size))
        have q1 : w2.cell? ⟨wr.heap.size, 1, none⟩ = some (.int .i64 lo) := (hb2.cell (p := ⟨wr.heap.size, 1, none⟩) Hz.out).trans (Hbx.out.at 1)
        have q2 : w2.cell? ⟨wr.heap.size, 2, none⟩ = some (.int .i64 hi) := (hb2.cell (p := ⟨wr.heap.size, 2, none⟩) Hz.out).trans (Hbx.out.at 2)
        clear hb2
        go_wp2_with fail
        go_ret
        exact ⟨by rw [hno.out]; rfl, HB2.out⟩
       ·by_cases k3 : 200 < hi
        ·have hno : Hid (Flt.check f = 2) := Lib.hid (by rw [hst2.out, if_neg]; simp only [Bool.and_eq_true, decide_eq_true_eq]; omega)
         clear hst2
         have : decide (lo < (0 : Int)) = false := decide_eq_false (by omega)
         have : decide (hi < lo) = false := decide_eq_false (by omega)
         have : decide ((200 : Int) < hi) = true := decide_eq_true (by omega)
         go_wp2_with fail
         refine (PC.out _).mono ?_
         rintro e w2 ⟨rfl, hb2⟩
         have HB2 := Lib.hid (HB1.out.trans (hb2.mono HB1.out.size))
         have q1 : w2.cell? ⟨wr.heap.size, 1, none⟩ = some (.int .i64 lo) := (hb2.cell (p := ⟨wr.heap.size, 1, none⟩) Hz.out).trans (Hbx.out.at 1)
         have q2 : w2.cell? ⟨wr.heap.size, 2, none⟩ = some (.int .i64 hi) := (hb2.cell (p := ⟨wr.heap.size, 2, none⟩) Hz.out).trans (Hbx.out.at 2)
         clear hb2
         go_wp2_with fail
         go_ret
         exact ⟨by rw [hno.out]; rfl, HB2.out⟩
        ·have hnext : Hid (Flt.check f = Flt.first (f.drop (n + 1))) := Lib.hid (by rw [hst2.out, if_pos]; simp only [Bool.and_eq_true, decide_eq_true_eq]; omega)
         clear hst2
         have : decide (lo < (0 : Int)) = false := decide_eq_false (by omega)
         have : decide (hi < lo) = false := decide_eq_false (by omega)
         have : decide ((200 : Int) < hi) = false := decide_eq_false (by omega)
         go_wp2_with fail
         refine (PC.out _).mono ?_
         rintro e w2 ⟨rfl, hb2⟩
         have HB2 := Lib.hid (HB1.out.trans (hb2.mono HB1.out.size))
         have q1 : w2.cell? ⟨wr.heap.size, 1, none⟩ = some (.int .i64 lo) := (hb2.cell (p := ⟨wr.heap.size, 1, none⟩) Hz.out).trans (Hbx.out.at 1)
         have q2 : w2.cell? ⟨wr.heap.size, 2, none⟩ = some (.int .i64 hi) := (hb2.cell (p := ⟨wr.heap.size, 2, none⟩) Hz.out).trans (Hbx.out.at 2)
         clear hb2
         go_wp2_with fail
         exact ⟨⟨n + 1, by omega, by go_num, hnext, HB2.out⟩, by show f.length - ((n : Int) + 1).toNat < f.length - (n : Int).toNat; omega⟩
   ·obtain rfl : n = f.length := by omega
    rw [List.drop_length] at hck
    have Hbel := Lib.hid hbel
    clear hbel
    go_wp2_with fail
    go_ret
    exact ⟨by rw [hck.out]; rfl, Hbel.out⟩
theorem flt_all (w : World) : Calls Tryz.prog 113 #[] w fun e w' => ∃ v', e = .returned v' ∧ Cls w' (NewIn w w') v' Flt.whole ∧ Below w.heap.size w w' := by
 go_enter Tryz.func113, Tryz.ntmps113
 go_wp2_with fail
 go_ret
 have hb : Below w.heap.size w (w.alloc (.cells #[.string ⟨#[]⟩, .int .i64 0, .int .i64 200] 116)) := (Below.refl _ _).alloc (Nat.le_refl _) _
 exact ⟨_, rfl, (cl_made w 116 [] 0 200).mono (fun i hi => ⟨by omega, by simp; omega⟩), hb⟩
open Go.RowKit Go.Shelf Go.Lib
instance : Inhabited Flt.Cl := ⟨⟨[], 0, 0⟩⟩
abbrev BCl := { c : Flt.Cl // Flt.Bd c }
instance : Inhabited BCl := ⟨⟨⟨[], 0, 0⟩, ⟨by simp, by unfold Go.Proofs.YtpafpegcodempaaGreat.Bd Flt.rg; simp⟩⟩⟩
theorem rg_equalIn (w : World) (x1 x2 y1 y2 : Int) : (Op.equalIn 9999 114 (.agg #[.int .i64 x1, .int .i64 x2]) (.agg #[.int .i64 y1, .int .i64 y2])).run Tryz.prog w = .ok (decide (x1 = y1 ∧ x2 = y2)) w := by
 have hS : Tryz.prog.underlying 114 = some (.struct (Tryz.prog.fieldsOf 114)) := by kernel_rfl
 have hp : Tryz.prog.stoodInHeld 114 = false := by kernel_rfl
 have u3 := Tryz.underlying3
 have a3 := Tryz.isAgg3
 have z3 := Tryz.sizeOf3
 rw [show (9999 : Nat) = 9998 + 1 from rfl, run_equalIn_agg w 9998 114 _ _ hS hp]
 simp only [Program.fieldsOf, Tryz.underlying114]
 go_simp
 by_cases h1 : x1 = y1 <;> by_cases h2 : x2 = y2 <;> simp [h1, h2]
theorem cl_neq : NeqAt Tryz.prog 116 (fun x : Flt.Cl => .agg (clV x).toArray) (fun x y => decide (x = y)) := by
 refine ⟨fun x y w => ?_, GuardAt.agg _ (by kernel_rfl)⟩
 have hS : Tryz.prog.underlying 116 = some (.struct (Tryz.prog.fieldsOf 116)) := by kernel_rfl
 have hp : Tryz.prog.stoodInHeld 116 = false := by kernel_rfl
 have u9 := Tryz.underlying9
 have a9 := Tryz.isAgg9
 have z9 := Tryz.sizeOf9
 have a27 := Tryz.isAgg114
 have z27 := Tryz.sizeOf114
 obtain ⟨xp, x1, x2⟩ := x
 obtain ⟨yp, y1, y2⟩ := y
 have es := str_same xp yp
 have hR := fun w => rg_equalIn w x1 x2 y1 y2
 simp only [clV]
 rw [run_neq_struct, show (10000 : Nat) = 9999 + 1 from rfl, run_equalIn_agg w 9999 116 _ _ hS hp]
 simp only [Program.fieldsOf, Tryz.underlying116]
 have hT : ∀ (w : World) (a b : ByteArray), (Op.equalIn 9999 9 (.string a) (.string b)).run Tryz.prog w = .ok (a.toList == b.toList) w := fun w a b => run_equalIn_string w 9998 9 a b u9
 simp only [Op.eqFields]
 generalize Op.equalIn 9999 = EQ at hR hT ⊢
 generalize mk xp = xs at *
 generalize mk yp = ys at *
 go_simp
 by_cases h0 : xp = yp <;> by_cases h1 : x1 = y1 <;> by_cases h2 : x2 = y2 <;> simp [h0, h1, h2, es]
theorem call_eq : ∀ (a b : List Flt.Cl), Lib.allEq (fun x y : Flt.Cl => decide (x = y)) a b = decide (a = b)
 | [], [] => rfl
 | [], y :: b => by rw [Lib.allEq_len _ _ _ (by simp)]; simp
 | x :: a, [] => by rw [Lib.allEq_len _ _ _ (by simp)]; simp
 | x :: a, y :: b => by
  show (decide (x = y) && Lib.allEq (fun x y : Flt.Cl => decide (x = y)) a b) = _
  rw [call_eq a b]
  simp
theorem ceq_len {A B : Option Addr} {n m c d : Nat} (h : n ≠ m) (w : World) : Calls Tryz.prog 76 #[.slice A n c, .slice B m d] w fun e w' => e = .returned (.bool false) ∧ w' = w := by
 have hn : ¬ (n : Int) = (m : Int) := by omega
 go_enter Tryz.func76, Tryz.ntmps76
 go_wp2_with fail
 go_ret
 exact ⟨rfl, rfl⟩
theorem ceq_none {A B : Option Addr} {c d : Nat} (w : World) : Calls Tryz.prog 76 #[.slice A 0 c, .slice B 0 d] w fun e w' => e = .returned (.bool true) ∧ w' = w := by
 go_enter Tryz.func76, Tryz.ntmps76
 go_wp2_with fail
 refine wp_loop_rounds 1 ?_
 rw [rounds_succ]
 go_wp2_with fail
 go_ret
 exact ⟨rfl, rfl⟩
theorem ceq_any {w : World} {F G : Nat → Prop} {u v : Value} {a b : List Flt.Cl} (ha : Cls w F u a) (hb : Cls w G v b) (la : a.length ≤ 100000000) (lb : b.length ≤ 100000000) :
  Calls Tryz.prog 76 #[u, v] w fun e w' => e = .returned (.bool (decide (a = b))) ∧ Below w.heap.size w w' := by
 obtain ⟨A, c, rfl, hc, hat⟩ := ha
 obtain ⟨B, d, rfl, hd, hbt⟩ := hb
 by_cases hl : a.length = b.length
 ·by_cases h0 : 0 < a.length
  ·obtain ⟨b1, o1, rfl, -, -, hcl1⟩ := hat h0
   obtain ⟨b2, o2, rfl, -, -, hcl2⟩ := hbt (by omega)
   have hcon := AnyQ.slices_Equal Tryz.eqCl 3 Tryz.isAgg116 Tryz.sizeOf116 clV cl_len _ cl_neq b1 o1 a.length c b2 o2 b.length d a b w (Nat.le_refl _) (Nat.le_refl _) (by omega) (by omega)
    (fun j hj i u hi => hcl1 j _ (by rw [List.getElem?_eq_getElem hj, getElem!_pos a j hj]) i u hi) (fun j hj i u hi => hcl2 j _ (by rw [List.getElem?_eq_getElem hj, getElem!_pos b j hj]) i u hi)
   rw [List.take_length, List.take_length, call_eq] at hcon
   refine hcon.mono ?_
   rintro e w' ⟨rfl, q, rfl⟩
   exact ⟨rfl, below_drews' _ q⟩
  ·have ea : a = [] := List.eq_nil_of_length_eq_zero (by omega)
   have eb : b = [] := List.eq_nil_of_length_eq_zero (by omega)
   subst ea eb
   refine (ceq_none w).mono ?_
   rintro e w' ⟨rfl, rfl⟩
   exact ⟨rfl, Below.refl _ _⟩
 ·have hne : decide (a = b) = false := decide_eq_false (fun e => hl (by rw [e]))
  rw [hne]
  refine (ceq_len hl w).mono ?_
  rintro e w' ⟨rfl, rfl⟩
  exact ⟨rfl, Below.refl _ _⟩
theorem flt_equal {w : World} {F G : Nat → Prop} {u v : Value} {f g : List Flt.Cl} (hf : Cls w F u f) (hg : Cls w G v g) (lf : f.length ≤ 100000000) (lg : g.length ≤ 100000000) :
  Calls Tryz.prog 109 #[u, v] w fun e w' => e = .returned (.bool (decide (f = g))) ∧ Below w.heap.size w w' := by
 have C := Lib.hid (ceq_any hf hg lf lg)
 clear hf hg
 generalize decide (f = g) = d at *
 go_enter Tryz.func109, Tryz.ntmps109
 go_wp2_with (go_at_call 76; refine (C.out).mono ?_; rintro e w1 ⟨rfl, hb1⟩)
 go_ret
 exact ⟨rfl, hb1⟩
open Go.RowKit
def txV (t : List UInt8) : List Value := [.string (mk t)]
theorem tx_one (t : List UInt8) : ∀ u ∈ txV t, u.oneCell' = true := by intro u hu; unfold txV at hu; rw [List.mem_singleton.1 hu]; rfl
abbrev Txs (w : World) (F : Nat → Prop) (v : Value) (l : List (List UInt8)) : Prop := Rws 1 txV w F v l
theorem Txs.cells {w : World} {F : Nat → Prop} {v : Value} {l : List (List UInt8)} (h : Txs w F v l) : Cells w F v (texts l) := by
 obtain ⟨A, c, rfl, hc, hat⟩ := h
 refine ⟨A, c, by rw [texts_len], by rw [texts_len]; exact hc, fun hp => ?_⟩
 rw [texts_len] at hp
 obtain ⟨b, o, rfl, h1, h2, h3⟩ := hat hp
 refine ⟨b, o, rfl, h1, h2, fun i u hu => ?_⟩
 unfold texts at hu
 rw [List.getElem?_map] at hu
 cases hx : l[i]? with
 | none => rw [hx] at hu; cases hu
 | some x =>
  rw [hx] at hu
  have := h3 i x hx 0 u (by simpa [txV] using hu)
  rw [Nat.mul_one] at this
  exact this
theorem Txs.at {w : World} {F : Nat → Prop} {b o : Nat} {n cap : Nat} {l : List (List UInt8)} (h : Txs w F (.slice (some ⟨b, o, none⟩) n cap) l) {i : Nat} {x : List UInt8} (hx : l[i]? = some x) : w.cell? ⟨b, o + i, none⟩ = some (.string (mk x)) := by
 obtain ⟨A, c, e, -, hat⟩ := h
 injection e with e1 e2 e3
 obtain ⟨b', o', e, -, -, hc⟩ := hat (by obtain ⟨hl, _⟩ := List.getElem?_eq_some_iff.1 hx; omega)
 rw [e] at e1
 injection e1 with e1
 injection e1 with e1 e2
 subst e1 e2
 have := hc i x hx 0 _ rfl
 rwa [Nat.mul_one] at this
theorem tx_made (w : World) (t : TypeId) (p : List UInt8) : Txs (w.alloc (.cells #[.string (mk p)] t)) (fun i => i = w.heap.size) (.slice (some ⟨w.heap.size, 0, none⟩) 1 1) [p] := by
 refine ⟨_, 1, rfl, Nat.le_refl _, fun _ => ⟨w.heap.size, 0, rfl, rfl, by simp, fun i x hx j u hu => ?_⟩⟩
 rw [(Row.made w _ _).at, Nat.zero_add]
 match i, hx with
 | 0, hx =>
  injection hx with hx
  subst hx
  match j, hu with
  | 0, hu => simpa [txV] using hu
open Go.RowKit Go.Shelf Go.Lib Go.Sort
theorem cmp_lt : ∀ (a b : List UInt8), decide (Lib.compareBytes a b < 0) = decide (a < b)
 | [], [] => by simp [Lib.compareBytes]
 | [], _ :: _ => by simp [Lib.compareBytes]
 | _ :: _, [] => by simp [Lib.compareBytes]
 | x :: a, y :: b => by
  unfold Lib.compareBytes
  by_cases h : x < y
  ·simp [h, List.cons_lt_cons_iff]
  ·by_cases h2 : y < x
   ·have hne : ¬ x = y := fun e => h (by rw [e] at h2; exact absurd h2 (UInt8.lt_irrefl _))
    simp [h, h2, List.cons_lt_cons_iff, hne]
   ·have e : x = y := UInt8.le_antisymm (UInt8.not_lt.1 h2) (UInt8.not_lt.1 h)
    subst e
    have ih := cmp_lt a b
    rw [if_neg h, if_neg h, ih]
    simp [List.cons_lt_cons_iff, h]
def cmpPre (x y : Flt.Cl) : Int := Lib.compareBytes x.pre y.pre
theorem lt_pre (x y : Flt.Cl) : ltOf cmpPre x y = decide (x.pre < y.pre) := cmp_lt x.pre y.pre
theorem swo_pre : SWO (ltOf cmpPre) where
 irrefl x := by rw [lt_pre]; exact decide_eq_false (List.lt_irrefl _)
 trans x y z h1 h2 := by
  rw [lt_pre] at *
  exact decide_eq_true (List.lt_trans (of_decide_eq_true h1) (of_decide_eq_true h2))
 ntrans x y z h1 h2 := by
  rw [lt_pre] at *
  have k1 := of_decide_eq_false h1
  have k2 := of_decide_eq_false h2
  refine decide_eq_false (fun h => ?_)
  have a1 : y.pre ≤ x.pre := List.not_lt.1 k1
  have a2 : z.pre ≤ y.pre := List.not_lt.1 k2
  exact absurd h (List.not_lt.2 (List.le_trans a2 a1))
theorem asc_cmp (x y : Flt.Cl) (W : World) : Calls Tryz.prog 386 #[.agg #[.string (mk x.pre), .int .i64 x.lo, .int .i64 x.hi], .agg #[.string (mk y.pre), .int .i64 y.lo, .int .i64 y.hi]] W fun e w' => e = .returned (.int .i64 (cmpPre x y)) ∧ ∃ q os', w' = grow (W.drewN q) os' := by
 have hcon := fun W' => Tryz.strings_Compare (mk x.pre) (mk y.pre) W'
 simp only [mk_data] at hcon
 obtain ⟨xp, x1, x2⟩ := x
 obtain ⟨yp, y1, y2⟩ := y
 unfold cmpPre
 simp only at hcon ⊢
 generalize Lib.compareBytes xp yp = r at hcon ⊢
 have HC := Lib.hid hcon
 clear hcon
 generalize mk xp = xs at *
 generalize mk yp = ys at *
 go_enter Tryz.func386, Tryz.ntmps386
 go_wp2_with (go_at_call 387; refine (HC.out _).mono ?_; rintro e w' ⟨rfl, rfl⟩)
 go_ret
 exact ⟨rfl, 0, _, by rw [alloc_eq_grow, alloc_eq_grow, grow_grow]; rfl⟩
theorem clone_flt {w : World} {F : Nat → Prop} {v : Value} {f : List Flt.Cl} (h : Cls w F v f) (hl : f.length ≤ 100000) :
  Calls Tryz.prog 283 #[v] w fun e w' => ∃ v', e = .returned v' ∧ RowsOwn 116 3 clV w f v' w' := by
 obtain ⟨i0, hi0, hz0, hz1, hz2⟩ := info_parts clauseInfo
 have hb0 : Below w.heap.size w (w.alloc (.cells #[] 116)) := (Below.refl _ _).alloc (Nat.le_refl _) _
 have hr := h.below hb0
 have h0own : (w.alloc (.cells #[] 116)).ownsRow w.heap.size 116 3 (.slice (some ⟨w.heap.size, 0, none⟩) 0 0) 0 [] := World.ownsRow_made w #[] 0 (Nat.le_refl _) (by decide) rfl
 obtain ⟨A, cap, rfl, hcap, hat⟩ := h
 have q22 : ∀ (w : World) (a : Option Addr) (n c n' c' : Nat), (binOp .eql 24 (.slice a n c) (.slice none n' c')).run Tryz.prog w = .ok (.bool a.isNone) w := fun w a n c n' c' => Lib.run_eql_slice_nil w _ _ a n c n' c' Tryz.underlying24
 cases A with
 | none =>
  have h0 : f.length = 0 := Nat.eq_zero_of_not_pos (fun hp => by obtain ⟨b, o, e, -⟩ := hat hp; cases e)
  have hf : f = [] := List.eq_nil_of_length_eq_zero h0
  subst hf
  clear hr hat
  go_enter Tryz.func283, Tryz.ntmps283
  go_wp2_with fail
  go_ret
  exact ⟨_, rfl, RowsOwn.start _ _ _ w⟩
 | some ad =>
  clear hat
  go_enter Tryz.func283, Tryz.ntmps283
  go_wp2_with (at_builtin; refine wp_joins (f := clV) (k := 3) rfl _ _ 24 rfl w.heap.size 116 i0 (.agg #[.string ⟨#[]⟩, .int .i64 0, .int .i64 0]) 32 Tryz.underlying24 hi0 hz0 hz1 hz2 rfl (by decide) rfl rfl h0own hr (fun _ _ => rfl) (fun x _ => cl_one x) ?a1 ?a2 ?a3 ?_)
  case a1 => unfold maxLen; omega
  case a2 => omega
  case a3 => simp
  intro v2 w2 own2 hg2 _
  have F2 := Lib.hid (RowsOwn.front hg2 (by rw [Nat.zero_add, List.nil_append]; exact own2))
  clear own2 hg2 hr h0own
  go_wp2_with fail
  go_ret
  exact ⟨_, rfl, F2.out⟩
theorem asc_sort {w wr : World} {v : Value} {l : List Flt.Cl} (h : RowsOwn 116 3 clV w l v wr) (hl : l.length ≤ 1000000) :
  Calls Tryz.prog 385 #[v, .func (.func 386) #[] #[]] wr fun e w' => e = .returned (.tuple #[]) ∧ ∃ S : List Flt.Cl, RowsOwn 116 3 clV w S v w' ∧ S.Perm l ∧ ∀ (i j : Nat) (x y : Flt.Cl), i < j → S[i]? = some x → S[j]? = some y → ¬ y.pre < x.pre := by
 rcases Nat.eq_zero_or_pos l.length with h0 | h0
 ·have hl0 : l = [] := List.eq_nil_of_length_eq_zero h0
  subst hl0
  obtain ⟨A, cap, e, -⟩ := (h.rows (fun _ _ => rfl)).parts
  rw [List.length_nil] at e
  subst e
  refine (AnyF.slices_SortFunc_none (P := Tryz.prog) (ρ := Tryz.sortCl_ren) { Tryz.sortCl with } A cap _ wr).mono ?_
  rintro e w' ⟨rfl, rfl⟩
  exact ⟨rfl, [], h, List.Perm.refl _, fun i j x y _ hx _ => by simp at hx⟩
 ·obtain ⟨g, cap, rfl, hg0, hgl⟩ := h.1.form (by omega)
  have eg : ∀ args w, (callFunc 386 args).run Tryz.prog w = .ok (.enter 386 args) w := enters_of Tryz.func386 (by kernel_rfl) rfl
  have hcon := AnyQ.slices_SortFunc Tryz.sortCl 3 Tryz.isAgg116 Tryz.sizeOf116 clV cl_len cl_one cmpPre swo_pre 386 #[] g 0 cap l.toArray wr eg (fun _ _ _ _ x y => asc_cmp x y _) (own_holds cl_len (by decide) h.1) hgl (by simp; omega)
  refine hcon.mono ?_
  rintro e w' ⟨rfl, d, n, os, hp, hs, rfl⟩
  obtain ⟨hperm, hsz⟩ := perm_list hp
  refine ⟨rfl, d.toList, h.sorted cl_len (by decide) hsz, hperm, fun i j x y hij hx hy => ?_⟩
  rw [Array.getElem?_toList] at hx hy
  obtain ⟨hi, ex⟩ := Array.getElem?_eq_some_iff.1 hx
  obtain ⟨hj, ey⟩ := Array.getElem?_eq_some_iff.1 hy
  have hlt := hs i j (Nat.zero_le _) hij (by simpa [hsz] using hj)
  rw [lt_pre, getElem!_pos d i hi, getElem!_pos d j hj, ex, ey] at hlt
  exact of_decide_eq_false hlt
theorem flt_asc {w : World} {F : Nat → Prop} {v : Value} {f : List Flt.Cl} (h : Cls w F v f) (hl : f.length ≤ 100000) :
  Calls Tryz.prog 351 #[v] w fun e w' => ∃ v' S, e = .returned v' ∧ RowsOwn 116 3 clV w S v' w' ∧ S.Perm f ∧ ∀ (i j : Nat) (x y : Flt.Cl), i < j → S[i]? = some x → S[j]? = some y → ¬ y.pre < x.pre := by
 have C := Lib.hid (clone_flt h hl)
 have SO := Lib.hid (fun (A B : World) (x : Value) (hx : RowsOwn 116 3 clV A f x B) => asc_sort hx (by omega))
 clear h
 go_enter Tryz.func351, Tryz.ntmps351
 go_wp2_with fail
 refine (C.out).mono ?_
 rintro e w1 ⟨x, rfl, hx⟩
 have HX := Lib.hid hx
 clear hx
 go_wp2_with fail
 refine (SO.out _ _ _ HX.out).mono ?_
 rintro e w2 ⟨rfl, S, hS, hperm, hup⟩
 have HS := Lib.hid hS
 have HP := Lib.hid hperm
 have HU := Lib.hid hup
 clear hS hperm hup
 go_wp2_with fail
 go_ret
 exact ⟨_, S, rfl, HS.out, HP.out, HU.out⟩
theorem encStr_tx (l : List (List UInt8)) : l.flatMap txV = l.map encStr := by
 induction l with
 | nil => rfl
 | cons x l ih => rw [List.flatMap_cons, ih]; rfl
theorem sort_texts {w wr : World} {v : Value} {l : List (List UInt8)} (h : RowsOwn 9 1 txV w l v wr) (hl : l.length ≤ 1000000) :
  Calls Tryz.prog 353 #[v] wr fun e w' => e = .returned (.tuple #[]) ∧ RowsOwn 9 1 txV w (l.mergeSort fun x y => decide (x ≤ y)) v w' := by
 rcases h.1.2 with ⟨rfl, h0⟩ | ⟨g, cap, cur, rfl, hg0, hgb, hgc, hm, hs, ht⟩
 ·have hl0 : l = [] := List.eq_nil_of_length_eq_zero h0
  subst hl0
  refine (Any.slices_Sort_string_none Tryz.lays190 none 0 wr).mono ?_
  rintro e w' ⟨rfl, rfl⟩
  exact ⟨rfl, by simpa using h⟩
 ·have hb9 : g < wr.heap.size := (Array.getElem?_eq_some_iff.1 hgb).1
  refine (Tryz.slices_Sort_string g 0 cap l wr (holds_of_block hgb (by rw [Nat.mul_one, encStr_tx] at ht; exact ht)) hb9 (by omega)).mono ?_
  rintro e w' ⟨rfl, n, os, rfl⟩
  have hl9 : (l.mergeSort fun x y => decide (x ≤ y)).length = l.length := List.length_mergeSort _
  refine ⟨rfl, ?_, h.2.grown (grownBy_sorted _) h.2.size (fun k hk => by injection hk with hk; omega)⟩
  have ho := ownsRow_sorted (w := wr) (base := w.heap.size) (n := n) (os := os) (ts := l.mergeSort fun x y => decide (x ≤ y)) hl9 hg0 hgb hgc hm (by rw [hs])
  rw [hl9, encStr_tx]
  exact ho
theorem compact_texts {w wr : World} {v : Value} {l : List (List UInt8)} (h : RowsOwn 9 1 txV w l v wr) (hl : l.length ≤ 1000000) (hc : (Lib.compact l).length ≤ l.length) :
  Calls Tryz.prog 354 #[v] wr fun e w' => ∃ v', e = .returned v' ∧ Txs w' (NewIn w w') v' (Lib.compact l) ∧ Below w.heap.size w w' := by
 rcases h.1.2 with ⟨rfl, h0⟩ | ⟨g, cap, cur, rfl, hg0, hgb, hgc, hm, hs, ht⟩
 ·have hl0 : l = [] := List.eq_nil_of_length_eq_zero h0
  subst hl0
  refine (Tryz.slices_Compact_string_empty none 0 wr).mono ?_
  rintro e w' ⟨rfl, rfl⟩
  exact ⟨_, rfl, Rws.none _ _ _, h.2⟩
 ·refine (Tryz.slices_Compact_string g 0 cap l wr (holds_of_block hgb (by rw [Nat.mul_one, encStr_tx] at ht; exact ht)) (by omega) hgc).mono ?_
  rintro e w' ⟨rfl, q, rfl⟩
  have hlen : (Lib.compact l ++ List.replicate (l.length - (Lib.compact l).length) []).length = l.length := by rw [List.length_append, List.length_replicate]; omega
  have ho := ownsRow_sorted (w := wr) (base := w.heap.size) (n := q) (os := #[]) (ts := Lib.compact l ++ List.replicate (l.length - (Lib.compact l).length) []) (ss := l) hlen hg0 hgb hgc hm (by rw [hs])
  have hgr := grownBy_sorted (w := wr) (g := g) (n := q) (os := #[]) (Lib.compact l ++ List.replicate (l.length - (Lib.compact l).length) []).toArray
  have hgz : ∀ W : World, grow W #[] = W := fun W => by unfold grow; simp
  rw [hgz] at ho hgr
  have hR : RowsOwn 9 1 txV w (Lib.compact l ++ List.replicate (l.length - (Lib.compact l).length) []) (.slice (some ⟨g, 0, none⟩) l.length cap) (putRow encStr (Sort.ahead wr q) g 0 (Lib.compact l ++ List.replicate (l.length - (Lib.compact l).length) []).toArray) :=
   ⟨by rw [hlen, encStr_tx]; exact ho, h.2.grown hgr h.2.size (fun k hk => by injection hk with hk; omega)⟩
  have hrows := hR.rows (fun _ _ => rfl)
  have ht := hrows.take (by rw [hlen]) (Lib.compact l).length (by rw [hlen]; exact hc) cap (by omega)
  rw [List.take_left'  rfl] at ht
  exact ⟨_, rfl, ht, hR.2⟩
theorem pre_take {f : List Flt.Cl} {n : Nat} {c : Flt.Cl} (hc : f[n]? = some c) : (f.take (n + 1)).map (·.pre) = (f.take n).map (·.pre) ++ [c.pre] := by
 obtain ⟨hl, he⟩ := List.getElem?_eq_some_iff.1 hc
 rw [List.take_succ_eq_append_getElem hl, he, List.map_append]
 rfl
theorem flt_prefixes {w : World} {F : Nat → Prop} {v : Value} {f : List Flt.Cl} (h : Cls w F v f) (hl : f.length ≤ 100000) :
  Calls Tryz.prog 293 #[v] w fun e w' => ∃ v', e = .returned v' ∧ Txs w' (NewIn w w') v' (Flt.prefixes f) ∧ Below w.heap.size w w' := by
 obtain ⟨A, cap, rfl, hcap⟩ := h.parts
 obtain ⟨i0, hi0, hz0, hz1, hz2⟩ := info_parts strInfo
 have H := Lib.hid h
 have hl' : (f.length : Int) ≤ 100000 := by omega
 have SO : Hid (∀ (B : World) (x : Value), RowsOwn 9 1 txV w (f.map (·.pre)) x B → Calls Tryz.prog 353 #[x] B fun e w' => e = .returned (.tuple #[]) ∧ RowsOwn 9 1 txV w ((f.map (·.pre)).mergeSort fun x y => decide (x ≤ y)) x w') := Lib.hid (fun B x hx => sort_texts hx (by rw [List.length_map]; omega))
 have CO : Hid (∀ (B : World) (x : Value), RowsOwn 9 1 txV w ((f.map (·.pre)).mergeSort fun x y => decide (x ≤ y)) x B → Calls Tryz.prog 354 #[x] B fun e w' => ∃ v', e = .returned v' ∧ Txs w' (NewIn w w') v' (Flt.prefixes f) ∧ Below w.heap.size w w') := Lib.hid (fun B x hx => by
  have := compact_texts hx (by rw [List.length_mergeSort, List.length_map]; omega) (by rw [Flt.prefixes_sorted, List.length_mergeSort, List.length_map]; exact Flt.prefixes_len f)
  rwa [Flt.prefixes_sorted] at this)
 clear h
 go_enter Tryz.func293, Tryz.ntmps293
 go_wp2_with fail
 go_loopw [3, 5, 8] (fun out _ i wr => ∃ n : Nat, n ≤ f.length ∧ i = .int .i64 (n : Int) ∧ RowsOwn 9 1 txV w ((f.take n).map (·.pre)) out wr) (fun _ _ i _ => f.length - (intOf i).toNat)
 case atStart => exact ⟨0, Nat.zero_le _, rfl, RowsOwn.start _ _ _ w⟩
 case round =>
  obtain ⟨n, hn, rfl, hown⟩ := hrel
  by_cases hlt : n < f.length
  ·obtain ⟨b, o, cap', e, -, -, hb⟩ := H.out.block (by omega)
   injection e with e1 e2 e3
   subst e1 e3
   clear e2
   obtain ⟨x, hx⟩ : ∃ x, f[n]? = some x := ⟨_, List.getElem?_eq_getElem hlt⟩
   have hn0 : (0 : Int) ≤ (n : Int) := by omega
   have hn1 : (n : Int) < (f.length : Int) := by omega
   have CA : Hid (∀ W, Below w.heap.size w W → W.cell? ⟨b, o + n * 3, none⟩ = some (.string (mk x.pre)) ∧ W.cell? ⟨b, o + n * 3 + 1, none⟩ = some (.int .i64 x.lo) ∧ W.cell? ⟨b, o + n * 3 + 2, none⟩ = some (.int .i64 x.hi)) := Lib.hid (fun W hW => Cls.at (H.out.below hW) hx)
   obtain ⟨c0, c1, c2⟩ := CA.out wr hown.2
   have hst := Lib.hid (pre_take hx)
   have hlen3 : ((f.take n).map (·.pre)).length ≤ n := by rw [List.length_map]; exact Flt.len_take f
   obtain ⟨xp, x1, x2⟩ := x
   simp only at c0 c1 c2
   have hst : Hid ((f.take (n + 1)).map (·.pre) = (f.take n).map (·.pre) ++ [xp]) := hst
   have hba : Below wr.heap.size wr (wr.alloc (.cells #[.string (mk xp), .int .i64 x1, .int .i64 x2] 116)) := (Below.refl _ _).alloc (Nat.le_refl _) _
   have Hown := Lib.hid (hown.below hba)
   clear hown hx hba CA
   generalize (f.take n).map (·.pre) = out at *
   have Hown2 := Hown
   have hown3 := Hown2.out.1.alloc (.cells #[.string (mk xp)] 9)
   have hmade := tx_made (wr.alloc (.cells #[.string (mk xp), .int .i64 x1, .int .i64 x2] 116)) 9 xp
   have hz1 : (wr.alloc (.cells #[.string (mk xp), .int .i64 x1, .int .i64 x2] 116)).heap.size = wr.heap.size + 1 := by simp
   rw [hz1] at hmade
   have hsz3 : w.heap.size ≤ ((wr.alloc (.cells #[.string (mk xp), .int .i64 x1, .int .i64 x2] 116)).alloc (.cells #[.string (mk xp)] 9)).heap.size := by have := Hown2.out.2.size; simp at this ⊢; omega
   clear hz1
   go_wp2_with (at_builtin; refine wp_joins (f := txV) (k := 1) rfl _ _ 152 rfl w.heap.size 9 i0 (.string ⟨#[]⟩) 16 Tryz.underlying152 hi0 hz0 hz1 hz2 rfl (by decide) rfl rfl hown3 hmade (fun _ _ => rfl) (fun x _ => tx_one x) ?c3 ?c4 hsz3 ?_)
   case c3 => unfold maxLen; first | omega | (simp <;> omega)
   case c4 => first | omega | (simp <;> omega)
   intro v3 w3 h1 h2 _
   have hnew := Lib.hid (Hown2.out.more (x := xp) (v' := v3) (by simpa [txV] using h1) h2)
   clear h1 h2 hown3 hmade
   go_wp2_with fail
   exact ⟨⟨n + 1, by omega, by go_num, by rw [hst.out]; exact hnew.out⟩, by show f.length - ((n : Int) + 1).toNat < f.length - (n : Int).toNat; omega⟩
  ·obtain rfl : n = f.length := by omega
   rw [List.take_length] at hown
   have Hown := Lib.hid hown
   clear hown
   go_wp2_with fail
   refine (SO.out _ _ Hown.out).mono ?_
   rintro e w2 ⟨rfl, hs⟩
   have HS := Lib.hid hs
   clear hs
   go_wp2_with fail
   refine (CO.out _ _ HS.out).mono ?_
   rintro e w3 ⟨v3, rfl, hv3, hb3⟩
   have HV := Lib.hid hv3
   have HB := Lib.hid hb3
   clear hv3 hb3
   go_wp2_with fail
   go_ret
   exact ⟨_, rfl, HV.out, HB.out⟩
open Go.RowKit Go.Shelf Go.Lib Go.Sort
open Go.RowKit Go.Sort
theorem knZero (w : World) : (zeroValue 28).run Tryz.prog w = .ok (.agg #[.slice none 0 0, .slice none 0 0]) w := by kernel_rfl
theorem knSize (a b : Value) : (Tryz.prog.info? 28).map (·.size) = some [a, b].length := by kernel_rfl
theorem knSizeA (a b : Value) : (Tryz.prog.info? 28).map (·.size) = some (#[a, b] : Array Value).size := by kernel_rfl
theorem two_one {x y : Value} (hx : x.oneCell' = true) (hy : y.oneCell' = true) : ∀ u ∈ [x, y], u.oneCell' = true := by
 intro u hu
 rcases List.mem_cons.1 hu with rfl | hu
 ·exact hx
 ·rw [List.mem_singleton.1 hu]; exact hy
theorem Row.there2 {w : World} {b : Nat} {t : TypeId} {x y : Value} (h : Row w b t #[x, y]) : w.there b 0 2 := by
 intro j hj
 rw [Nat.zero_add]
 refine ⟨?_, h.free j⟩
 rw [h.at j]
 rcases j with _ | _ | j
 ·rfl
 ·rfl
 ·omega
theorem Row.put2 {w : World} {b : Nat} {t : TypeId} {x y : Value} (h : Row w b t #[x, y]) (u v : Value) : Row (w.setCells b 0 [u, v]) b t #[u, v] := (h.stored 0 u).stored 1 v
theorem put2_kept (w : World) (b : Nat) (u v : Value) : Kept (fun i => i = b) w (w.setCells b 0 [u, v]) := Kept.stored (p := ⟨b, 0 + 1, none⟩) (Kept.stored (p := ⟨b, 0, none⟩) (Kept.refl (fun i => i = b) w) (Or.inl rfl) u) (Or.inl rfl) v
theorem put2_below {B : Nat} {a w : World} (h : Below B a w) (hB : B ≤ w.heap.size) {b : Nat} (hb : B ≤ b) (u v : Value) : Below B a (w.setCells b 0 [u, v]) := h.trans ((put2_kept w b u v).below hB (fun i hi => by rw [hi]; exact hb))
theorem Rws.away {α : Type} {k : Nat} {f : α → List Value} {w : World} {F : Nat → Prop} {v : Value} {l : List α} {b m n c d : Nat} {t : TypeId} {A B : Option Addr} (h : Rws k f w F v l) (hr : Row w b t #[.slice A m c, .slice B n d]) (hne : ∀ x ∈ l, ∃ u, (f x)[0]? = some u ∧ ∀ A n c, u ≠ .slice A n c) : Rws k f w (fun i => i ≠ b) v l := by
 obtain ⟨A', cap, e, hc, hat⟩ := h
 refine ⟨A', cap, e, hc, fun h0 => ?_⟩
 obtain ⟨b', o, eA, hF, hlt, hcl⟩ := hat h0
 refine ⟨b', o, eA, fun eb => ?_, hlt, hcl⟩
 subst eb
 obtain ⟨u, hu, hus⟩ := hne l[0] (List.getElem_mem _)
 have h1 := hcl 0 l[0] (List.getElem?_eq_getElem h0) 0 u hu
 have h2 := h1.symm.trans (hr.at _)
 generalize o + 0 * k + 0 = q at h2
 rcases q with _ | _ | q
 ·injection h2 with h2; exact hus _ _ _ h2
 ·injection h2 with h2; exact hus _ _ _ h2
 ·cases h2
theorem cls_away {w : World} {F : Nat → Prop} {v : Value} {l : List Flt.Cl} {b m n c d : Nat} {t : TypeId} {A B : Option Addr} (h : Cls w F v l) (hr : Row w b t #[.slice A m c, .slice B n d]) : Cls w (fun i => i ≠ b) v l :=
 Rws.away h hr (fun x _ => ⟨_, rfl, fun _ _ _ e => by cases e⟩)
theorem vrs_away {w : World} {F : Nat → Prop} {v : Value} {l : List Ver.V} {b m n c d : Nat} {t : TypeId} {A B : Option Addr} (h : Vrs w F v l) (hr : Row w b t #[.slice A m c, .slice B n d]) : Vrs w (fun i => i ≠ b) v l :=
 Rws.away h hr (fun x _ => ⟨_, rfl, fun _ _ _ e => by cases e⟩)
theorem its_away {w : World} {F : Nat → Prop} {v : Value} {l : List Know.It} {b m n c d : Nat} {t : TypeId} {A B : Option Addr} (h : Its w F v l) (hr : Row w b t #[.slice A m c, .slice B n d]) : Its w (fun i => i ≠ b) v l :=
 ⟨Rws.away h.1 hr (fun x _ => ⟨_, rfl, fun _ _ _ e => by cases e⟩), h.2⟩
def KnNew (w : World) (v : Value) (c : Know.K) (w' : World) : Prop := ∃ a b rs, v = .agg #[a, b] ∧ rs.map (·.x) = c.frags ∧ Rws 67 rfV w' (fun i => w.heap.size ≤ i) a rs ∧ (∀ r ∈ rs, r.In w' AnyB) ∧ Its w' AnyB b c.items
section
variable {w w' W w1 : World} {v : Value} {c : Know.K}
theorem KnNew.kns (h : KnNew w v c w') : Kns w' AnyB v c := by
 obtain ⟨a, b, rs, e, e2, h1, h2, h3⟩ := h
 exact ⟨a, b, e, ⟨rs, e2, h1.mono (fun _ _ => trivial), h2⟩, h3⟩
theorem KnNew.parts (h : KnNew w v c w') : ∃ A m e B n d, v = .agg #[.slice A m e, .slice B n d] := by
 obtain ⟨a, b, rs, rfl, e2, h1, h2, h3⟩ := h
 obtain ⟨A, e, rfl, -⟩ := h1.parts
 obtain ⟨B, d, rfl, -⟩ := h3.1.parts
 exact ⟨_, _, _, _, _, _, rfl⟩
end
end Go.Proofs.YtpafpegcodempaaGreat
