import Derived.Test.YtpafpegcodempaaGreatCom6
import Derived.Test.YtpafpegcodempaaGreatCom7
import Derived.Test.YtpafpegcodempaaGreatCom12
import Derived.Test.YtpafpegcodempaaGreatCom11
import Derived.Test.YtpafpegcodempaaGreatCom13
import Derived.Great.BuildSlice
set_option maxRecDepth 100000
set_option linter.all false
set_option maxHeartbeats 12800000
namespace Go.Proofs.YtpafpegcodempaaGreat
open Go.RowKit Go.Sort
theorem pck_valid_cl (FO : FilterOk) (x : Flt.Cl) (hb : Flt.Bd x) (w : World) :
  Calls Tryz.prog 315 #[clA x] w fun e w' => e = .returned (.bool (decide (Flt.Right x))) ∧ Below w.heap.size w w' := by
 have C := Lib.hid (fun W F v (h : Cls W F v [x]) => FO.check h (by simp) (by intro c hc; rw [List.mem_singleton.1 hc]; exact hb))
 have ht : (Flt.check [x] == 0) = decide (Flt.Right x) := by
  rw [Bool.eq_iff_iff, beq_iff_eq, decide_eq_true_iff]
  exact Pck.check_one x
 have MD := Lib.hid (fun W => rows_made (k := 3) (f := clV) W 116 x)
 generalize decide (Flt.Right x) = t at *
 generalize Flt.check [x] = r at *
 clear hb
 obtain ⟨p, x1, x2⟩ := x
 unfold clV at MD
 dsimp only [clA] at MD ⊢
 have HB0 := Lib.hid (((Below.refl w.heap.size w).alloc (Nat.le_refl _) (.cells #[.string (mk p), .int .i64 x1, .int .i64 x2] 116)).alloc (by simp) (.cells #[.string (mk p), .int .i64 x1, .int .i64 x2] 116))
 have M0 := Lib.hid (MD.out (w.alloc (.cells #[.string (mk p), .int .i64 x1, .int .i64 x2] 116)))
 rw [World.size_alloc] at M0
 have CC := Lib.hid (C.out _ _ _ M0.out)
 have HT := Lib.hid ht
 clear ht C M0 MD
 generalize mk p = q0 at *
 go_enter Tryz.func315, Tryz.ntmps315
 go_wp2_with fail
 refine CC.out.mono ?_
 rintro e w1 ⟨rfl, hb1⟩
 have HB1 := Lib.hid (HB0.out.trans (hb1.mono HB0.out.size))
 clear hb1
 go_wp2_with fail
 go_ret
 exact ⟨by rw [← HT.out]; rfl, HB1.out⟩
theorem pck_all1_cl (FO : FilterOk) (x : Flt.Cl) (hb : Flt.Bd x) {w : World} {q : Nat} (hq : w.cell? ⟨q, 0, none⟩ = some (.func (.func 315) #[] #[])) (hqw : q < w.heap.size) :
  Calls Tryz.prog 365 #[clA x, .pointer (some ⟨q, 0, none⟩)] w fun e w' => e = .returned (.bool (!decide (Flt.Right x))) ∧ Below w.heap.size w w' := by
 have C := Lib.hid (fun W => pck_valid_cl FO x hb W)
 obtain ⟨t, ht⟩ : ∃ t : Bool, t = decide (Flt.Right x) := ⟨_, rfl⟩
 rw [← ht] at C ⊢
 clear ht hb
 obtain ⟨p, x1, x2⟩ := x
 dsimp only [clA] at C ⊢
 generalize mk p = q0 at *
 have HB0 := Lib.hid ((Below.refl w.heap.size w).alloc (Nat.le_refl _) (.cells #[.string q0, .int .i64 x1, .int .i64 x2] 116))
 have hq1 : (w.alloc (.cells #[.string q0, .int .i64 x1, .int .i64 x2] 116)).cell? ⟨q, 0, none⟩ = _ := (HB0.out.cell (p := ⟨q, 0, none⟩) hqw).trans hq
 clear hqw hq
 go_enter Tryz.func365, Tryz.ntmps365
 go_wp2_with fail
 refine (C.out _).mono ?_
 rintro e w1 ⟨rfl, hb1⟩
 have HB1 := Lib.hid (HB0.out.trans (hb1.mono HB0.out.size))
 clear hb1
 go_wp2_with fail
 go_ret
 exact ⟨rfl, HB1.out⟩
theorem pck_idx_cl (FO : FilterOk) {w : World} {F : Nat → Prop} {v : Value} {l : List (Flt.Cl)} {q : Nat} (h : Cls w F v l) (hl : l.length ≤ 1000000) (hb : ∀ x ∈ l, Flt.Bd x) (hq : w.cell? ⟨q, 0, none⟩ = some (.func (.func 315) #[] #[])) (hqw : q < w.heap.size) :
  Calls Tryz.prog 397 #[v, .func (.func 365) #[] #[.pointer (some ⟨q, 0, none⟩)]] w fun e w' => (∃ k : Int, e = .returned (.int .i64 k) ∧ decide (0 ≤ k) = !decide (∀ x ∈ l, Flt.Right x)) ∧ Below w.heap.size w w' := by
 obtain ⟨A, cap, rfl, hcap⟩ := h.parts
 have H := Lib.hid h
 have hl' : (l.length : Int) ≤ 1000000 := by omega
 have P1 := Lib.hid (fun (x : Flt.Cl) (hx : x ∈ l) (W : World) (hW : Below w.heap.size w W) => pck_all1_cl FO x (hb x hx) (w := W) (q := q) ((hW.cell (p := ⟨q, 0, none⟩) hqw).trans hq) (Nat.lt_of_lt_of_le hqw hW.size))
 clear h hb hq hqw
 go_enter Tryz.func397, Tryz.ntmps397
 go_wp2_with fail
 go_loopw [8] (fun i wr => ∃ n : Nat, n ≤ l.length ∧ i = .int .i64 (n : Int) ∧ Hid (∀ x ∈ l.take n, Flt.Right x) ∧ Below w.heap.size w wr) (fun i _ => l.length - (intOf i).toNat)
 case atStart => exact ⟨0, Nat.zero_le _, rfl, Lib.hid (by simp), Below.refl _ _⟩
 case round =>
  obtain ⟨n, hn, rfl, hall, hbel⟩ := hrel
  by_cases hlt : n < l.length
  ·obtain ⟨b, o, cap1, e, -, -, hb⟩ := H.out.block (by omega)
   injection e with e1 e2 e3
   subst e1 e3
   clear e2
   obtain ⟨x, hx⟩ : ∃ x, l[n]? = some x := ⟨_, List.getElem?_eq_getElem hlt⟩
   obtain ⟨d0, d1, d2⟩ := Cls.at (Rws.below H.out hbel) hx
   have hn0 : (0 : Int) ≤ (n : Int) := by omega
   have hn1 : (n : Int) < (l.length : Int) := by omega
   have PX := P1.out x (List.mem_of_getElem? hx) wr hbel
   have HBL := Lib.hid hbel
   have Hlt := Lib.hid hlt
   clear hb hlt hn hbel
   by_cases hr : Flt.Right x
   ·rw [decide_eq_true hr] at PX
    have hnext : Hid (∀ y ∈ l.take (n + 1), Flt.Right y) := Lib.hid (by
     obtain ⟨h1, e1⟩ := List.getElem?_eq_some_iff.1 hx
     intro y hy
     rw [List.take_succ_eq_append_getElem h1, e1] at hy
     rcases List.mem_append.1 hy with hy | hy
     ·exact hall.out y hy
     ·rw [List.mem_singleton.1 hy]; exact hr)
    replace PX := Lib.hid PX
    clear hx hr hall
    obtain ⟨p, x1, x2⟩ := x
    dsimp only [clA] at PX d0 d1 d2
    generalize mk p = q0 at *
    go_wp2_with fail
    refine (PX.out).mono ?_
    rintro e w1 ⟨rfl, hb1⟩
    have HB1 := Lib.hid (HBL.out.trans (hb1.mono HBL.out.size))
    clear hb1
    go_wp2_with fail
    go_roundw
    case rel => exact ⟨n + 1, by have := Hlt.out; omega, by go_num, hnext, HB1.out⟩
    case measure => (have := Hlt.out; simp [intOf]; omega)
   ·rw [decide_eq_false hr] at PX
    have hno : Hid (¬ ∀ y ∈ l, Flt.Right y) := Lib.hid (fun h => hr (h x (List.mem_of_getElem? hx)))
    replace PX := Lib.hid PX
    clear hx hr hall
    obtain ⟨p, x1, x2⟩ := x
    dsimp only [clA] at PX d0 d1 d2
    generalize mk p = q0 at *
    go_wp2_with fail
    refine (PX.out).mono ?_
    rintro e w1 ⟨rfl, hb1⟩
    have HB1 := Lib.hid (HBL.out.trans (hb1.mono HBL.out.size))
    clear hb1
    go_wp2_with fail
    go_ret
    exact ⟨⟨_, rfl, by rw [decide_eq_false hno.out]; simp⟩, HB1.out⟩
  ·obtain rfl : n = l.length := by omega
   have hyes : Hid (∀ y ∈ l, Flt.Right y) := Lib.hid (by have := hall.out; rwa [List.take_length] at this)
   have HBL := Lib.hid hbel
   clear hall hbel
   go_wp2_with fail
   go_ret
   exact ⟨⟨_, rfl, by rw [decide_eq_true hyes.out]; rfl⟩, HBL.out⟩
theorem pck_all_cl (FO : FilterOk) {w : World} {F : Nat → Prop} {v : Value} {l : List (Flt.Cl)} (h : Cls w F v l) (hl : l.length ≤ 1000000) (hb : ∀ x ∈ l, Flt.Bd x) :
  Calls Tryz.prog 314 #[v, .func (.func 315) #[] #[]] w fun e w' => e = .returned (.bool (decide (∀ x ∈ l, Flt.Right x))) ∧ Below w.heap.size w w' := by
 have HB0 := Lib.hid ((Below.refl w.heap.size w).alloc (Nat.le_refl _) (.cells #[.func (.func 315) #[] #[]] 156))
 have RB := Row.made w 156 #[.func (.func 315) #[] #[]]
 have IX : Hid (Calls Tryz.prog 364 #[v, .func (.func 365) #[] #[.pointer (some ⟨w.heap.size, 0, none⟩)]] (w.alloc (.cells #[.func (.func 315) #[] #[]] 156)) fun e w' => e = .returned (.bool (!decide (∀ x ∈ l, Flt.Right x))) ∧ Below (w.alloc (.cells #[.func (.func 315) #[] #[]] 156)).heap.size (w.alloc (.cells #[.func (.func 315) #[] #[]] 156)) w') := Lib.hid (by
  have IX0 := pck_idx_cl FO (Rws.below h ((Below.refl _ _).alloc (Nat.le_refl _) (.cells #[.func (.func 315) #[] #[]] 156))) hl hb (RB.at 0) RB.inHeap
  generalize (!decide (∀ x ∈ l, Flt.Right x)) = t at *
  replace IX0 := Lib.hid IX0
  obtain ⟨A, cap, rfl, hcap⟩ := h.parts
  clear h hb RB HB0
  generalize w.alloc (.cells #[.func (.func 315) #[] #[]] 156) = W at *
  generalize w.heap.size = q at *
  go_enter Tryz.func364, Tryz.ntmps364
  go_wp2_with fail
  refine (IX0.out).mono ?_
  rintro e w1 ⟨⟨k, rfl, hk⟩, hb1⟩
  have HK := Lib.hid hk
  have HB1 := Lib.hid hb1
  clear hb1
  go_wp2_with fail
  go_ret
  exact ⟨by rw [← HK.out]; rfl, HB1.out⟩)
 generalize decide (∀ x ∈ l, Flt.Right x) = t at *
 clear h hb RB
 go_enter Tryz.func314, Tryz.ntmps314
 go_wp2_with fail
 refine IX.out.mono ?_
 rintro e w1 ⟨rfl, hb1⟩
 have HB1 := Lib.hid (HB0.out.trans (hb1.mono HB0.out.size))
 clear hb1
 go_wp2_with fail
 go_ret
 exact ⟨by first | rfl | rw [Bool.not_not], HB1.out⟩
theorem pck_validFilter (FO : FilterOk) {w : World} {F : Nat → Prop} {v : Value} {f : List Flt.Cl} (h : Cls w F v f) (hl : f.length ≤ 100000) (hb : ∀ x ∈ f, Flt.Bd x) :
  Calls Tryz.prog 228 #[v] w fun e w' => e = .returned (.bool (decide (Pck.OkFlt f))) ∧ Below w.heap.size w w' := by
 have AL := Lib.hid (pck_all_cl FO h (by omega) hb)
 obtain ⟨A, cap, rfl, hcap⟩ := h.parts
 have hl' : (f.length : Int) ≤ 100000 := by omega
 by_cases h64 : f.length ≤ 64
 ·have hd : decide ((f.length : Int) ≤ 64) = true := decide_eq_true (by omega)
  have hE : decide (∀ x ∈ f, Flt.Right x) = decide (Pck.OkFlt f) := by rw [decide_eq_decide]; exact ⟨fun h => ⟨h64, h⟩, fun h => h.2⟩
  rw [hE] at AL
  generalize decide (Pck.OkFlt f) = t at *
  clear h hl hb h64 hE
  go_enter Tryz.func228, Tryz.ntmps228
  go_wp2_with fail
  refine AL.out.mono ?_
  rintro e w1 ⟨rfl, h1⟩
  have B1 := Lib.hid h1
  clear h1
  go_wp2_with fail
  go_ret
  exact ⟨rfl, B1.out⟩
 ·have hd : decide ((f.length : Int) ≤ 64) = false := decide_eq_false (by omega)
  have hE : decide (Pck.OkFlt f) = false := decide_eq_false (fun h => h64 h.1)
  rw [hE]
  have hB := Lib.hid (Below.refl w.heap.size w)
  clear h hl hb h64 hE AL
  go_enter Tryz.func228, Tryz.ntmps228
  go_wp2_with fail
  go_ret
  exact ⟨rfl, hB.out⟩
open Go.RowKit Go.Sort
theorem pck_valid_frag (V : VecOk) (VS : VersOk) (S : IsetOk) (FO : FilterOk) {w : World} {F : Nat → Prop} {r : RFr} (hr : r.In w F) (hb : Pck.BdFr r.x) :
  Calls Tryz.prog 170 #[frA r] w fun e w' => e = .returned (.bool (decide (Pck.OkFrag r.x))) ∧ Below w.heap.size w w' := by
 have hB0 := ((Below.refl w.heap.size w).alloc (Nat.le_refl _) (.cells (rfV r).toArray 91))
 have AF := Lib.hid (fun (W : World) (h : Below w.heap.size w W) => pck_validFilter FO (Rws.below hr.f h) hb.fl hb.fb)
 have AV := Lib.hid (fun (W : World) => pck_validVec V hr.len W)
 have AN := Lib.hid (fun (W : World) (h : Below w.heap.size w W) => pck_validItems VS S (Rws.below hr.no h) (by have := hb.nl; omega) hb.nb)
 have fa := FrAt.made w hr.len 91
 have XA := Lib.hid (fun (W : World) (h : Below (w.alloc (.cells (rfV r).toArray 91)).heap.size (w.alloc (.cells (rfV r).toArray 91)) W) => (by have q := fa.below h (by simp); exact ⟨q.f, q.no0, q.v0⟩ : W.cell? ⟨w.heap.size, 0, none⟩ = some r.fv ∧ W.cell? ⟨w.heap.size, 66, none⟩ = some r.nv ∧ Lies 32 W w.heap.size 1 (vecL r.x.v)))
 have HB0 := Lib.hid hB0
 have e : decide (Pck.OkFrag r.x) = (decide (Pck.OkFlt r.x.f) && (decide (Pck.OkVec r.x.v) && decide (Pck.OkItems r.x.no))) := by
  rw [Bool.eq_iff_iff]
  simp only [Bool.and_eq_true, decide_eq_true_iff]
  exact Iff.rfl
 rw [e]
 generalize decide (Pck.OkFlt r.x.f) = t1 at *
 generalize decide (Pck.OkVec r.x.v) = t2 at *
 generalize decide (Pck.OkItems r.x.no) = t3 at *
 obtain ⟨c0, c66, LV⟩ := XA.out _ (Below.refl _ _)
 replace LV := Lib.hid LV
 obtain ⟨fv, nv, x⟩ := r
 have hA := hr.f.parts
 have hB := hr.no.parts
 clear hr hb hB0 fa e
 dsimp only at *
 obtain ⟨A, cap, rfl, -⟩ := hA
 obtain ⟨B, cap2, rfl, -⟩ := hB
 go_enter Tryz.func170, Tryz.ntmps170
 go_wp2_with fail
 refine (AF.out _ HB0.out).mono ?_
 rintro e w1 ⟨rfl, h1⟩
 have W1 := Lib.hid h1
 have B1 := Lib.hid (HB0.out.trans (h1.mono HB0.out.size))
 clear h1
 cases t1
 ·go_wp2_with fail
  go_ret
  exact ⟨rfl, B1.out⟩
 ·obtain ⟨d0, d66, LV1⟩ := XA.out _ W1.out
  replace LV1 := Lib.hid LV1
  go_wp2_with (refine wpList_mload (by rfl) _ (by rfl) (by rfl) LV1.out ?_)
  refine (AV.out _).mono ?_
  rintro e w2 ⟨rfl, h2⟩
  have W2 := Lib.hid (W1.out.trans (h2.mono W1.out.size))
  have B2 := Lib.hid (B1.out.trans (h2.mono B1.out.size))
  clear h2
  cases t2
  ·go_wp2_with fail
   go_ret
   exact ⟨rfl, B2.out⟩
  ·obtain ⟨f0, f66, LV2⟩ := XA.out _ W2.out
   replace LV2 := Lib.hid LV2
   go_wp2_with fail
   refine (AN.out _ B2.out).mono ?_
   rintro e w3 ⟨rfl, h3⟩
   have B3 := Lib.hid (B2.out.trans (h3.mono B2.out.size))
   clear h3
   go_wp2_with fail
   go_ret
   exact ⟨rfl, B3.out⟩
theorem pck_valid_known (V : VecOk) (VS : VersOk) (x : Know.It) (hx : x.v.length = 65) (hb : Pck.BdIt x) (w : World) :
  Calls Tryz.prog 172 #[itA x] w fun e w' => e = .returned (.bool (decide (Pck.OkKnown x))) ∧ Below w.heap.size w w' := by
 have hB0 := ((Below.refl w.heap.size w).alloc (Nat.le_refl _) (.cells (itV x).toArray 127))
 have AI := Lib.hid (fun (W : World) => pck_valid_ver VS x.item hb.ib W)
 have AV := Lib.hid (fun (W : World) => pck_validVec V hx W)
 have fa := ItAt.made w hx 127
 have XA := Lib.hid (fun (W : World) (h : Below (w.alloc (.cells (itV x).toArray 127)).heap.size (w.alloc (.cells (itV x).toArray 127)) W) => (by have q := fa.below h (by simp); exact ⟨q.by_, q.n0, q.v0⟩ : W.cell? ⟨w.heap.size, 0, none⟩ = some (.int .i64 x.item.by_) ∧ W.cell? ⟨w.heap.size, 1, none⟩ = some (.int .i64 x.item.n) ∧ Lies 32 W w.heap.size 2 (vecL x.v)))
 have HB0 := Lib.hid hB0
 have e : decide (Pck.OkKnown x) = (decide (Ver.Right x.item) && decide (Pck.OkVec x.v)) := by
  rw [Bool.eq_iff_iff]
  simp only [Bool.and_eq_true, decide_eq_true_iff]
  exact Iff.rfl
 rw [e]
 generalize decide (Ver.Right x.item) = t1 at *
 generalize decide (Pck.OkVec x.v) = t2 at *
 obtain ⟨c0, c1, LV⟩ := XA.out _ (Below.refl _ _)
 replace LV := Lib.hid LV
 obtain ⟨⟨x1, x2⟩, xv⟩ := x
 dsimp only [verA] at *
 clear hb hB0 fa e
 go_enter Tryz.func172, Tryz.ntmps172
 go_wp2_with fail
 refine (AI.out _).mono ?_
 rintro e w1 ⟨rfl, h1⟩
 have W1 := Lib.hid h1
 have B1 := Lib.hid (HB0.out.trans (h1.mono HB0.out.size))
 clear h1
 cases t1
 ·go_wp2_with fail
  go_ret
  exact ⟨rfl, B1.out⟩
 ·obtain ⟨d0, d1, LV1⟩ := XA.out _ W1.out
  replace LV1 := Lib.hid LV1
  go_wp2_with (refine wpList_mload (by rfl) _ (by rfl) (by rfl) LV1.out ?_)
  refine (AV.out _).mono ?_
  rintro e w2 ⟨rfl, h2⟩
  have B2 := Lib.hid (B1.out.trans (h2.mono B1.out.size))
  clear h2
  go_wp2_with fail
  go_ret
  exact ⟨rfl, B2.out⟩
theorem pck_all1_frag (V : VecOk) (VS : VersOk) (S : IsetOk) (FO : FilterOk) {w : World} {F : Nat → Prop} {x : RFr} (hx : x.In w F) (hb : Pck.BdFr x.x) {q : Nat} (hq : w.cell? ⟨q, 0, none⟩ = some (.func (.func 170) #[] #[])) (hqw : q < w.heap.size) :
  Calls Tryz.prog 271 #[.agg (rfV x).toArray, .pointer (some ⟨q, 0, none⟩)] w fun e w' => e = .returned (.bool (!decide (Pck.OkFrag x.x))) ∧ Below w.heap.size w w' := by
 have hB0 := ((Below.refl w.heap.size w).alloc (Nat.le_refl _) (.cells (rfV x).toArray 91))
 have C := Lib.hid (fun (W : World) (h : Below w.heap.size w W) => pck_valid_frag V VS S FO (hx.below h) hb)
 obtain ⟨t, ht⟩ : ∃ t : Bool, t = decide (Pck.OkFrag x.x) := ⟨_, rfl⟩
 rw [← ht] at C ⊢
 have LR := Lib.hid (FrAt.made w (hx.len) 91).all
 have hq1 : (w.alloc (.cells (rfV x).toArray 91)).cell? ⟨q, 0, none⟩ = _ := (hB0.cell (p := ⟨q, 0, none⟩) hqw).trans hq
 have HB0 := Lib.hid hB0
 clear ht hb hqw hq hx hB0
 go_enter Tryz.func271, Tryz.ntmps271
 go_wp2_with (refine wpList_mload (by rfl) _ (by rfl) (by rfl) LR.out ?_)
 refine (C.out _ HB0.out).mono ?_
 rintro e w1 ⟨rfl, hb1⟩
 have HB1 := Lib.hid (HB0.out.trans (hb1.mono HB0.out.size))
 clear hb1
 go_wp2_with fail
 go_ret
 exact ⟨rfl, HB1.out⟩
theorem pck_idx_frag (V : VecOk) (VS : VersOk) (S : IsetOk) (FO : FilterOk) {w : World} {F : Nat → Prop} {v : Value} {l : List (RFr)} {q : Nat} (h : Rws 67 rfV w F v l) (hi : ∀ x ∈ l, x.In w F) (hl : l.length ≤ 1000000) (hb : ∀ x ∈ l, Pck.BdFr x.x) (hq : w.cell? ⟨q, 0, none⟩ = some (.func (.func 170) #[] #[])) (hqw : q < w.heap.size) :
  Calls Tryz.prog 288 #[v, .func (.func 271) #[] #[.pointer (some ⟨q, 0, none⟩)]] w fun e w' => (∃ k : Int, e = .returned (.int .i64 k) ∧ decide (0 ≤ k) = !decide (∀ x ∈ l, Pck.OkFrag x.x)) ∧ Below w.heap.size w w' := by
 obtain ⟨A, cap, rfl, hcap⟩ := h.parts
 have H := Lib.hid h
 have HI := Lib.hid hi
 have hl' : (l.length : Int) ≤ 1000000 := by omega
 have P1 := Lib.hid (fun (x : RFr) (hx : x ∈ l) (W : World) (hW : Below w.heap.size w W) => pck_all1_frag V VS S FO (w := W) (F := F) (q := q) ((hi x hx).below (hW.mono (Nat.le_refl _))) (hb x hx) ((hW.cell (p := ⟨q, 0, none⟩) hqw).trans hq) (Nat.lt_of_lt_of_le hqw hW.size))
 clear h hb hq hqw hi
 go_enter Tryz.func288, Tryz.ntmps288
 go_wp2_with fail
 go_loopw [8] (fun i wr => ∃ n : Nat, n ≤ l.length ∧ i = .int .i64 (n : Int) ∧ Hid (∀ x ∈ l.take n, Pck.OkFrag x.x) ∧ Below w.heap.size w wr) (fun i _ => l.length - (intOf i).toNat)
 case atStart => exact ⟨0, Nat.zero_le _, rfl, Lib.hid (by simp), Below.refl _ _⟩
 case round =>
  obtain ⟨n, hn, rfl, hall, hbel⟩ := hrel
  by_cases hlt : n < l.length
  ·obtain ⟨b, o, cap1, e, -, -, hb⟩ := H.out.block (by omega)
   injection e with e1 e2 e3
   subst e1 e3
   clear e2
   obtain ⟨x, hx⟩ : ∃ x, l[n]? = some x := ⟨_, List.getElem?_eq_getElem hlt⟩
   have hxi := HI.out x (List.mem_of_getElem? hx)
   have LE := Lib.hid ((FrAt.elem H.out hx (hxi.len)).below hbel hb).all
   have hn0 : (0 : Int) ≤ (n : Int) := by omega
   have hn1 : (n : Int) < (l.length : Int) := by omega
   have PX := P1.out x (List.mem_of_getElem? hx) wr hbel
   have HBL := Lib.hid hbel
   have Hlt := Lib.hid hlt
   clear hb hlt hn hbel hxi
   by_cases hr : Pck.OkFrag x.x
   ·rw [decide_eq_true hr] at PX
    have hnext : Hid (∀ x ∈ l.take (n + 1), Pck.OkFrag x.x) := Lib.hid (by
     obtain ⟨h1, e1⟩ := List.getElem?_eq_some_iff.1 hx
     intro y hy
     rw [List.take_succ_eq_append_getElem h1, e1] at hy
     rcases List.mem_append.1 hy with hy | hy
     ·exact hall.out y hy
     ·rw [List.mem_singleton.1 hy]; exact hr)
    replace PX := Lib.hid PX
    clear hx hr hall
    go_wp2_with (refine wpList_mload (by rfl) _ (by rfl) (by rfl) LE.out ?_)
    refine (PX.out).mono ?_
    rintro e w1 ⟨rfl, hb1⟩
    have HB1 := Lib.hid (HBL.out.trans (hb1.mono HBL.out.size))
    clear hb1
    go_wp2_with fail
    go_roundw
    case rel => exact ⟨n + 1, by have := Hlt.out; omega, by go_num, hnext, HB1.out⟩
    case measure => (have := Hlt.out; simp [intOf]; omega)
   ·rw [decide_eq_false hr] at PX
    have hno : Hid (¬ ∀ x ∈ l, Pck.OkFrag x.x) := Lib.hid (fun h => hr (h x (List.mem_of_getElem? hx)))
    replace PX := Lib.hid PX
    clear hx hr hall
    go_wp2_with (refine wpList_mload (by rfl) _ (by rfl) (by rfl) LE.out ?_)
    refine (PX.out).mono ?_
    rintro e w1 ⟨rfl, hb1⟩
    have HB1 := Lib.hid (HBL.out.trans (hb1.mono HBL.out.size))
    clear hb1
    go_wp2_with fail
    go_ret
    exact ⟨⟨_, rfl, by rw [decide_eq_false hno.out]; simp⟩, HB1.out⟩
  ·obtain rfl : n = l.length := by omega
   have hyes : Hid (∀ x ∈ l, Pck.OkFrag x.x) := Lib.hid (by have := hall.out; rwa [List.take_length] at this)
   have HBL := Lib.hid hbel
   clear hall hbel
   go_wp2_with fail
   go_ret
   exact ⟨⟨_, rfl, by rw [decide_eq_true hyes.out]; rfl⟩, HBL.out⟩
theorem pck_all_frag (V : VecOk) (VS : VersOk) (S : IsetOk) (FO : FilterOk) {w : World} {F : Nat → Prop} {v : Value} {l : List (RFr)} (h : Rws 67 rfV w F v l) (hi : ∀ x ∈ l, x.In w F) (hl : l.length ≤ 1000000) (hb : ∀ x ∈ l, Pck.BdFr x.x) :
  Calls Tryz.prog 169 #[v, .func (.func 170) #[] #[]] w fun e w' => e = .returned (.bool (decide (∀ x ∈ l, Pck.OkFrag x.x))) ∧ Below w.heap.size w w' := by
 have HB0 := Lib.hid ((Below.refl w.heap.size w).alloc (Nat.le_refl _) (.cells #[.func (.func 170) #[] #[]] 136))
 have RB := Row.made w 136 #[.func (.func 170) #[] #[]]
 have IX : Hid (Calls Tryz.prog 270 #[v, .func (.func 271) #[] #[.pointer (some ⟨w.heap.size, 0, none⟩)]] (w.alloc (.cells #[.func (.func 170) #[] #[]] 136)) fun e w' => e = .returned (.bool (!decide (∀ x ∈ l, Pck.OkFrag x.x))) ∧ Below (w.alloc (.cells #[.func (.func 170) #[] #[]] 136)).heap.size (w.alloc (.cells #[.func (.func 170) #[] #[]] 136)) w') := Lib.hid (by
  have IX0 := pck_idx_frag V VS S FO (Rws.below h ((Below.refl _ _).alloc (Nat.le_refl _) (.cells #[.func (.func 170) #[] #[]] 136))) (fun x hx => (hi x hx).below ((Below.refl _ _).alloc (Nat.le_refl _) _)) hl hb (RB.at 0) RB.inHeap
  generalize (!decide (∀ x ∈ l, Pck.OkFrag x.x)) = t at *
  replace IX0 := Lib.hid IX0
  obtain ⟨A, cap, rfl, hcap⟩ := h.parts
  clear h hb RB HB0 hi
  generalize w.alloc (.cells #[.func (.func 170) #[] #[]] 136) = W at *
  generalize w.heap.size = q at *
  go_enter Tryz.func270, Tryz.ntmps270
  go_wp2_with fail
  refine (IX0.out).mono ?_
  rintro e w1 ⟨⟨k, rfl, hk⟩, hb1⟩
  have HK := Lib.hid hk
  have HB1 := Lib.hid hb1
  clear hb1
  go_wp2_with fail
  go_ret
  exact ⟨by rw [← HK.out]; rfl, HB1.out⟩)
 generalize decide (∀ x ∈ l, Pck.OkFrag x.x) = t at *
 clear h hb RB hi
 go_enter Tryz.func169, Tryz.ntmps169
 go_wp2_with fail
 refine IX.out.mono ?_
 rintro e w1 ⟨rfl, hb1⟩
 have HB1 := Lib.hid (HB0.out.trans (hb1.mono HB0.out.size))
 clear hb1
 go_wp2_with fail
 go_ret
 exact ⟨by first | rfl | rw [Bool.not_not], HB1.out⟩
theorem pck_all1_known (V : VecOk) (VS : VersOk) {w : World} {F : Nat → Prop} {x : Know.It} (hx : x.v.length = 65) (hb : Pck.BdIt x) {q : Nat} (hq : w.cell? ⟨q, 0, none⟩ = some (.func (.func 172) #[] #[])) (hqw : q < w.heap.size) :
  Calls Tryz.prog 272 #[.agg (itV x).toArray, .pointer (some ⟨q, 0, none⟩)] w fun e w' => e = .returned (.bool (!decide (Pck.OkKnown x))) ∧ Below w.heap.size w w' := by
 have hB0 := ((Below.refl w.heap.size w).alloc (Nat.le_refl _) (.cells (itV x).toArray 127))
 have C := Lib.hid (fun (W : World) (h : Below w.heap.size w W) => pck_valid_known V VS x hx hb W)
 obtain ⟨t, ht⟩ : ∃ t : Bool, t = decide (Pck.OkKnown x) := ⟨_, rfl⟩
 rw [← ht] at C ⊢
 have LR := Lib.hid (ItAt.made w (hx) 127).all
 have hq1 : (w.alloc (.cells (itV x).toArray 127)).cell? ⟨q, 0, none⟩ = _ := (hB0.cell (p := ⟨q, 0, none⟩) hqw).trans hq
 have HB0 := Lib.hid hB0
 clear ht hb hqw hq hx hB0
 go_enter Tryz.func272, Tryz.ntmps272
 go_wp2_with (refine wpList_mload (by rfl) _ (by rfl) (by rfl) LR.out ?_)
 refine (C.out _ HB0.out).mono ?_
 rintro e w1 ⟨rfl, hb1⟩
 have HB1 := Lib.hid (HB0.out.trans (hb1.mono HB0.out.size))
 clear hb1
 go_wp2_with fail
 go_ret
 exact ⟨rfl, HB1.out⟩
theorem pck_idx_known (V : VecOk) (VS : VersOk) {w : World} {F : Nat → Prop} {v : Value} {l : List (Know.It)} {q : Nat} (h : Rws 67 itV w F v l) (hi : ∀ x ∈ l, x.v.length = 65) (hl : l.length ≤ 1000000) (hb : ∀ x ∈ l, Pck.BdIt x) (hq : w.cell? ⟨q, 0, none⟩ = some (.func (.func 172) #[] #[])) (hqw : q < w.heap.size) :
  Calls Tryz.prog 192 #[v, .func (.func 272) #[] #[.pointer (some ⟨q, 0, none⟩)]] w fun e w' => (∃ k : Int, e = .returned (.int .i64 k) ∧ decide (0 ≤ k) = !decide (∀ x ∈ l, Pck.OkKnown x)) ∧ Below w.heap.size w w' := by
 obtain ⟨A, cap, rfl, hcap⟩ := h.parts
 have H := Lib.hid h
 have HI := Lib.hid hi
 have hl' : (l.length : Int) ≤ 1000000 := by omega
 have P1 := Lib.hid (fun (x : Know.It) (hx : x ∈ l) (W : World) (hW : Below w.heap.size w W) => pck_all1_known V VS (w := W) (F := F) (q := q) (hi x hx) (hb x hx) ((hW.cell (p := ⟨q, 0, none⟩) hqw).trans hq) (Nat.lt_of_lt_of_le hqw hW.size))
 clear h hb hq hqw hi
 go_enter Tryz.func192, Tryz.ntmps192
 go_wp2_with fail
 go_loopw [8] (fun i wr => ∃ n : Nat, n ≤ l.length ∧ i = .int .i64 (n : Int) ∧ Hid (∀ x ∈ l.take n, Pck.OkKnown x) ∧ Below w.heap.size w wr) (fun i _ => l.length - (intOf i).toNat)
 case atStart => exact ⟨0, Nat.zero_le _, rfl, Lib.hid (by simp), Below.refl _ _⟩
 case round =>
  obtain ⟨n, hn, rfl, hall, hbel⟩ := hrel
  by_cases hlt : n < l.length
  ·obtain ⟨b, o, cap1, e, -, -, hb⟩ := H.out.block (by omega)
   injection e with e1 e2 e3
   subst e1 e3
   clear e2
   obtain ⟨x, hx⟩ : ∃ x, l[n]? = some x := ⟨_, List.getElem?_eq_getElem hlt⟩
   have hxi := HI.out x (List.mem_of_getElem? hx)
   have LE := Lib.hid ((ItAt.elem H.out hx (hxi)).below hbel hb).all
   have hn0 : (0 : Int) ≤ (n : Int) := by omega
   have hn1 : (n : Int) < (l.length : Int) := by omega
   have PX := P1.out x (List.mem_of_getElem? hx) wr hbel
   have HBL := Lib.hid hbel
   have Hlt := Lib.hid hlt
   clear hb hlt hn hbel hxi
   by_cases hr : Pck.OkKnown x
   ·rw [decide_eq_true hr] at PX
    have hnext : Hid (∀ x ∈ l.take (n + 1), Pck.OkKnown x) := Lib.hid (by
     obtain ⟨h1, e1⟩ := List.getElem?_eq_some_iff.1 hx
     intro y hy
     rw [List.take_succ_eq_append_getElem h1, e1] at hy
     rcases List.mem_append.1 hy with hy | hy
     ·exact hall.out y hy
     ·rw [List.mem_singleton.1 hy]; exact hr)
    replace PX := Lib.hid PX
    clear hx hr hall
    go_wp2_with (refine wpList_mload (by rfl) _ (by rfl) (by rfl) LE.out ?_)
    refine (PX.out).mono ?_
    rintro e w1 ⟨rfl, hb1⟩
    have HB1 := Lib.hid (HBL.out.trans (hb1.mono HBL.out.size))
    clear hb1
    go_wp2_with fail
    go_roundw
    case rel => exact ⟨n + 1, by have := Hlt.out; omega, by go_num, hnext, HB1.out⟩
    case measure => (have := Hlt.out; simp [intOf]; omega)
   ·rw [decide_eq_false hr] at PX
    have hno : Hid (¬ ∀ x ∈ l, Pck.OkKnown x) := Lib.hid (fun h => hr (h x (List.mem_of_getElem? hx)))
    replace PX := Lib.hid PX
    clear hx hr hall
    go_wp2_with (refine wpList_mload (by rfl) _ (by rfl) (by rfl) LE.out ?_)
    refine (PX.out).mono ?_
    rintro e w1 ⟨rfl, hb1⟩
    have HB1 := Lib.hid (HBL.out.trans (hb1.mono HBL.out.size))
    clear hb1
    go_wp2_with fail
    go_ret
    exact ⟨⟨_, rfl, by rw [decide_eq_false hno.out]; simp⟩, HB1.out⟩
  ·obtain rfl : n = l.length := by omega
   have hyes : Hid (∀ x ∈ l, Pck.OkKnown x) := Lib.hid (by have := hall.out; rwa [List.take_length] at this)
   have HBL := Lib.hid hbel
   clear hall hbel
   go_wp2_with fail
   go_ret
   exact ⟨⟨_, rfl, by rw [decide_eq_true hyes.out]; rfl⟩, HBL.out⟩
theorem pck_all_known (V : VecOk) (VS : VersOk) {w : World} {F : Nat → Prop} {v : Value} {l : List (Know.It)} (h : Rws 67 itV w F v l) (hi : ∀ x ∈ l, x.v.length = 65) (hl : l.length ≤ 1000000) (hb : ∀ x ∈ l, Pck.BdIt x) :
  Calls Tryz.prog 171 #[v, .func (.func 172) #[] #[]] w fun e w' => e = .returned (.bool (decide (∀ x ∈ l, Pck.OkKnown x))) ∧ Below w.heap.size w w' := by
 have HB0 := Lib.hid ((Below.refl w.heap.size w).alloc (Nat.le_refl _) (.cells #[.func (.func 172) #[] #[]] 139))
 have RB := Row.made w 139 #[.func (.func 172) #[] #[]]
 have IX : Hid (Calls Tryz.prog 101 #[v, .func (.func 272) #[] #[.pointer (some ⟨w.heap.size, 0, none⟩)]] (w.alloc (.cells #[.func (.func 172) #[] #[]] 139)) fun e w' => e = .returned (.bool (!decide (∀ x ∈ l, Pck.OkKnown x))) ∧ Below (w.alloc (.cells #[.func (.func 172) #[] #[]] 139)).heap.size (w.alloc (.cells #[.func (.func 172) #[] #[]] 139)) w') := Lib.hid (by
  have IX0 := pck_idx_known V VS (Rws.below h ((Below.refl _ _).alloc (Nat.le_refl _) (.cells #[.func (.func 172) #[] #[]] 139))) (fun x hx => hi x hx) hl hb (RB.at 0) RB.inHeap
  generalize (!decide (∀ x ∈ l, Pck.OkKnown x)) = t at *
  replace IX0 := Lib.hid IX0
  obtain ⟨A, cap, rfl, hcap⟩ := h.parts
  clear h hb RB HB0 hi
  generalize w.alloc (.cells #[.func (.func 172) #[] #[]] 139) = W at *
  generalize w.heap.size = q at *
  go_enter Tryz.func101, Tryz.ntmps101
  go_wp2_with fail
  refine (IX0.out).mono ?_
  rintro e w1 ⟨⟨k, rfl, hk⟩, hb1⟩
  have HK := Lib.hid hk
  have HB1 := Lib.hid hb1
  clear hb1
  go_wp2_with fail
  go_ret
  exact ⟨by rw [← HK.out]; rfl, HB1.out⟩)
 generalize decide (∀ x ∈ l, Pck.OkKnown x) = t at *
 clear h hb RB hi
 go_enter Tryz.func171, Tryz.ntmps171
 go_wp2_with fail
 refine IX.out.mono ?_
 rintro e w1 ⟨rfl, hb1⟩
 have HB1 := Lib.hid (HB0.out.trans (hb1.mono HB0.out.size))
 clear hb1
 go_wp2_with fail
 go_ret
 exact ⟨by first | rfl | rw [Bool.not_not], HB1.out⟩
theorem pck_validKnow (V : VecOk) (VS : VersOk) (S : IsetOk) (FO : FilterOk) {w : World} {F : Nat → Prop} {v : Value} {k : Know.K} (h : Kns w F v k) (hb : Pck.BdK k) :
  Calls Tryz.prog 85 #[v] w fun e w' => e = .returned (.bool (decide (Pck.OkKnow k))) ∧ Below w.heap.size w w' := by
 obtain ⟨a, b, rfl, ⟨rs, hrx, hf, hfi⟩, hi, hil⟩ := h
 have hll : rs.length = k.frags.length := by have h1 := congrArg List.length hrx; rwa [List.length_map] at h1
 have AF := Lib.hid (fun (W : World) (h : Below w.heap.size w W) => pck_all_frag V VS S FO (Rws.below hf h) (fun x hx => (hfi x hx).below h) (by have := hb.fl; omega) (fun x hx => hb.fb x.x (by rw [← hrx]; exact List.mem_map_of_mem hx)))
 have AI := Lib.hid (fun (W : World) (h : Below w.heap.size w W) => pck_all_known V VS (Rws.below hi h) hil (by have := hb.il; omega) hb.ib)
 have e1 : decide (∀ x ∈ rs, Pck.OkFrag x.x) = decide (∀ x ∈ k.frags, Pck.OkFrag x) := by
  rw [decide_eq_decide, ← hrx]
  simp only [List.mem_map, forall_exists_index, and_imp, forall_apply_eq_imp_iff₂]
 rw [e1] at AF
 have hlf : (k.frags.length : Int) ≤ 100000 := by have := hb.fl; omega
 have hli : (k.items.length : Int) ≤ 100000 := by have := hb.il; omega
 have e : decide (Pck.OkKnow k) = (decide ((k.frags.length : Int) ≤ 64) && (decide (∀ x ∈ k.frags, Pck.OkFrag x) && (decide ((k.items.length : Int) ≤ 4096) && decide (∀ i ∈ k.items, Pck.OkKnown i)))) := by
  rw [Bool.eq_iff_iff]
  simp only [Bool.and_eq_true, decide_eq_true_iff]
  exact ⟨fun h => ⟨by have := h.1; omega, h.2.1, by have := h.2.2.1; omega, h.2.2.2⟩, fun h => ⟨by have := h.1; omega, h.2.1, by have := h.2.2.1; omega, h.2.2.2⟩⟩
 rw [e]
 generalize decide (∀ x ∈ k.frags, Pck.OkFrag x) = t1 at *
 generalize decide (∀ i ∈ k.items, Pck.OkKnown i) = t2 at *
 obtain ⟨A, ca, rfl, -⟩ := hf.parts
 obtain ⟨B, cb, rfl, -⟩ := hi.parts
 rw [hll] at *
 have HB0 := Lib.hid ((Below.refl w.heap.size w).alloc (Nat.le_refl _) (.cells #[.slice A k.frags.length ca, .slice B k.items.length cb] 28))
 have R0 := Lib.hid (Row.made w 28 #[.slice A k.frags.length ca, .slice B k.items.length cb])
 clear hf hfi hi hil hb hrx hll e1 e
 generalize k.frags.length = n1 at *
 generalize k.items.length = n2 at *
 by_cases h64 : (n1 : Int) ≤ 64
 ·rw [decide_eq_true h64]
  by_cases h96 : (n2 : Int) ≤ 4096
  ·rw [decide_eq_true h96]
   go_enter Tryz.func85, Tryz.ntmps85
   go_wp2_with fail
   refine (AF.out _ HB0.out).mono ?_
   rintro e w1 ⟨rfl, h1⟩
   have R1 := Lib.hid (R0.out.below h1 R0.out.inHeap)
   have B1 := Lib.hid (HB0.out.trans (h1.mono HB0.out.size))
   clear h1
   cases t1
   ·go_wp2_with fail
    go_ret
    exact ⟨rfl, B1.out⟩
   ·have c1 := R1.out.at 1
    simp only [List.getElem?_toArray, List.getElem?_cons_zero, List.getElem?_cons_succ] at c1
    go_wp2_with fail
    refine (AI.out _ B1.out).mono ?_
    rintro e w2 ⟨rfl, h2⟩
    have B2 := Lib.hid (B1.out.trans (h2.mono B1.out.size))
    clear h2
    go_wp2_with fail
    go_ret
    exact ⟨rfl, B2.out⟩
  ·rw [decide_eq_false h96]
   go_enter Tryz.func85, Tryz.ntmps85
   go_wp2_with fail
   refine (AF.out _ HB0.out).mono ?_
   rintro e w1 ⟨rfl, h1⟩
   have R1 := Lib.hid (R0.out.below h1 R0.out.inHeap)
   have B1 := Lib.hid (HB0.out.trans (h1.mono HB0.out.size))
   clear h1
   cases t1
   ·go_wp2_with fail
    go_ret
    exact ⟨rfl, B1.out⟩
   ·have c1 := R1.out.at 1
    simp only [List.getElem?_toArray, List.getElem?_cons_zero, List.getElem?_cons_succ] at c1
    go_wp2_with fail
    go_ret
    exact ⟨rfl, B1.out⟩
 ·rw [decide_eq_false h64]
  go_enter Tryz.func85, Tryz.ntmps85
  go_wp2_with fail
  go_ret
  exact ⟨rfl, HB0.out⟩
open Go.RowKit Go.Sort
theorem fr_places (parts : List (Nat × Value)) : Tryz.prog.built 91 parts = Instr.fill (#[(0, 1), (1, 65), (66, 1)][·]?) (rfV frZ).toArray parts := by kernel_rfl
theorem fr_built (A B : Option Addr) (n c m d : Nat) (f : List Flt.Cl) {v : List Int} (no : List Ver.V) (hv : v.length = 65) : Tryz.prog.built 91 [(0, .slice A n c), (1, .agg (vecL v).toArray), (2, .slice B m d)] = some (rfV ⟨.slice A n c, .slice B m d, ⟨f, v, no⟩⟩).toArray := by
 rw [fr_places]
 have hs : (rfV frZ).toArray.size = 67 := frZ_size
 have hvl : (vecL v).length = 65 := by rw [vecL_len, hv]
 have e1 : (Value.slice A n c).cells = #[.slice A n c] := rfl
 have e2 : (Value.agg (vecL v).toArray).cells = (vecL v).toArray := rfl
 have e3 : (Value.slice B m d).cells = #[.slice B m d] := rfl
 obtain ⟨p1, p2⟩ := Great.foldl_set 0 [.slice A n c] 0 (rfV frZ).toArray
 generalize hc1 : (([.slice A n c] : List Value).zipIdx 0).foldl (fun cs (x : Value × Nat) => cs.setIfInBounds (0 + x.2) x.1) (rfV frZ).toArray = c1 at *
 obtain ⟨q1, q2⟩ := Great.foldl_set 1 (vecL v) 0 c1
 generalize hc2 : ((vecL v).zipIdx 0).foldl (fun cs (x : Value × Nat) => cs.setIfInBounds (1 + x.2) x.1) c1 = c2 at *
 obtain ⟨r1, r2⟩ := Great.foldl_set 66 [.slice B m d] 0 c2
 have hfill : Instr.fill (#[(0, 1), (1, 65), (66, 1)][·]?) (rfV frZ).toArray [(0, .slice A n c), (1, .agg (vecL v).toArray), (2, .slice B m d)] = some ((([.slice B m d] : List Value).zipIdx 0).foldl (fun cs (x : Value × Nat) => cs.setIfInBounds (66 + x.2) x.1) c2) := by
  have s1 : ((#[Value.slice A n c] : Array Value).zipIdx).foldl (fun cs (x : Value × Nat) => cs.setIfInBounds (0 + x.2) x.1) (rfV frZ).toArray = c1 := by
   rw [← hc1]; simp
  have s2 : ((vecL v).toArray.zipIdx).foldl (fun cs (x : Value × Nat) => cs.setIfInBounds (1 + x.2) x.1) c1 = c2 := by
   rw [← hc2, Array.zipIdx_toArray, List.foldl_toArray']
   simp
  have s3 : ((#[Value.slice B m d] : Array Value).zipIdx).foldl (fun cs (x : Value × Nat) => cs.setIfInBounds (66 + x.2) x.1) c2 = (([.slice B m d] : List Value).zipIdx 0).foldl (fun cs (x : Value × Nat) => cs.setIfInBounds (66 + x.2) x.1) c2 := by
   simp
  unfold Instr.fill
  simp only [List.getElem?_toArray, List.getElem?_cons_zero, e1]
  rw [s1]
  rw [if_neg (by rw [hs]; simp)]
  unfold Instr.fill
  simp only [List.getElem?_toArray, List.getElem?_cons_succ, List.getElem?_cons_zero, e2, List.size_toArray]
  rw [s2]
  rw [if_neg (by rw [p1, hs, hvl]; simp)]
  unfold Instr.fill
  simp only [List.getElem?_toArray, List.getElem?_cons_succ, List.getElem?_cons_zero, e3]
  rw [s3]
  rw [if_neg (by rw [q1, p1, hs]; simp)]
  unfold Instr.fill
  rfl
 rw [hfill]
 congr 1
 apply Array.ext_getElem?
 intro k
 have hr : (rfV ⟨.slice A n c, .slice B m d, ⟨f, v, no⟩⟩).toArray[k]? = (Value.slice A n c :: (vecL v ++ [Value.slice B m d]))[k]? := by rw [List.getElem?_toArray]; rfl
 rw [r2 k, q1, p1, hs, hr]
 rcases k with _ | k
 ·rw [if_neg (by omega), q2 0, if_neg (by omega), p2 0, hs, if_pos (by simp)]
  rfl
 ·rw [List.getElem?_cons_succ]
  by_cases h : k < 65
  ·rw [if_neg (by omega), q2 (k + 1), p1, hs, if_pos (by rw [hvl]; omega), List.getElem?_append_left (by rw [hvl]; omega)]
   rw [show k + 1 - (1 + 0) = k by omega]
  ·rw [List.getElem?_append_right (by omega), hvl]
   by_cases h65 : k = 65
   ·subst h65
    rw [if_pos (by simp)]
    try rfl
   ·rw [if_neg (by simp; omega), q2 (k + 1), p1, hs, if_neg (by rw [hvl]; omega), p2 (k + 1), hs, if_neg (by simp), List.getElem?_toArray, List.getElem?_eq_none (by rw [rf_len Vec.zeros_len]; omega), List.getElem?_eq_none (by simp; omega)]
theorem exec_frbuild {ff : Operand → Value} {op : Oper} {x y z : Operand} (ho : op.op = .build 91 #[(0, x), (1, y), (2, z)]) {A B : Option Addr} {n c m d : Nat} (f : List Flt.Cl) {v : List Int} (no : List Ver.V) (hx : ff x = .slice A n c) (hy : ff y = .agg (vecL v).toArray) (hz : ff z = .slice B m d) (hv : v.length = 65) (w : World) :
  (execOp ff op).run Tryz.prog w = .ok (.value (.agg (rfV ⟨.slice A n c, .slice B m d, ⟨f, v, no⟩⟩).toArray)) w := by
 have hb := run_build w 91 #[(0, .slice A n c), (1, .agg (vecL v).toArray), (2, .slice B m d)] _ (fr_built A B n c m d f no hv)
 have e : (#[(0, x), (1, y), (2, z)].map fun (i, x) => (i, ff x)) = #[(0, .slice A n c), (1, .agg (vecL v).toArray), (2, .slice B m d)] := by simp [hx, hy, hz]
 unfold execOp
 simp only [ho, e, Sem.run_bind, hb, Result.andThen_ok]
 rfl
theorem wpList_frbuild {ops : Array Oper} {rest : List Oper} {o : Oper} {a : Act} {w : World} {Q : Exit → Act → World → Prop} (hg : o.guard = none) (x y z : Operand) (ho : o.op = .build 91 #[(0, x), (1, y), (2, z)]) {A B : Option Addr} {n c m d : Nat} (f : List Flt.Cl) {v : List Int} (no : List Ver.V) (hx : a.eval x = .slice A n c) (hy : a.eval y = .agg (vecL v).toArray) (hz : a.eval z = .slice B m d) (hv : v.length = 65)
  (h : wpList Tryz.prog ops Q rest (a.put o.dst (.agg (rfV ⟨.slice A n c, .slice B m d, ⟨f, v, no⟩⟩).toArray)) w) : wpList Tryz.prog ops Q (o :: rest) a w := by
 have hb := fr_built A B n c m d f no hv
 have e : (#[(0, x), (1, y), (2, z)].map fun (i, x) => (i, a.eval x)).toList = [(0, .slice A n c), (1, .agg (vecL v).toArray), (2, .slice B m d)] := by simp [hx, hy, hz]
 refine wpList_build hg 91 _ ho (by rw [e, hb]; rfl) ?_
 rw [e, hb]
 exact h
open Go.RowKit
theorem it_places (parts : List (Nat × Value)) : Tryz.prog.built 127 parts = Instr.fill (#[(0, 2), (2, 65)][·]?) (itV itZ).toArray parts := by kernel_rfl
theorem it_built (x : Ver.V) {v : List Int} (hv : v.length = 65) : Tryz.prog.built 127 [(0, verA x), (1, .agg (vecL v).toArray)] = some (itV ⟨x, v⟩).toArray := by
 rw [it_places]
 have hs : (itV itZ).toArray.size = 67 := itZ_size
 have hvl : (vecL v).length = 65 := by rw [vecL_len, hv]
 obtain ⟨p1, p2⟩ := Great.foldl_set 0 (verV x) 0 (itV itZ).toArray
 generalize hc1 : ((verV x).zipIdx 0).foldl (fun cs (x : Value × Nat) => cs.setIfInBounds (0 + x.2) x.1) (itV itZ).toArray = c1 at *
 obtain ⟨q1, q2⟩ := Great.foldl_set 2 (vecL v) 0 c1
 have e1 : (verA x).cells = (verV x).toArray := rfl
 have e2 : (Value.agg (vecL v).toArray).cells = (vecL v).toArray := rfl
 have hfill : Instr.fill (#[(0, 2), (2, 65)][·]?) (itV itZ).toArray [(0, verA x), (1, .agg (vecL v).toArray)] = some (((vecL v).zipIdx 0).foldl (fun cs (x : Value × Nat) => cs.setIfInBounds (2 + x.2) x.1) c1) := by
  have s1 : ((verV x).toArray.zipIdx).foldl (fun cs (x : Value × Nat) => cs.setIfInBounds (0 + x.2) x.1) (itV itZ).toArray = c1 := by
   rw [← hc1, Array.zipIdx_toArray, List.foldl_toArray']
   simp
  have s2 : ((vecL v).toArray.zipIdx).foldl (fun cs (x : Value × Nat) => cs.setIfInBounds (2 + x.2) x.1) c1 = ((vecL v).zipIdx 0).foldl (fun cs (x : Value × Nat) => cs.setIfInBounds (2 + x.2) x.1) c1 := by
   rw [Array.zipIdx_toArray, List.foldl_toArray']
   simp
  unfold Instr.fill
  simp only [List.getElem?_toArray, List.getElem?_cons_zero, e1, List.size_toArray]
  rw [if_neg (by rw [it_len Vec.zeros_len]; simp [verV])]
  unfold Instr.fill
  simp only [List.getElem?_toArray, List.getElem?_cons_succ, List.getElem?_cons_zero, e2, List.size_toArray]
  rw [s1]
  rw [if_neg (by rw [p1, hs, hvl]; simp)]
  unfold Instr.fill
  rw [s2]
 rw [hfill]
 congr 1
 apply Array.ext_getElem?
 intro k
 have hr : (itV ⟨x, v⟩).toArray[k]? = (verV x ++ vecL v)[k]? := by rw [List.getElem?_toArray]; rfl
 rw [q2 k, p1, hs, hr]
 by_cases h : k < 2
 ·rw [if_neg (by omega), p2 k, hs, if_pos (by show 0 + 0 ≤ k ∧ k < 0 + 0 + 2 ∧ k < 67; omega), List.getElem?_append_left (by exact h)]
  simp
 ·by_cases h67 : k < 67
  ·rw [if_pos (by rw [hvl]; omega), List.getElem?_append_right (by show 2 ≤ k; omega)]
   rfl
  ·rw [if_neg (by omega), p2 k, hs, if_neg (by omega), List.getElem?_toArray, List.getElem?_eq_none (by rw [it_len Vec.zeros_len]; omega), List.getElem?_eq_none (by rw [List.length_append, hvl]; show 2 + 65 ≤ k; omega)]
theorem wpList_itbuild {ops : Array Oper} {rest : List Oper} {o : Oper} {a : Act} {w : World} {Q : Exit → Act → World → Prop} (hg : o.guard = none) (x y : Operand) (ho : o.op = .build 127 #[(0, x), (1, y)]) {i : Ver.V} {v : List Int} (hx : a.eval x = verA i) (hy : a.eval y = .agg (vecL v).toArray) (hv : v.length = 65)
  (h : wpList Tryz.prog ops Q rest (a.put o.dst (.agg (itV ⟨i, v⟩).toArray)) w) : wpList Tryz.prog ops Q (o :: rest) a w := by
 have hb := it_built i hv
 have e : (#[(0, x), (1, y)].map fun (i, x) => (i, a.eval x)).toList = [(0, verA i), (1, .agg (vecL v).toArray)] := by simp [hx, hy]
 refine wpList_build hg 127 _ ho (by rw [e, hb]; rfl) ?_
 rw [e, hb]
 exact h
end Go.Proofs.YtpafpegcodempaaGreat
