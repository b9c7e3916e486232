import Derived.Test.YtgpeobmaneponaaCom15
import Derived.Test.YtgpeobmaneponaaCom13
import Derived.Test.YtgpeobmaneponaaCom5
import Derived.Test.YtgpeobmaneponaaCom4
import Derived.Test.YtgpeobmaneponaaCom14
import Derived.Shelf.SlicesQ.Equal
import Derived.Shelf.SlicesQ.IndexFunc
import Derived.Laws.StructEq
import Derived.Sort.Walk0
import Derived.Shelf.SlSortCmp.NoneTotal
import Derived.Shelf.Slices.In.SortNone
import Derived.Sort.OwnSorted
import Derived.Great.Walk
import Derived.WalkMore
import Derived.BigQuiet
import Derived.Shelf.Spec.SlicesGrow
set_option maxRecDepth 100000
set_option linter.unusedVariables false
set_option linter.unusedSimpArgs false
set_option maxHeartbeats 12800000
namespace Go.Proofs.Ytgpeobmaneponaa
open Go.RowKit Go.Shelf Go.Lib
theorem hit_holds (p : List UInt8) (s : Int) (d : Bool) (c : Flt.Cl) : Flt.hit p s d c = (decide (Pth.Covers c.pre p) && (d || Sz.holds [(c.lo, c.hi)] s)) := by
 unfold Flt.hit
 congr 2
 rw [Sz.holds_cons, Sz.holds_nil, Bool.or_false, Bool.eq_iff_iff]
 simp only [Bool.and_eq_true, decide_eq_true_eq]
 constructor
 ·rintro ⟨a, b, c, d⟩; exact ⟨⟨a, b⟩, c, d⟩
 ·rintro ⟨⟨a, b⟩, c, d⟩; exact ⟨a, b, c, d⟩
theorem flt_pred (Z : SizesOk) (p : List UInt8) (s : Int) (d : Bool) (hp : p.length ≤ 100000) (s0 : -9223372036854775808 ≤ s) (s1 : s ≤ 9223372036854775807) (B : Nat) (w : World) (hB : B < w.heap.size) (h0 : w.cell? ⟨B, 0, none⟩ = some (.string (mk p))) (h1 : w.cell? ⟨B, 1, none⟩ = some (.int .i64 s)) (h2 : w.cell? ⟨B, 2, none⟩ = some (.bool d))
  (W : World) (x : Flt.Cl) (hx : Flt.Bd x) (hb : Below w.heap.size w W) :
  Calls Try.prog 50 #[.agg #[.string (mk x.pre), .int .i64 x.lo, .int .i64 x.hi], .pointer (some ⟨B, 0, none⟩)] W fun e w' => e = .returned (.bool (Flt.hit p s d x)) ∧ Below W.heap.size W w' := by
 have CX : Hid (∀ A, Below W.heap.size W A → A.cell? ⟨B, 0, none⟩ = some (.string (mk p)) ∧ A.cell? ⟨B, 1, none⟩ = some (.int .i64 s) ∧ A.cell? ⟨B, 2, none⟩ = some (.bool d)) := Lib.hid (fun A hA => by
  have hk := hb.trans (hA.mono hb.size)
  exact ⟨(hk.cell (p := ⟨B, 0, none⟩) hB).trans h0, (hk.cell (p := ⟨B, 1, none⟩) hB).trans h1, (hk.cell (p := ⟨B, 2, none⟩) hB).trans h2⟩)
 have hBW : B < W.heap.size := Nat.lt_of_lt_of_le hB hb.size
 obtain ⟨xp, lo, hi⟩ := x
 have CV := Lib.hid (fun (A : World) => path_ok.covers xp p A hx.1 hp)
 have HO : Hid (∀ (P : Nat → Prop) (A : World) (y : Value), Rgs A P y [(lo, hi)] → Calls Try.prog 52 #[y, .int .i64 s] A fun e w' => e = .returned (.bool (Sz.holds [(lo, hi)] s)) ∧ Below A.heap.size A w') := Lib.hid (fun P A y hy => Z.holds s hy (by simp) (fun r hr => by rw [List.mem_singleton.1 hr]; exact hx.2) s0 s1)
 have hh := Lib.hid (hit_holds p s d ⟨xp, lo, hi⟩)
 have hba : Below W.heap.size W (W.alloc (.cells #[.string (mk xp), .int .i64 lo, .int .i64 hi] 65)) := (Below.refl _ _).alloc (Nat.le_refl _) _
 have HA := Lib.hid hba
 have Hbx := Lib.hid (Row.made W 65 #[.string (mk xp), .int .i64 lo, .int .i64 hi])
 have Hz : Hid (W.heap.size < (W.alloc (.cells #[.string (mk xp), .int .i64 lo, .int .i64 hi] 65)).heap.size) := Lib.hid (by simp)
 obtain ⟨q0, q1, q2⟩ := CX.out _ hba
 clear hb h0 h1 h2 hx hB hba
 simp only
 cases hcv : decide (Pth.Covers xp p)
 ·have hr : Hid (Flt.hit p s d ⟨xp, lo, hi⟩ = false) := Lib.hid (by rw [hh.out]; simp only; rw [hcv]; rfl)
  rw [hcv] at CV
  clear hcv hh
  generalize Flt.hit p s d ⟨xp, lo, hi⟩ = D at *
  generalize mk xp = xs at *
  generalize mk p = ps at *
  go_enter Try.func50, Try.ntmps50
  go_wp2_with fail
  refine (CV.out _).mono ?_
  rintro e w1 ⟨rfl, hb1⟩
  have HB1 := Lib.hid (HA.out.trans (hb1.mono HA.out.size))
  clear hb1
  go_wp2_with fail
  go_ret
  exact ⟨by rw [hr.out]; rfl, HB1.out⟩
 ·rw [hcv] at CV
  cases d
  ·have hr : Hid (Flt.hit p s false ⟨xp, lo, hi⟩ = Sz.holds [(lo, hi)] s) := Lib.hid (by rw [hh.out]; simp only; rw [hcv]; rfl)
   clear hcv hh
   generalize Flt.hit p s false ⟨xp, lo, hi⟩ = D at *
   generalize Sz.holds [(lo, hi)] s = E at *
   generalize mk xp = xs at *
   generalize mk p = ps at *
   go_enter Try.func50, Try.ntmps50
   go_wp2_with fail
   refine (CV.out _).mono ?_
   rintro e w1 ⟨rfl, hb1⟩
   have HB1 := Lib.hid (HA.out.trans (hb1.mono HA.out.size))
   have d1 : w1.cell? ⟨W.heap.size, 1, none⟩ = some (.int .i64 lo) := (hb1.cell (p := ⟨W.heap.size, 1, none⟩) Hz.out).trans (Hbx.out.at 1)
   have d2 : w1.cell? ⟨W.heap.size, 2, none⟩ = some (.int .i64 hi) := (hb1.cell (p := ⟨W.heap.size, 2, none⟩) Hz.out).trans (Hbx.out.at 2)
   clear q0 q1 q2 hb1
   obtain ⟨q0, q1, q2⟩ := CX.out _ HB1.out
   have HM := Lib.hid (rg_made w1 63 lo hi)
   have hb2 : Below w1.heap.size w1 (w1.alloc (.cells #[.int .i64 lo, .int .i64 hi] 63)) := (Below.refl _ _).alloc (Nat.le_refl _) _
   have HB2 := Lib.hid (HB1.out.trans (hb2.mono HB1.out.size))
   obtain ⟨-, q1', -⟩ := CX.out _ HB2.out
   clear hb2
   go_wp2_with fail
   refine (HO.out _ _ _ HM.out).mono ?_
   rintro e w3 ⟨rfl, hb3⟩
   have HB3 := Lib.hid (HB2.out.trans (hb3.mono HB2.out.size))
   clear hb3
   go_wp2_with fail
   go_ret
   exact ⟨by rw [hr.out]; rfl, HB3.out⟩
  ·have hr : Hid (Flt.hit p s true ⟨xp, lo, hi⟩ = true) := Lib.hid (by rw [hh.out]; simp only; rw [hcv]; rfl)
   clear hcv hh
   generalize Flt.hit p s true ⟨xp, lo, hi⟩ = D at *
   generalize mk xp = xs at *
   generalize mk p = ps at *
   go_enter Try.func50, Try.ntmps50
   go_wp2_with fail
   refine (CV.out _).mono ?_
   rintro e w1 ⟨rfl, hb1⟩
   have HB1 := Lib.hid (HA.out.trans (hb1.mono HA.out.size))
   clear q0 q1 q2 hb1
   obtain ⟨q0, q1, q2⟩ := CX.out _ HB1.out
   go_wp2_with fail
   go_ret
   exact ⟨by rw [hr.out]; rfl, HB1.out⟩
instance : Inhabited Flt.Cl := ⟨⟨[], 0, 0⟩⟩
theorem cidx_none (A : Option Addr) (c : Nat) (fv : Value) (w : World) :
  Calls Try.prog 58 #[.slice A 0 c, fv] w fun e w' => e = .returned (.int .i64 (-1)) ∧ w' = w := by
 go_enter Try.func58, Try.ntmps58
 go_wp2_with fail
 refine wp_loop_rounds 1 ?_
 rw [rounds_succ]
 go_wp2_with fail
 go_ret
 exact ⟨rfl, rfl⟩
theorem chas_none (A : Option Addr) (c : Nat) (fv : Value) (w : World) :
  Calls Try.prog 49 #[.slice A 0 c, fv] w fun e w' => e = .returned (.bool false) ∧ w' = w := by
 go_enter Try.func49, Try.ntmps49
 go_wp2_with (go_at_call 58; refine (cidx_none _ _ _ _).mono ?_; rintro e w' ⟨rfl, rfl⟩)
 go_ret
 exact ⟨rfl, rfl⟩
abbrev BCl := { c : Flt.Cl // Flt.Bd c }
def bclV (c : BCl) : List Value := clV c.1
instance : Inhabited BCl := ⟨⟨⟨[], 0, 0⟩, ⟨by simp, by unfold Go.Proofs.Ytgpeobmaneponaa.Bd Flt.rg; simp⟩⟩⟩
theorem chas_any (Z : SizesOk) {w : World} {F : Nat → Prop} {v : Value} {f : List Flt.Cl} (h : Cls w F v f) (hl : f.length ≤ 100000) (bf : ∀ c ∈ f, Flt.Bd c) (p : List UInt8) (s : Int) (d : Bool) (hp : p.length ≤ 100000) (s0 : -9223372036854775808 ≤ s) (s1 : s ≤ 9223372036854775807) (B : Nat) (hB : B < w.heap.size) (h0 : w.cell? ⟨B, 0, none⟩ = some (.string (mk p))) (h1 : w.cell? ⟨B, 1, none⟩ = some (.int .i64 s)) (h2 : w.cell? ⟨B, 2, none⟩ = some (.bool d)) :
  Calls Try.prog 49 #[v, .func (.func 50) #[] #[.pointer (some ⟨B, 0, none⟩)]] w fun e w' => e = .returned (.bool (Flt.hits f p s d)) ∧ Below w.heap.size w w' := by
 by_cases hlen : 0 < f.length
 ·obtain ⟨A, cap, rfl, hc, hat⟩ := h
  obtain ⟨b, o, rfl, -, hb, hcl⟩ := hat hlen
  have eg : ∀ args w, (callFunc 50 args).run Try.prog w = .ok (.enter 50 args) w := enters_of Try.func50 (by kernel_rfl) rfl
  -- the same list, each with its bounds
  have hat : ∀ (l : List Flt.Cl) (hl : ∀ c ∈ l, Flt.Bd c), ((l.attachWith Flt.Bd hl).map (·.1)) = l := fun l hl => List.attachWith_map_subtype_val hl
  obtain ⟨g, hg⟩ : ∃ g : List BCl, g.map (·.1) = f := ⟨f.attachWith Flt.Bd bf, hat f bf⟩
  have hgl : g.length = f.length := by rw [← hg, List.length_map]
  have hcon := AnyQ.slices_ContainsFunc Try.hasCl 3 Try.isAgg65 Try.sizeOf65 bclV (fun c => rfl) (fun c : BCl => Flt.hit p s d c.1) 50 #[.pointer (some ⟨B, 0, none⟩)] eg b o f.length cap g w
   (fun W x hb => (flt_pred Z p s d hp s0 s1 B w hB h0 h1 h2 W x.1 x.2 hb).mono (fun e w' h => ⟨h.1, hb.trans (h.2.mono hb.size)⟩)) (by omega) (by omega) hb
   (fun j hj i u hi => hcl j (g[j]!).1 (by rw [← hg, List.getElem?_map, List.getElem?_eq_getElem hj, getElem!_pos g j hj]; rfl) i u hi)
  rw [← hgl, List.take_length] at hcon
  have hany : g.any (fun c : BCl => Flt.hit p s d c.1) = Flt.hits f p s d := by
   unfold Flt.hits
   rw [← hg, List.any_map]
   rfl
  rw [hany, hgl] at hcon
  exact hcon
 ·have hl0 : f = [] := List.eq_nil_of_length_eq_zero (by omega)
  subst hl0
  obtain ⟨A, cap, rfl, -, -⟩ := h
  exact (chas_none A cap _ w).mono (fun e w' h => ⟨h.1, by rw [h.2]; exact Below.refl _ _⟩)
theorem flt_match (Z : SizesOk) {w : World} {F : Nat → Prop} {v : Value} {f : List Flt.Cl} (p : List UInt8) (s : Int) (d : Bool) (h : Cls w F v f) (hl : f.length ≤ 100000) (bf : ∀ c ∈ f, Flt.Bd c) (hp : p.length ≤ 100000) (s0 : -9223372036854775808 ≤ s) (s1 : s ≤ 9223372036854775807) :
  Calls Try.prog 36 #[v, fileV p s d] w fun e w' => e = .returned (.bool (Flt.hits f p s d)) ∧ Below w.heap.size w w' := by
 have hb0 : Below w.heap.size w (w.alloc (.cells #[.string (mk p), .int .i64 s, .bool d] 34)) := (Below.refl _ _).alloc (Nat.le_refl _) _
 have hx := Row.made w 34 #[.string (mk p), .int .i64 s, .bool d]
 have hC := Lib.hid (chas_any Z (h.below hb0) hl bf p s d hp s0 s1 w.heap.size (by simp) (hx.at 0) (hx.at 1) (hx.at 2))
 have Hb0 := Lib.hid hb0
 unfold fileV
 clear h hb0 hx bf
 generalize Flt.hits f p s d = R at *
 generalize mk p = ps at *
 go_enter Try.func36, Try.ntmps36
 go_wp2_with (go_at_call 49; refine (hC.out).mono ?_; rintro e w1 ⟨rfl, hb1⟩)
 go_ret
 exact ⟨rfl, Hb0.out.trans (hb1.mono Hb0.out.size)⟩
end Go.Proofs.Ytgpeobmaneponaa
namespace Go.Proofs.Ytgpeobmaneponaa
open Go.RowKit
def txV (t : List UInt8) : List Value := [.string (mk t)]
abbrev Txs (w : World) (F : Nat → Prop) (v : Value) (l : List (List UInt8)) : Prop := Rws 1 txV w F v l
theorem Txs.cells {w : World} {F : Nat → Prop} {v : Value} {l : List (List UInt8)} (h : Txs w F v l) : Cells w F v (texts l) := by
 obtain ⟨A, c, rfl, hc, hat⟩ := h
 refine ⟨A, c, by rw [texts_len], by rw [texts_len]; exact hc, fun hp => ?_⟩
 rw [texts_len] at hp
 obtain ⟨b, o, rfl, h1, h2, h3⟩ := hat hp
 refine ⟨b, o, rfl, h1, h2, fun i u hu => ?_⟩
 unfold texts at hu
 rw [List.getElem?_map] at hu
 cases hx : l[i]? with
 | none => rw [hx] at hu; cases hu
 | some x =>
  rw [hx] at hu
  have := h3 i x hx 0 u (by simpa [txV] using hu)
  rw [Nat.mul_one] at this
  exact this
theorem Txs.at {w : World} {F : Nat → Prop} {b o : Nat} {n cap : Nat} {l : List (List UInt8)} (h : Txs w F (.slice (some ⟨b, o, none⟩) n cap) l) {i : Nat} {x : List UInt8} (hx : l[i]? = some x) : w.cell? ⟨b, o + i, none⟩ = some (.string (mk x)) := by
 obtain ⟨A, c, e, -, hat⟩ := h
 injection e with e1 e2 e3
 obtain ⟨b', o', e, -, -, hc⟩ := hat (by obtain ⟨hl, _⟩ := List.getElem?_eq_some_iff.1 hx; omega)
 rw [e] at e1
 injection e1 with e1
 injection e1 with e1 e2
 subst e1 e2
 have := hc i x hx 0 _ rfl
 rwa [Nat.mul_one] at this
end Go.Proofs.Ytgpeobmaneponaa
namespace Go.Proofs.Ytgpeobmaneponaa
open Go.RowKit Go.Shelf Go.Lib Go.Sort
end Go.Proofs.Ytgpeobmaneponaa
namespace Go.Proofs.Ytgpeobmaneponaa
open Go.RowKit
end Go.Proofs.Ytgpeobmaneponaa
namespace Go.Proofs.Ytgpeobmaneponaa
open Go.RowKit
end Go.Proofs.Ytgpeobmaneponaa
namespace Go.Proofs.Ytgpeobmaneponaa
open Go.RowKit
end Go.Proofs.Ytgpeobmaneponaa
namespace Go.Proofs.Ytgpeobmaneponaa
open Go.RowKit Go.Shelf Go.Lib
theorem sz_pred (n : Int) (B : Nat) (w : World) (hB : B < w.heap.size) (hcell : w.cell? ⟨B, 0, none⟩ = some (.int .i64 n)) :
  PredBelow Try.prog 62 #[.pointer (some ⟨B, 0, none⟩)] (fun x : Sz.Rg => .agg (rgV x).toArray) (fun x => decide (x.1 ≤ n ∧ n ≤ x.2)) w := fun W x hb => by
 have hc : W.cell? ⟨B, 0, none⟩ = some (.int .i64 n) := (hb.cell (p := ⟨B, 0, none⟩) hB).trans hcell
 have hBW : B < W.heap.size := Nat.lt_of_lt_of_le hB hb.size
 have hne : B ≠ W.heap.size := by omega
 have Hb := Lib.hid hb
 clear hb hcell hB
 obtain ⟨x1, x2⟩ := x
 show Calls Try.prog 62 #[.agg #[.int .i64 x1, .int .i64 x2], .pointer (some ⟨B, 0, none⟩)] W _
 by_cases h1 : x1 ≤ n
 ·by_cases h2 : n ≤ x2
  ·have d1 : decide (x1 ≤ n) = true := decide_eq_true h1
   have d2 : decide (n ≤ x2) = true := decide_eq_true h2
   have hr : Hid (decide (x1 ≤ n ∧ n ≤ x2) = true) := Lib.hid (decide_eq_true ⟨h1, h2⟩)
   go_enter Try.func62, Try.ntmps62
   go_wp2_with fail
   go_ret
   exact ⟨by first | rfl | (rw [hr.out]; rfl), Hb.out.alloc Hb.out.size _⟩
  ·have d1 : decide (x1 ≤ n) = true := decide_eq_true h1
   have d2 : decide (n ≤ x2) = false := decide_eq_false h2
   have hr : Hid (decide (x1 ≤ n ∧ n ≤ x2) = false) := Lib.hid (decide_eq_false (fun h => h2 h.2))
   go_enter Try.func62, Try.ntmps62
   go_wp2_with fail
   go_ret
   exact ⟨by first | rfl | (rw [hr.out]; rfl), Hb.out.alloc Hb.out.size _⟩
 ·have d1 : decide (x1 ≤ n) = false := decide_eq_false h1
  have hr : Hid (decide (x1 ≤ n ∧ n ≤ x2) = false) := Lib.hid (decide_eq_false (fun h => h1 h.1))
  go_enter Try.func62, Try.ntmps62
  go_wp2_with fail
  go_ret
  exact ⟨by first | rfl | (rw [hr.out]; rfl), Hb.out.alloc Hb.out.size _⟩
theorem idx_none (A : Option Addr) (c : Nat) (fv : Value) (w : World) :
  Calls Try.prog 78 #[.slice A 0 c, fv] w fun e w' => e = .returned (.int .i64 (-1)) ∧ w' = w := by
 go_enter Try.func78, Try.ntmps78
 go_wp2_with fail
 refine wp_loop_rounds 1 ?_
 rw [rounds_succ]
 go_wp2_with fail
 go_ret
 exact ⟨rfl, rfl⟩
theorem has_none (A : Option Addr) (c : Nat) (fv : Value) (w : World) :
  Calls Try.prog 61 #[.slice A 0 c, fv] w fun e w' => e = .returned (.bool false) ∧ w' = w := by
 go_enter Try.func61, Try.ntmps61
 go_wp2_with (go_at_call 78; refine (idx_none _ _ _ _).mono ?_; rintro e w' ⟨rfl, rfl⟩)
 go_ret
 exact ⟨rfl, rfl⟩
theorem has_any {w : World} {F : Nat → Prop} {v : Value} {l : List Sz.Rg} (h : Rgs w F v l) (hl : l.length ≤ 1000000) (n : Int) (B : Nat) (hB : B < w.heap.size) (hcell : w.cell? ⟨B, 0, none⟩ = some (.int .i64 n)) :
  Calls Try.prog 61 #[v, .func (.func 62) #[] #[.pointer (some ⟨B, 0, none⟩)]] w fun e w' => e = .returned (.bool (l.any fun r => decide (r.1 ≤ n ∧ n ≤ r.2))) ∧ Below w.heap.size w w' := by
 by_cases h0 : 0 < l.length
 ·obtain ⟨A, cap, rfl, hc, hat⟩ := h
  obtain ⟨b, o, rfl, -, hb, hcl⟩ := hat h0
  have eg : ∀ args w, (callFunc 62 args).run Try.prog w = .ok (.enter 62 args) w := enters_of Try.func62 (by kernel_rfl) rfl
  have hcon := AnyQ.slices_ContainsFunc Try.hasRg 2 Try.isAgg63 Try.sizeOf63 rgV rg_len (fun r : Sz.Rg => decide (r.1 ≤ n ∧ n ≤ r.2)) 62 #[.pointer (some ⟨B, 0, none⟩)] eg b o l.length cap l w (sz_pred n B w hB hcell) (Nat.le_refl _) (by omega) hb
   (fun j hj i u hi => hcl j _ (by rw [List.getElem?_eq_getElem hj, getElem!_pos l j hj]) i u hi)
  rw [List.take_length] at hcon
  exact hcon
 ·have hl0 : l = [] := List.eq_nil_of_length_eq_zero (by omega)
  subst hl0
  obtain ⟨A, cap, rfl, -, -⟩ := h
  exact (has_none A cap _ w).mono (fun e w' h => ⟨h.1, by rw [h.2]; exact Below.refl _ _⟩)
theorem sz_holds {w : World} {F : Nat → Prop} {v : Value} {l : List Sz.Rg} (h : Rgs w F v l) (hl : l.length ≤ 1000000) (n : Int) :
  Calls Try.prog 52 #[v, .int .i64 n] w fun e w' => e = .returned (.bool (Sz.holds l n)) ∧ Below w.heap.size w w' := by
 have hb0 : Below w.heap.size w (w.alloc (.cells #[.int .i64 n] 3)) := (Below.refl _ _).alloc (Nat.le_refl _) _
 have hC := Lib.hid (has_any (h.below hb0) hl n w.heap.size (by simp) (by simp))
 have Hb0 := Lib.hid hb0
 clear h hb0
 by_cases h0 : n < 0
 ·have hr : Hid (Sz.holds l n = false) := Lib.hid (Sz.holds_out (by omega))
  go_enter Try.func52, Try.ntmps52
  go_wp2_with fail
  go_ret
  exact ⟨by rw [hr.out]; rfl, Hb0.out⟩
 ·by_cases h1 : 200 < n
  ·have hr : Hid (Sz.holds l n = false) := Lib.hid (Sz.holds_out (by omega))
   go_enter Try.func52, Try.ntmps52
   go_wp2_with fail
   go_ret
   exact ⟨by rw [hr.out]; rfl, Hb0.out⟩
  ·have hr : Hid (Sz.holds l n = l.any fun r => decide (r.1 ≤ n ∧ n ≤ r.2)) := Lib.hid (by unfold Sz.holds; rw [decide_eq_true (p := 0 ≤ n ∧ n ≤ 200) (by omega), Bool.true_and])
   generalize (l.any fun r => decide (r.1 ≤ n ∧ n ≤ r.2)) = R at *
   go_enter Try.func52, Try.ntmps52
   go_wp2_with (go_at_call 61; refine (hC.out).mono ?_; rintro e w1 ⟨rfl, hb1⟩)
   go_ret
   exact ⟨by rw [hr.out]; rfl, Hb0.out.trans (hb1.mono Hb0.out.size)⟩
end Go.Proofs.Ytgpeobmaneponaa
namespace Go.Proofs.Ytgpeobmaneponaa
open Go.RowKit Go.Shelf Go.Lib Go.Sort
end Go.Proofs.Ytgpeobmaneponaa
namespace Go.Proofs.Ytgpeobmaneponaa
open Go.RowKit
end Go.Proofs.Ytgpeobmaneponaa
namespace Go.Proofs.Ytgpeobmaneponaa
open Go.RowKit
theorem flat_set (out : List Sz.Rg) (q : Sz.Rg) (u : Int) : ((out ++ [q]).flatMap rgV).set (out.length * 2 + 1) (.int .i64 u) = (out ++ [(q.1, u)]).flatMap rgV := by
 rw [List.flatMap_append, List.flatMap_append]
 have hl : (out.flatMap rgV).length = out.length * 2 := rows_len (f := rgV) (k := 2) out (fun _ _ => rfl)
 rw [List.set_append_right _ _ (by omega)]
 congr 1
 rw [hl, show out.length * 2 + 1 - out.length * 2 = 1 by omega]
 rfl
theorem RowsOwn.last {w wr : World} {out : List Sz.Rg} {q : Sz.Rg} {g cap : Nat} {T : Nat} (h : RowsOwn T 2 rgV w (out ++ [q]) (.slice (some ⟨g, 0, none⟩) (out ++ [q]).length cap) wr) (u : Int) :
  RowsOwn T 2 rgV w (out ++ [(q.1, u)]) (.slice (some ⟨g, 0, none⟩) (out ++ [q]).length cap) (wr.setCell ⟨g, out.length * 2 + 1, none⟩ (.int .i64 u)) := by
 have hg := h.1.lt g rfl
 have hs := h.1.stored (out.length * 2 + 1) (.int .i64 u)
 refine ⟨?_, h.2.grown hs.2 h.2.size (fun k hk => by injection hk with hk; omega)⟩
 have h1 := hs.1
 rw [flat_set] at h1
 rw [List.length_append, List.length_singleton] at h1 ⊢
 rw [List.length_append, List.length_singleton]
 exact h1
end Go.Proofs.Ytgpeobmaneponaa
namespace Go.Proofs.Ytgpeobmaneponaa
open Go.RowKit
theorem gb_set (w : World) (p : Addr) (u : Value) : w.grownBy (w.setCell p u) (some p.block) :=
 ⟨rfl, rfl, rfl, by simp [World.setCell], fun k _ hn => Below.heap_setCell w p u k (fun e => hn (by rw [e]))⟩
structure CutAt (W : World) (c hi : Int) (I O : List Sz.Rg) (vi vo : Value) (wr : World) : Prop where
 oi : wr.ownsRow (W.heap.size + 1) 63 2 vi I.length (I.flatMap rgV)
 oo : wr.ownsRow (W.heap.size + 1) 63 2 vo O.length (O.flatMap rgV)
 ap : ∀ g, vi.ownBlock = some g → vo.ownBlock ≠ some g
 row : Row wr W.heap.size 63 #[.int .i64 c, .int .i64 hi]
 bel : Below W.heap.size W wr
 sz : W.heap.size + 1 ≤ wr.heap.size
section
variable {W wr w' : World} {c hi : Int} {I O X : List Sz.Rg} {vi vo v' : Value}
theorem CutAt.start (W : World) (lo hi : Int) : CutAt W lo hi [] [] (.slice none 0 0) (.slice none 0 0) (W.alloc (.cells #[.int .i64 lo, .int .i64 hi] 63)) :=
 ⟨World.ownsRow_nil _ _ _ _, World.ownsRow_nil _ _ _ _, fun g h => (by cases h), Row.made W _ _, (Below.refl _ _).alloc (Nat.le_refl _) _, by simp⟩
theorem CutAt.alloc (h : CutAt W c hi I O vi vo wr) (o : Obj) : CutAt W c hi I O vi vo (wr.alloc o) :=
 ⟨h.oi.alloc o, h.oo.alloc o, h.ap, h.row.behindNew o, h.bel.alloc h.bel.size o, by have := h.sz; simp; omega⟩
theorem CutAt.out (h : CutAt W c hi I O vi vo wr) (ho : w'.ownsRow (W.heap.size + 1) 63 2 v' (O ++ X).length ((O ++ X).flatMap rgV)) (hg : wr.grownBy w' vo.ownBlock) (hn : Near wr vo v') : CutAt W c hi I (O ++ X) vi v' w' := by
 have hne : ∀ k, vo.ownBlock = some k → W.heap.size + 1 ≤ k := fun k hk => (h.oo.lt k hk).1
 exact ⟨own_left h.oi hg h.ap, ho, hn.apart h.ap h.oi (Nat.le_refl _), h.row.grown hg (fun e => by have := hne _ e; omega), h.bel.grown hg h.bel.size (fun k hk => by have := hne k hk; omega), by have := hg.size; have := h.sz; omega⟩
theorem CutAt.set (h : CutAt W c hi I O vi vo wr) (d : Int) : CutAt W d hi I O vi vo (wr.setCell ⟨W.heap.size, 0, none⟩ (.int .i64 d)) := by
 have hg := gb_set wr ⟨W.heap.size, 0, none⟩ (.int .i64 d)
 refine ⟨own_left h.oi hg (fun g e1 e2 => ?_), own_left h.oo hg (fun g e1 e2 => ?_), h.ap, by simpa using h.row.stored 0 (.int .i64 d), h.bel.grown hg h.bel.size (fun k hk => by injection hk with hk; exact Nat.le_of_eq hk), by simpa [World.setCell] using h.sz⟩
 ·have := (h.oi.lt g e1).1
  injection e2 with e2
  have e3 : W.heap.size = g := e2
  omega
 ·have := (h.oo.lt g e1).1
  injection e2 with e2
  have e3 : W.heap.size = g := e2
  omega
end
end Go.Proofs.Ytgpeobmaneponaa
namespace Go.Proofs.Ytgpeobmaneponaa
open Go.RowKit
structure PartAt (w : World) (I O : List Sz.Rg) (vi vo : Value) (wr : World) : Prop where
 oi : wr.ownsRow w.heap.size 63 2 vi I.length (I.flatMap rgV)
 oo : wr.ownsRow w.heap.size 63 2 vo O.length (O.flatMap rgV)
 ap : ∀ g, vi.ownBlock = some g → vo.ownBlock ≠ some g
 bel : Below w.heap.size w wr
section
variable {w wr w' : World} {I O X : List Sz.Rg} {vi vo v' : Value}
theorem PartAt.start (w : World) : PartAt w [] [] (.slice none 0 0) (.slice none 0 0) w := ⟨World.ownsRow_nil _ _ _ _, World.ownsRow_nil _ _ _ _, fun g h => (by cases h), Below.refl _ _⟩
theorem PartAt.below (h : PartAt w I O vi vo wr) (hb : Below wr.heap.size wr w') : PartAt w I O vi vo w' := by
 have hg : wr.grownBy w' none := ⟨hb.os, hb.tape, hb.output, hb.size, fun k hk _ => hb.block k hk⟩
 exact ⟨own_left h.oi hg (fun g _ e => by cases e), own_left h.oo hg (fun g _ e => by cases e), h.ap, h.bel.trans (hb.mono h.bel.size)⟩
theorem PartAt.out (h : PartAt w I O vi vo wr) (ho : w'.ownsRow w.heap.size 63 2 v' (O.length + X.length) (O.flatMap rgV ++ X.flatMap rgV)) (hg : wr.grownBy w' vo.ownBlock) (hn : Near wr vo v') : PartAt w I (O ++ X) vi v' w' := by
 have ho2 : w'.ownsRow w.heap.size 63 2 v' (O ++ X).length ((O ++ X).flatMap rgV) := by rw [List.length_append, List.flatMap_append]; exact ho
 exact ⟨own_left h.oi hg h.ap, ho2, hn.apart h.ap h.oi (Nat.le_refl _), h.bel.grown hg h.bel.size (fun k hk => (h.oo.lt k hk).1)⟩
end
end Go.Proofs.Ytgpeobmaneponaa
namespace Go.Proofs.Ytgpeobmaneponaa
open Go.RowKit Go.Shelf Go.Lib
end Go.Proofs.Ytgpeobmaneponaa
namespace Go.Proofs.Ytgpeobmaneponaa
open Go.RowKit
section
variable {w : World} {F G : Nat → Prop} {u v : Value} {a b l : List Sz.Rg}
end
end Go.Proofs.Ytgpeobmaneponaa
namespace Go.Proofs.Ytgpeobmaneponaa
open Go.RowKit Go.Shelf Go.Lib
end Go.Proofs.Ytgpeobmaneponaa
namespace Go.Proofs.Ytgpeobmaneponaa
open Go.RowKit
theorem sizes_ok : SizesOk where
 holds := fun n h hl _ _ _ => sz_holds h (by omega) n
end Go.Proofs.Ytgpeobmaneponaa
namespace Go.Proofs.Ytgpeobmaneponaa
open Go.RowKit
theorem filter_ok : FilterOk where
 all := flt_all
 hits := flt_match sizes_ok
end Go.Proofs.Ytgpeobmaneponaa
namespace Go.Proofs.Ytgpeobmaneponaa
open Go.RowKit
theorem update_ok : UpdateOk := update_of path_ok vers_ok filter_ok
end Go.Proofs.Ytgpeobmaneponaa
