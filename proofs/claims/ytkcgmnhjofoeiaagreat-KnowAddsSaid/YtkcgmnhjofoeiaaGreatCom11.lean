import Derived.Test.YtkcgmnhjofoeiaaGreatCom10
import Derived.Test.YtkcgmnhjofoeiaaGreatCom6
import Derived.Great.BuildSlice
import Derived.Laws.StructEq
import Derived.Great.Walk
import Derived.WalkMore
set_option maxRecDepth 100000
set_option linter.all false
set_option maxHeartbeats 12800000
namespace Go.Proofs.YtkcgmnhjofoeiaaGreat
open Go.RowKit Go.Sort
theorem fr_two (w : World) {r s : RFr} (hr : r.x.v.length = 65) (hs : s.x.v.length = 65) : ∃ W, W = (w.alloc (.cells (rfV r).toArray 31)).alloc (.cells (rfV s).toArray 31) ∧ FrAt W w.heap.size 0 r ∧ FrAt W (w.heap.size + 1) 0 s ∧ Laid w W := by
 refine ⟨_, rfl, (FrAt.made w hr _).below ((Below.refl _ _).alloc (Nat.le_refl _) _) (by simp), ?_, ((Laid.refl w).alloc _).alloc _⟩
 have := FrAt.made (w.alloc (.cells (rfV r).toArray 31)) hs 31
 rwa [World.size_alloc] at this
theorem know_includes (V : VecOk) (I : IsetOk) (C : CoverOk) {w : World} {F G : Nat → Prop} {r s : RFr} (hr : r.In w F) (hs : s.In w G) (lr : r.x.no.length ≤ 100000) (ls : s.x.no.length ≤ 100000) (or : Cov.Ok r.x.f) (os : Cov.Ok s.x.f) :
  Calls Tryz.prog 93 #[frA r, frA s] w fun e w' => e = .returned (.bool (decide (Know.Incl r.x s.x))) ∧ Below w.heap.size w w' := by
 obtain ⟨W, hW, f0, f1, hL⟩ := fr_two w hr.len hs.len
 have CC := Lib.hid (fun W' => V.covers (w := W') hr.len hs.len)
 have CI := Lib.hid (fun (W' : World) (h : Below w.heap.size w W') => I.within (hr.no.below h) (hs.no.below h) (by omega) (by omega))
 have CS := Lib.hid (fun (W' : World) (h : Below w.heap.size w W') => C.subs (Rws.below hr.f h) (Rws.below hs.f h) or os)
 have V0 := Lib.hid f0.v0
 have V1 := Lib.hid f1.v0
 have FA := Lib.hid (fun (W' : World) (h : Below W.heap.size W W') => And.intro (f0.below h (by rw [hW]; simp; omega)) (f1.below h (by rw [hW]; simp)))
 have EI : Hid (decide (Know.Incl r.x s.x) = (decide (Vec.Covers r.x.v s.x.v) && (decide (Iset.Within r.x.no s.x.no) && decide (Cov.Subs r.x.f s.x.f)))) := Lib.hid (by
  rw [Bool.eq_iff_iff]
  simp only [Bool.and_eq_true, decide_eq_true_iff]
  unfold Know.Incl Iset.Within
  constructor
  ·rintro ⟨h1, h2, h3⟩; exact ⟨h2, h3, h1⟩
  ·rintro ⟨h2, h3, h1⟩; exact ⟨h1, h2, h3⟩)
 obtain ⟨A0, a0, e0, -⟩ := hr.no.parts
 obtain ⟨A1, a1, e1, -⟩ := hs.no.parts
 obtain ⟨B0, b0, e2, -⟩ := hr.f.parts
 obtain ⟨B1, b1, e3, -⟩ := hs.f.parts
 have HL := Lib.hid hL.below
 clear hr hs f0 f1 hL
 rw [e0, e1] at CI
 rw [e2, e3] at CS
 have N : Hid (∀ W', Below W.heap.size W W' → W'.cell? ⟨w.heap.size, 66, none⟩ = some (.slice A0 r.x.no.length a0) ∧ W'.cell? ⟨w.heap.size + 1, 66, none⟩ = some (.slice A1 s.x.no.length a1) ∧ W'.cell? ⟨w.heap.size, 0, none⟩ = some (.slice B0 r.x.f.length b0) ∧ W'.cell? ⟨w.heap.size + 1, 0, none⟩ = some (.slice B1 s.x.f.length b1)) := Lib.hid (fun W' h => by
  have := FA.out W' h
  rw [← e0, ← e1, ← e2, ← e3]
  exact ⟨this.1.no0, this.2.no0, this.1.f, this.2.f⟩)
 have HW := Lib.hid hW
 clear e0 e1 e2 e3 FA or os
 generalize decide (Vec.Covers r.x.v s.x.v) = p at *
 generalize decide (Iset.Within r.x.no s.x.no) = q at *
 generalize decide (Cov.Subs r.x.f s.x.f) = t at *
 go_enter Tryz.func93, Tryz.ntmps93
 cases p
 ·rw [hW] at V0 V1
  go_wp2_with (first | refine wpList_mload (by rfl) _ (by rfl) (by rfl) V0.out ?_ | refine wpList_mload (by rfl) _ (by rfl) (by rfl) V1.out ?_)
  refine (CC.out _).mono ?_
  rintro e w1 ⟨rfl, h1⟩
  have H1 := Lib.hid (HL.out.trans ((HW.out ▸ h1).below.mono HL.out.size))
  clear h1
  go_wp2_with fail
  go_ret
  exact ⟨by (rw [EI.out]) <;> rfl, H1.out⟩
 ·rw [hW] at V0 V1
  go_wp2_with (first | refine wpList_mload (by rfl) _ (by rfl) (by rfl) V0.out ?_ | refine wpList_mload (by rfl) _ (by rfl) (by rfl) V1.out ?_)
  refine (CC.out _).mono ?_
  rintro e w1 ⟨rfl, h1⟩
  have hb1 : Below W.heap.size W w1 := (HW.out ▸ h1).below
  obtain ⟨c0, c1, c2, c3⟩ := N.out _ hb1
  have H1 := Lib.hid (HL.out.trans (hb1.mono HL.out.size))
  have HB1 := Lib.hid hb1
  clear h1 hb1 hW
  go_wp2_with fail
  refine (CI.out _ H1.out).mono ?_
  rintro e w2 ⟨rfl, h2⟩
  have hb2 := HB1.out.trans (h2.mono HB1.out.size)
  have H2 := Lib.hid (H1.out.trans (h2.mono H1.out.size))
  obtain ⟨c0, c1, c2, c3⟩ := N.out _ hb2
  clear h2 hb2
  cases q
  ·go_wp2_with fail
   go_ret
   exact ⟨by (rw [EI.out]) <;> rfl, H2.out⟩
  ·go_wp2_with fail
   refine (CS.out _ H2.out).mono ?_
   rintro e w3 ⟨rfl, h3⟩
   have H3 := Lib.hid (H2.out.trans (h3.mono H2.out.size))
   clear h3 c0 c1 c2 c3
   go_wp2_with fail
   go_ret
   exact ⟨by (rw [EI.out]) <;> rfl, H3.out⟩
open Go.RowKit Go.Sort
def Off2 (v u : Value) (b : Nat) : Prop := Off v b ∧ Off u b
structure JO (w : World) (J0 : List RFr) (y : RFr) (v : Value) (W : World) : Prop where
 own : RowsOwn 31 67 rfV w (J0 ++ [y]) v W
 ins : ∀ r ∈ J0, r.In W (Off2 v y.fv)
 f : W.ownsRow w.heap.size 87 3 y.fv y.x.f.length (y.x.f.flatMap clV)
 no : Vrs W (Off2 v y.fv) y.nv y.x.no
 len : y.x.v.length = 65
 ap : ∀ g, y.fv.ownBlock = some g → v.ownBlock ≠ some g
section
variable {w W W' : World} {J0 JS : List RFr} {y : RFr} {v v' : Value}
theorem JO.fown (h : JO w J0 y v W) : FOwn w (J0 ++ [y]) v W := by
 refine ⟨h.own, fun r hr => ?_⟩
 rcases List.mem_append.1 hr with hr | hr
 ·exact (h.ins r hr).mono (fun i hi => hi.1)
 ·rw [List.mem_singleton.1 hr]
  exact ⟨(Rws.ofOwn h.f rfl (fun _ _ => rfl) (fun b hb _ _ => h.ap b hb) : Cls W (Off v) y.fv y.x.f), h.no.mono (fun i hi => hi.1), h.len⟩
theorem JO.below (h : JO w J0 y v W) (hb : Below W.heap.size W W') (hw : w.heap.size ≤ W.heap.size) : JO w J0 y v W' :=
 ⟨h.own.below hb, fun r hr => (h.ins r hr).below hb, h.f.kept (Kept.ofBelow hb (fun i => i = W.heap.size)).grown (Or.inr (fun e => by have := (h.f.lt _ e).2; omega)), Rws.below h.no hb, h.len, h.ap⟩
theorem near_off {u u' : Value} {b : Nat} (h : Off u b) (hb : b < W.heap.size) (hn : Near W u u') : Off u' b := by
 intro e
 rcases hn with hn | hn
 ·rw [hn] at e; exact h e
 ·have := hn b e; omega
theorem kept_of {r : Option Nat} (h : W.grownBy W' r) : Kept (fun i => r = some i) W W' := ⟨h.os, h.tape, h.output, h.size, fun k hk hne => h.block k hk (fun e => hne e.symm)⟩
theorem RFr.In.grown2 {r : RFr} {u : Value} (h : r.In W (Off2 v u)) (hg : W.grownBy W' v.ownBlock) (hn : Near W v v') : r.In W' (Off2 v' u) :=
 ((h.lt.kept (kept_of hg) (fun i hi => hi.1.1)).mono (fun i hi => ⟨near_off hi.1.1 hi.2 hn, hi.1.2⟩))
theorem RFr.In.grown3 {r : RFr} {u u' : Value} (h : r.In W (Off2 v u)) (hg : W.grownBy W' u.ownBlock) (hn : Near W u u') : r.In W' (Off2 v u') :=
 ((h.lt.kept (kept_of hg) (fun i hi => hi.1.2)).mono (fun i hi => ⟨hi.1.1, near_off hi.1.2 hi.2 hn⟩))
theorem JO.push {u nv : Value} {f : List Flt.Cl} {x : List Int} {no : List Ver.V} {o : Obj} (h : FOwn w JS v W) (h2 : ∀ r ∈ JS, r.In W (Off2 v u)) (hf : W.ownsRow w.heap.size 87 3 u f.length (f.flatMap clV)) (hno : Vrs W (Off2 v u) nv no) (hx : x.length = 65)
  (hap : ∀ g, u.ownBlock = some g → v.ownBlock ≠ some g) (hown : W'.ownsRow w.heap.size 31 67 v' (JS.length + 1) (JS.flatMap rfV ++ rfV ⟨u, nv, ⟨f, x, no⟩⟩)) (hg : (W.alloc o).grownBy W' v.ownBlock) (hn : Near (W.alloc o) v v') : JO w JS ⟨u, nv, ⟨f, x, no⟩⟩ v' W' := by
 have hb : Below W.heap.size W (W.alloc o) := (Below.refl _ _).alloc (Nat.le_refl _) o
 refine ⟨h.own.more hown hg, fun r hr => ((h2 r hr).below hb).grown2 hg hn, ?_, ?_, hx, fun g hu e => ?_⟩
 ·exact own_left (row_lower (row_below (base := w.heap.size) hf hb) (Nat.le_refl _)) hg (fun g hu e => hap g hu e)
 ·have h1 : Vrs W' (fun i => (Off2 v u i) ∧ i < (W.alloc o).heap.size) nv no := (Rws.below hno hb).lt.kept (kept_of hg) (fun i hi => hi.1.1)
  exact h1.mono (fun i hi => ⟨near_off hi.1.1 hi.2 hn, hi.1.2⟩)
 ·have hlt := (hf.lt g hu).2
  rcases hn with hn | hn
  ·rw [hn] at e; exact hap g hu e
  ·have := hn g e
   rw [World.size_alloc] at this
   omega
theorem JO.joined {g n cap : Nat} {v9 : Value} {f : List Flt.Cl} (h : JO w J0 y (.slice (some ⟨g, 0, none⟩) n cap) W) (hn : (J0 ++ [y]).length = n) (ho : W'.ownsRow w.heap.size 87 3 v9 (y.x.f.length + f.length) (y.x.f.flatMap clV ++ f.flatMap clV)) (hg : W.grownBy W' y.fv.ownBlock) (hnr : Near W y.fv v9) :
  JO w J0 ⟨v9, y.nv, ⟨y.x.f ++ f, y.x.v, y.x.no⟩⟩ (.slice (some ⟨g, 0, none⟩) n cap) (W'.setCell ⟨g, J0.length * 67, none⟩ v9) ∧ (W'.cell? ⟨g, J0.length * 67, none⟩).isSome = true ∧ W'.frozen? ⟨g, J0.length * 67, none⟩ = false := by
 have hgl := (h.own.1.lt g rfl)
 have hlens : ∀ r ∈ J0 ++ [y], (rfV r).length = 67 := h.fown.lens
 have hne : y.fv.ownBlock ≠ some g := fun e => h.ap g e rfl
 have hlast : (J0 ++ [y])[J0.length]? = some y := by rw [List.getElem?_append_right (Nat.le_refl _), Nat.sub_self]; rfl
 have h9 : v9.ownBlock ≠ some g := by
  intro e
  rcases hnr with hnr | hnr
  ·rw [hnr] at e; exact hne e
  ·have := hnr g e; omega
 have hown : RowsOwn 31 67 rfV w (J0 ++ [y]) (.slice (some ⟨g, 0, none⟩) n cap) W' :=
  ⟨own_left h.own.1 hg (fun g' hg' e => h.ap g' e hg'), h.own.2.grown hg h.own.2.size (fun k hk => (h.f.lt k hk).1)⟩
 obtain ⟨p1, p2⟩ := hown.putCells hn hlens hlast 0 [v9] (by show 0 + 1 ≤ 67; decide) (rf_setF y v9 (y.x.f ++ f))
 rw [Nat.add_zero] at p1 p2
 have hset : (J0 ++ [y]).set J0.length ⟨v9, y.nv, ⟨y.x.f ++ f, y.x.v, y.x.no⟩⟩ = J0 ++ [⟨v9, y.nv, ⟨y.x.f ++ f, y.x.v, y.x.no⟩⟩] := by
  rw [List.set_append_right _ _ (Nat.le_refl _), Nat.sub_self]; rfl
 rw [hset] at p1
 have p2' : W'.grownBy (W'.setCell ⟨g, J0.length * 67, none⟩ v9) (some g) := p2
 refine ⟨⟨p1, fun r hr => ?_, ?_, ?_, h.len, fun g' hg' e => ?_⟩, ?_⟩
 ·exact ((h.ins r hr).grown3 hg hnr).grown2 p2' (Near.refl _ _)
 ·show (W'.setCell _ _).ownsRow w.heap.size _ 3 v9 (y.x.f ++ f).length ((y.x.f ++ f).flatMap clV)
  rw [List.length_append, List.flatMap_append]
  exact ownsRow_setCell_other ho h9 _
 ·have h1 : Vrs W' (fun i => Off2 (.slice (some ⟨g, 0, none⟩) n cap) y.fv i ∧ i < W.heap.size) y.nv y.x.no := h.no.lt.kept (kept_of hg) (fun i hi => hi.1.2)
  refine (h1.kept (kept_of p2') (fun i hi => hi.1.1)).mono (fun i hi => ⟨hi.1.1, near_off hi.1.2 hi.2 hnr⟩)
 ·have e : some g = some g' := e
  injection e with e
  subst e
  exact h9 hg'
 ·have := range_rws (hown.rows hlens) hlast 0 _ (List.getElem?_eq_getElem (by rw [hlens y (by simp)]; decide))
  rw [Nat.zero_add, Nat.add_zero] at this
  subst hn
  exact ⟨by rw [this]; rfl, hown.1.frozenAt _⟩
theorem JO.reads {w1 wr wq : World} {g n cap : Nat} {z : RFr} {t : TypeId} (h : JO w1 J0 y (.slice (some ⟨g, 0, none⟩) n cap) wr) (hw1 : w1.heap.size ≤ wr.heap.size) (hq : Below wr.heap.size wr wq) (hrow : Row wq wr.heap.size t (rfV z).toArray) (hz : z.x.v.length = 65) :
  JO w1 J0 y (.slice (some ⟨g, 0, none⟩) n cap) wq ∧ ∀ W, Kept (fun i => y.fv.ownBlock = some i) wq W → W.cell? ⟨g, J0.length * 67, none⟩ = some y.fv ∧ W.cell? ⟨wr.heap.size, 0, none⟩ = some z.fv := by
 have hJ := h.below hq hw1
 refine ⟨hJ, fun W hW => ⟨?_, ?_⟩⟩
 ·refine (hW.cell (p := ⟨g, J0.length * 67, none⟩) (hJ.own.1.lt g rfl).2 (fun e => hJ.ap g e rfl)).trans ?_
  exact (hJ.fown.at (i := J0.length) (r := y) (by rw [List.getElem?_append_right (Nat.le_refl _), Nat.sub_self]; rfl)).f
 ·refine (hW.cell (p := ⟨wr.heap.size, 0, none⟩) hrow.inHeap (fun e => ?_)).trans (FrAt.row hz hrow).f
  have e : y.fv.ownBlock = some wr.heap.size := e
  have := (h.f.lt _ e).2
  omega
theorem wpList_build1 {ops : Array Oper} {rest : List Oper} {op : Oper} {a : Act} {W : World} {Q : Exit → Act → World → Prop} (hg : op.guard = none) (t e : TypeId) (x : Operand) (ho : op.op = .buildSlice t 1 #[(0, x)]) {cs : List Value} {i : TypeInfo} {z : Value} (hx : a.eval x = .agg cs.toArray)
  (hu : Tryz.prog.underlying t = some (.slice e)) (hi : Tryz.prog.info? e = some i) (hz : i.zero = some z) (h67 : i.size = 67) (hl : cs.length = 67)
  (k : wpList Tryz.prog ops Q rest (a.put op.dst (.slice (some ⟨W.heap.size, 0, none⟩) 1 1)) (W.alloc (.cells cs.toArray e))) : wpList Tryz.prog ops Q (op :: rest) a W := by
 refine wpList_buildSlice hg t e 1 #[(0, x)] ho cs.toArray i z hu hi hz (by rw [h67]; decide) (by rw [h67]; decide) ?_ k
 have := Great.fill_whole (s := 67) (by decide) [.agg cs.toArray] ((Array.range (1 * i.size)).map (z.cells[· % z.cells.size]!)) (fun v hv => by rw [List.mem_singleton.1 hv]; show cs.toArray.size = 67; rw [List.size_toArray, hl]) (by rw [h67]; simp)
 rw [h67] at this ⊢
 simpa [hx, Value.cells] using this
theorem fr_made1 (w : World) (t : TypeId) (r : RFr) : Rws 67 rfV (w.alloc (.cells (rfV r).toArray t)) (NewIn w (w.alloc (.cells (rfV r).toArray t))) (.slice (some ⟨w.heap.size, 0, none⟩) 1 1) [r] := by
 refine ⟨_, 1, rfl, Nat.le_refl _, fun _ => ⟨w.heap.size, 0, rfl, ⟨Nat.le_refl _, by simp⟩, by simp, fun i x hx j u hu => ?_⟩⟩
 have hi : i = 0 := by obtain ⟨h, _⟩ := List.getElem?_eq_some_iff.1 hx; simpa using h
 subst hi
 have e : x = r := by simpa using hx.symm
 subst e
 have := range_row (Row.made w t (rfV x).toArray) j u hu
 rw [Nat.zero_add] at this
 simpa using this
theorem it_made1 (w : World) (t : TypeId) (r : Know.It) : Rws 67 itV (w.alloc (.cells (itV r).toArray t)) (NewIn w (w.alloc (.cells (itV r).toArray t))) (.slice (some ⟨w.heap.size, 0, none⟩) 1 1) [r] := by
 refine ⟨_, 1, rfl, Nat.le_refl _, fun _ => ⟨w.heap.size, 0, rfl, ⟨Nat.le_refl _, by simp⟩, by simp, fun i x hx j u hu => ?_⟩⟩
 have hi : i = 0 := by obtain ⟨h, _⟩ := List.getElem?_eq_some_iff.1 hx; simpa using h
 subst hi
 have e : x = r := by simpa using hx.symm
 subst e
 have := range_row (Row.made w t (itV x).toArray) j u hu
 rw [Nat.zero_add] at this
 simpa using this
theorem joi_new {w1 wr wq w8 : World} {JS : List RFr} {v v8 : Value} {z : RFr} {F : Nat → Prop} (FO : FOwn w1 JS v wr) (hw1 : Below w1.heap.size w1 wr) (hq : Below wr.heap.size wr wq) (hbq : wr.heap.size < wq.heap.size) (h8 : RowsOwn 87 3 clV wq z.x.f v8 w8) (hz : z.In w1 F) :
  FOwn w1 JS v (w8.setCell ⟨wr.heap.size, 0, none⟩ v8) ∧ (∀ r ∈ JS, r.In (w8.setCell ⟨wr.heap.size, 0, none⟩ v8) (Off2 v v8)) ∧ (w8.setCell ⟨wr.heap.size, 0, none⟩ v8).ownsRow w1.heap.size 87 3 v8 z.x.f.length (z.x.f.flatMap clV) ∧
   Vrs (w8.setCell ⟨wr.heap.size, 0, none⟩ v8) (Off2 v v8) z.nv z.x.no ∧ (∀ g, v8.ownBlock = some g → v.ownBlock ≠ some g) ∧ Below wr.heap.size wr (w8.setCell ⟨wr.heap.size, 0, none⟩ v8) := by
 have hb8 : Below wr.heap.size wr w8 := hq.trans (h8.2.mono hq.size)
 have hb : Below wr.heap.size wr (w8.setCell ⟨wr.heap.size, 0, none⟩ v8) :=
  (Kept.stored (F := fun _ => False) (Kept.ofBelow hb8 _) (Or.inr (Nat.le_refl _)) v8).below (Nat.le_refl _) (fun _ h => h.elim)
 have h8lt : ∀ g, v8.ownBlock = some g → wr.heap.size < g := fun g hg => by have := (h8.1.lt g hg).1; omega
 have hvlt : ∀ g, v.ownBlock = some g → w1.heap.size ≤ g ∧ g < wr.heap.size := fun g hg => FO.own.1.lt g hg
 refine ⟨FO.below hb, fun r hr => ?_, ?_, ?_, fun g hg e => ?_, hb⟩
 ·exact ((FO.ins r hr).lt.below hb).mono (fun i hi => ⟨hi.1, fun e => by have := h8lt i e; omega⟩)
 ·exact ownsRow_setCell_other (row_lower h8.1 (Nat.le_trans hw1.size hq.size)) (fun e => by have h := h8lt wr.heap.size e; omega) _
 ·have h1 : Vrs (w8.setCell ⟨wr.heap.size, 0, none⟩ v8) (fun i => F i ∧ i < w1.heap.size) z.nv z.x.no := Rws.below (Rws.below hz.no.lt hw1) hb
  exact h1.mono (fun i hi => ⟨fun e => by have := (hvlt i e).1; omega, fun e => by have := h8lt i e; have := hw1.size; omega⟩)
 ·have := h8lt g hg; have := (hvlt g e).2; omega
end
namespace Know
theorem step_len (j : List Fr) (z : Fr) : (step j z).length ≤ j.length + 1 := by
 rcases List.eq_nil_or_concat j with rfl | ⟨j0, y, rfl⟩
 ·simp [step_none]
 ·rw [List.concat_eq_append]
  by_cases h : Keyd y z
  ·rw [step_same _ _ _ h]; simp
  ·rw [step_new _ _ _ h]; simp
theorem many_app (a b : List Fr) : many (a ++ b) = many a + many b := by unfold many; rw [List.map_append, List.sum_append]
theorem many_one (x : Fr) : many [x] = x.f.length := by simp [many]
theorem many_step (j : List Fr) (z : Fr) : many (step j z) = many j + z.f.length := by
 rcases List.eq_nil_or_concat j with rfl | ⟨j0, y, rfl⟩
 ·rw [step_none, many_one]; simp [many]
 ·rw [List.concat_eq_append]
  by_cases h : Keyd y z
  ·rw [step_same _ _ _ h, many_app, many_app, many_one, many_one, List.length_append]; omega
  ·rw [step_new _ _ _ h, many_app, many_one]
theorem step_sane {j : List Fr} {z : Fr} (hj : ∀ x ∈ j, Sane x.f) (hz : Sane z.f) : ∀ x ∈ step j z, Sane x.f := by
 intro x hx
 rcases List.eq_nil_or_concat j with rfl | ⟨j0, y, rfl⟩
 ·rw [step_none] at hx
  rw [List.mem_singleton.1 hx]; exact hz
 ·rw [List.concat_eq_append] at hx hj
  by_cases h : Keyd y z
  ·rw [step_same _ _ _ h] at hx
   rcases List.mem_append.1 hx with hx | hx
   ·exact hj x (List.mem_append.2 (Or.inl hx))
   ·rw [List.mem_singleton.1 hx]
    intro c hc
    rcases List.mem_append.1 hc with hc | hc
    ·exact hj y (List.mem_append.2 (Or.inr (List.mem_singleton.2 rfl))) c hc
    ·exact hz c hc
  ·rw [step_new _ _ _ h] at hx
   rcases List.mem_append.1 hx with hx | hx
   ·exact hj x hx
   ·rw [List.mem_singleton.1 hx]; exact hz
theorem join_bounds {S : List Fr} (hs : ∀ x ∈ S, Sane x.f) : ∀ k, k ≤ S.length → many (joinAll (S.take k)) ≤ many S ∧ (joinAll (S.take k)).length ≤ k ∧ ∀ x ∈ joinAll (S.take k), Sane x.f := by
 have h : ∀ k, k ≤ S.length → many (joinAll (S.take k)) = many (S.take k) ∧ (joinAll (S.take k)).length ≤ k ∧ ∀ x ∈ joinAll (S.take k), Sane x.f := by
  intro k
  induction k with
  | zero => intro _; rw [List.take_zero]; exact ⟨rfl, Nat.le_refl _, fun x hx => (by cases hx)⟩
  | succ k ih =>
   intro hk
   obtain ⟨h1, h2, h3⟩ := ih (by omega)
   have hz : S[k]? = some S[k] := List.getElem?_eq_getElem (by omega)
   rw [join_take S k _ hz]
   refine ⟨?_, ?_, step_sane h3 (hs _ (List.getElem_mem _))⟩
   ·rw [many_step, h1, List.take_succ_eq_append_getElem (by omega), many_app, many_one]
   ·have := step_len (joinAll (S.take k)) S[k]; omega
 intro k hk
 obtain ⟨h1, h2, h3⟩ := h k hk
 refine ⟨?_, h2, h3⟩
 rw [h1]
 conv => rhs; rw [← List.take_append_drop k S]
 rw [many_app]; omega
theorem many_perm {a b : List Fr} (h : a.Perm b) : many a = many b := (h.map _).sum_nat
theorem many_tidy (l : List Fr) : many (l.map tidy) = many l := by unfold many; rw [List.map_map]; rfl
theorem many_mem {l : List Fr} {x : Fr} (h : x ∈ l) : x.f.length ≤ many l := sum_mem (fun x : Fr => x.f.length) h
end Know
open Go.RowKit
theorem vec_part {x : List Int} (hx : x.length = 65) {i : Nat} (hi : i < 65) (w : World) : (part 3 (vecR x) (i * 1)).run Tryz.prog w = .ok (.int .i64 ((x[i]?).getD 0)) w := by
 have ha := Tryz.isAgg3
 have hg : (vecR x)[i]? = some (.int .i64 ((x[i]?).getD 0)) := vecR_get (by rw [List.getElem?_eq_getElem (by omega)]; rfl)
 simp [part, ha, hg]
theorem vec_equalIn (m : Nat) (w : World) {x y : List Int} (hx : x.length = 65) (hy : y.length = 65) (hE : ∀ (w : World) (a b : Int), (Op.equalIn m 3 (.int .i64 a) (.int .i64 b)).run Tryz.prog w = .ok (a == b) w) : (Op.equalIn (m + 1) 28 (vecA x) (vecA y)).run Tryz.prog w = .ok (decide (x = y)) w := by
 have hu := Tryz.underlying28
 have hs := Tryz.sizeOf3
 have key : ∀ (n j : Nat), j + n = 65 → (∀ i, i < j → x[i]? = y[i]?) → ∀ w : World, ((forIn (List.range' j n) ((none : Option Bool), ()) (fun i (_ : Option Bool × Unit) => do
   let a ← part 3 (vecR x) (i * 1)
   let b ← part 3 (vecR y) (i * 1)
   let r ← Op.equalIn m 3 a b
   if (!r) = true then pure (ForInStep.done (some false, ())) else pure (ForInStep.yield (none, ())))).run Tryz.prog w) = .ok (if x = y then (none, ()) else (some false, ())) w := by
  intro n
  induction n with
  | zero =>
   intro j hj hp w
   have e : x = y := by
    apply List.ext_getElem?
    intro i
    by_cases hi : i < j
    ·exact hp i hi
    ·rw [List.getElem?_eq_none (by omega), List.getElem?_eq_none (by omega)]
   rw [if_pos e]
   simp
  | succ n ih =>
   intro j hj hp w
   rw [List.range'_succ, List.forIn_cons]
   simp only [Sem.run_bind, vec_part hx (show j < 65 by omega), vec_part hy (show j < 65 by omega), Result.andThen_ok, hE]
   by_cases h : (x[j]?).getD 0 = (y[j]?).getD 0
   ·have h2 : ((x[j]?).getD 0 == (y[j]?).getD 0) = true := by simpa using h
    simp only [h2, Bool.not_true, Bool.false_eq_true, if_false, Sem.run_pure, Result.andThen_ok]
    refine ih (j + 1) (by omega) (fun i hi => ?_) w
    by_cases hij : i = j
    ·subst hij
     rw [List.getElem?_eq_getElem (by omega), List.getElem?_eq_getElem (by omega)] at h ⊢
     simpa using h
    ·exact hp i (by omega)
   ·have h2 : ((x[j]?).getD 0 == (y[j]?).getD 0) = false := by simpa using h
    have hne : ¬ x = y := fun e => h (by rw [e])
    simp only [h2, Bool.not_false, if_true, Sem.run_pure, Result.andThen_ok, if_neg hne]
 simp only [Op.equalIn, Sem.run_bind, run_underlying hu, Result.andThen_ok, hs]
 simp only [Std.Legacy.Range.forIn_eq_forIn_range', Std.Legacy.Range.size, Nat.sub_zero, Nat.add_one_sub_one, Nat.div_one]
 rw [key 65 0 rfl (fun i hi => absurd hi (Nat.not_lt_zero i))]
 by_cases h : x = y
 ·rw [if_pos h, decide_eq_true h]; rfl
 ·rw [if_neg h, decide_eq_false h]; rfl
theorem vec_eq {x y : List Int} (hx : x.length = 65) (hy : y.length = 65) (w : World) : (Op.equalIn 10000 28 (vecA x) (vecA y)).run Tryz.prog w = .ok (decide (x = y)) w := by
 have u3 := Tryz.underlying3
 exact vec_equalIn 9999 w hx hy (fun w a b => run_equalIn_int w 9998 3 _ _ a b u3)
open Go.RowKit Go.Sort
theorem vec_zeroL (w : World) : (zeroValue 28).run Tryz.prog w = .ok (.agg (vecL Vec.zeros).toArray) w := vecZero w
theorem vec_eqL {x y : List Int} (hx : x.length = 65) (hy : y.length = 65) (w : World) : (Op.equalIn 10000 28 (.agg (vecL x).toArray) (.agg (vecL y).toArray)).run Tryz.prog w = .ok (decide (x = y)) w := vec_eq hx hy w
theorem know_widest (V : VecOk) (I : IsetOk) (C : CoverOk) {w : World} {F : Nat → Prop} {v : Value} {l : List Know.Fr} (h : Frs w F v l) (hl : l.length ≤ 99999) (hn : ∀ x ∈ l, x.no.length ≤ 100000) (hc : ∀ x ∈ l, Cov.Ok x.f) :
  Calls Tryz.prog 68 #[v] w fun e w' => ∃ v' rs, e = .returned v' ∧ FOwn w rs v' w' ∧ rs.map (·.x) = Know.wide l := by
 obtain ⟨rs, rfl, hr, hi⟩ := h
 rw [List.length_map] at hl
 obtain ⟨i1, hi1, hy0, hy1, hy2⟩ := ver_parts frInfo
 have hz := frZero
 have hvz := vec_zeroL
 have HI := Lib.hid hi
 have HR := Lib.hid hr
 have HN : Hid (∀ r ∈ rs, r.x.no.length ≤ 100000) := Lib.hid (fun r hr => hn _ (List.mem_map.2 ⟨r, hr, rfl⟩))
 have HC : Hid (∀ r ∈ rs, Cov.Ok r.x.f) := Lib.hid (fun r hr => hc _ (List.mem_map.2 ⟨r, hr, rfl⟩))
 obtain ⟨A, cap, rfl, hcap⟩ := hr.parts
 have hl0 : (rs.length : Int) ≤ 99999 := by omega
 clear hr hi hn hc
 go_enter Tryz.func68, Tryz.ntmps68
 go_wp2_with fail
 go_step3
 go_wp2_with fail
 try go_step3
 try go_wp2_with fail
 go_loopw [3, 10] (fun s3 i wr => ∃ n RS, n ≤ rs.length ∧ i = .int .i64 (n : Nat) ∧ Hid (FOwn w RS s3 wr ∧ RS.map (·.x) = Know.wideTo (rs.map (·.x)) n)) (fun _ i _ => rs.length - (intOf i).toNat)
 case atStart => exact ⟨0, [], Nat.zero_le _, rfl, Lib.hid ⟨FOwn.start w, rfl⟩⟩
 case round =>
  obtain ⟨n, RS, hn, rfl, hst⟩ := hrel
  by_cases hlt : n < rs.length
  ·obtain ⟨b, o, cap1, e, -, -, hb⟩ := HR.out.block (by omega)
   injection e with e1 e2 e3
   subst e1 e3
   clear e2
   obtain ⟨r, hr⟩ : ∃ r, rs[n]? = some r := ⟨_, List.getElem?_eq_getElem hlt⟩
   have hrm := List.mem_of_getElem? hr
   have hIn := HI.out r hrm
   have hbr := hst.out.1.size
   have LE := Lib.hid ((FrAt.elem HR.out hr hIn.len).below hbr hb)
   have hone := Lib.hid hIn.one
   have hr65 := Lib.hid hIn.len
   have HS : Hid ((Tryz.prog.info? 31).map (·.size) = some (rfV r).length ∧ (rfV frZ).toArray.size = (rfV r).length) := Lib.hid ⟨frSize hIn.len, by rw [rf_len hIn.len]; exact frZ_size⟩
   have hbA : Below wr.heap.size wr (wr.alloc (.cells (rfV r).toArray 31)) := (Below.refl _ _).alloc (Nat.le_refl _) _
   have FB : FrAt (wr.alloc (.cells (rfV r).toArray 31)) wr.heap.size 0 r := FrAt.made wr hIn.len _
   have hbx : wr.heap.size < (wr.alloc (.cells (rfV r).toArray 31)).heap.size := by simp
   obtain ⟨A2, c2, eA, -⟩ := hIn.f.parts
   have c0 := FB.f
   rw [eA] at c0
   have V0 := Lib.hid FB.v0
   have LX := Lib.hid (fun (W : World) (h : Below (wr.alloc (.cells (rfV r).toArray 31)).heap.size (wr.alloc (.cells (rfV r).toArray 31)) W) => FB.all.below h hbx)
   have Hrx : Hid ((rs.map (·.x))[n]? = some r.x) := Lib.hid (by rw [List.getElem?_map, hr]; rfl)
   have HST := Lib.hid (And.intro (hst.out.1.below hbA) hst.out.2)
   have HTop := Lib.hid (fun (h : ¬ Know.Top (rs.map (·.x)) n r.x) => And.intro (hst.out.1.below hbA) (hst.out.2.trans (Know.wide_no Hrx.out h).symm))
   have hk0 : (0 : Int) ≤ (n : Int) := by omega
   have hk1 : (n : Int) < (rs.length : Int) := by omega
   have hk2 : (n : Int) ≤ 99999 := by omega
   clear hr hIn hbA FB hbx eA
   by_cases hf : r.x.f = []
   ·have HN1 := Lib.hid (HTop.out (fun h => h.1 hf))
    rw [hf, List.length_nil] at c0
    clear hst HTop hf
    go_wp2_with (first | refine wpList_mload (by rfl) _ (by rfl) (by rfl) LE.out.all ?_ | refine wpList_nstore (by rfl) _ _ (by rfl) (by rfl) (by rfl) HS.out.1 HS.out.2 hone.out ?_)
    exact ⟨⟨n + 1, RS, by omega, by go_num, HN1⟩, by show rs.length - ((n : Int) + 1).toNat < rs.length - (n : Int).toNat; omega⟩
   ·have hne : ((r.x.f.length : Int) == 0) = false := by
     cases hff : r.x.f with
     | nil => exact absurd hff hf
     | cons a t => rw [List.length_cons]; simp; omega
    have ve := fun w => vec_eqL hr65.out Vec.zeros_len w
    by_cases hv : r.x.v = Vec.zeros
    ·have HN1 := Lib.hid (HTop.out (fun h => h.2.1 hv))
     rw [decide_eq_true hv] at ve
     clear hst HTop hf hv
     go_wp2_with (first | refine wpList_mload (by rfl) _ (by rfl) (by rfl) LE.out.all ?_ | refine wpList_nstore (by rfl) _ _ (by rfl) (by rfl) (by rfl) HS.out.1 HS.out.2 hone.out ?_ | refine wpList_mload (by rfl) _ (by rfl) (by rfl) V0.out ?_)
     exact ⟨⟨n + 1, RS, by omega, by go_num, HN1⟩, by show rs.length - ((n : Int) + 1).toNat < rs.length - (n : Int).toNat; omega⟩
    ·rw [decide_eq_false hv] at ve
     go_wp2_with (first | refine wpList_mload (by rfl) _ (by rfl) (by rfl) LE.out.all ?_ | refine wpList_nstore (by rfl) _ _ (by rfl) (by rfl) (by rfl) HS.out.1 HS.out.2 hone.out ?_ | refine wpList_mload (by rfl) _ (by rfl) (by rfl) V0.out ?_)
     have hW0 := Lib.hid (hst.out.1.size.trans (((Below.refl wr.heap.size wr).alloc (Nat.le_refl _) (.cells (rfV r).toArray 31)).mono hst.out.1.size.size))
     have HTf := Lib.hid hf
     have HTv := Lib.hid hv
     have HN := HN
     have Hno := Lib.hid (HN.out r hrm)
     have Hrc := Lib.hid (HC.out r hrm)
     have Hin := Lib.hid (HI.out r hrm)
     have HTW := Lib.hid (fun (W : World) (hb : Below (wr.alloc (.cells (rfV r).toArray 31)).heap.size (wr.alloc (.cells (rfV r).toArray 31)) W) (h : ¬ Know.Top (rs.map (·.x)) n r.x) => And.intro (HST.out.1.below hb) (HST.out.2.trans (Know.wide_no Hrx.out h).symm))
     have HTY := Lib.hid (fun (h : Know.Top (rs.map (·.x)) n r.x) => (Know.wide_yes Hrx.out h))
     have HFW := Lib.hid (fun (W : World) (hb : Below (wr.alloc (.cells (rfV r).toArray 31)).heap.size (wr.alloc (.cells (rfV r).toArray 31)) W) => HST.out.1.below hb)
     have HSTm := Lib.hid HST.out.2
     clear c0 ve hne hf hv hst V0 HTop HST hrm
     generalize hbk : wr.heap.size = bk at *
     clear hbk
     generalize wr.alloc (.cells (rfV r).toArray 31) = W0 at *
     go_loopw [27] (fun i W => ∃ m : Nat, m ≤ rs.length ∧ i = .int .i64 (m : Int) ∧ Hid (∀ k y, k < m → k ≠ n → (rs.map (·.x))[k]? = some y → ¬ Know.Incl y r.x) ∧ Hid (Below W0.heap.size W0 W)) (fun i _ => rs.length - (intOf i).toNat)
     case atStart => exact ⟨0, Nat.zero_le _, rfl, Lib.hid (fun k y hk => absurd hk (Nat.not_lt_zero k)), Lib.hid (Below.refl _ _)⟩
     case round =>
      obtain ⟨m, hm, rfl, hnone, hbel⟩ := hrel
      by_cases hlt2 : m < rs.length
      ·obtain ⟨s, hs⟩ : ∃ s, rs[m]? = some s := ⟨_, List.getElem?_eq_getElem hlt2⟩
       have hsm := List.mem_of_getElem? hs
       have hsIn := HI.out s hsm
       have hbw := hW0.out.trans (hbel.out.mono hW0.out.size)
       have LS := Lib.hid ((FrAt.elem HR.out hs hsIn.len).below hbw hb)
       have hone2 := Lib.hid hsIn.one
       have HS2 : Hid ((Tryz.prog.info? 31).map (·.size) = some (rfV s).length ∧ (rfV frZ).toArray.size = (rfV s).length) := Lib.hid ⟨frSize hsIn.len, by rw [rf_len hsIn.len]; exact frZ_size⟩
       have hbB : Below wr.heap.size wr (wr.alloc (.cells (rfV s).toArray 31)) := (Below.refl _ _).alloc (Nat.le_refl _) _
       have FS := Lib.hid (FrAt.made wr hsIn.len 31)
       have LX2 := Lib.hid (LX.out _ (hbel.out.trans (hbB.mono hbel.out.size)))
       have IC := Lib.hid (know_includes V I C (hsIn.below (hbw.trans (hbB.mono hbw.size))) (Hin.out.below (hbw.trans (hbB.mono hbw.size))) (HN.out s hsm) Hno.out (HC.out s hsm) Hrc.out)
       have HB2 := Lib.hid (hbel.out.trans (hbB.mono hbel.out.size))
       have Hsx : Hid ((rs.map (·.x))[m]? = some s.x) := Lib.hid (by rw [List.getElem?_map, hs]; rfl)
       have hm0 : (0 : Int) ≤ (m : Int) := by omega
       have hm1 : (m : Int) < (rs.length : Int) := by omega
       have hm2 : (m : Int) ≤ 99999 := by omega
       clear hs hsm hsIn hbw hbB
       by_cases hmn : m = n
       ·subst hmn
        have HNx : Hid (∀ k y, k < m + 1 → k ≠ m → (rs.map (·.x))[k]? = some y → ¬ Know.Incl y r.x) := Lib.hid (fun k y hk hne => hnone.out k y (by omega) hne)
        clear IC hnone
        go_wp2_with (first | refine wpList_mload (by rfl) _ (by rfl) (by rfl) LS.out.all ?_ | refine wpList_nstore (by rfl) _ _ (by rfl) (by rfl) (by rfl) HS2.out.1 HS2.out.2 hone2.out ?_)
        exact ⟨⟨m + 1, by omega, by go_num, HNx, HB2⟩, by show rs.length - ((m : Int) + 1).toNat < rs.length - (m : Int).toNat; omega⟩
       ·have hmn2 : ((m : Int) != (n : Int)) = true := by simp; omega
        by_cases hinc : Know.Incl s.x r.x
        ·rw [decide_eq_true hinc] at IC
         have HTn := Lib.hid (fun (W : World) (hb : Below W0.heap.size W0 W) => HTW.out W hb (fun h => h.2.2 m s.x Hsx.out hmn hinc))
         clear hnone hinc
         go_wp2_with (first | refine wpList_mload (by rfl) _ (by rfl) (by rfl) LS.out.all ?_ | refine wpList_nstore (by rfl) _ _ (by rfl) (by rfl) (by rfl) HS2.out.1 HS2.out.2 hone2.out ?_ | refine wpList_mload (by rfl) _ (by rfl) (by rfl) FS.out.all ?_ | refine wpList_mload (by rfl) _ (by rfl) (by rfl) LX2.out ?_)
         refine (IC.out).mono ?_
         rintro e w3 ⟨rfl, h3⟩
         have H3 := Lib.hid (HTn.out w3 (HB2.out.trans (h3.mono HB2.out.size)))
         clear h3 IC
         go_wp2_with fail
         exact ⟨⟨n + 1, RS, by omega, by go_num, H3⟩, by show rs.length - ((n : Int) + 1).toNat < rs.length - (n : Int).toNat; omega⟩
        ·rw [decide_eq_false hinc] at IC
         have HNx : Hid (∀ k y, k < m + 1 → k ≠ n → (rs.map (·.x))[k]? = some y → ¬ Know.Incl y r.x) := Lib.hid (fun k y hk hne hy => by
          by_cases e : k = m
          ·subst e
           rw [Hsx.out] at hy
           injection hy with hy
           rw [← hy]; exact hinc
          ·exact hnone.out k y (by omega) hne hy)
         clear hnone hinc
         go_wp2_with (first | refine wpList_mload (by rfl) _ (by rfl) (by rfl) LS.out.all ?_ | refine wpList_nstore (by rfl) _ _ (by rfl) (by rfl) (by rfl) HS2.out.1 HS2.out.2 hone2.out ?_ | refine wpList_mload (by rfl) _ (by rfl) (by rfl) FS.out.all ?_ | refine wpList_mload (by rfl) _ (by rfl) (by rfl) LX2.out ?_)
         refine (IC.out).mono ?_
         rintro e w3 ⟨rfl, h3⟩
         have H3 := Lib.hid (HB2.out.trans (h3.mono HB2.out.size))
         clear h3 IC
         go_wp2_with fail
         exact ⟨⟨m + 1, by omega, by go_num, HNx, H3⟩, by show rs.length - ((m : Int) + 1).toNat < rs.length - (m : Int).toNat; omega⟩
      ·obtain rfl : m = rs.length := by omega
       have HT : Hid (Know.Top (rs.map (·.x)) n r.x) := Lib.hid ⟨HTf.out, HTv.out, fun k y hy hne => hnone.out k y (by have h1 := (List.getElem?_eq_some_iff.1 hy).1; rw [List.length_map] at h1; exact h1) hne hy⟩
       have LX2 := Lib.hid (LX.out _ hbel.out)
       have FW := Lib.hid (HFW.out _ hbel.out)
       have OJ := FW.out.own.1
       have OR1 := fr_made1 wr 31 r
       have hws : w.heap.size ≤ wr.heap.size := FW.out.size.size
       have hsz : (rfV r).length = 67 := rf_len hr65.out
       have HRS : Hid (RS.length ≤ 99999) := Lib.hid (by
        have h1 := (Know.wide_sub (rs.map (·.x)) n (by rw [List.length_map]; omega)).length_le
        rw [← HSTm.out, List.length_map, List.length_take, List.length_map] at h1
        omega)
       have hrIn := Hin.out
       clear hnone
       go_wp2_with (first | refine wpList_mload (by rfl) _ (by rfl) (by rfl) LX2.out ?_ | refine wpList_build1 rfl 22 31 _ rfl (by rfl) Tryz.underlying22 hi1 hy0 hy1 hsz ?_ | (at_builtin; refine wp_joins (f := rfV) (k := 67) rfl _ _ 22 rfl w.heap.size 31 i1 (frA frZ) 568 Tryz.underlying22 hi1 hy0 hy1 hy2 frZ_size (by decide) rfl rfl (OJ.alloc _) OR1 ?d1 ?d2 ?d3 ?d4 ?d5 ?_))
       case d2 => first | exact hone.out | (intro x hx; rw [List.mem_singleton.1 hx]; exact hone.out)
       case d3 => (have h1 := HRS.out; have h2 : [r].length = 1 := rfl; unfold maxLen; omega)
       case d4 => (have h1 := HRS.out; have h2 : [r].length = 1 := rfl; omega)
       case d5 => first | exact Nat.le_succ_of_le hws | (rw [World.size_alloc]; exact Nat.le_succ_of_le hws)
       intro v3 w3 own3 hg3 hn3
       have hrW := (hrIn.lt.below FW.out.size).mono (G := Off _) (fun i hi e => by have h1 := (FW.out.own.1.lt i e).1; omega)
       have M3 := FW.out.more hrW (by simpa using own3) hg3 hn3
       have H3 := Lib.hid (And.intro M3 ((by rw [List.map_append, HSTm.out]; exact (HTY.out HT.out).symm : (RS ++ [r]).map (·.x) = Know.wideTo (rs.map (·.x)) (n + 1))))
       clear own3 hg3 hn3 OJ OR1 hrW M3
       go_wp2_with fail
       exact ⟨⟨n + 1, RS ++ [r], by omega, by go_num, H3⟩, by show rs.length - ((n : Int) + 1).toNat < rs.length - (n : Int).toNat; omega⟩
  ·obtain rfl : n = rs.length := by omega
   have HFin : Hid (RS.map (·.x) = Know.wide (rs.map (·.x))) := Lib.hid (by
    rw [hst.out.2]; unfold Know.wide; rw [List.length_map])
   go_wp2_with fail
   try rw [Exit.noGoto_ret]
   go_ret
   first | exact ⟨_, RS, rfl, hst.out.1, HFin.out⟩ | exact ⟨_, rfl, RS, hst.out.1, HFin.out⟩
end Go.Proofs.YtkcgmnhjofoeiaaGreat
