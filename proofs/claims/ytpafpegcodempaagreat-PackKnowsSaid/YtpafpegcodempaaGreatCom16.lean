import Derived.Test.YtpafpegcodempaaGreatCom12
import Derived.Test.YtpafpegcodempaaGreatCom10
import Derived.Test.YtpafpegcodempaaGreatCom15
import Derived.Test.YtpafpegcodempaaGreatCom13
import Derived.Test.YtpafpegcodempaaGreatCom4
import Derived.Test.YtpafpegcodempaaGreatCom11
import Derived.Great.BuildSlice
import Derived.Great.Walk
import Derived.WalkMore
import Derived.DeepKeys4
import Derived.Maps.Keyed
import Derived.WideKeyElems
import Derived.Deep.QuietTactic
set_option maxRecDepth 100000
set_option linter.all false
set_option maxHeartbeats 12800000
namespace Go.Proofs.YtpafpegcodempaaGreat
open Go.RowKit Go.Sort
theorem rd_ne {W : World} {b c : Nat} {l : List UInt8} {e : Int} {t : TypeId} {u : Value} (h : RdL W b l e) (k : Row W c t #[u]) : c ≠ b := by
 rintro rfl
 have h3 : (Obj.cells #[u] t (0, 0)) = Obj.cells #[.string ⟨l.toArray⟩, .int .i64 _] 190 (0, 0) := Option.some.inj ((show W.heap[c]? = _ from k).symm.trans (show W.heap[c]? = _ from h))
 injection h3 with h4
 have := congrArg Array.size h4
 simp at this
structure RdB (w : World) (b : Nat) (t : TypeId) (cs : Array Value) (l : List UInt8) (e : Int) (W : World) : Prop where
 rd : RdL W b l e
 gb : w.grownBy W (some b)
 box : Row W w.heap.size t cs
 hb : b < w.heap.size
theorem gb_kc2 {w W : World} {c : Nat} (h : w.grownBy W (some c)) : Kept (fun i => i = c) w W := Kept.ofGrown h (fun i e => by injection e with e; exact e.symm)
section
variable {w W W' : World} {b p : Nat} {t : TypeId} {cs : Array Value} {l l' : List UInt8} {e e' : Int}
theorem RdB.start (h : RdL w b l e) (cs : Array Value) (t : TypeId) : RdB w b t cs l e (w.alloc (.cells cs t)) := ⟨Row.behindNew h _, gb_new (gb_refl w (some b)) _, Row.made w t cs, Row.inHeap h⟩
theorem RdB.size (h : RdB w b t cs l e W) : w.heap.size < W.heap.size := Row.inHeap h.box
theorem RdB.below (h : RdB w b t cs l e W) (hb : Below W.heap.size W W') : RdB w b t cs l e W' := ⟨Row.below h.rd hb (Row.inHeap h.rd), gb_trans h.gb (gb_below hb _), Row.below h.box hb (Row.inHeap h.box), h.hb⟩
theorem RdB.inner (h : RdB w b t cs l e W) (k : RdL W' b l' e') (g : W.grownBy W' (some b)) : RdB w b t cs l' e' W' := ⟨k, gb_trans h.gb g, h.box.grown g (fun q => by have := h.hb; injection q with q; omega), h.hb⟩
theorem RdB.part (h : RdB w b t cs l e W) (g : W.grownBy W' (some p)) (hp : w.heap.size < p) : RdB w b t cs l e W' :=
 ⟨Row.grown h.rd g (fun q => by have := h.hb; injection q with q; omega), gb_kept h.gb (gb_kc2 g) (fun i q => by have q : i = p := q; omega), h.box.grown g (fun q => by injection q with q; omega), h.hb⟩
theorem RdB.set (h : RdB w b t cs l e W) (hr : Kept (fun i => i = w.heap.size) W W') : RdL W' b l e ∧ w.grownBy W' (some b) :=
 ⟨Row.kept h.rd hr (fun q => by have := h.hb; omega), gb_kept h.gb hr (fun i q => by have q : i = w.heap.size := q; omega)⟩
end
section
variable {α : Type} {k : Nat} {f : α → List Value} {W W' : World} {n b p : Nat} {v : Value} {l : List α} {r : RFr}
theorem rws_two {W2 : World} (h : Rws k f W (fun i => n < i) v l) (g : W.grownBy W' (some b)) (hb : b ≤ n) (g' : W'.grownBy W2 (some p)) (hp : W.heap.size ≤ p) : Rws k f W2 (fun i => n < i) v l :=
 ((h.lt.kept (gb_kc2 g) (fun i hi q => by have q : i = b := q; have h1 : n < i := hi.1; omega)).kept (gb_kc2 g') (fun i hi q => by have q : i = p := q; have h2 := hi.2; omega)).mono (fun i hi => hi.1)
theorem rin_two {W2 : World} (h : r.In W (fun i => n < i)) (g : W.grownBy W' (some b)) (hb : b ≤ n) (g' : W'.grownBy W2 (some p)) (hp : W.heap.size ≤ p) : r.In W2 (fun i => n < i) := ⟨rws_two h.f g hb g' hp, rws_two h.no g hb g' hp, h.len⟩
theorem rws_set (h : Rws k f W (fun i => n < i) v l) (g : Kept (fun i => i = n) W W') : Rws k f W' (fun i => n < i) v l := h.kept g (fun i hi q => by have q : i = n := q; have hi : n < i := hi; omega)
theorem rws_new {w2 : World} (h : Rws k f W (NewIn w2 W) v l) (hn : n < w2.heap.size) : Rws k f W (fun i => n < i) v l := h.mono (fun i hi => by have := hi.1; show n < i; omega)
end
theorem pck_rlist_frag (w : World) : Calls Tryz.prog 178 #[.func (.func 179) #[] #[]] w fun e w' =>
  ∃ c2, e = .returned (.func (.func 276) #[] #[.pointer (some ⟨c2, 0, none⟩)]) ∧ Row w' c2 223 #[.func (.func 179) #[] #[]] ∧ Below w.heap.size w w' := by
 have R := Lib.hid (Row.made w 223 #[.func (.func 179) #[] #[]])
 have hb := Lib.hid ((Below.refl w.heap.size w).alloc (Nat.le_refl _) (.cells #[.func (.func 179) #[] #[]] 223))
 go_enter Tryz.func178, Tryz.ntmps178
 go_wp2_with fail
 go_ret
 exact ⟨_, rfl, R.out, hb.out⟩
theorem pck_rlist_known (w : World) : Calls Tryz.prog 181 #[.func (.func 182) #[] #[]] w fun e w' =>
  ∃ c2, e = .returned (.func (.func 280) #[] #[.pointer (some ⟨c2, 0, none⟩)]) ∧ Row w' c2 227 #[.func (.func 182) #[] #[]] ∧ Below w.heap.size w w' := by
 have R := Lib.hid (Row.made w 227 #[.func (.func 182) #[] #[]])
 have hb := Lib.hid ((Below.refl w.heap.size w).alloc (Nat.le_refl _) (.cells #[.func (.func 182) #[] #[]] 227))
 go_enter Tryz.func181, Tryz.ntmps181
 go_wp2_with fail
 go_ret
 exact ⟨_, rfl, R.out, hb.out⟩
theorem pck_frag (V : VecOk) {w : World} {b : Nat} {l : List UInt8} {e : Int} (h : RdL w b l e) (hm : l.length ≤ 100000) :
  Calls Tryz.prog 179 #[.pointer (some ⟨b, 0, none⟩)] w fun ed w' => (∃ r : RFr, ed = .returned (frA r) ∧ r.x = (Pck.rdFrag l e).1 ∧ r.In w' (fun i => w.heap.size < i)) ∧ RdL w' b (Pck.rdFrag l e).2.1 (Pck.rdFrag l e).2.2 ∧ w.grownBy w' (some b) := by
 have hz := frZero
 have h1 := stepT_left l e
 have h2 := stepT_left (stepT l e).2.1 (stepT l e).2.2
 have h3 := stepT_left (stepT (stepT l e).2.1 (stepT l e).2.2).2.1 (stepT (stepT l e).2.1 (stepT l e).2.2).2.2
 have hR : Pck.rdFrag l e = (⟨(Pck.rdFlt (stepT l e).1 0).1, (Pck.rdVec (stepT (stepT l e).2.1 (stepT l e).2.2).1 0).1, (Pck.rdVers (stepT (stepT (stepT l e).2.1 (stepT l e).2.2).2.1 (stepT (stepT l e).2.1 (stepT l e).2.2).2.2).1 0).1⟩, (stepT (stepT (stepT l e).2.1 (stepT l e).2.2).2.1 (stepT (stepT l e).2.1 (stepT l e).2.2).2.2).2) := rfl
 rw [hR]
 clear hR
 have B0 := Lib.hid (RdB.start h (rfV frZ).toArray 91)
 have I1 := Lib.hid (fun (W : World) (h : RdL W b l e) => pck_inner h (by omega))
 generalize stepT l e = s1 at *
 obtain ⟨t1, l1, e1⟩ := s1
 dsimp only at h1 h2 h3 I1 ⊢
 have I2 := Lib.hid (fun (W : World) (h : RdL W b l1 e1) => pck_inner h (by omega))
 generalize stepT l1 e1 = s2 at *
 obtain ⟨t2, l2, e2⟩ := s2
 dsimp only at h2 h3 I2 ⊢
 have I3 := Lib.hid (fun (W : World) (h : RdL W b l2 e2) => pck_inner h (by omega))
 generalize stepT l2 e2 = s3 at *
 obtain ⟨t3, l3, e3⟩ := s3
 dsimp only at h3 I3 ⊢
 have L1 := Lib.hid (fun (W : World) (c2 p : Nat) (h : RdL W p t1 0) (hc : W.cell? ⟨c2, 0, none⟩ = _) (hn : c2 ≠ p) => pck_list_cl h hc hn (by omega))
 have L2 := Lib.hid (fun (W : World) (p : Nat) (h : RdL W p t2 0) => pck_vec V h (by omega))
 have L3 := Lib.hid (fun (W : World) (c2 p : Nat) (h : RdL W p t3 0) (hc : W.cell? ⟨c2, 0, none⟩ = _) (hn : c2 ≠ p) => pck_list_ver h hc hn (by omega))
 have HV := Lib.hid (Pck.rdVec_plain t2 0).1
 rw [show Pck.list Pck.rdCl t1 0 = Pck.rdFlt t1 0 from rfl] at L1
 rw [show Pck.list Pck.rdVer t3 0 = Pck.rdVers t3 0 from rfl] at L3
 generalize Pck.rdFlt t1 0 = q1 at *
 generalize Pck.rdVec t2 0 = q2 at *
 generalize Pck.rdVers t3 0 = q3 at *
 obtain ⟨f, lf, ef⟩ := q1
 obtain ⟨xv, lv, ev⟩ := q2
 obtain ⟨no, ln, en⟩ := q3
 dsimp only at L1 L2 L3 HV ⊢
 have R1 := Lib.hid pck_rlist_cl
 have R3 := Lib.hid pck_rlist_ver
 have HI := Lib.hid (frSize (r := ⟨.slice none 0 0, .slice none 0 0, ⟨[], xv, []⟩⟩) HV.out)
 clear h h1 h2 h3 hm V
 go_enter Tryz.func179, Tryz.ntmps179
 go_wp2_with fail
 refine (R1.out _).mono ?_
 rintro ed w1 ⟨c1, rfl, hc, hb⟩
 have C1 := Lib.hid hc
 have B1 := Lib.hid (B0.out.below hb)
 have N1 := Lib.hid (rd_ne B1.out.rd hc)
 clear hc hb
 go_wp2_with fail
 refine (I1.out _ B1.out.rd).mono ?_
 rintro ed w2 ⟨p2, rfl, h2, hp, h3, g2⟩
 have P2 := Lib.hid h2
 have B2 := Lib.hid (B1.out.inner h3 g2)
 have S2 := Lib.hid hp
 have C2 := Lib.hid (C1.out.grown g2 (fun q => N1.out (by injection q with q; exact q.symm)))
 have M2 : Hid (c1 ≠ p2) := Lib.hid (by have := Row.inHeap C1.out; omega)
 clear h2 hp h3 g2
 go_wp2_with fail
 refine (L1.out _ _ _ P2.out (C2.out.at 0) M2.out).mono ?_
 rintro ed w3 ⟨v3, rfl, hu, -, g3⟩
 have hz2 := B2.out.size
 have hz1 := B1.out.size
 have hz3 := S2.out
 have B3 := Lib.hid (B2.out.part g3 (by omega))
 have U3 := Lib.hid (rws_new hu hz2)
 clear hu g3 hz1 hz2 hz3
 go_wp2_with fail
 refine (I2.out _ B3.out.rd).mono ?_
 rintro ed w4 ⟨p4, rfl, h2, hp, h3, g2⟩
 have P4 := Lib.hid h2
 have B4 := Lib.hid (B3.out.inner h3 g2)
 have S4 := Lib.hid hp
 have Q4 := Lib.hid g2
 clear h2 hp h3 g2
 go_wp2_with fail
 refine (L2.out _ _ P4.out).mono ?_
 rintro ed w5 ⟨rfl, -, g3⟩
 have hz2 := B3.out.size
 have hz3 := S4.out
 have hz4 := B4.out.gb.size
 have B5 := Lib.hid (B4.out.part g3 (by omega))
 have U5 := Lib.hid (rws_two U3.out Q4.out (Nat.le_of_lt B3.out.hb) g3 S4.out)
 clear g3 hz2 hz3 hz4
 go_wp2_with fail
 refine (R3.out _).mono ?_
 rintro ed w6 ⟨c3, rfl, hc, hb⟩
 have C6 := Lib.hid hc
 have B6 := Lib.hid (B5.out.below hb)
 have N6 := Lib.hid (rd_ne B6.out.rd hc)
 have U6 := Lib.hid (Rws.below U5.out hb)
 clear hc hb
 go_wp2_with fail
 refine (I3.out _ B6.out.rd).mono ?_
 rintro ed w7 ⟨p7, rfl, h2, hp, h3, g2⟩
 have P7 := Lib.hid h2
 have B7 := Lib.hid (B6.out.inner h3 g2)
 have S7 := Lib.hid hp
 have C7 := Lib.hid (C6.out.grown g2 (fun q => N6.out (by injection q with q; exact q.symm)))
 have M7 : Hid (c3 ≠ p7) := Lib.hid (by have := Row.inHeap C6.out; omega)
 have Q7 := Lib.hid g2
 clear h2 hp h3 g2
 go_wp2_with fail
 refine (L3.out _ _ _ P7.out (C7.out.at 0) M7.out).mono ?_
 rintro ed w8 ⟨v8, rfl, hu, -, g3⟩
 have hz2 := B6.out.size
 have hz3 := S7.out
 have hz4 := B7.out.size
 have B8 := Lib.hid (B7.out.part g3 (by omega))
 have N8 := Lib.hid (rws_new hu hz4)
 have U8 := Lib.hid (rws_two U6.out Q7.out (Nat.le_of_lt B6.out.hb) g3 S7.out)
 clear hu g3 hz2 hz3 hz4
 obtain ⟨A, ca, e1, -⟩ := U8.out.parts
 obtain ⟨A2, ca2, e2, -⟩ := N8.out.parts
 subst e1 e2
 have ON := Lib.hid (RFr.In.one (r := ⟨.slice A f.length ca, .slice A2 no.length ca2, ⟨f, xv, no⟩⟩) ⟨U8.out, N8.out, HV.out⟩)
 go_wp2_with (first | refine wpList_frbuild rfl (.tmp 6) (.tmp 9) (.tmp 13) rfl f no (by rfl) (by rfl) (by rfl) HV.out ?_ | refine wpList_rstore (cs := rfV ⟨.slice A f.length ca, .slice A2 no.length ca2, ⟨f, xv, no⟩⟩) (by rfl) (.tmp 2) (.tmp 14) (by rfl) (by rfl) (by rfl) B8.out.box (frSize HV.out) (by rw [frZ_size, rf_len HV.out]) ON.out ?_)
 rintro w9 hr9 hk9
 have hw9 := B8.out.set hk9
 have R9 := Lib.hid hr9
 have D9 := Lib.hid hw9
 have F9 := Lib.hid (rws_set U8.out hk9)
 have E9 := Lib.hid (rws_set N8.out hk9)
 clear hr9 hk9 hw9
 go_wp2_with fail
 exact bodyPost_ret (v := frA ⟨.slice A f.length ca, .slice A2 no.length ca2, ⟨f, xv, no⟩⟩) (results_cell_row (by rfl) _ _ w.heap.size 91 _ (0, 0) _ (by rfl) R9.out Tryz.underlying91 rfl (by have := frSize (r := ⟨.slice A f.length ca, .slice A2 no.length ca2, ⟨f, xv, no⟩⟩) HV.out; rwa [← List.size_toArray] at this)) rfl ⟨⟨_, rfl, rfl, ⟨F9.out, E9.out, HV.out⟩⟩, D9.out.1, D9.out.2⟩
open Go.RowKit Go.Sort
open Go.RowKit Go.Sort
def Off2 (v u : Value) (b : Nat) : Prop := Off v b ∧ Off u b
structure JO (w : World) (J0 : List RFr) (y : RFr) (v : Value) (W : World) : Prop where
 own : RowsOwn 91 67 rfV w (J0 ++ [y]) v W
 ins : ∀ r ∈ J0, r.In W (Off2 v y.fv)
 f : W.ownsRow w.heap.size 116 3 y.fv y.x.f.length (y.x.f.flatMap clV)
 no : Vrs W (Off2 v y.fv) y.nv y.x.no
 len : y.x.v.length = 65
 ap : ∀ g, y.fv.ownBlock = some g → v.ownBlock ≠ some g
section
variable {w W W' : World} {J0 JS : List RFr} {y : RFr} {v v' : Value}
theorem JO.below (h : JO w J0 y v W) (hb : Below W.heap.size W W') (hw : w.heap.size ≤ W.heap.size) : JO w J0 y v W' :=
 ⟨h.own.below hb, fun r hr => (h.ins r hr).below hb, h.f.kept (Kept.ofBelow hb (fun i => i = W.heap.size)).grown (Or.inr (fun e => by have := (h.f.lt _ e).2; omega)), Rws.below h.no hb, h.len, h.ap⟩
theorem near_off {u u' : Value} {b : Nat} (h : Off u b) (hb : b < W.heap.size) (hn : Near W u u') : Off u' b := by
 intro e
 rcases hn with hn | hn
 ·rw [hn] at e; exact h e
 ·have := hn b e; omega
theorem kept_of {r : Option Nat} (h : W.grownBy W' r) : Kept (fun i => r = some i) W W' := ⟨h.os, h.tape, h.output, h.size, fun k hk hne => h.block k hk (fun e => hne e.symm)⟩
theorem RFr.In.grown2 {r : RFr} {u : Value} (h : r.In W (Off2 v u)) (hg : W.grownBy W' v.ownBlock) (hn : Near W v v') : r.In W' (Off2 v' u) :=
 ((h.lt.kept (kept_of hg) (fun i hi => hi.1.1)).mono (fun i hi => ⟨near_off hi.1.1 hi.2 hn, hi.1.2⟩))
theorem JO.push {u nv : Value} {f : List Flt.Cl} {x : List Int} {no : List Ver.V} {o : Obj} (h : FOwn w JS v W) (h2 : ∀ r ∈ JS, r.In W (Off2 v u)) (hf : W.ownsRow w.heap.size 116 3 u f.length (f.flatMap clV)) (hno : Vrs W (Off2 v u) nv no) (hx : x.length = 65)
  (hap : ∀ g, u.ownBlock = some g → v.ownBlock ≠ some g) (hown : W'.ownsRow w.heap.size 91 67 v' (JS.length + 1) (JS.flatMap rfV ++ rfV ⟨u, nv, ⟨f, x, no⟩⟩)) (hg : (W.alloc o).grownBy W' v.ownBlock) (hn : Near (W.alloc o) v v') : JO w JS ⟨u, nv, ⟨f, x, no⟩⟩ v' W' := by
 have hb : Below W.heap.size W (W.alloc o) := (Below.refl _ _).alloc (Nat.le_refl _) o
 refine ⟨h.own.more hown hg, fun r hr => ((h2 r hr).below hb).grown2 hg hn, ?_, ?_, hx, fun g hu e => ?_⟩
 ·exact own_left (row_lower (row_below (base := w.heap.size) hf hb) (Nat.le_refl _)) hg (fun g hu e => hap g hu e)
 ·have h1 : Vrs W' (fun i => (Off2 v u i) ∧ i < (W.alloc o).heap.size) nv no := (Rws.below hno hb).lt.kept (kept_of hg) (fun i hi => hi.1.1)
  exact h1.mono (fun i hi => ⟨near_off hi.1.1 hi.2 hn, hi.1.2⟩)
 ·have hlt := (hf.lt g hu).2
  rcases hn with hn | hn
  ·rw [hn] at e; exact hap g hu e
  ·have := hn g e
   rw [World.size_alloc] at this
   omega
theorem fr_made1 (w : World) (t : TypeId) (r : RFr) : Rws 67 rfV (w.alloc (.cells (rfV r).toArray t)) (NewIn w (w.alloc (.cells (rfV r).toArray t))) (.slice (some ⟨w.heap.size, 0, none⟩) 1 1) [r] := by
 refine ⟨_, 1, rfl, Nat.le_refl _, fun _ => ⟨w.heap.size, 0, rfl, ⟨Nat.le_refl _, by simp⟩, by simp, fun i x hx j u hu => ?_⟩⟩
 have hi : i = 0 := by obtain ⟨h, _⟩ := List.getElem?_eq_some_iff.1 hx; simpa using h
 subst hi
 have e : x = r := by simpa using hx.symm
 subst e
 have := range_row (Row.made w t (rfV x).toArray) j u hu
 rw [Nat.zero_add] at this
 simpa using this
end
namespace Know
theorem step_len (j : List Fr) (z : Fr) : (step j z).length ≤ j.length + 1 := by
 rcases List.eq_nil_or_concat j with rfl | ⟨j0, y, rfl⟩
 ·simp [step_none]
 ·rw [List.concat_eq_append]
  by_cases h : Keyd y z
  ·rw [step_same _ _ _ h]; simp
  ·rw [step_new _ _ _ h]; simp
end Know
open Go.RowKit Go.Sort
theorem vec_eqL {x y : List Int} (hx : x.length = 65) (hy : y.length = 65) (w : World) : (Op.equalIn 10000 32 (.agg (vecL x).toArray) (.agg (vecL y).toArray)).run Tryz.prog w = .ok (decide (x = y)) w := vec_eq hx hy w
open Go.RowKit Go.ChangeMaps
theorem ver_law : WideMaps.KeyLaw Tryz.prog 51 := deep_law_laid (m := 9) (by kernel_rfl) (by decide) (of_decide_eq_true (by kernel_rfl)) (by kernel_rfl) (by kernel_rfl)
theorem ver_wf {n : Int} (h : Ver.I64 n) : (Lit.int .i64 n).wf = true := by
 unfold Ver.I64 at h
 simp only [Lit.wf, Bool.and_eq_true, decide_eq_true_iff]
 have h1 : IntKind.i64.min = -9223372036854775808 := rfl
 have h2 : IntKind.i64.max = 9223372036854775807 := rfl
 omega
theorem ver_sized : ∃ m, Tryz.prog.types.size + 1 = m + 2 := ⟨_, rfl⟩
theorem ver_key {x : Ver.V} (h : Ver.Bd x) : ∃ l, keyOf Tryz.prog 51 (verA x) = some l := by
 have w1 := ver_wf h.1
 have w2 := ver_wf h.2
 have hc : Tryz.prog.cellsOf 51 = 2 := by kernel_rfl
 have hi : Tryz.prog.cellsOf 3 = 1 := by kernel_rfl
 have hkt : Tryz.prog.keyType 51 = true := by kernel_rfl
 obtain ⟨m, hm⟩ := ver_sized
 refine ⟨.string (keyBytes [.int .i64 x.by_, .int .i64 x.n]), ?_⟩
 unfold keyOf
 rw [hm]
 simp [Tryz.underlying51, hkt, Value.formed, hc, Program.keyLits, Tryz.underlying3, hi, w1, w2, Value.cells]
theorem verA_inj {x y : Ver.V} (h : verA x = verA y) : x = y := by
 cases x; cases y
 simpa using h
abbrev Ver.Fn := Ver.V → Option Value
def Ver.set (m : Ver.Fn) (x : Ver.V) (v : Value) : Ver.Fn := fun y => if y = x then some v else m y
def VmAt (w : World) (bm : Nat) (m : Ver.Fn) : Prop := ∃ es clock, w.heap[bm]? = some (.map es clock) ∧ (∀ e ∈ es.toList, ∃ x : Ver.V, Ver.Bd x ∧ e.key = verA x ∧ m x = some e.val) ∧
 (∀ x v, m x = some v → ∃ e ∈ es.toList, e.key = verA x) ∧ es.toList.Pairwise (fun a b => a.key ≠ b.key)
section
variable {w w' : World} {bm : Nat} {m : Ver.Fn} {T E : TypeId} {z : Value}
theorem VmAt.lt (h : VmAt w bm m) : bm < w.heap.size := by
 obtain ⟨es, clock, hb, -⟩ := h
 exact (Array.getElem?_eq_some_iff.1 hb).1
theorem VmAt.kept {G : Nat → Prop} (h : VmAt w bm m) (k : Kept G w w') (hd : ¬ G bm) : VmAt w' bm m := by
 have hl := h.lt
 obtain ⟨es, clock, hb, r⟩ := h
 exact ⟨es, clock, (k.block bm hl hd).trans hb, r⟩
theorem VmAt.below (h : VmAt w bm m) (k : Below w.heap.size w w') : VmAt w' bm m := h.kept (Kept.ofBelow k (fun _ => False)) (fun h => h)
theorem VmAt.made (w : World) : VmAt (w.alloc (.map #[] 0)) w.heap.size (fun _ => none) := ⟨#[], 0, Array.getElem?_push_size, fun e h => absurd h (List.not_mem_nil), fun x v h => (by cases h), List.Pairwise.nil⟩
def Ver.got (m : Ver.Fn) (z : Value) (x : Ver.V) : Value := .tuple #[(m x).getD z, .bool (m x).isSome]
theorem VmAt.look (h : VmAt w bm m) (hu : Tryz.prog.underlying T = some (.map 51 E)) (hz : (zeroValue E).run Tryz.prog w = .ok z w) {x : Ver.V} (hx : Ver.Bd x) : (Instr.lookup T (.map (some bm)) (verA x) true).run Tryz.prog w = .ok (Ver.got m z x) w := by
 obtain ⟨es, clock, hb, h1, h2, h3⟩ := h
 have K := ver_law
 obtain ⟨kl, hkey⟩ := ver_key hx
 unfold Ver.got
 rcases K.find w hkey es.toList (fun e he => by obtain ⟨y, hy, e1, -⟩ := h1 e he; rw [e1]; exact ver_key hy) with ⟨f1, f2⟩ | ⟨j, e0, f1, f2, f3⟩
 ·have hn : m x = none := by
   cases hm : m x with
   | none => rfl
   | some v =>
    obtain ⟨e, he, e1⟩ := h2 x v hm
    exact absurd e1 (f2 e he)
  rw [hn]
  simp [Instr.lookup, run_underlying hu, MapKept.run_getObj_map hb, K.check w _ hkey, f1, hz, Result.andThen]
 ·obtain ⟨y, hy, e1, e2⟩ := h1 e0 (List.mem_of_getElem? f2)
  have hxy : y = x := verA_inj (e1.symm.trans f3)
  subst hxy
  rw [e2]
  simp [Instr.lookup, run_underlying hu, MapKept.run_getObj_map hb, K.check w _ hkey, f1, Result.andThen]
theorem VmAt.put (h : VmAt w bm m) (hu : Tryz.prog.underlying T = some (.map 51 E)) {x : Ver.V} (hx : Ver.Bd x) (v : Value) :
  ∃ w', (Instr.mapUpdate T (.map (some bm)) (verA x) v).run Tryz.prog w = .ok () w' ∧ VmAt w' bm (Ver.set m x v) ∧ w.grownBy w' (some bm) := by
 have hlt := h.lt
 obtain ⟨es, clock, hb, h1, h2, h3⟩ := h
 have K := ver_law
 obtain ⟨kl, hkey⟩ := ver_key hx
 have hself : Ver.set m x v x = some v := by unfold Ver.set; rw [if_pos rfl]
 have hother : ∀ y, y ≠ x → Ver.set m x v y = m y := fun y hy => by unfold Ver.set; rw [if_neg hy]
 have hgrow : ∀ o : Obj, w.grownBy (setBlock w bm o) (some bm) := fun o => ⟨rfl, rfl, rfl, by simp [setBlock], fun k hk hne => by
  have hne : bm ≠ k := fun e => hne (by rw [e])
  simp [setBlock, Array.getElem?_setIfInBounds, hne]⟩
 have hget : ∀ o : Obj, (setBlock w bm o).heap[bm]? = some o := fun o => by simp [setBlock, hlt]
 rcases K.find w hkey es.toList (fun e he => by obtain ⟨y, hy, e1, -⟩ := h1 e he; rw [e1]; exact ver_key hy) with ⟨f1, f2⟩ | ⟨j, e0, f1, f2, f3⟩
 ·refine ⟨setBlock w bm (.map (es.push ⟨verA x, v, clock⟩) (clock + 1)), ?_, ⟨_, _, hget _, ?_, ?_, ?_⟩, hgrow _⟩
  ·simp [Instr.mapUpdate, run_underlying hu, MapKept.run_getObj_map hb, K.check w false hkey, f1, MapKept.run_setObj_map _ hb, Result.andThen, setBlock]
  ·intro e he
   rw [Array.toList_push] at he
   rcases List.mem_append.1 he with he | he
   ·obtain ⟨y, hy, e1, e2⟩ := h1 e he
    have hne : y ≠ x := fun q => f2 e he (by rw [e1, q])
    exact ⟨y, hy, e1, by rw [hother y hne]; exact e2⟩
   ·rw [List.mem_singleton.1 he]
    exact ⟨x, hx, rfl, hself⟩
  ·intro y u hy
   by_cases e : y = x
   ·exact ⟨⟨verA x, v, clock⟩, by rw [Array.toList_push]; simp, by rw [e]⟩
   ·rw [hother y e] at hy
    obtain ⟨e, he, e1⟩ := h2 y u hy
    exact ⟨e, by rw [Array.toList_push]; exact List.mem_append.2 (Or.inl he), e1⟩
  ·rw [Array.toList_push]
   refine List.pairwise_append.2 ⟨h3, List.pairwise_singleton .., fun a ha b hb' => ?_⟩
   rw [List.mem_singleton.1 hb']
   exact f2 a ha
 ·have hj : es[j]? = some e0 := by simpa using f2
  have hjl : j < es.toList.length := (List.getElem?_eq_some_iff.1 f2).1
  have hlist : (es.modify j (fun e' => { e' with key := verA x, val := v })).toList = es.toList.set j ⟨verA x, v, e0.born⟩ := by
   rw [Array.toList_modify]
   apply List.ext_getElem?
   intro k
   rw [List.getElem?_modify, List.getElem?_set]
   by_cases e : j = k
   ·subst e
    rw [f2, if_pos rfl, if_pos hjl]
    show some (if j = j then _ else _) = _
    rw [if_pos rfl]
   ·rw [if_neg e]
    cases es.toList[k]? with
    | none => rfl
    | some a =>
     show some (if j = k then _ else a) = some a
     rw [if_neg e]
  refine ⟨setBlock w bm (.map (es.modify j (fun e' => { e' with key := verA x, val := v })) clock), ?_, ⟨_, _, hget _, ?_, ?_, ?_⟩, hgrow _⟩
  ·simp [Instr.mapUpdate, run_underlying hu, MapKept.run_getObj_map hb, K.check w false hkey, f1, hj, f3, K.stays w hkey, MapKept.run_setObj_map _ hb, Result.andThen, setBlock]
  ·intro e he
   rw [hlist] at he
   obtain ⟨k, hk⟩ := List.getElem?_of_mem he
   rw [List.getElem?_set] at hk
   by_cases ejk : j = k
   ·rw [if_pos ejk] at hk
    split at hk
    ·injection hk with hk
     rw [← hk]
     exact ⟨x, hx, rfl, hself⟩
    ·exact absurd hjl (by assumption)
   ·rw [if_neg ejk] at hk
    have hm := List.mem_of_getElem? hk
    obtain ⟨y, hy, e1, e2⟩ := h1 e hm
    have hne : y ≠ x := fun q => by
     obtain ⟨hkl, ek⟩ := List.getElem?_eq_some_iff.1 hk
     obtain ⟨hjl', ej⟩ := List.getElem?_eq_some_iff.1 f2
     have hkey2 : e.key = e0.key := by rw [e1, f3, q]
     rcases Nat.lt_or_gt_of_ne ejk with hlt2 | hlt2
     ·have := List.pairwise_iff_getElem.1 h3 j k hjl' hkl hlt2
      rw [ek, ej] at this
      exact this hkey2.symm
     ·have := List.pairwise_iff_getElem.1 h3 k j hkl hjl' hlt2
      rw [ek, ej] at this
      exact this hkey2
    exact ⟨y, hy, e1, by rw [hother y hne]; exact e2⟩
  ·intro y u hy
   have hex : ∃ e ∈ es.toList, e.key = verA y := by
    by_cases e : y = x
    ·rw [e]
     exact ⟨e0, List.mem_of_getElem? f2, f3⟩
    ·rw [hother y e] at hy
     exact h2 y u hy
   obtain ⟨e, he, e1⟩ := hex
   obtain ⟨k, hk⟩ := List.getElem?_of_mem he
   by_cases ejk : j = k
   ·subst ejk
    rw [f2] at hk
    injection hk with hk
    refine ⟨_, by rw [hlist]; exact List.mem_of_getElem? (List.getElem?_set_self hjl), ?_⟩
    rw [← e1, ← hk, f3]
   ·exact ⟨e, by rw [hlist]; exact List.mem_of_getElem? (by rw [List.getElem?_set_ne ejk]; exact hk), e1⟩
  ·rw [hlist]
   have hmap : (es.toList.set j ⟨verA x, v, e0.born⟩).map (·.key) = es.toList.map (·.key) := by
    rw [List.map_set]
    apply List.ext_getElem?
    intro k
    rw [List.getElem?_set]
    by_cases e : j = k
    ·subst e
     rw [if_pos rfl, if_pos (by rw [List.length_map]; exact hjl), List.getElem?_map, f2]
     show some (verA x) = some e0.key
     rw [f3]
    ·rw [if_neg e]
   have h3' : (es.toList.map (·.key)).Pairwise (· ≠ ·) := List.pairwise_map.2 h3
   rw [← hmap] at h3'
   exact List.pairwise_map.1 h3'
end
open Go.RowKit Go.ChangeMaps
def KmAt (w : World) (bm : Nat) (l : List Know.It) : Prop := ∃ es clock, w.heap[bm]? = some (.map es clock) ∧ (∀ e ∈ es.toList, ∃ x : Ver.V, Ver.Bd x ∧ e.key = verA x ∧ e.val = .agg (vecL (Know.vecOf l x)).toArray ∧ x ∈ l.map (·.item)) ∧
 (∀ x ∈ l.map (·.item), ∃ e ∈ es.toList, e.key = verA x) ∧ es.toList.Pairwise (fun a b => a.key ≠ b.key)
section
variable {w w' : World} {bm : Nat} {l : List Know.It}
theorem Know.vecOf_none {l : List Know.It} {x : Ver.V} (h : x ∉ l.map (·.item)) : Know.vecOf l x = Know.zeros := by
 have : ∀ n, n ≤ l.length → Know.vecOf (l.take n) x = Know.zeros := by
  intro n
  induction n with
  | zero => intro _; rw [List.take_zero]; rfl
  | succ n ih =>
   intro hn
   rw [List.take_succ_eq_append_getElem (by omega), Know.vecOf_more, if_neg (fun e => h (List.mem_map.2 ⟨_, List.getElem_mem _, e⟩))]
   exact ih (by omega)
 have h1 := this l.length (Nat.le_refl _)
 rwa [List.take_length] at h1
theorem KmAt.lt (h : KmAt w bm l) : bm < w.heap.size := by
 obtain ⟨es, clock, hb, -⟩ := h
 exact (Array.getElem?_eq_some_iff.1 hb).1
theorem KmAt.kept {G : Nat → Prop} (h : KmAt w bm l) (k : Kept G w w') (hd : ¬ G bm) : KmAt w' bm l := by
 have hl := h.lt
 obtain ⟨es, clock, hb, r⟩ := h
 exact ⟨es, clock, (k.block bm hl hd).trans hb, r⟩
theorem KmAt.below (h : KmAt w bm l) (k : Below w.heap.size w w') : KmAt w' bm l := h.kept (Kept.ofBelow k (fun _ => False)) (fun h => h)
theorem KmAt.made (w : World) : KmAt (w.alloc (.map #[] 0)) w.heap.size [] := ⟨#[], 0, Array.getElem?_push_size, fun e h => absurd h (List.not_mem_nil), fun x h => absurd h (List.not_mem_nil), List.Pairwise.nil⟩
theorem KmAt.look (h : KmAt w bm l) {x : Ver.V} (hx : Ver.Bd x) : (Instr.lookup 309 (.map (some bm)) (verA x) false).run Tryz.prog w = .ok (.agg (vecL (Know.vecOf l x)).toArray) w := by
 obtain ⟨es, clock, hb, h1, h2, h3⟩ := h
 have K := ver_law
 obtain ⟨kl, hkey⟩ := ver_key hx
 have hz : (zeroValue 32).run Tryz.prog w = .ok (.agg (vecL Vec.zeros).toArray) w := vecZero w
 rcases K.find w hkey es.toList (fun e he => by obtain ⟨y, hy, e1, -⟩ := h1 e he; rw [e1]; exact ver_key hy) with ⟨f1, f2⟩ | ⟨j, e0, f1, f2, f3⟩
 ·have hn : x ∉ l.map (·.item) := fun hm => by
   obtain ⟨e, he, e1⟩ := h2 x hm
   exact f2 e he e1
  rw [Know.vecOf_none hn]
  show _ = Result.ok (Value.agg (vecL Vec.zeros).toArray) w
  generalize Value.agg (vecL Vec.zeros).toArray = z at hz ⊢
  simp [Instr.lookup, run_underlying Tryz.underlying309, MapKept.run_getObj_map hb, K.check w _ hkey, f1, hz, Result.andThen]
 ·obtain ⟨y, hy, e1, e2, -⟩ := h1 e0 (List.mem_of_getElem? f2)
  have hxy : y = x := verA_inj (e1.symm.trans f3)
  subst hxy
  simp [Instr.lookup, run_underlying Tryz.underlying309, MapKept.run_getObj_map hb, K.check w _ hkey, f1, e2, Result.andThen]
theorem KmAt.put (h : KmAt w bm l) (i : Know.It) (hx : Ver.Bd i.item) :
  ∃ w', (Instr.mapUpdate 309 (.map (some bm)) (verA i.item) (Value.agg (vecL (Vec.join (Know.vecOf l i.item) i.v)).toArray)).run Tryz.prog w = .ok () w' ∧ KmAt w' bm (l ++ [i]) ∧ w.grownBy w' (some bm) := by
 have hlt := h.lt
 obtain ⟨es, clock, hb, h1, h2, h3⟩ := h
 have K := ver_law
 obtain ⟨kl, hkey⟩ := ver_key hx
 have hself : Know.vecOf (l ++ [i]) i.item = Vec.join (Know.vecOf l i.item) i.v := by rw [Know.vecOf_more, if_pos rfl]
 have hother : ∀ y, y ≠ i.item → Know.vecOf (l ++ [i]) y = Know.vecOf l y := fun y hy => by rw [Know.vecOf_more, if_neg (fun e => hy e.symm)]
 have hgrow : ∀ o : Obj, w.grownBy (setBlock w bm o) (some bm) := fun o => ⟨rfl, rfl, rfl, by simp [setBlock], fun k hk hne => by
  have hne : bm ≠ k := fun e => hne (by rw [e])
  simp [setBlock, Array.getElem?_setIfInBounds, hne]⟩
 have hget : ∀ o : Obj, (setBlock w bm o).heap[bm]? = some o := fun o => by simp [setBlock, hlt]
 rcases K.find w hkey es.toList (fun e he => by obtain ⟨y, hy, e1, -⟩ := h1 e he; rw [e1]; exact ver_key hy) with ⟨f1, f2⟩ | ⟨j, e0, f1, f2, f3⟩
 ·refine ⟨setBlock w bm (.map (es.push ⟨verA i.item, Value.agg (vecL (Vec.join (Know.vecOf l i.item) i.v)).toArray, clock⟩) (clock + 1)), ?_, ⟨_, _, hget _, ?_, ?_, ?_⟩, hgrow _⟩
  ·simp [Instr.mapUpdate, run_underlying Tryz.underlying309, MapKept.run_getObj_map hb, K.check w false hkey, f1, MapKept.run_setObj_map _ hb, Result.andThen, setBlock]
  ·intro e he
   rw [Array.toList_push] at he
   rcases List.mem_append.1 he with he | he
   ·obtain ⟨y, hy, e1, e2, e3⟩ := h1 e he
    have hne : y ≠ i.item := fun q => f2 e he (by rw [e1, q])
    exact ⟨y, hy, e1, by rw [hother y hne]; exact e2, by rw [List.map_append]; exact List.mem_append.2 (Or.inl e3)⟩
   ·rw [List.mem_singleton.1 he]
    exact ⟨i.item, hx, rfl, by rw [hself], by simp⟩
  ·intro x hxm
   rw [List.map_append] at hxm
   rcases List.mem_append.1 hxm with hm | hm
   ·obtain ⟨e, he, e1⟩ := h2 x hm
    exact ⟨e, by rw [Array.toList_push]; exact List.mem_append.2 (Or.inl he), e1⟩
   ·have : x = i.item := by simpa using hm
    subst this
    exact ⟨⟨verA i.item, Value.agg (vecL (Vec.join (Know.vecOf l i.item) i.v)).toArray, clock⟩, by rw [Array.toList_push]; simp, rfl⟩
  ·rw [Array.toList_push]
   refine List.pairwise_append.2 ⟨h3, List.pairwise_singleton .., fun a ha b hb' => ?_⟩
   rw [List.mem_singleton.1 hb']
   exact f2 a ha
 ·have hj : es[j]? = some e0 := by simpa using f2
  have hjl : j < es.toList.length := (List.getElem?_eq_some_iff.1 f2).1
  have hlist : (es.modify j (fun e' => { e' with key := verA i.item, val := Value.agg (vecL (Vec.join (Know.vecOf l i.item) i.v)).toArray })).toList = es.toList.set j ⟨verA i.item, Value.agg (vecL (Vec.join (Know.vecOf l i.item) i.v)).toArray, e0.born⟩ := by
   rw [Array.toList_modify]
   apply List.ext_getElem?
   intro k
   rw [List.getElem?_modify, List.getElem?_set]
   by_cases e : j = k
   ·subst e
    rw [f2, if_pos rfl, if_pos hjl]
    show some (if j = j then _ else _) = _
    rw [if_pos rfl]
   ·rw [if_neg e]
    cases es.toList[k]? with
    | none => rfl
    | some a =>
     show some (if j = k then _ else a) = some a
     rw [if_neg e]
  refine ⟨setBlock w bm (.map (es.modify j (fun e' => { e' with key := verA i.item, val := Value.agg (vecL (Vec.join (Know.vecOf l i.item) i.v)).toArray })) clock), ?_, ⟨_, _, hget _, ?_, ?_, ?_⟩, hgrow _⟩
  ·simp [Instr.mapUpdate, run_underlying Tryz.underlying309, MapKept.run_getObj_map hb, K.check w false hkey, f1, hj, f3, K.stays w hkey, MapKept.run_setObj_map _ hb, Result.andThen, setBlock]
  ·intro e he
   rw [hlist] at he
   obtain ⟨k, hk⟩ := List.getElem?_of_mem he
   rw [List.getElem?_set] at hk
   by_cases ejk : j = k
   ·rw [if_pos ejk] at hk
    split at hk
    ·injection hk with hk
     rw [← hk]
     exact ⟨i.item, hx, rfl, by rw [hself], by simp⟩
    ·exact absurd hjl (by assumption)
   ·rw [if_neg ejk] at hk
    have hm := List.mem_of_getElem? hk
    obtain ⟨y, hy, e1, e2, e3⟩ := h1 e hm
    have hne : y ≠ i.item := fun q => by
     obtain ⟨hkl, ek⟩ := List.getElem?_eq_some_iff.1 hk
     obtain ⟨hjl', ej⟩ := List.getElem?_eq_some_iff.1 f2
     have hkey2 : e.key = e0.key := by rw [e1, f3, q]
     rcases Nat.lt_or_gt_of_ne ejk with hlt2 | hlt2
     ·have := List.pairwise_iff_getElem.1 h3 j k hjl' hkl hlt2
      rw [ek, ej] at this
      exact this hkey2.symm
     ·have := List.pairwise_iff_getElem.1 h3 k j hkl hjl' hlt2
      rw [ek, ej] at this
      exact this hkey2
    exact ⟨y, hy, e1, by rw [hother y hne]; exact e2, by rw [List.map_append]; exact List.mem_append.2 (Or.inl e3)⟩
  ·intro x hxm
   rw [List.map_append] at hxm
   have hex : ∃ e ∈ es.toList, e.key = verA x := by
    rcases List.mem_append.1 hxm with hm | hm
    ·exact h2 x hm
    ·have : x = i.item := by simpa using hm
     rw [this]
     exact ⟨e0, List.mem_of_getElem? f2, f3⟩
   obtain ⟨e, he, e1⟩ := hex
   obtain ⟨k, hk⟩ := List.getElem?_of_mem he
   by_cases ejk : j = k
   ·subst ejk
    rw [f2] at hk
    injection hk with hk
    refine ⟨_, by rw [hlist]; exact List.mem_of_getElem? (List.getElem?_set_self hjl), ?_⟩
    rw [← e1, ← hk, f3]
   ·exact ⟨e, by rw [hlist]; exact List.mem_of_getElem? (by rw [List.getElem?_set_ne ejk]; exact hk), e1⟩
  ·rw [hlist]
   have hmap : (es.toList.set j ⟨verA i.item, Value.agg (vecL (Vec.join (Know.vecOf l i.item) i.v)).toArray, e0.born⟩).map (·.key) = es.toList.map (·.key) := by
    rw [List.map_set]
    apply List.ext_getElem?
    intro k
    rw [List.getElem?_set]
    by_cases e : j = k
    ·subst e
     rw [if_pos rfl, if_pos (by rw [List.length_map]; exact hjl), List.getElem?_map, f2]
     show some (verA i.item) = some e0.key
     rw [f3]
    ·rw [if_neg e]
   have h3' : (es.toList.map (·.key)).Pairwise (· ≠ ·) := List.pairwise_map.2 h3
   rw [← hmap] at h3'
   exact List.pairwise_map.1 h3'
end
open Go.RowKit Go.Sort
open Go.RowKit Go.Sort
end Go.Proofs.YtpafpegcodempaaGreat
