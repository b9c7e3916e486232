import Derived.Test.YtpafpegcodempaaGreatCom25
import Derived.Test.YtpafpegcodempaaGreatCom24
import Derived.Test.YtpafpegcodempaaGreatCom16
import Derived.Test.YtpafpegcodempaaGreatCom13
import Derived.Test.YtpafpegcodempaaGreatCom19
set_option maxRecDepth 100000
set_option linter.all false
set_option maxHeartbeats 12800000
namespace Go.Proofs.YtpafpegcodempaaGreat
open Go.RowKit Go.Sort
theorem Rws.both {α : Type} {k : Nat} {f : α → List Value} {w : World} {F G : Nat → Prop} {v : Value} {l : List α} (h : Rws k f w F v l) (g : Rws k f w G v l) : Rws k f w (fun i => F i ∧ G i) v l := by
 obtain ⟨A, cap, e, hc, hat⟩ := h
 obtain ⟨A', cap', e', hc', hat'⟩ := g
 refine ⟨A, cap, e, hc, fun h0 => ?_⟩
 obtain ⟨b, o, eA, hF, hlt, hcl⟩ := hat h0
 obtain ⟨b', o', eA', hF', -, -⟩ := hat' h0
 rw [e] at e'
 injection e' with e1 e2 e3
 rw [eA, eA'] at e1
 injection e1 with e1
 injection e1 with e1
 exact ⟨b, o, eA, ⟨hF, by rw [e1]; exact hF'⟩, hlt, hcl⟩
theorem RFr.In.both {w : World} {F G : Nat → Prop} {r : RFr} (h : r.In w F) (g : r.In w G) : r.In w (fun i => F i ∧ G i) := ⟨Rws.both h.f g.f, Rws.both h.no g.no, h.len⟩
theorem RFr.In.away {w : World} {F : Nat → Prop} {r : RFr} (h : r.In w F) {b m n c d : Nat} {t : TypeId} {A B : Option Addr} (hr : Row w b t #[.slice A m c, .slice B n d]) : r.In w (fun i => F i ∧ i ≠ b) :=
 h.both ⟨cls_away h.f hr, vrs_away h.no hr, h.len⟩
theorem FrIn.below {w w' : World} {r : RFr} (h : FrIn w r) (hb : Below w.heap.size w w') : FrIn w' r := ⟨(h.rin.below hb).mono (fun i hi => Nat.lt_of_lt_of_le hi hb.size), h.fl, h.fi, h.nl, h.vb, h.nb⟩
theorem KnIn.below {w w' : World} {a b : Value} {rs : List RFr} {m : List Know.It} (h : KnIn w a b rs m) (hb : Below w.heap.size w w') : KnIn w' a b rs m :=
 ⟨(Rws.below h.rows hb).mono (fun i hi => Nat.lt_of_lt_of_le hi hb.size), fun r hr => (h.ins r hr).below hb, h.len, (Rws.below h.its hb).mono (fun i hi => Nat.lt_of_lt_of_le hi hb.size), h.inI, h.lenI⟩
structure SanAt (w0 w : World) (A B : Option Addr) (n1 ca n2 cb : Nat) (v : Value) (RS : List RFr) (wr : World) : Prop where
 own : FOwn w RS v wr
 far : ∀ g, v.ownBlock = some g → w.heap.size + 1 + 1 < g
 r0 : Row wr w.heap.size 28 #[.slice A n1 ca, .slice B n2 cb]
 r1 : Row wr (w.heap.size + 1) 28 #[.slice none 0 0, .slice none 0 0]
 r2 : Row wr (w.heap.size + 1 + 1) 28 #[v, .slice none 0 0]
 old : w0.heap.size ≤ w.heap.size
 noF : ∀ r ∈ RS, Vrs wr (fun i => i < w0.heap.size) r.nv r.x.no
section
variable {w0 w wr W : World} {A B : Option Addr} {n1 ca n2 cb : Nat} {v : Value} {RS : List RFr}
theorem SanAt.below (h : SanAt w0 w A B n1 ca n2 cb v RS wr) (hb : Below wr.heap.size wr W) : SanAt w0 w A B n1 ca n2 cb v RS W :=
 ⟨h.own.below hb, h.far, h.r0.below hb h.r0.inHeap, h.r1.below hb h.r1.inHeap, h.r2.below hb h.r2.inHeap, h.old, fun r hr => Rws.below (h.noF r hr) hb⟩
theorem SanAt.parts (h : SanAt w0 w A B n1 ca n2 cb v RS wr) : ∃ V c, v = .slice V RS.length c := by
 obtain ⟨V, c, e, -⟩ := h.own.rws.parts
 exact ⟨V, c, e⟩
theorem SanAt.step {r : RFr} {v' : Value} {w9 : World} {o : Obj} (h : SanAt w0 w A B n1 ca n2 cb v RS wr) (hr : r.In wr (Off v)) (hno : Vrs wr (fun i => i < w0.heap.size) r.nv r.x.no) (hown : w9.ownsRow w.heap.size 91 67 v' (RS.length + 1) (RS.flatMap rfV ++ rfV r)) (hg : (wr.alloc o).grownBy w9 v.ownBlock) (hn : Near (wr.alloc o) v v') :
  Row w9 (w.heap.size + 1 + 1) 28 #[v, .slice none 0 0] ∧ SanAt w0 w A B n1 ca n2 cb v' (RS ++ [r]) (w9.setCell ⟨w.heap.size + 1 + 1, 0, none⟩ v') := by
 have F9 := h.own.more hr hown hg hn
 have h2s := h.r2.inHeap
 have far9 : ∀ g, v'.ownBlock = some g → w.heap.size + 1 + 1 < g := by
  intro g hgo
  rcases hn with e | e
  ·exact h.far g (by rw [← e]; exact hgo)
  ·have := e g hgo; rw [World.size_alloc] at this; omega
 have K9 : Kept (fun i => v.ownBlock = some i) (wr.alloc o) w9 := Kept.ofGrown hg (fun i e => e)
 have hA : Below wr.heap.size wr (wr.alloc o) := (Below.refl _ _).alloc (Nat.le_refl _) _
 have row9 : ∀ {i : Nat} {cs : Array Value}, i ≤ w.heap.size + 1 + 1 → Row wr i 28 cs → Row w9 i 28 cs := fun {i cs} hi hrow => (hrow.below hA hrow.inHeap).kept K9 (fun e => by have := h.far i e; omega)
 have s0 := row9 (by omega) h.r0
 have s1 := row9 (by omega) h.r1
 have s2 := row9 (Nat.le_refl _) h.r2
 obtain ⟨V, c, ev⟩ := h.parts
 have KS : Kept (fun i => i = w.heap.size + 1 + 1) w9 (w9.setCell ⟨w.heap.size + 1 + 1, 0, none⟩ v') := Kept.stored (p := ⟨w.heap.size + 1 + 1, 0, none⟩) (Kept.refl (fun i => i = w.heap.size + 1 + 1) _) (Or.inl rfl) _
 refine ⟨s2, ⟨⟨own_left F9.own.1 KS.grown (fun g hg e => by injection e with e; have := far9 g hg; omega), F9.own.2.trans (KS.below F9.own.2.size (fun i hi => by rw [hi]; omega))⟩, fun x hx => ?_⟩, far9, ?_, ?_, ?_, h.old, fun x hx => ?_⟩
 ·subst ev
  exact ((((F9.ins x hx).away s2).kept KS (fun i hi e => hi.2 e))).mono (fun i hi => hi.1)
 ·exact s0.kept KS (by omega)
 ·exact s1.kept KS (by omega)
 ·exact s2.stored 0 v'
 ·have h0 : Vrs wr (fun i => i < w0.heap.size) x.nv x.x.no := by
   rcases List.mem_append.1 hx with hx | hx
   ·exact h.noF x hx
   ·rw [List.mem_singleton.1 hx]; exact hno
  have ho := h.old
  exact ((Rws.below h0 hA).kept K9 (fun i hi e => by have hi : i < w0.heap.size := hi; have := h.far i e; omega)).kept KS (fun i hi e => by have hi : i < w0.heap.size := hi; have e : i = w.heap.size + 1 + 1 := e; omega)
theorem SanAt.fin (h : SanAt w0 w A B n1 ca n2 cb v RS wr) (hk : Kept (fun i => i = w.heap.size + 1 ∨ i = w.heap.size + 1 + 1) wr W) : Rws 67 rfV W (fun i => w.heap.size ≤ i) v RS ∧ (∀ r ∈ RS, r.In W AnyB) ∧ ∀ r ∈ RS, Vrs W (fun i => i < w0.heap.size) r.nv r.x.no := by
 obtain ⟨V, c, ev⟩ := h.parts
 refine ⟨?_, fun r hr => ?_, fun r hr => (h.noF r hr).kept hk (fun i hi e => by have hi : i < w0.heap.size := hi; have := h.old; rcases e with e | e <;> omega)⟩
 ·have hrow := h.own.own.rows h.own.lens
  obtain ⟨A', cap, e, hc, hat⟩ := hrow
  have hF : Rws 67 rfV wr (fun i => w.heap.size + 1 + 1 < i) v RS := by
   refine ⟨A', cap, e, hc, fun h0 => ?_⟩
   obtain ⟨b, o, eA, hF, hlt, hcl⟩ := hat h0
   refine ⟨b, o, eA, ?_, hlt, hcl⟩
   obtain ⟨g, cap1, e1, -, -⟩ := h.own.own.1.form h0
   rw [e1] at e
   injection e with e2 e3 e4
   rw [eA] at e2
   injection e2 with e2
   injection e2 with e2
   have := h.far g (by rw [e1]; rfl)
   omega
  exact (hF.kept hk (fun i hi e => by omega)).mono (fun i hi => by omega)
 ·have h1 := (h.own.ins r hr).away h.r1
  have s2 := h.r2
  rw [ev] at s2
  have h2 := h1.away s2
  exact (h2.kept hk (fun i hi e => by rcases e with e | e; exact hi.1.2 e; exact hi.2 e)).any
end
theorem take_min12 {α : Type} (l : List α) : l.take (min l.length 12) = l.take 12 := by
 by_cases h : l.length ≤ 12
 ·rw [Nat.min_eq_left h, List.take_of_length_le (Nat.le_refl _), List.take_of_length_le h]
 ·rw [Nat.min_eq_right (by omega)]
theorem san_no {w : World} {F : Nat → Prop} {v : Value} {l : List Ver.V} {A : Option Addr} {c : Nat} (e : v = .slice A l.length c) (h : Vrs w F v l) : Vrs w F (.slice A (min l.length 12) c) (l.take 12) := by
 have hc : l.length ≤ c := by
  obtain ⟨A', c', e', hc, -⟩ := h
  rw [e] at e'
  injection e' with _ _ e3
  omega
 have := Rws.take h e (min l.length 12) (by omega) c (by omega)
 rwa [take_min12] at this
theorem san_its2 {w : World} {F : Nat → Prop} {l : List Know.It} {A : Option Addr} {c : Nat} (h : Rws 67 itV w F (.slice A l.length c) l) (hi : ∀ i ∈ l, ItIn i) : Rws 67 itV w F (.slice A (min l.length 12) c) (l.take 12) ∧ ∀ i ∈ l.take 12, i.v.length = 65 := by
 have hc : l.length ≤ c := by
  obtain ⟨A', c', e', hc, -⟩ := h
  injection e' with _ _ e3
  omega
 have := Rws.take h rfl (min l.length 12) (by omega) c (by omega)
 rw [take_min12] at this
 exact ⟨this, fun i hx => (hi i (List.mem_of_mem_take hx)).len⟩
theorem san_more {rs : List RFr} {RS : List RFr} {n : Nat} {r r' : RFr} (h : RS.map (·.x) = ((rs.take n).map (·.x)).map Know.cutFr) (hr : rs[n]? = some r) (hx : r'.x = Know.cutFr r.x) : (RS ++ [r']).map (·.x) = ((rs.take (n + 1)).map (·.x)).map Know.cutFr := by
 obtain ⟨hl, e⟩ := List.getElem?_eq_some_iff.1 hr
 rw [List.take_succ_eq_append_getElem hl, e, List.map_append, List.map_append, List.map_append, h]
 simp [hx]
def SanNew (w0 w : World) (v : Value) (c : Know.K) (w' : World) : Prop := ∃ A m e B n d rs, v = .agg #[.slice A m e, .slice B n d] ∧ rs.map (·.x) = c.frags ∧ Rws 67 rfV w' (fun i => w.heap.size ≤ i) (.slice A m e) rs ∧ (∀ r ∈ rs, r.In w' AnyB) ∧ (∀ r ∈ rs, Vrs w' (fun i => i < w0.heap.size) r.nv r.x.no) ∧ Rws 67 itV w' (fun i => i < w0.heap.size) (.slice B n d) c.items ∧ ∀ i ∈ c.items, i.v.length = 65
theorem SanNew.new {w0 w w' : World} {v : Value} {c : Know.K} (h : SanNew w0 w v c w') : KnNew w v c w' := by
 obtain ⟨A, m, e, B, n, d, rs, e1, e2, h1, h2, h3, h4, h5⟩ := h
 exact ⟨_, _, rs, e1, e2, h1, h2, h4.mono (fun _ _ => trivial), h5⟩
theorem law15_Sane2 {w0 w : World} {a b : Value} {rs : List RFr} {m : List Know.It} (h0 : KnIn w0 a b rs m) (hold : Below w0.heap.size w0 w) :
  Calls Tryz.prog 11 #[.agg #[a, b]] w fun e w' => ∃ v', e = .returned v' ∧ SanNew w0 w v' (Know.cutK ⟨rs.map (·.x), m⟩) w' ∧ Below w.heap.size w w' := by
 have h := h0.below hold
 have Hno := Lib.hid (fun (W : World) (hW : Below w.heap.size w W) (r : RFr) (hr : r ∈ rs) => Rws.below (Rws.below (h0.ins r hr).rin.no hold) hW)
 have Hits := Lib.hid (fun (W : World) (hW : Below w.heap.size w W) => Rws.below (Rws.below h0.its hold) hW)
 have Hold := Lib.hid hold.size
 clear h0 hold
 have mixed : Tryz.prog.follows .mixedOrders = true := by kernel_rfl
 have hz := knZero
 have hzf := frZero
 obtain ⟨i1, hi1, hy0, hy1, hy2⟩ := ver_parts frInfo
 obtain ⟨A, ca, rfl, hca⟩ := h.rows.parts
 obtain ⟨B, cb, rfl, hcb⟩ := h.its.parts
 obtain ⟨W0, hW0⟩ : ∃ W0, W0 = ((w.alloc (.cells #[.slice A rs.length ca, .slice B m.length cb] 28)).alloc (.cells #[.slice none 0 0, .slice none 0 0] 28)).alloc (.cells #[.slice none 0 0, .slice none 0 0] 28) := ⟨_, rfl⟩
 have hb0 : Below w.heap.size w W0 := by rw [hW0]; exact (((Below.refl _ _).alloc (Nat.le_refl _) _).alloc (by simp) _).alloc (by simp; omega) _
 have r0 : Row W0 w.heap.size 28 #[.slice A rs.length ca, .slice B m.length cb] := by rw [hW0]; exact ((Row.made w _ _).behindNew _).behindNew _
 have r1 : Row W0 (w.heap.size + 1) 28 #[.slice none 0 0, .slice none 0 0] := by
  rw [hW0]
  have := (Row.made (w.alloc (.cells #[.slice A rs.length ca, .slice B m.length cb] 28)) 28 #[.slice none 0 0, .slice none 0 0]).behindNew (.cells #[.slice none 0 0, .slice none 0 0] 28)
  rwa [World.size_alloc] at this
 have r2 : Row W0 (w.heap.size + 1 + 1) 28 #[.slice none 0 0, .slice none 0 0] := by
  rw [hW0]
  have := Row.made ((w.alloc (.cells #[.slice A rs.length ca, .slice B m.length cb] 28)).alloc (.cells #[.slice none 0 0, .slice none 0 0] 28)) 28 #[.slice none 0 0, .slice none 0 0]
  rwa [World.size_alloc, World.size_alloc] at this
 have hst0 : SanAt w0 w A B rs.length ca m.length cb (.slice none 0 0) [] W0 := ⟨FOwn.first hb0, fun g e => (by cases e), r0, r1, r2, Hold.out, fun r hr => (by cases hr)⟩
 have HST0 := Lib.hid hst0
 have H := Lib.hid h
 have hf0 : (rs.length : Int) ≤ 9223372036854775807 := by have := h.len; omega
 have hl0 : (m.length : Int) ≤ 9223372036854775807 := by have := h.lenI; omega
 have Hcb := Lib.hid hcb
 clear h hb0 r0 r1 r2 hst0 hca hcb
 go_enter Tryz.func11, Tryz.ntmps11
 go_wp2_with fail
 rw [← hW0]
 clear hW0
 go_loopw [4] (fun i wr => ∃ n RS v, n ≤ rs.length ∧ n ≤ 6 ∧ i = .int .i64 ((n : Nat) : Int) ∧ Hid (SanAt w0 w A B rs.length ca m.length cb v RS wr ∧ RS.map (·.x) = ((rs.take n).map (·.x)).map Know.cutFr)) (fun i _ => 6 - (intOf i).toNat)
 case atStart => exact ⟨0, [], _, Nat.zero_le _, Nat.zero_le _, rfl, Lib.hid ⟨HST0.out, rfl⟩⟩
 case round =>
  obtain ⟨n, RS, v, hn, hn6, rfl, hst⟩ := hrel
  have hS := hst.out.1
  have c0 := hS.r0.at 0
  have c1 := hS.r0.at 1
  simp only [List.getElem?_toArray, List.getElem?_cons_zero, List.getElem?_cons_succ] at c0 c1
  by_cases hlt : n < rs.length
  ·have hn0 : (0 : Int) ≤ (n : Int) := by omega
   have hn1 : (n : Int) < (rs.length : Int) := by omega
   by_cases h6 : n < 6
   ·have hn2 : (n : Int) < 6 := by omega
    have hn3 : (n : Int) ≤ 5 := by omega
    obtain ⟨bk, o, cap1, e, -, -, hbk⟩ := H.out.rows.block (by omega)
    injection e with e1 e2 e3
    subst e1 e3
    clear e2
    obtain ⟨r, hr⟩ : ∃ r, rs[n]? = some r := ⟨_, List.getElem?_eq_getElem hlt⟩
    have hrm := List.mem_of_getElem? hr
    have hI := H.out.ins r hrm
    have hbw := hS.own.size
    have LE := Lib.hid (FrAt.elem (Rws.below H.out.rows hbw) hr hI.rin.len).all
    have hone := Lib.hid hI.rin.one
    have HS : Hid ((Tryz.prog.info? 91).map (·.size) = some (rfV r).length ∧ (rfV frZ).toArray.size = (rfV r).length) := Lib.hid ⟨frSize hI.rin.len, by rw [rf_len hI.rin.len]; exact frZ_size⟩
    have hA : Below wr.heap.size wr (wr.alloc (.cells (rfV r).toArray 91)) := (Below.refl _ _).alloc (Nat.le_refl _) _
    have FB := FrAt.made wr hI.rin.len 91
    have RB := Row.made wr 91 (rfV r).toArray
    obtain ⟨Af, cf, ef, -⟩ := hI.rin.f.parts
    obtain ⟨An, cn, en, hcn⟩ := hI.rin.no.parts
    have d0 := FB.f
    rw [ef] at d0
    have hbA := hbw.trans (hA.mono hbw.size)
    have LI := Lib.hid (light_any (Rws.below hI.rin.f hbA) hI.fl (fun c hc => (hI.fi c hc).1))
    have NL := Lib.hid (fun (W : World) => low12 r.x.no.length W)
    have hS1 := Lib.hid (hS.below hA)
    have Hgx : Hid (∀ g, v.ownBlock = some g → g ≠ wr.heap.size) := Lib.hid (fun g hg => Nat.ne_of_lt (hS.own.own.1.lt g hg).2)
    have HRB := Lib.hid RB
    have HIr := Lib.hid hI
    have HbA := Lib.hid hbA
    have Hr := Lib.hid hr
    have Heq := Lib.hid hst.out.2
    have Hef := Lib.hid ef
    have Hen := Lib.hid en
    have H65 := Lib.hid hI.rin.len
    have hnol : (r.x.no.length : Int) ≤ 9223372036854775807 := by have := hI.nl; omega
    have hmin0 : (0 : Int) ≤ ((min r.x.no.length 12 : Nat) : Int) := by omega
    have hmin1 : ((min r.x.no.length 12 : Nat) : Int) ≤ (cn : Int) := by omega
    have hmin2 : min r.x.no.length 12 ≤ cn := by omega
    rw [ef] at LI
    clear hr hrm hI hbw hA FB RB hbA hS hst ef en hcn
    by_cases hlf : Flt.light r.x.f
    ·rw [decide_eq_true hlf] at LI
     have SA := Lib.hid (fun (W : World) (hW : Cls W (fun i => i < w.heap.size) (.slice Af r.x.f.length cf) r.x.f) => sane_any hW (by have := hlf.2; omega) (fun c hc => by have := hlf.1 c hc; omega))
     have ES : Hid (Flt.sane r.x.f = Know.saneF r.x.f) := Lib.hid (if_pos hlf).symm
     clear hlf
     go_wp2_with (first | refine wpList_mload (by rfl) _ (by rfl) (by rfl) LE.out ?_ | refine wpList_nstore (by rfl) _ _ (by rfl) (by rfl) (by rfl) HS.out.1 HS.out.2 hone.out ?_)
     refine (LI.out).mono ?_
     rintro e w4 ⟨rfl, h4⟩
     have hS4 := Lib.hid (hS1.out.below h4)
     have RB4 := Lib.hid (HRB.out.below h4 HRB.out.inHeap)
     have hbw4 := Lib.hid (HbA.out.trans (h4.mono HbA.out.size))
     have d2 : w4.cell? ⟨wr.heap.size, 66, none⟩ = some (.slice An r.x.no.length cn) := ((FrAt.row H65.out RB4.out).no0).trans (congrArg some Hen.out)
     have Hbx : Hid (wr.heap.size < w4.heap.size) := Lib.hid RB4.out.inHeap
     clear h4 d0 LI LE
     go_wp2_with fail
     refine (NL.out _).mono ?_
     rintro e w4b ⟨rfl, rfl⟩
     have XO := Lib.hid (fun (W : World) (k : Kept (fun i => v.ownBlock = some i) w4 W) => (⟨(k.cell (p := ⟨w.heap.size + 1 + 1, 0, none⟩) hS4.out.r2.inHeap (fun e => by have h : v.ownBlock = some (w.heap.size + 1 + 1) := e; have := hS4.out.far _ h; omega)).trans (hS4.out.r2.at 0), ((FrAt.row H65.out (RB4.out.kept k (fun e => Hgx.out _ e rfl))).no0).trans (congrArg some Hen.out), (FrAt.row H65.out (RB4.out.kept k (fun e => Hgx.out _ e rfl))).v0⟩ : W.cell? ⟨w.heap.size + 1 + 1, 0, none⟩ = some v ∧ W.cell? ⟨wr.heap.size, 66, none⟩ = some (.slice An r.x.no.length cn) ∧ Lies 32 W wr.heap.size 1 (vecL r.x.v)))
     have CF := Lib.hid (fun (W : World) (k : Kept (fun i => v.ownBlock = some i) w4 W) => (Rws.below HIr.out.rin.f hbw4.out |>.kept k (fun i hi e => by have hi : i < w.heap.size := hi; have := hS4.out.far i e; omega) |> fun q => (Hef.out ▸ q : Cls W (fun i => i < w.heap.size) (.slice Af r.x.f.length cf) r.x.f)))
     have CN := Lib.hid (fun (W : World) (k : Kept (fun i => v.ownBlock = some i) w4 W) => (san_no Hen.out ((Hno.out w4 hbw4.out r (List.mem_of_getElem? Hr.out)).kept k (fun i hi e => by have hi : i < w0.heap.size := hi; have := hS4.out.far i e; have := Hold.out; omega)) : Vrs W (fun i => i < w0.heap.size) (.slice An (min r.x.no.length 12) cn) (r.x.no.take 12)))
     have HRS : Hid (RS.length ≤ 6) := Lib.hid (by
      have h1 := congrArg List.length Heq.out
      rw [List.length_map, List.length_map, List.length_map, List.length_take] at h1
      omega)
     go_wp2_with fail
     clear d2 HRB
     refine wp_region_tail (n := 13) (S := (fun w' : World => Kept (fun i => v.ownBlock = some i) w4 w')) (by kernel_rfl) (by kernel_rfl) (by rfl) ((Kept.refl _ w4).drew) (fun hHeld => ?_)
     refine wpAnyH_td (i := 0) rfl ?_
     simp only [zz]
     refine wpAnyH_tk (i := 1) (v := ?_) rfl (Or.inl ⟨by rfl, (by intro w hSw; obtain ⟨c2, c3, -⟩ := XO.out _ hSw; go_simp; try with_reducible rfl)⟩) (by assumption) ?_
     simp only [zz]
     refine wpAnyH_td (i := 2) rfl ?_
     simp only [zz]
     refine wpAnyH_td (i := 4) rfl ?_
     simp only [zz]
     refine wpAnyH_tk (i := 5) (v := .agg (vecL r.x.v).toArray) rfl (Or.inl ⟨by rfl, (by intro w hSw; exact exec_mload (by rfl) (by rfl) ((XO.out _ hSw).2.2))⟩) (by assumption) ?_
     simp only [zz]
     refine wpAnyH_td (i := 6) rfl ?_
     simp only [zz]
     refine wpAnyH_tk (i := 7) (v := ?_) rfl (Or.inl ⟨by rfl, (by intro w hSw; obtain ⟨c2, c3, -⟩ := XO.out _ hSw; go_simp; try with_reducible rfl)⟩) (by assumption) ?_
     simp only [zz]
     refine wpAnyH_td (i := 8) rfl ?_
     simp only [zz]
     refine wpAnyH_td (i := 9) rfl ?_
     simp only [zz]
     refine wpAnyH_ready (rs := [3]) (by kernel_rfl) (by simp) ?_
     refine AllReadyH.cons rfl (fun K hK => ?_) AllReadyH.nil
     go_simp
     go_at_call 43
     refine (SA.out _ (CF.out _ hHeld)).mono ?_
     rintro e w5 ⟨v5, rfl, h5⟩
     rw [ES.out] at h5
     have S5 := Kept.trans hHeld (Kept.ofBelow h5.2 (fun i => v.ownBlock = some i)) (fun _ _ h => h)
     have ST5 := Lib.hid (hS4.out.below (((Below.refl w4.heap.size w4).drew).trans h5.2))
     have F5 := h5.rows (fun _ _ => rfl)
     obtain ⟨A5, c5, e5, -⟩ := F5.parts
     subst e5
     have R5 : Hid (RFr.In w5 (Off v) (⟨.slice A5 (Know.saneF r.x.f).length c5, .slice An (min r.x.no.length 12) cn, ⟨Know.saneF r.x.f, r.x.v, r.x.no.take 12⟩⟩ : RFr)) := Lib.hid ⟨F5.mono (fun i hi e => by have h1 := hi.1; have h2 : i < w4.heap.size := (hS4.out.own.own.1.lt i e).2; have h3 : w4.heap.size ≤ i := h1; omega), (CN.out w5 S5).mono (fun i hi e => by have hi : i < w0.heap.size := hi; have := hS4.out.far i e; have := Hold.out; omega), H65.out⟩
     have CN5 := Lib.hid (CN.out w5 S5)
     refine hK.out _ _ S5 (fun hHeld => ?_)
     clear S5 h5 F5
     clear hK K
     refine wpAnyH_tk (i := 10) (v := .agg (rfV (⟨.slice A5 (Know.saneF r.x.f).length c5, .slice An (min r.x.no.length 12) cn, ⟨Know.saneF r.x.f, r.x.v, r.x.no.take 12⟩⟩ : RFr)).toArray) rfl (Or.inl ⟨by rfl, (by intro w hSw; exact exec_frbuild rfl (Know.saneF r.x.f) (r.x.no.take 12) (by rfl) (by rfl) (by rfl) H65.out w)⟩) (by assumption) ?_
     simp only [zz]
     refine wpAnyH_ready (rs := [11]) (by kernel_rfl) (by simp) ?_
     refine AllReadyH.cons rfl (fun K hK => ?_) AllReadyH.nil
     refine step_build1 rfl 25 91 _ rfl (by rfl) Tryz.underlying25 hi1 hy0 hy1 (rf_len (r := (⟨.slice A5 (Know.saneF r.x.f).length c5, .slice An (min r.x.no.length 12) cn, ⟨Know.saneF r.x.f, r.x.v, r.x.no.take 12⟩⟩ : RFr)) H65.out) ?_
     refine hK.out _ _ (hHeld.alloc _) (fun hHeld => ?_)
     clear hK K
     refine wpAnyH_ready (rs := [12]) (by kernel_rfl) (by simp) ?_
     refine AllReadyH.cons rfl (fun K hK => ?_) AllReadyH.nil
     refine step_near (f := rfV) (k := 67) rfl (.tmp 35) (.tmp 45) 25 (by rfl) w.heap.size 91 i1 (frA frZ) 568 Tryz.underlying25 hi1 hy0 hy1 hy2 frZ_size (by decide) (v := v) (xv := .slice (some ⟨w5.heap.size, 0, none⟩) 1 1) (by kernel_rfl) (by kernel_rfl) (ST5.out.own.own.1.alloc _) (fr_made1 w5 91 (⟨.slice A5 (Know.saneF r.x.f).length c5, .slice An (min r.x.no.length 12) cn, ⟨Know.saneF r.x.f, r.x.v, r.x.no.take 12⟩⟩ : RFr)) ?d1 ?d2 ?d3 ?d4 ?d5 ?_
     case d1 => (intro x hx; rw [List.mem_singleton.1 hx]; exact rf_len H65.out)
     case d2 => (intro x hx; rw [List.mem_singleton.1 hx]; exact R5.out.one)
     case d3 => (have h1 := HRS.out; show RS.length + 1 ≤ maxLen; unfold maxLen; omega)
     case d4 => (have h1 := HRS.out; show (RS.length + 1) * 568 ≤ _; omega)
     case d5 => (have := ST5.out.own.size.size; rw [World.size_alloc]; omega)
     intro v9 w9 o9 g9 n9
     obtain ⟨q0, q3⟩ := ST5.out.step R5.out (CN5.out) (by simpa using o9) g9 n9
     obtain ⟨V9, c9, e8⟩ := q3.parts
     rw [List.length_append] at e8
     have e9 : v9 = .slice V9 (RS.length + 1) c9 := e8
     clear e8
     subst e9
     have q1 := q0.at 0
     have q2 := q0.free 0
     have Q3 := Lib.hid q3
     have S9 := Kept.trans hHeld (kept_of g9) (fun _ _ h => h)
     clear o9 g9 n9 q3 q0
     refine hK.out _ _ S9 (fun hHeld => ?_)
     clear S9
     clear hK K
     refine wpAnyH_done (by kernel_rfl) ?_ _
     refine wpAny_of_held (S := fun _ => True) _ _ _ _ ?_
     have hHeld : True := trivial
     refine wpAnyH_td (i := 13) rfl ?_
     simp only [zz]
     refine wpAnyH_ready (rs := [14]) (by kernel_rfl) (by simp) ?_
     refine AllReadyH.cons rfl (fun K hK => ?_) AllReadyH.nil
     go_simp
     refine hK.out _ _ trivial (fun hHeld => ?_)
     clear hK K
     refine wpAnyH_done (by kernel_rfl) ?_ _
     clear q1 q2
     go_wp2_with fail
     exact ⟨⟨n + 1, RS ++ [⟨.slice A5 (Know.saneF r.x.f).length c5, .slice An (min r.x.no.length 12) cn, ⟨Know.saneF r.x.f, r.x.v, r.x.no.take 12⟩⟩], _, by omega, by omega, by go_num, Lib.hid ⟨Q3.out, san_more Heq.out Hr.out rfl⟩⟩, by show 6 - ((n : Int) + 1).toNat < 6 - (n : Int).toNat; omega⟩
    ·rw [decide_eq_false hlf] at LI
     have SA := Lib.hid (fun (W : World) (hW : Cls W (fun i => i < w.heap.size) (.slice none 0 0) []) => sane_any hW (by simp) (fun c hc => by cases hc))
     have ES : Hid (Flt.sane [] = Know.saneF r.x.f) := Lib.hid (if_neg hlf).symm
     clear hlf
     go_wp2_with (first | refine wpList_mload (by rfl) _ (by rfl) (by rfl) LE.out ?_ | refine wpList_nstore (by rfl) _ _ (by rfl) (by rfl) (by rfl) HS.out.1 HS.out.2 hone.out ?_)
     refine (LI.out).mono ?_
     rintro e w4 ⟨rfl, h4⟩
     have hS4 := Lib.hid (hS1.out.below h4)
     have RB4 := Lib.hid (HRB.out.below h4 HRB.out.inHeap)
     have hbw4 := Lib.hid (HbA.out.trans (h4.mono HbA.out.size))
     have d2 : w4.cell? ⟨wr.heap.size, 66, none⟩ = some (.slice An r.x.no.length cn) := ((FrAt.row H65.out RB4.out).no0).trans (congrArg some Hen.out)
     have Hbx : Hid (wr.heap.size < w4.heap.size) := Lib.hid RB4.out.inHeap
     clear h4 d0 LI LE
     go_wp2_with fail
     refine (NL.out _).mono ?_
     rintro e w4b ⟨rfl, rfl⟩
     have XO := Lib.hid (fun (W : World) (k : Kept (fun i => v.ownBlock = some i) w4 W) => (⟨(k.cell (p := ⟨w.heap.size + 1 + 1, 0, none⟩) hS4.out.r2.inHeap (fun e => by have h : v.ownBlock = some (w.heap.size + 1 + 1) := e; have := hS4.out.far _ h; omega)).trans (hS4.out.r2.at 0), ((FrAt.row H65.out (RB4.out.kept k (fun e => Hgx.out _ e rfl))).no0).trans (congrArg some Hen.out), (FrAt.row H65.out (RB4.out.kept k (fun e => Hgx.out _ e rfl))).v0⟩ : W.cell? ⟨w.heap.size + 1 + 1, 0, none⟩ = some v ∧ W.cell? ⟨wr.heap.size, 66, none⟩ = some (.slice An r.x.no.length cn) ∧ Lies 32 W wr.heap.size 1 (vecL r.x.v)))
     have CF := Lib.hid (fun (W : World) (k : Kept (fun i => v.ownBlock = some i) w4 W) => (Rws.none W (fun i => i < w.heap.size) 0 : Cls W (fun i => i < w.heap.size) (.slice none 0 0) []))
     have CN := Lib.hid (fun (W : World) (k : Kept (fun i => v.ownBlock = some i) w4 W) => (san_no Hen.out ((Hno.out w4 hbw4.out r (List.mem_of_getElem? Hr.out)).kept k (fun i hi e => by have hi : i < w0.heap.size := hi; have := hS4.out.far i e; have := Hold.out; omega)) : Vrs W (fun i => i < w0.heap.size) (.slice An (min r.x.no.length 12) cn) (r.x.no.take 12)))
     have HRS : Hid (RS.length ≤ 6) := Lib.hid (by
      have h1 := congrArg List.length Heq.out
      rw [List.length_map, List.length_map, List.length_map, List.length_take] at h1
      omega)
     go_wp2_with fail
     clear d2 HRB
     refine wp_region_tail (n := 13) (S := (fun w' : World => Kept (fun i => v.ownBlock = some i) w4 w')) (by kernel_rfl) (by kernel_rfl) (by rfl) ((Kept.refl _ w4).drew) (fun hHeld => ?_)
     refine wpAnyH_td (i := 0) rfl ?_
     simp only [zz]
     refine wpAnyH_tk (i := 1) (v := ?_) rfl (Or.inl ⟨by rfl, (by intro w hSw; obtain ⟨c2, c3, -⟩ := XO.out _ hSw; go_simp; try with_reducible rfl)⟩) (by assumption) ?_
     simp only [zz]
     refine wpAnyH_td (i := 2) rfl ?_
     simp only [zz]
     refine wpAnyH_td (i := 4) rfl ?_
     simp only [zz]
     refine wpAnyH_tk (i := 5) (v := .agg (vecL r.x.v).toArray) rfl (Or.inl ⟨by rfl, (by intro w hSw; exact exec_mload (by rfl) (by rfl) ((XO.out _ hSw).2.2))⟩) (by assumption) ?_
     simp only [zz]
     refine wpAnyH_td (i := 6) rfl ?_
     simp only [zz]
     refine wpAnyH_tk (i := 7) (v := ?_) rfl (Or.inl ⟨by rfl, (by intro w hSw; obtain ⟨c2, c3, -⟩ := XO.out _ hSw; go_simp; try with_reducible rfl)⟩) (by assumption) ?_
     simp only [zz]
     refine wpAnyH_td (i := 8) rfl ?_
     simp only [zz]
     refine wpAnyH_td (i := 9) rfl ?_
     simp only [zz]
     refine wpAnyH_ready (rs := [3]) (by kernel_rfl) (by simp) ?_
     refine AllReadyH.cons rfl (fun K hK => ?_) AllReadyH.nil
     go_simp
     go_at_call 43
     refine (SA.out _ (CF.out _ hHeld)).mono ?_
     rintro e w5 ⟨v5, rfl, h5⟩
     rw [ES.out] at h5
     have S5 := Kept.trans hHeld (Kept.ofBelow h5.2 (fun i => v.ownBlock = some i)) (fun _ _ h => h)
     have ST5 := Lib.hid (hS4.out.below (((Below.refl w4.heap.size w4).drew).trans h5.2))
     have F5 := h5.rows (fun _ _ => rfl)
     obtain ⟨A5, c5, e5, -⟩ := F5.parts
     subst e5
     have R5 : Hid (RFr.In w5 (Off v) (⟨.slice A5 (Know.saneF r.x.f).length c5, .slice An (min r.x.no.length 12) cn, ⟨Know.saneF r.x.f, r.x.v, r.x.no.take 12⟩⟩ : RFr)) := Lib.hid ⟨F5.mono (fun i hi e => by have h1 := hi.1; have h2 : i < w4.heap.size := (hS4.out.own.own.1.lt i e).2; have h3 : w4.heap.size ≤ i := h1; omega), (CN.out w5 S5).mono (fun i hi e => by have hi : i < w0.heap.size := hi; have := hS4.out.far i e; have := Hold.out; omega), H65.out⟩
     have CN5 := Lib.hid (CN.out w5 S5)
     refine hK.out _ _ S5 (fun hHeld => ?_)
     clear S5 h5 F5
     clear hK K
     refine wpAnyH_tk (i := 10) (v := .agg (rfV (⟨.slice A5 (Know.saneF r.x.f).length c5, .slice An (min r.x.no.length 12) cn, ⟨Know.saneF r.x.f, r.x.v, r.x.no.take 12⟩⟩ : RFr)).toArray) rfl (Or.inl ⟨by rfl, (by intro w hSw; exact exec_frbuild rfl (Know.saneF r.x.f) (r.x.no.take 12) (by rfl) (by rfl) (by rfl) H65.out w)⟩) (by assumption) ?_
     simp only [zz]
     refine wpAnyH_ready (rs := [11]) (by kernel_rfl) (by simp) ?_
     refine AllReadyH.cons rfl (fun K hK => ?_) AllReadyH.nil
     refine step_build1 rfl 25 91 _ rfl (by rfl) Tryz.underlying25 hi1 hy0 hy1 (rf_len (r := (⟨.slice A5 (Know.saneF r.x.f).length c5, .slice An (min r.x.no.length 12) cn, ⟨Know.saneF r.x.f, r.x.v, r.x.no.take 12⟩⟩ : RFr)) H65.out) ?_
     refine hK.out _ _ (hHeld.alloc _) (fun hHeld => ?_)
     clear hK K
     refine wpAnyH_ready (rs := [12]) (by kernel_rfl) (by simp) ?_
     refine AllReadyH.cons rfl (fun K hK => ?_) AllReadyH.nil
     refine step_near (f := rfV) (k := 67) rfl (.tmp 35) (.tmp 45) 25 (by rfl) w.heap.size 91 i1 (frA frZ) 568 Tryz.underlying25 hi1 hy0 hy1 hy2 frZ_size (by decide) (v := v) (xv := .slice (some ⟨w5.heap.size, 0, none⟩) 1 1) (by kernel_rfl) (by kernel_rfl) (ST5.out.own.own.1.alloc _) (fr_made1 w5 91 (⟨.slice A5 (Know.saneF r.x.f).length c5, .slice An (min r.x.no.length 12) cn, ⟨Know.saneF r.x.f, r.x.v, r.x.no.take 12⟩⟩ : RFr)) ?d1 ?d2 ?d3 ?d4 ?d5 ?_
     case d1 => (intro x hx; rw [List.mem_singleton.1 hx]; exact rf_len H65.out)
     case d2 => (intro x hx; rw [List.mem_singleton.1 hx]; exact R5.out.one)
     case d3 => (have h1 := HRS.out; show RS.length + 1 ≤ maxLen; unfold maxLen; omega)
     case d4 => (have h1 := HRS.out; show (RS.length + 1) * 568 ≤ _; omega)
     case d5 => (have := ST5.out.own.size.size; rw [World.size_alloc]; omega)
     intro v9 w9 o9 g9 n9
     obtain ⟨q0, q3⟩ := ST5.out.step R5.out (CN5.out) (by simpa using o9) g9 n9
     obtain ⟨V9, c9, e8⟩ := q3.parts
     rw [List.length_append] at e8
     have e9 : v9 = .slice V9 (RS.length + 1) c9 := e8
     clear e8
     subst e9
     have q1 := q0.at 0
     have q2 := q0.free 0
     have Q3 := Lib.hid q3
     have S9 := Kept.trans hHeld (kept_of g9) (fun _ _ h => h)
     clear o9 g9 n9 q3 q0
     refine hK.out _ _ S9 (fun hHeld => ?_)
     clear S9
     clear hK K
     refine wpAnyH_done (by kernel_rfl) ?_ _
     refine wpAny_of_held (S := fun _ => True) _ _ _ _ ?_
     have hHeld : True := trivial
     refine wpAnyH_td (i := 13) rfl ?_
     simp only [zz]
     refine wpAnyH_ready (rs := [14]) (by kernel_rfl) (by simp) ?_
     refine AllReadyH.cons rfl (fun K hK => ?_) AllReadyH.nil
     go_simp
     refine hK.out _ _ trivial (fun hHeld => ?_)
     clear hK K
     refine wpAnyH_done (by kernel_rfl) ?_ _
     clear q1 q2
     go_wp2_with fail
     exact ⟨⟨n + 1, RS ++ [⟨.slice A5 (Know.saneF r.x.f).length c5, .slice An (min r.x.no.length 12) cn, ⟨Know.saneF r.x.f, r.x.v, r.x.no.take 12⟩⟩], _, by omega, by omega, by go_num, Lib.hid ⟨Q3.out, san_more Heq.out Hr.out rfl⟩⟩, by show 6 - ((n : Int) + 1).toNat < 6 - (n : Int).toNat; omega⟩
   ·obtain rfl : n = 6 := by omega
    have HSt := Lib.hid hS
    have Hq := Lib.hid hst.out.2
    have NL := Lib.hid (fun (W : World) => low12 m.length W)
    have hmin0 : (0 : Int) ≤ ((min m.length 12 : Nat) : Int) := by omega
    have hmin1 : ((min m.length 12 : Nat) : Int) ≤ (cb : Int) := by have := Hcb.out; omega
    have hmin2 : min m.length 12 ≤ cb := by have := Hcb.out; omega
    obtain ⟨V, cv, ev⟩ := hS.parts
    subst ev
    have f1 := hS.r2.free 1
    have p1 := hS.r2.at 1
    simp only [List.getElem?_toArray, List.getElem?_cons_zero, List.getElem?_cons_succ] at p1
    have R2 := hS.r2.stored 1 (.slice B (min m.length 12) cb)
    have g0 := R2.at 0
    have g1 := R2.at 1
    simp at g0 g1
    have KS : Kept (fun i => i = w.heap.size + 1 + 1) wr (wr.setCell ⟨w.heap.size + 1 + 1, 0 + 1, none⟩ (.slice B (min m.length 12) cb)) := Kept.stored (p := ⟨w.heap.size + 1 + 1, 0 + 1, none⟩) (Kept.refl (fun i => i = w.heap.size + 1 + 1) _) (Or.inl rfl) _
    have R1 := hS.r1.kept KS (by omega)
    have K2 := put2_kept (wr.setCell ⟨w.heap.size + 1 + 1, 0 + 1, none⟩ (.slice B (min m.length 12) cb)) (w.heap.size + 1) (.slice V RS.length cv) (.slice B (min m.length 12) cb)
    have KK := (KS.mono (G := fun i => i = w.heap.size + 1 ∨ i = w.heap.size + 1 + 1) (fun i hi => Or.inr hi)).trans (K2.mono (G := fun i => i = w.heap.size + 1 ∨ i = w.heap.size + 1 + 1) (fun i hi => Or.inl hi)) (fun _ _ h => h)
    have FR := hS.fin KK
    have BE := hS.own.size.trans (KK.below hS.own.size.size (fun i hi => by omega))
    have IT := san_its2 (Hits.out _ BE) H.out.inI
    have T1 := Lib.hid R1.there2
    have R9 := Lib.hid (Row.put2 R1 (.slice V RS.length cv) (.slice B (min m.length 12) cb))
    have HFR := Lib.hid FR
    have HIT := Lib.hid IT
    have HBE := Lib.hid BE
    have HEq : Hid (RS.map (·.x) = (Know.cutK ⟨rs.map (·.x), m⟩).frags) := Lib.hid (by rw [hst.out.2]; show _ = ((rs.map (·.x)).take 6).map Know.cutFr; rw [List.map_take])
    clear hS hst R2 KS R1 K2 KK FR BE IT
    go_wp2_with fail
    refine (NL.out _).mono ?_
    rintro e w4b ⟨rfl, rfl⟩
    clear NL
    go_wp2_with (refine wpList_mstore (by rfl) (.tmp 2) (.tmp 57) (by rfl) (by rfl) (by rfl) T1.out (knSize _ _) (two_one rfl rfl) ?_)
    exact bodyPost_ret (v := .agg #[.slice V RS.length cv, .slice B (min m.length 12) cb]) (results_cell_row (by rfl) _ _ (w.heap.size + 1) 28 _ (0, 0) _ (by rfl) R9.out Tryz.underlying28 rfl (knSizeA _ _)) rfl ⟨_, rfl, ⟨_, _, _, _, _, _, RS, rfl, HEq.out, HFR.out.1, HFR.out.2.1, HFR.out.2.2, HIT.out.1, HIT.out.2⟩, HBE.out⟩
  ·obtain rfl : n = rs.length := by omega
   have hnl : ¬ (rs.length : Int) < (rs.length : Int) := by omega
   have HSt := Lib.hid hS
   have Hq := Lib.hid hst.out.2
   have NL := Lib.hid (fun (W : World) => low12 m.length W)
   have hmin0 : (0 : Int) ≤ ((min m.length 12 : Nat) : Int) := by omega
   have hmin1 : ((min m.length 12 : Nat) : Int) ≤ (cb : Int) := by have := Hcb.out; omega
   have hmin2 : min m.length 12 ≤ cb := by have := Hcb.out; omega
   obtain ⟨V, cv, ev⟩ := hS.parts
   subst ev
   have f1 := hS.r2.free 1
   have p1 := hS.r2.at 1
   simp only [List.getElem?_toArray, List.getElem?_cons_zero, List.getElem?_cons_succ] at p1
   have R2 := hS.r2.stored 1 (.slice B (min m.length 12) cb)
   have g0 := R2.at 0
   have g1 := R2.at 1
   simp at g0 g1
   have KS : Kept (fun i => i = w.heap.size + 1 + 1) wr (wr.setCell ⟨w.heap.size + 1 + 1, 0 + 1, none⟩ (.slice B (min m.length 12) cb)) := Kept.stored (p := ⟨w.heap.size + 1 + 1, 0 + 1, none⟩) (Kept.refl (fun i => i = w.heap.size + 1 + 1) _) (Or.inl rfl) _
   have R1 := hS.r1.kept KS (by omega)
   have K2 := put2_kept (wr.setCell ⟨w.heap.size + 1 + 1, 0 + 1, none⟩ (.slice B (min m.length 12) cb)) (w.heap.size + 1) (.slice V RS.length cv) (.slice B (min m.length 12) cb)
   have KK := (KS.mono (G := fun i => i = w.heap.size + 1 ∨ i = w.heap.size + 1 + 1) (fun i hi => Or.inr hi)).trans (K2.mono (G := fun i => i = w.heap.size + 1 ∨ i = w.heap.size + 1 + 1) (fun i hi => Or.inl hi)) (fun _ _ h => h)
   have FR := hS.fin KK
   have BE := hS.own.size.trans (KK.below hS.own.size.size (fun i hi => by omega))
   have IT := san_its2 (Hits.out _ BE) H.out.inI
   have T1 := Lib.hid R1.there2
   have R9 := Lib.hid (Row.put2 R1 (.slice V RS.length cv) (.slice B (min m.length 12) cb))
   have HFR := Lib.hid FR
   have HIT := Lib.hid IT
   have HBE := Lib.hid BE
   have HEq : Hid (RS.map (·.x) = (Know.cutK ⟨rs.map (·.x), m⟩).frags) := Lib.hid (by rw [hst.out.2]; show _ = ((rs.map (·.x)).take 6).map Know.cutFr; rw [← List.map_take, List.take_of_length_le (Nat.le_refl _), List.take_of_length_le hn6])
   clear hS hst R2 KS R1 K2 KK FR BE IT
   go_wp2_with fail
   refine (NL.out _).mono ?_
   rintro e w4b ⟨rfl, rfl⟩
   clear NL
   go_wp2_with (refine wpList_mstore (by rfl) (.tmp 2) (.tmp 57) (by rfl) (by rfl) (by rfl) T1.out (knSize _ _) (two_one rfl rfl) ?_)
   exact bodyPost_ret (v := .agg #[.slice V RS.length cv, .slice B (min m.length 12) cb]) (results_cell_row (by rfl) _ _ (w.heap.size + 1) 28 _ (0, 0) _ (by rfl) R9.out Tryz.underlying28 rfl (knSizeA _ _)) rfl ⟨_, rfl, ⟨_, _, _, _, _, _, RS, rfl, HEq.out, HFR.out.1, HFR.out.2.1, HFR.out.2.2, HIT.out.1, HIT.out.2⟩, HBE.out⟩
theorem law15_Sane {w : World} {a b : Value} {rs : List RFr} {m : List Know.It} (h : KnIn w a b rs m) :
  Calls Tryz.prog 11 #[.agg #[a, b]] w fun e w' => ∃ v', e = .returned v' ∧ KnNew w v' (Know.cutK ⟨rs.map (·.x), m⟩) w' ∧ Below w.heap.size w w' :=
 (law15_Sane2 h (Below.refl _ _)).mono fun e w' hh => by
  obtain ⟨v', h1, h2, h3⟩ := hh
  exact ⟨v', h1, h2.new, h3⟩
open Go.RowKit Go.Sort
open Go.RowKit Go.Sort
instance dec_whole_ref (l : List Know.Fr) (item v : Ver.V) (f : List Flt.Cl) : Decidable (Know.ByWhole l item v f) := inferInstanceAs (Decidable (_ ∧ _))
instance dec_contains_ref (k : Know.K) (item v : Ver.V) (f : List Flt.Cl) : Decidable (Know.Contains k item v f) := inferInstanceAs (Decidable (_ ∨ _))
open Go.RowKit
namespace Know
structure Cut (k : K) : Prop where
 fr : k.frags.length ≤ 6
 it : k.items.length ≤ 12
 fl : ∀ x ∈ k.frags, x.f.length ≤ 24
 sane : SaneK k
 len : ∀ x ∈ k.frags, x.v.length = 65
 no : ∀ x ∈ k.frags, x.no.length ≤ 12
 lenI : ∀ i ∈ k.items, i.v.length = 65
 bd : ∀ i ∈ k.items, ∀ n ∈ i.v, Ver.I64 n
 bdI : ∀ i ∈ k.items, Ver.Bd i.item
structure Small (k : K) : Prop where
 fr : k.frags.length ≤ 18
 it : k.items.length ≤ 36
 fl : ∀ x ∈ k.frags, x.f.length ≤ 24
 sane : SaneK k
 len : ∀ x ∈ k.frags, x.v.length = 65
 no : ∀ x ∈ k.frags, x.no.length ≤ 13
 lenI : ∀ i ∈ k.items, i.v.length = 65
 bd : ∀ i ∈ k.items, ∀ n ∈ i.v, Ver.I64 n
 bdI : ∀ i ∈ k.items, Ver.Bd i.item
theorem sum_bound {α : Type} (f : α → Nat) (b : Nat) : ∀ l : List α, (∀ x ∈ l, f x ≤ b) → (l.map f).sum ≤ l.length * b
 | [], _ => by simp
 | x :: l, h => by
  have h1 := h x (List.mem_cons_self ..)
  have h2 := sum_bound f b l (fun y hy => h y (List.mem_cons_of_mem _ hy))
  rw [List.map_cons, List.sum_cons, List.length_cons, Nat.succ_mul]
  omega
theorem Small.ok {k : K} (h : Small k) : Ok k where
 fr := by have := h.fr; omega
 it := by have := h.it; omega
 cl := by
  have h1 := sum_bound (fun x : Fr => x.f.length) 24 k.frags h.fl
  have h2 := h.fr
  have h3 : k.frags.length * 24 ≤ 18 * 24 := Nat.mul_le_mul_right _ h2
  show many k.frags ≤ _
  unfold many
  omega
 wt := by
  have h1 := sum_bound (fun x : Fr => (Flt.prefixes x.f).length) 24 k.frags (fun x hx => Nat.le_trans (Flt.prefixes_len _) (h.fl x hx))
  have h2 := h.fr
  have h3 : k.frags.length * 24 ≤ 18 * 24 := Nat.mul_le_mul_right _ h2
  show wt k.frags ≤ _
  unfold wt
  omega
 sane := h.sane
 len := h.len
 no := fun x hx => Nat.le_trans (h.no x hx) (by decide)
 lenI := h.lenI
 bd := h.bd
 bdI := h.bdI
theorem Cut.small {k : K} (h : Cut k) : Small k := ⟨Nat.le_trans h.fr (by decide), Nat.le_trans h.it (by decide), h.fl, h.sane, h.len, fun x hx => Nat.le_trans (h.no x hx) (by decide), h.lenI, h.bd, h.bdI⟩
theorem Cut.ok {k : K} (h : Cut k) : Ok k := h.small.ok
theorem Cut.pre {k : K} (h : Cut k) {g : List Flt.Cl} (hg : g.length ≤ 24) : ∀ x ∈ k.frags, (Flt.prefixes x.f).length + (Flt.prefixes g).length ≤ 490 := fun x hx => by
 have h1 := Flt.prefixes_len x.f
 have h2 := h.fl x hx
 have h3 := Flt.prefixes_len g
 omega
end Know
theorem kn_cut {W : World} {a b : Value} {rs : List RFr} {m : List Know.It} (h : KnIn W a b rs m) : Know.Cut (Know.cutK ⟨rs.map (·.x), m⟩) where
 fr := by show (((rs.map (·.x)).take 6).map Know.cutFr).length ≤ 6; rw [List.length_map, List.length_take]; omega
 it := by show (m.take 12).length ≤ 12; rw [List.length_take]; omega
 fl := fun x hx => by obtain ⟨y, hy, rfl⟩ := List.mem_map.1 hx; exact (Know.saneF_fine y.f).1
 sane := fun x hx => by obtain ⟨y, hy, rfl⟩ := List.mem_map.1 hx; exact (Know.saneF_fine y.f).2
 len := fun x hx => by
  obtain ⟨y, hy, rfl⟩ := List.mem_map.1 hx
  obtain ⟨r, hr, rfl⟩ := List.mem_map.1 (List.mem_of_mem_take hy)
  exact (h.ins r hr).rin.len
 no := fun x hx => by obtain ⟨y, hy, rfl⟩ := List.mem_map.1 hx; show (y.no.take 12).length ≤ 12; rw [List.length_take]; omega
 lenI := fun i hi => (h.inI i (List.mem_of_mem_take hi)).len
 bd := fun i hi => (h.inI i (List.mem_of_mem_take hi)).vb
 bdI := fun i hi => (h.inI i (List.mem_of_mem_take hi)).ib
open Go.RowKit Go.Sort
theorem kn_kept {W w1 : World} {v : Value} {c : Know.K} {b m e n d : Nat} {t : TypeId} {A B : Option Addr} (h : KnNew W v c w1) (hr : Row w1 b t #[.slice A m e, .slice B n d]) (hb : b < W.heap.size) (x y : Value) : KnNew W v c (w1.setCells b 0 [x, y]) := by
 have KE := put2_kept w1 b x y
 obtain ⟨p, q, rs, e1, e2, h1, h2, h3⟩ := h
 refine ⟨p, q, rs, e1, e2, h1.kept KE (fun i hi e => by rw [e] at hi; omega), fun r hx => ?_, ?_⟩
 ·exact ⟨((cls_away (h2 r hx).f hr).kept KE (fun i hi e => hi e)).mono (fun _ _ => trivial), ((vrs_away (h2 r hx).no hr).kept KE (fun i hi e => hi e)).mono (fun _ _ => trivial), (h2 r hx).len⟩
 ·exact ((its_away h3 hr).kept KE (fun i hi e => hi e)).any
end Go.Proofs.YtpafpegcodempaaGreat
