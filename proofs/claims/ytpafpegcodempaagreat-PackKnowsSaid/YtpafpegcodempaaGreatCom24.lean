import Derived.Test.YtpafpegcodempaaGreatCom12
import Derived.Test.YtpafpegcodempaaGreatCom21
import Derived.Test.YtpafpegcodempaaGreatCom22
import Derived.Test.YtpafpegcodempaaGreatCom7
import Derived.Test.YtpafpegcodempaaGreatCom13
import Derived.Test.YtpafpegcodempaaGreatCom19
import Derived.Test.YtpafpegcodempaaGreatCom4
import Derived.Test.YtpafpegcodempaaGreatCom9
import Derived.Test.YtpafpegcodempaaGreatCom16
import Derived.Deep.QuietTactic
set_option maxRecDepth 100000
set_option linter.all false
set_option maxHeartbeats 12800000
namespace Go.Proofs.YtpafpegcodempaaGreat
open Go.RowKit Go.Sort
theorem ref_pright {w : World} {F : Nat → Prop} {v : Value} {k : Know.K} (h : Kns w F v k) (hb : Pck.BdK k) (hs : ∀ x ∈ k.frags, ∀ c ∈ x.f, c.pre.length ≤ 100000) :
  Calls Tryz.prog 27 #[v] w fun e w' => e = .returned (.bool (decide (Pck.OkKnow k))) ∧ Below w.heap.size w w' := by
 obtain ⟨a, b, rfl, ⟨rs, hrx, hf, hfi⟩, hi, hil⟩ := h
 obtain ⟨A, ca, rfl, -⟩ := hf.parts
 obtain ⟨B, cb, rfl, -⟩ := hi.parts
 have hll : rs.length = k.frags.length := by have h1 := congrArg List.length hrx; rwa [List.length_map] at h1
 have hl1 : (rs.length : Int) ≤ 100000 := by have := hb.fl; omega
 have hl2 : (k.items.length : Int) ≤ 100000 := by have := hb.il; omega
 have SM := Lib.hid (fun (r : RFr) (hr : r ∈ rs) => hs r.x (by rw [← hrx]; exact List.mem_map_of_mem hr))
 have BF := Lib.hid (fun (r : RFr) (hr : r ∈ rs) => hb.fb r.x (by rw [← hrx]; exact List.mem_map_of_mem hr))
 have BI := Lib.hid hb.ib
 have HF := Lib.hid (fun (W : World) (h : Below w.heap.size w W) => (⟨Rws.below hf h, fun r hr => (hfi r hr).below h⟩ : Rws 67 rfV W F (.slice A rs.length ca) rs ∧ ∀ r ∈ rs, r.In W F))
 have HI := Lib.hid (fun (W : World) (h : Below w.heap.size w W) => (Rws.below hi h : Rws 67 itV W F (.slice B k.items.length cb) k.items))
 have NOF := Lib.hid (fun (r : RFr) (hr : r ∈ rs) (hn : ¬ Pck.OkFrag r.x) => (decide_eq_false (fun h => hn (h.2.1 r.x (by rw [← hrx]; exact List.mem_map_of_mem hr))) : decide (Pck.OkKnow k) = false))
 have NOI := Lib.hid (fun (i : Know.It) (hi : i ∈ k.items) (hn : ¬ Pck.OkKnown i) => (decide_eq_false (fun h => hn (h.2.2.2 i hi)) : decide (Pck.OkKnow k) = false))
 have N64 := Lib.hid (fun (hn : ¬ (rs.length : Int) ≤ 64) => (decide_eq_false (fun h => hn (by have := h.1; omega)) : decide (Pck.OkKnow k) = false))
 have N96 := Lib.hid (fun (hn : ¬ (k.items.length : Int) ≤ 4096) => (decide_eq_false (fun h => hn (by have := h.2.2.1; omega)) : decide (Pck.OkKnow k) = false))
 have YES := Lib.hid (fun (h1 : ∀ r ∈ rs, Pck.OkFrag r.x) (h2 : ∀ i ∈ k.items, Pck.OkKnown i) (h3 : (rs.length : Int) ≤ 64) (h4 : (k.items.length : Int) ≤ 4096) => (decide_eq_true ⟨by omega, fun x hx => by rw [← hrx] at hx; obtain ⟨r, hr, rfl⟩ := List.mem_map.1 hx; exact h1 r hr, by omega, h2⟩ : decide (Pck.OkKnow k) = true))
 rw [hll.symm] at *
 have hB0 : Below w.heap.size w (w.alloc (.cells #[.slice A rs.length ca, .slice B k.items.length cb] 28)) := (Below.refl _ _).alloc (Nat.le_refl _) _
 have RB := Row.made w 28 #[.slice A rs.length ca, .slice B k.items.length cb]
 have KB := Lib.hid (fun (W : World) (h : Below (w.alloc (.cells #[.slice A rs.length ca, .slice B k.items.length cb] 28)).heap.size (w.alloc (.cells #[.slice A rs.length ca, .slice B k.items.length cb] 28)) W) => (⟨(RB.below h RB.inHeap).at 0, (RB.below h RB.inHeap).at 1⟩ : W.cell? ⟨w.heap.size, 0, none⟩ = some (.slice A rs.length ca) ∧ W.cell? ⟨w.heap.size, 1, none⟩ = some (.slice B k.items.length cb)))
 have HB0 := Lib.hid hB0
 clear hf hfi hi hil hb hs hrx hll RB hB0
 generalize decide (Pck.OkKnow k) = ok at *
 go_enter Tryz.func27, Tryz.ntmps27
 go_wp2_with fail
 generalize w.alloc (.cells #[.slice A rs.length ca, .slice B k.items.length cb] 28) = W0 at *
 go_loopw [3] (fun i wr => ∃ n : Nat, n ≤ rs.length ∧ i = .int .i64 (n : Int) ∧ Hid (∀ r ∈ rs.take n, Pck.OkFrag r.x) ∧ Below W0.heap.size W0 wr) (fun i _ => rs.length - (intOf i).toNat)
 case atStart => exact ⟨0, Nat.zero_le _, rfl, Lib.hid (by simp), Below.refl _ _⟩
 case round =>
  obtain ⟨n, hn, rfl, hall, hbel⟩ := hrel
  obtain ⟨g0, g1⟩ := KB.out _ hbel
  by_cases hlt : n < rs.length
  ·have HWr := Lib.hid (HB0.out.trans (hbel.mono HB0.out.size))
   obtain ⟨be, oe, cap1, e, -, -, hb⟩ := (HF.out _ HWr.out).1.block (by omega)
   injection e with e1 e2 e3
   subst e1 e3
   clear e2 hb
   obtain ⟨x, hx⟩ : ∃ x, rs[n]? = some x := ⟨_, List.getElem?_eq_getElem hlt⟩
   have hxm := List.mem_of_getElem? hx
   have hxi := (HF.out _ HWr.out).2 x hxm
   have hxb := BF.out x hxm
   have hnn0 : (0 : Int) ≤ (n : Int) := by omega
   have hnn1 : (n : Int) < (rs.length : Int) := by omega
   have XC := Lib.hid (fun (W : World) (h : Below wr.heap.size wr W) => (by
    have hW := HWr.out.trans (h.mono HWr.out.size)
    have q := FrAt.elem (HF.out _ hW).1 hx hxi.len
    have kb := KB.out _ (hbel.trans (h.mono hbel.size))
    exact ⟨kb.1, q.f, q.no, q.v⟩ : W.cell? ⟨w.heap.size, 0, none⟩ = some (.slice (some ⟨be, oe, none⟩) rs.length ca) ∧ W.cell? ⟨be, oe + n * 67, none⟩ = some x.fv ∧ W.cell? ⟨be, oe + n * 67 + 66, none⟩ = some x.nv ∧ Lies 32 W be (oe + n * 67 + 1) (vecL x.x.v)))
   have RC := Lib.hid (fun (W : World) (h : Below w.heap.size w W) => ref_pclauses ((HF.out _ h).2 x hxm).f (by have := hxb.fl; omega) (SM.out x hxm))
   have RV := Lib.hid (fun (W : World) => ref_vplain W hxi.len)
   have RI := Lib.hid (fun (W : World) (h : Below w.heap.size w W) => ref_pitems ((HF.out _ h).2 x hxm).no (by have := hxb.nl; omega))
   have OKX : Hid (Pck.OkFrag x.x → ∀ r ∈ rs.take (n + 1), Pck.OkFrag r.x) := Lib.hid (fun ho r hr => by
    obtain ⟨h1, e1⟩ := List.getElem?_eq_some_iff.1 hx
    rw [List.take_succ_eq_append_getElem h1, e1] at hr
    rcases List.mem_append.1 hr with hr | hr
    ·exact hall.out r hr
    ·rw [List.mem_singleton.1 hr]; exact ho)
   have NOX := Lib.hid (NOF.out x hxm)
   have HP := Lib.hid (And.intro hxi.f.parts hxi.no.parts)
   have HBL := Lib.hid hbel
   have Hlt := Lib.hid hlt
   obtain ⟨f0, f1, f2, f3⟩ := XC.out _ (Below.refl _ _)
   clear f3 hbel hlt hn hx hxm hxi hxb hall
   obtain ⟨t1, ht1⟩ : ∃ t : Bool, t = decide (Pck.OkFlt x.x.f) := ⟨_, rfl⟩
   obtain ⟨t2, ht2⟩ : ∃ t : Bool, t = decide (Vec.Plain x.x.v) := ⟨_, rfl⟩
   obtain ⟨t3, ht3⟩ : ∃ t : Bool, t = decide (Pck.OkItems x.x.no) := ⟨_, rfl⟩
   rw [← ht1] at RC
   rw [← ht2] at RV
   rw [← ht3] at RI
   have T1 : Hid (t1 = true ↔ Pck.OkFlt x.x.f) := Lib.hid (by rw [ht1, decide_eq_true_iff])
   have T2 : Hid (t2 = true ↔ Pck.OkVec x.x.v) := Lib.hid (by rw [ht2, decide_eq_true_iff]; exact Pck.okVec_plain.symm)
   have T3 : Hid (t3 = true ↔ Pck.OkItems x.x.no) := Lib.hid (by rw [ht3, decide_eq_true_iff])
   obtain ⟨⟨A5, ca5, hA5, -⟩, ⟨A6, ca6, hA6, -⟩⟩ := HP.out
   rw [hA5] at RC f1
   rw [hA6] at RI f2
   replace hA5 := Lib.hid hA5
   replace hA6 := Lib.hid hA6
   clear ht1 ht2 ht3 HP
   go_wp2_with fail
   refine (RC.out _ HWr.out).mono ?_
   rintro e w1 ⟨rfl, b1⟩
   have V1 := Lib.hid b1
   have B1 := Lib.hid (HWr.out.trans (b1.mono HWr.out.size))
   clear b1 g0 g1 f0 f1 f2
   cases t1
   ·have hno := NOX.out (fun h => absurd (T1.out.2 h.1) (by simp))
    subst hno
    go_wp2_with fail
    go_ret
    exact ⟨rfl, B1.out⟩
   ·obtain ⟨h0, -, -, h3⟩ := XC.out _ V1.out
    have LV := Lib.hid h3
    clear h3
    go_wp2_with (refine wpList_mload (by rfl) _ (by rfl) (by rfl) LV.out ?_)
    refine (RV.out _).mono ?_
    rintro e w2 ⟨rfl, b2⟩
    have V2 := Lib.hid (V1.out.trans (b2.mono V1.out.size))
    have B2 := Lib.hid (B1.out.trans (b2.mono B1.out.size))
    clear b2 h0
    cases t2
    ·have hno := NOX.out (fun h => absurd (T2.out.2 h.2.1) (by simp))
     subst hno
     go_wp2_with fail
     go_ret
     exact ⟨rfl, B2.out⟩
    ·obtain ⟨h0, -, h2, -⟩ := XC.out _ V2.out
     rw [hA6.out] at h2
     go_wp2_with fail
     refine (RI.out _ B2.out).mono ?_
     rintro e w3 ⟨rfl, b3⟩
     have V3 := Lib.hid (HBL.out.trans ((V2.out.trans (b3.mono V2.out.size)).mono HBL.out.size))
     have B3 := Lib.hid (B2.out.trans (b3.mono B2.out.size))
     clear b3 h0 h2
     cases t3
     ·have hno := NOX.out (fun h => absurd (T3.out.2 h.2.2) (by simp))
      subst hno
      go_wp2_with fail
      go_ret
      exact ⟨rfl, B3.out⟩
     ·have OKN := Lib.hid (OKX.out ⟨T1.out.1 (by simp), T2.out.1 (by simp), T3.out.1 (by simp)⟩)
      go_wp2_with fail
      go_roundw
      case rel => exact ⟨n + 1, by have := Hlt.out; omega, by go_num, OKN.out, V3.out⟩
      case measure => (have := Hlt.out; simp [intOf]; omega)
  ·obtain rfl : n = rs.length := by omega
   have ALLF : Hid (∀ r ∈ rs, Pck.OkFrag r.x) := Lib.hid (by have := hall.out; rwa [List.take_length] at this)
   have HBL := Lib.hid hbel
   clear hbel hlt hn hall
   go_wp2_with fail
   clear g0 g1
   go_loopw [4] (fun i wr => ∃ n : Nat, n ≤ k.items.length ∧ i = .int .i64 (n : Int) ∧ Hid (∀ i ∈ k.items.take n, Pck.OkKnown i) ∧ Below W0.heap.size W0 wr) (fun i _ => k.items.length - (intOf i).toNat)
   case atStart => exact ⟨0, Nat.zero_le _, rfl, Lib.hid (by simp), HBL.out⟩
   case round =>
   obtain ⟨n, hn, rfl, hall, hbel⟩ := hrel
   obtain ⟨g0, g1⟩ := KB.out _ hbel
   by_cases hlt : n < k.items.length
   ·have HWr := Lib.hid (HB0.out.trans (hbel.mono HB0.out.size))
    obtain ⟨be, oe, cap1, e, -, -, hb⟩ := (HI.out _ HWr.out).block (by omega)
    injection e with e1 e2 e3
    subst e1 e3
    clear e2 hb
    obtain ⟨x, hx⟩ : ∃ x, k.items[n]? = some x := ⟨_, List.getElem?_eq_getElem hlt⟩
    have hxm := List.mem_of_getElem? hx
    have hxb := BI.out x hxm
    have hnn0 : (0 : Int) ≤ (n : Int) := by omega
    have hnn1 : (n : Int) < (k.items.length : Int) := by omega
    have XC := Lib.hid (fun (W : World) (h : Below wr.heap.size wr W) => (by
     have hW := HWr.out.trans (h.mono HWr.out.size)
     have q := ItAt.elem (HI.out _ hW) hx hxb.vl
     have kb := KB.out _ (hbel.trans (h.mono hbel.size))
     exact ⟨kb.2, q.by_, q.n, q.v⟩ : W.cell? ⟨w.heap.size, 1, none⟩ = some (.slice (some ⟨be, oe, none⟩) k.items.length cb) ∧ W.cell? ⟨be, oe + n * 67, none⟩ = some (.int .i64 x.item.by_) ∧ W.cell? ⟨be, oe + n * 67 + 1, none⟩ = some (.int .i64 x.item.n) ∧ Lies 32 W be (oe + n * 67 + 2) (vecL x.v)))
    have RC := Lib.hid (fun (W : World) => ref_vright W x.item)
    have RV := Lib.hid (fun (W : World) => ref_vplain W hxb.vl)
    have OKX : Hid (Pck.OkKnown x → ∀ r ∈ k.items.take (n + 1), Pck.OkKnown r) := Lib.hid (fun ho r hr => by
     obtain ⟨h1, e1⟩ := List.getElem?_eq_some_iff.1 hx
     rw [List.take_succ_eq_append_getElem h1, e1] at hr
     rcases List.mem_append.1 hr with hr | hr
     ·exact hall.out r hr
     ·rw [List.mem_singleton.1 hr]; exact ho)
    have NOX := Lib.hid (NOI.out x hxm)
    have HBL := Lib.hid hbel
    have Hlt := Lib.hid hlt
    obtain ⟨f0, f1, f2, f3⟩ := XC.out _ (Below.refl _ _)
    clear f3 hbel hlt hn hx hxm hxb hall
    obtain ⟨t1, ht1⟩ : ∃ t : Bool, t = decide (Ver.Right x.item) := ⟨_, rfl⟩
    obtain ⟨t2, ht2⟩ : ∃ t : Bool, t = decide (Vec.Plain x.v) := ⟨_, rfl⟩
    rw [← ht1] at RC
    rw [← ht2] at RV
    have T1 : Hid (t1 = true ↔ Ver.Right x.item) := Lib.hid (by rw [ht1, decide_eq_true_iff])
    have T2 : Hid (t2 = true ↔ Pck.OkVec x.v) := Lib.hid (by rw [ht2, decide_eq_true_iff]; exact Pck.okVec_plain.symm)
    clear ht1 ht2
    obtain ⟨⟨x1, x2⟩, xv⟩ := x
    dsimp only [verA] at RC f1 f2
    go_wp2_with fail
    refine (RC.out _).mono ?_
    rintro e w1 ⟨rfl, b1⟩
    have V1 := Lib.hid b1.below
    have B1 := Lib.hid (HWr.out.trans (b1.below.mono HWr.out.size))
    clear b1 g0 g1 f0 f1 f2
    cases t1
    ·have hno := NOX.out (fun h => absurd (T1.out.2 h.1) (by simp))
     subst hno
     go_wp2_with fail
     go_ret
     exact ⟨rfl, B1.out⟩
    ·obtain ⟨h0, -, -, h3⟩ := XC.out _ V1.out
     have LV := Lib.hid h3
     clear h3
     go_wp2_with (refine wpList_mload (by rfl) _ (by rfl) (by rfl) LV.out ?_)
     refine (RV.out _).mono ?_
     rintro e w2 ⟨rfl, b2⟩
     have V2 := Lib.hid (HBL.out.trans ((V1.out.trans (b2.mono V1.out.size)).mono HBL.out.size))
     have B2 := Lib.hid (B1.out.trans (b2.mono B1.out.size))
     clear b2 h0
     cases t2
     ·have hno := NOX.out (fun h => absurd (T2.out.2 h.2) (by simp))
      subst hno
      go_wp2_with fail
      go_ret
      exact ⟨rfl, B2.out⟩
     ·have OKN := Lib.hid (OKX.out ⟨T1.out.1 (by simp), T2.out.1 (by simp)⟩)
      go_wp2_with fail
      go_roundw
      case rel => exact ⟨n + 1, by have := Hlt.out; omega, by go_num, OKN.out, V2.out⟩
      case measure => (have := Hlt.out; simp [intOf]; omega)
   ·obtain rfl : n = k.items.length := by omega
    have ALLI : Hid (∀ i ∈ k.items, Pck.OkKnown i) := Lib.hid (by have := hall.out; rwa [List.take_length] at this)
    have HBL := Lib.hid (HB0.out.trans (hbel.mono HB0.out.size))
    clear hbel hlt hn hall
    by_cases h64 : (rs.length : Int) ≤ 64
    ·have hd1 : decide ((rs.length : Int) ≤ 64) = true := decide_eq_true h64
     by_cases h96 : (k.items.length : Int) ≤ 4096
     ·have hd2 : decide ((k.items.length : Int) ≤ 4096) = true := decide_eq_true h96
      have hy := YES.out ALLF.out ALLI.out h64 h96
      subst hy
      go_wp2_with fail
      go_ret
      exact ⟨rfl, HBL.out⟩
     ·have hd2 : decide ((k.items.length : Int) ≤ 4096) = false := decide_eq_false h96
      have hy := N96.out (by omega)
      subst hy
      go_wp2_with fail
      go_ret
      exact ⟨rfl, HBL.out⟩
    ·have hd1 : decide ((rs.length : Int) ≤ 64) = false := decide_eq_false h64
     have hy := N64.out (by omega)
     subst hy
     go_wp2_with fail
     go_ret
     exact ⟨rfl, HBL.out⟩
open Go.RowKit
theorem Flt.clauses_take {p : Flt.Tx} {l : List Sz.Rg} {m : Nat} {r : Sz.Rg} (h : l[m]? = some r) : Flt.clauses p (l.take (m + 1)) = Flt.clauses p (l.take m) ++ [⟨p, r.1, r.2⟩] := by
 obtain ⟨hl, he⟩ := List.getElem?_eq_some_iff.1 h
 rw [List.take_succ_eq_append_getElem hl, he]
 unfold Flt.clauses
 rw [List.map_append]
 rfl
def Flt.normTo (f : List Flt.Cl) (n : Nat) : List Flt.Cl := ((Flt.prefixes f).take n).flatMap fun p => Flt.clauses p (Flt.piece f p)
theorem Flt.normTo_more {f : List Flt.Cl} {n : Nat} {p : Flt.Tx} (h : (Flt.prefixes f)[n]? = some p) : Flt.normTo f (n + 1) = Flt.normTo f n ++ Flt.clauses p (Flt.piece f p) := by
 obtain ⟨hl, he⟩ := List.getElem?_eq_some_iff.1 h
 unfold Flt.normTo
 rw [List.take_succ_eq_append_getElem hl, he, List.flatMap_append]
 simp
theorem Flt.normTo_all (f : List Flt.Cl) : Flt.normTo f (Flt.prefixes f).length = Flt.norm f := by
 unfold Flt.normTo Flt.norm
 rw [List.take_length]
theorem Flt.normTo_len (f : List Flt.Cl) (n : Nat) (hn : n ≤ 1000000) : (Flt.normTo f n).length ≤ 202000000 := by
 have h1 := Flt.flat_len (fun p => Flt.clauses p (Flt.piece f p)) 202 ((Flt.prefixes f).take n) (fun p _ => by unfold Flt.clauses; rw [List.length_map]; exact Flt.piece_len f p)
 have h2 : ((Flt.prefixes f).take n).length ≤ n := by rw [List.length_take]; omega
 unfold Flt.normTo
 omega
theorem Flt.clauses_len (p : Flt.Tx) (l : List Sz.Rg) : (Flt.clauses p l).length = l.length := by unfold Flt.clauses; rw [List.length_map]
theorem Flt.prefixes_small {f : List Flt.Cl} (hs : ∀ c ∈ f, c.pre.length ≤ 100000) : ∀ p ∈ Flt.prefixes f, p.length ≤ 100000 := by
 intro p hp
 obtain ⟨c, hc, rfl⟩ := (Flt.prefixes_mem f p).1 hp
 exact hs c hc
open Go.RowKit
open Go.RowKit Go.Sort
structure FrBd (x : Know.Fr) : Prop where
 f : x.f.length ≤ 1000000
 pre : ∀ c ∈ x.f, c.pre.length ≤ 100000
 no : x.no.length ≤ 1000000
open Go.RowKit
theorem ref_fequal {w : World} {F G : Nat → Prop} {u v : Value} {f g : List Flt.Cl} (hf : Cls w F u f) (hg : Cls w G v g) (lf : f.length ≤ 100000000) (lg : g.length ≤ 100000000) :
  Calls Tryz.prog 62 #[u, v] w fun e w' => e = .returned (.bool (decide (f = g))) ∧ Below w.heap.size w w' := by
 obtain ⟨A, ca, rfl, hca⟩ := hf.parts
 obtain ⟨B, cb, rfl, hcb⟩ := hg.parts
 have HF := Lib.hid hf
 have HG := Lib.hid hg
 have la' : (f.length : Int) ≤ 100000000 := by omega
 have lb' : (g.length : Int) ≤ 100000000 := by omega
 clear hf hg
 by_cases hlen : f.length = g.length
 ·rw [← hlen]
  rw [← hlen] at HG
  have Hlen := Lib.hid hlen
  clear hlen
  go_enter Tryz.func62, Tryz.ntmps62
  go_wp2_with fail
  go_loopw [5] (fun i wr => ∃ n : Nat, n ≤ f.length ∧ i = .int .i64 (n : Int) ∧ Hid (f.take n = g.take n) ∧ Below w.heap.size w wr) (fun i _ => f.length - (intOf i).toNat)
  case atStart => exact ⟨0, Nat.zero_le _, rfl, Lib.hid (by rw [List.take_zero, List.take_zero]), Below.refl _ _⟩
  case round =>
   obtain ⟨n, hn, rfl, hsame, hbel⟩ := hrel
   by_cases hlt : n < f.length
   ·obtain ⟨b1, o1, cap1, e, -, -, hb1⟩ := HF.out.block (by omega)
    injection e with e1 e2 e3
    subst e1 e3
    obtain ⟨b2, o2, cap2, e, -, -, hb2⟩ := HG.out.block (by have := Hlen.out; omega)
    injection e with e1 e2 e3
    subst e1 e3
    clear e2
    obtain ⟨x, hx⟩ : ∃ x, f[n]? = some x := ⟨_, List.getElem?_eq_getElem hlt⟩
    obtain ⟨y, hy⟩ : ∃ y, g[n]? = some y := ⟨_, List.getElem?_eq_getElem (show n < g.length by have := Hlen.out; omega)⟩
    obtain ⟨c0, c1, c2⟩ := Cls.at (HF.out.below hbel) hx
    obtain ⟨d0, d1, d2⟩ := Cls.at (HG.out.below hbel) hy
    have hn0 : (0 : Int) ≤ (n : Int) := by omega
    have hn1 : (n : Int) < (f.length : Int) := by omega
    have Hbel := Lib.hid hbel
    clear hbel
    have es := str_same x.pre y.pre
    by_cases hxy : x = y
    ·subst hxy
     have hnext : Hid (f.take (n + 1) = g.take (n + 1)) := Lib.hid (by
      obtain ⟨h1, e1⟩ := List.getElem?_eq_some_iff.1 hx
      obtain ⟨h2, e2⟩ := List.getElem?_eq_some_iff.1 hy
      rw [List.take_succ_eq_append_getElem h1, List.take_succ_eq_append_getElem h2, e1, e2, hsame.out])
     obtain ⟨xp, x1, x2⟩ := x
     rw [decide_eq_true (rfl : xp = xp)] at es
     simp only at c0 c1 c2 d0 d1 d2 es
     clear hx hy hsame
     generalize mk xp = xs at *
     go_wp2_with fail
     go_quiet (fail)
     go_wp2_with fail
     refine ⟨⟨n + 1, by omega, rfl, hnext, Hbel.out.trans ((below_drews' wr nq).mono Hbel.out.size)⟩, ?_⟩
     show f.length - ((n : Int) + 1).toNat < f.length - (n : Int).toNat
     omega
    ·have hne : Hid (¬ f = g) := Lib.hid (fun e => hxy (by rw [e, hy] at hx; injection hx with hx; exact hx.symm))
     obtain ⟨xp, x1, x2⟩ := x
     obtain ⟨yp, y1, y2⟩ := y
     have hxy' : xp = yp → x1 = y1 → ¬ x2 = y2 := fun h k l => hxy (by rw [h, k, l])
     simp only at c0 c1 c2 d0 d1 d2 es
     clear hx hy hsame hxy
     by_cases h0 : xp = yp
     ·have hxy2 := hxy' h0
      subst h0
      rw [decide_eq_true (rfl : xp = xp)] at es
      clear hxy'
      generalize mk xp = xs at *
      by_cases h1 : x1 = y1
      ·have h2 := hxy2 h1
       subst h1
       clear hxy2
       go_wp2_with fail
       go_quiet (fail)
       go_wp2_with fail
       go_ret
       exact ⟨by rw [decide_eq_false hne.out]; rfl, Hbel.out.trans ((below_drews' wr nq).mono Hbel.out.size)⟩
      ·clear hxy2
       go_wp2_with fail
       go_quiet (fail)
       go_wp2_with fail
       go_ret
       exact ⟨by rw [decide_eq_false hne.out]; rfl, Hbel.out.trans ((below_drews' wr nq).mono Hbel.out.size)⟩
     ·rw [decide_eq_false h0] at es
      clear hxy' h0
      generalize mk xp = xs at *
      generalize mk yp = ys at *
      go_wp2_with fail
      go_quiet (fail)
      go_wp2_with fail
      go_ret
      exact ⟨by rw [decide_eq_false hne.out]; rfl, Hbel.out.trans ((below_drews' wr nq).mono Hbel.out.size)⟩
   ·obtain rfl : n = f.length := by omega
    have hab : Hid (f = g) := Lib.hid (by
     have := hsame.out
     rw [List.take_length, Hlen.out, List.take_length] at this
     exact this)
    have Hbel := Lib.hid hbel
    clear hbel hsame
    go_wp2_with fail
    go_ret
    exact ⟨by rw [decide_eq_true hab.out]; rfl, Hbel.out⟩
 ·have hlen' : ¬ ((f.length : Nat) : Int) = ((g.length : Nat) : Int) := by omega
  have hne : Hid (¬ f = g) := Lib.hid (fun e => hlen (by rw [e]))
  clear hlen
  go_enter Tryz.func62, Tryz.ntmps62
  go_wp2_with fail
  go_ret
  exact ⟨by rw [decide_eq_false hne.out]; rfl, Below.refl _ _⟩
open Go.RowKit Go.Sort
open Go.RowKit Go.Sort
theorem ver_equalSelf (w : World) (x1 x2 : Int) : (Op.equalIn 9999 51 (.agg #[.int .i64 x1, .int .i64 x2]) (.agg #[.int .i64 x1, .int .i64 x2])).run Tryz.prog w = .ok true w := by
 have hS : Tryz.prog.underlying 51 = some (.struct (Tryz.prog.fieldsOf 51)) := by kernel_rfl
 have hp : Tryz.prog.stoodInHeld 51 = false := by kernel_rfl
 have u3 := Tryz.underlying3
 have a3 := Tryz.isAgg3
 have z3 := Tryz.sizeOf3
 rw [show (9999 : Nat) = 9998 + 1 from rfl, run_equalIn_agg w 9998 51 _ _ hS hp]
 simp only [Program.fieldsOf, Tryz.underlying51]
 have hT : ∀ (w : World) (a b : Int), (Op.equalIn 9998 3 (.int .i64 a) (.int .i64 b)).run Tryz.prog w = .ok (a == b) w := fun w a b => run_equalIn_int w 9997 3 _ _ a b u3
 simp only [Op.eqFields]
 generalize Op.equalIn 9998 = EQ at hT ⊢
 go_simp
theorem it_equalSelf {x : Know.It} (hx : x.v.length = 65) (w : World) : (Op.equalIn 10000 127 (.agg (itV x).toArray) (.agg (itV x).toArray)).run Tryz.prog w = .ok true w := by
 have hS : Tryz.prog.underlying 127 = some (.struct (Tryz.prog.fieldsOf 127)) := by kernel_rfl
 have hp : Tryz.prog.stoodInHeld 127 = false := by kernel_rfl
 have u3 := Tryz.underlying3
 have hV : ∀ w, (Op.equalIn 9999 32 (.agg (vecL x.v).toArray) (.agg (vecL x.v).toArray)).run Tryz.prog w = .ok true w := fun w => by
  have h := vec_equalIn 9998 w hx hx (fun w a b => run_equalIn_int w 9997 3 _ _ a b u3)
  rwa [decide_eq_true rfl] at h
 have hW := fun w => ver_equalSelf w x.item.by_ x.item.n
 have z27 := Tryz.sizeOf51
 have a27 := Tryz.isAgg51
 have z39 := Tryz.sizeOf32
 have a39 := Tryz.isAgg32
 have px0 : ∀ w, (part 51 (itV x).toArray 0).run Tryz.prog w = .ok (.agg #[.int .i64 x.item.by_, .int .i64 x.item.n]) w := fun w => by
  have e : List.take 2 (itV x) = [.int .i64 x.item.by_, .int .i64 x.item.n] := rfl
  simp [part, a27, z27, e]
 have px2 : ∀ w, (part 32 (itV x).toArray 2).run Tryz.prog w = .ok (.agg (vecL x.v).toArray) w := fun w => by
  have e : List.take 65 (List.drop 2 (itV x)) = vecL x.v := by
   show (vecL x.v).take 65 = _
   exact List.take_of_length_le (by rw [vecL_len, hx]; exact Nat.le_refl _)
  simp [part, a39, z39, e]
 rw [show (10000 : Nat) = 9999 + 1 from rfl, run_equalIn_agg w 9999 127 _ _ hS hp]
 simp only [Program.fieldsOf, Tryz.underlying127]
 simp only [Op.eqFields]
 generalize Op.equalIn 9999 = EQ at hV hW ⊢
 generalize (itV x).toArray = X at *
 simp [px0, px2, hV, hW]
theorem ref_ksame {w : World} {F G : Nat → Prop} {u v : Value} {k : Know.K} (ha : Kns w F u k) (hb : Kns w G v k) (hl : k.frags.length ≤ 99999) (hm : k.items.length ≤ 99999) (bd : ∀ x ∈ k.frags, FrBd x) :
  Calls Tryz.prog 30 #[u, v] w fun e w' => e = .returned (.bool true) ∧ Below w.heap.size w w' := by
 have mixed : Tryz.prog.follows .mixedOrders = true := by kernel_rfl
 obtain ⟨a1, a2, rfl, ⟨rs, hrx, hrr, hri⟩, hia⟩ := ha
 obtain ⟨b1, b2, rfl, ⟨ss, hsx, hss, hsi⟩, hib⟩ := hb
 obtain ⟨A, ca, rfl, -⟩ := hrr.parts
 obtain ⟨B, cb, rfl, -⟩ := hia.1.parts
 obtain ⟨D, cd, rfl, -⟩ := hss.parts
 obtain ⟨E, ce, rfl, -⟩ := hib.1.parts
 have hll : ss.length = rs.length := by have h1 := congrArg List.length hrx; have h2 := congrArg List.length hsx; rw [List.length_map] at h1 h2; omega
 have hrl : rs.length ≤ 99999 := by have h1 := congrArg List.length hrx; rw [List.length_map] at h1; omega
 rw [hll]
 obtain ⟨W0, hW0⟩ : ∃ W0, W0 = (w.alloc (.cells #[.slice A rs.length ca, .slice B k.items.length cb] 28)).alloc (.cells #[.slice D rs.length cd, .slice E k.items.length ce] 28) := ⟨_, rfl⟩
 have hb0 : Below w.heap.size w W0 := by rw [hW0]; exact ((Below.refl _ _).alloc (Nat.le_refl _) _).alloc (by simp) _
 have r0 : Row W0 w.heap.size 28 #[.slice A rs.length ca, .slice B k.items.length cb] := by rw [hW0]; exact (Row.made w _ _).behindNew _
 have r1 : Row W0 (w.heap.size + 1) 28 #[.slice D rs.length cd, .slice E k.items.length ce] := by
  rw [hW0]
  have := Row.made (w.alloc (.cells #[.slice A rs.length ca, .slice B k.items.length cb] 28)) 28 #[.slice D rs.length cd, .slice E k.items.length ce]
  rwa [World.size_alloc] at this
 have XC := Lib.hid (fun (W : World) (h : Below W0.heap.size W0 W) => (⟨(r0.below h r0.inHeap).at 0, (r0.below h r0.inHeap).at 1, (r1.below h r1.inHeap).at 0, (r1.below h r1.inHeap).at 1⟩ : W.cell? ⟨w.heap.size, 0, none⟩ = some (.slice A rs.length ca) ∧ W.cell? ⟨w.heap.size, 1, none⟩ = some (.slice B k.items.length cb) ∧ W.cell? ⟨w.heap.size + 1, 0, none⟩ = some (.slice D rs.length cd) ∧ W.cell? ⟨w.heap.size + 1, 1, none⟩ = some (.slice E k.items.length ce)))
 have HR := Lib.hid (fun (W : World) (h : Below W0.heap.size W0 W) => Rws.below (Rws.below hrr hb0) h)
 have HS := Lib.hid (fun (W : World) (h : Below W0.heap.size W0 W) => (hll ▸ Rws.below (Rws.below hss hb0) h : Rws 67 rfV W G (.slice D rs.length cd) ss))
 have HN := Lib.hid (fun (W : World) (h : Below W0.heap.size W0 W) (r : RFr) (hr : r ∈ rs) => ((hri r hr).below hb0).below h)
 have HM := Lib.hid (fun (W : World) (h : Below W0.heap.size W0 W) (r : RFr) (hr : r ∈ ss) => ((hsi r hr).below hb0).below h)
 have HI := Lib.hid (fun (W : World) (h : Below W0.heap.size W0 W) => (hia.below hb0).below h)
 have HJ := Lib.hid (fun (W : World) (h : Below W0.heap.size W0 W) => (hib.below hb0).below h)
 have HE := Lib.hid (fun (n : Nat) (r s : RFr) (h1 : rs[n]? = some r) (h2 : ss[n]? = some s) => (by
  have e1 : k.frags[n]? = some r.x := by rw [← hrx, List.getElem?_map, h1]; rfl
  have e2 : k.frags[n]? = some s.x := by rw [← hsx, List.getElem?_map, h2]; rfl
  rw [e1] at e2; injection e2 with e2
  exact ⟨e2, List.mem_of_getElem? e1⟩ : r.x = s.x ∧ r.x ∈ k.frags))
 have HBd := Lib.hid bd
 have HLL := Lib.hid hll
 have HB0 := Lib.hid hb0
 have hf0 : (rs.length : Int) ≤ 99999 := by omega
 have hi0 : (k.items.length : Int) ≤ 99999 := by omega
 obtain ⟨c0, c1, c2, c3⟩ := XC.out W0 (Below.refl _ _)
 clear hrr hri hss hsi hia hib hrx hsx bd hb0 r0 r1 hll hrl hl hm
 go_enter Tryz.func30, Tryz.ntmps30
 go_wp2_with fail
 rw [← hW0]
 clear hW0
 go_wp2_with fail
 go_loopw [5] (fun i wr => ∃ n : Nat, n ≤ rs.length ∧ i = .int .i64 (n : Int) ∧ Hid (Below W0.heap.size W0 wr)) (fun i _ => rs.length - (intOf i).toNat)
 case atStart => exact ⟨0, Nat.zero_le _, rfl, Lib.hid (Below.refl _ _)⟩
 case round =>
  clear c0 c1 c2 c3
  obtain ⟨n, hn, rfl, hb⟩ := hrel
  obtain ⟨c0, c1, c2, c3⟩ := XC.out _ hb.out
  by_cases hlt : n < rs.length
  ·obtain ⟨bk, o, cap1, e, -, -, hbk⟩ := (HR.out W0 (Below.refl _ _)).block (by omega)
   injection e with e1 e2 e3
   subst e1 e3
   clear e2
   obtain ⟨bk2, o2, cap2, e, -, -, hbk2⟩ := (HS.out W0 (Below.refl _ _)).block (by have := HLL.out; omega)
   injection e with e1 e2 e3
   subst e1 e3
   clear e2
   obtain ⟨r, hr⟩ : ∃ r, rs[n]? = some r := ⟨_, List.getElem?_eq_getElem hlt⟩
   obtain ⟨s, hs⟩ : ∃ s, ss[n]? = some s := ⟨_, List.getElem?_eq_getElem (by have := HLL.out; omega)⟩
   have hrm := List.mem_of_getElem? hr
   have hsm := List.mem_of_getElem? hs
   obtain ⟨hx, hxm⟩ := HE.out n r s hr hs
   have hr65 := (HN.out W0 (Below.refl _ _) r hrm).len
   have hs65 := (HM.out W0 (Below.refl _ _) s hsm).len
   have LR := Lib.hid (fun (W : World) (h : InB wr W) => FrAt.elem (HR.out W (hb.out.trans (h.below.mono hb.out.size))) hr hr65)
   have LS := Lib.hid (fun (W : World) (h : InB wr W) => FrAt.elem (HS.out W (hb.out.trans (h.below.mono hb.out.size))) hs hs65)
   have XD := Lib.hid (fun (W : World) (h : InB wr W) => XC.out W (hb.out.trans (h.below.mono hb.out.size)))
   obtain ⟨A1, a1, e1, -⟩ := (HN.out W0 (Below.refl _ _) r hrm).no.parts
   obtain ⟨A2, a2, e2, -⟩ := (HM.out W0 (Below.refl _ _) s hsm).no.parts
   obtain ⟨B1, b1, g1, -⟩ := (HN.out W0 (Below.refl _ _) r hrm).f.parts
   obtain ⟨B2, b2, g2, -⟩ := (HM.out W0 (Below.refl _ _) s hsm).f.parts
   have SM := Lib.hid (fun (W : World) (h : InB wr W) => ref_vsame (HN.out W (hb.out.trans (h.below.mono hb.out.size)) r hrm).no (HM.out W (hb.out.trans (h.below.mono hb.out.size)) s hsm).no (HBd.out r.x hxm).no (hx ▸ (HBd.out r.x hxm).no))
   have EQ := Lib.hid (fun (W : World) (h : InB wr W) => ref_fequal (HN.out W (hb.out.trans (h.below.mono hb.out.size)) r hrm).f (HM.out W (hb.out.trans (h.below.mono hb.out.size)) s hsm).f (Nat.le_trans (HBd.out r.x hxm).f (by decide)) (hx ▸ Nat.le_trans (HBd.out r.x hxm).f (by decide)))
   rw [decide_eq_true (congrArg Know.Fr.no hx), e1, e2] at SM
   rw [decide_eq_true (congrArg Know.Fr.f hx), g1, g2] at EQ
   have ve := fun w => vec_eqL hr65 hs65 w
   rw [decide_eq_true (congrArg Know.Fr.v hx)] at ve
   have XN := Lib.hid (fun (W : World) (h : InB wr W) => (⟨(LR.out W h).no.trans (congrArg some e1), (LS.out W h).no.trans (congrArg some e2), (LR.out W h).f.trans (congrArg some g1), (LS.out W h).f.trans (congrArg some g2)⟩ : _ ∧ _ ∧ _ ∧ _))
   have V1 := Lib.hid (fun (W : World) (h : InB wr W) => (LR.out W h).v)
   have V2 := Lib.hid (fun (W : World) (h : InB wr W) => (LS.out W h).v)
   have hn0 : (0 : Int) ≤ (n : Int) := by omega
   have hn1 : (n : Int) < (rs.length : Int) := by omega
   have hn2 : (n : Int) ≤ 99999 := by omega
   clear e1 e2 g1 g2 hr hs hrm hsm hx hxm hr65 hs65 LR LS
   go_wp2_with fail
   refine wp_region_below (by assumption) (by kernel_rfl) ?_
   refine wq_td ?_
   simp only [zz]
   (first | (refine wq_mload (by kernel_rfl) _ (by rfl) (by rfl) V1.out ?_) | (refine wq_mload (by kernel_rfl) _ (by rfl) (by rfl) V2.out ?_) | (refine wq_take (v := ?_) (by kernel_rfl) (by intro w hSw; have hXD := XD.out w hSw; have hXN := XN.out w hSw; go_simp; first | done | with_reducible rfl) ?_))
   simp only [zz]
   refine wq_td ?_
   simp only [zz]
   refine wq_td ?_
   simp only [zz]
   refine wq_td ?_
   simp only [zz]
   (first | (refine wq_mload (by kernel_rfl) _ (by rfl) (by rfl) V1.out ?_) | (refine wq_mload (by kernel_rfl) _ (by rfl) (by rfl) V2.out ?_) | (refine wq_take (v := ?_) (by kernel_rfl) (by intro w hSw; have hXD := XD.out w hSw; have hXN := XN.out w hSw; go_simp; first | done | with_reducible rfl) ?_))
   simp only [zz]
   refine wq_td ?_
   simp only [zz]
   (first | (refine wq_mload (by kernel_rfl) _ (by rfl) (by rfl) V1.out ?_) | (refine wq_mload (by kernel_rfl) _ (by rfl) (by rfl) V2.out ?_) | (refine wq_take (v := ?_) (by kernel_rfl) (by intro w hSw; have hXD := XD.out w hSw; have hXN := XN.out w hSw; go_simp; first | done | with_reducible rfl) ?_))
   simp only [zz]
   refine wq_td ?_
   simp only [zz]
   refine wq_td ?_
   simp only [zz]
   refine wq_td ?_
   simp only [zz]
   (first | (refine wq_mload (by kernel_rfl) _ (by rfl) (by rfl) V1.out ?_) | (refine wq_mload (by kernel_rfl) _ (by rfl) (by rfl) V2.out ?_) | (refine wq_take (v := ?_) (by kernel_rfl) (by intro w hSw; have hXD := XD.out w hSw; have hXN := XN.out w hSw; go_simp; first | done | with_reducible rfl) ?_))
   simp only [zz]
   refine wq_td ?_
   simp only [zz]
   refine wq_td ?_
   simp only [zz]
   refine wq_td ?_
   simp only [zz]
   (first | (refine wq_mload (by kernel_rfl) _ (by rfl) (by rfl) V1.out ?_) | (refine wq_mload (by kernel_rfl) _ (by rfl) (by rfl) V2.out ?_) | (refine wq_take (v := ?_) (by kernel_rfl) (by intro w hSw; have hXD := XD.out w hSw; have hXN := XN.out w hSw; go_simp; first | done | with_reducible rfl) ?_))
   simp only [zz]
   refine wq_td ?_
   simp only [zz]
   refine wq_td ?_
   simp only [zz]
   refine wq_td ?_
   simp only [zz]
   (first | (refine wq_mload (by kernel_rfl) _ (by rfl) (by rfl) V1.out ?_) | (refine wq_mload (by kernel_rfl) _ (by rfl) (by rfl) V2.out ?_) | (refine wq_take (v := ?_) (by kernel_rfl) (by intro w hSw; have hXD := XD.out w hSw; have hXN := XN.out w hSw; go_simp; first | done | with_reducible rfl) ?_))
   simp only [zz]
   refine wq_td ?_
   simp only [zz]
   (first | (refine wq_mload (by kernel_rfl) _ (by rfl) (by rfl) V1.out ?_) | (refine wq_mload (by kernel_rfl) _ (by rfl) (by rfl) V2.out ?_) | (refine wq_take (v := ?_) (by kernel_rfl) (by intro w hSw; have hXD := XD.out w hSw; have hXN := XN.out w hSw; go_simp; first | done | with_reducible rfl) ?_))
   simp only [zz]
   refine wq_td ?_
   simp only [zz]
   refine wq_td ?_
   simp only [zz]
   refine wq_td ?_
   simp only [zz]
   (first | (refine wq_mload (by kernel_rfl) _ (by rfl) (by rfl) V1.out ?_) | (refine wq_mload (by kernel_rfl) _ (by rfl) (by rfl) V2.out ?_) | (refine wq_take (v := ?_) (by kernel_rfl) (by intro w hSw; have hXD := XD.out w hSw; have hXN := XN.out w hSw; go_simp; first | done | with_reducible rfl) ?_))
   simp only [zz]
   (first | (refine wq_call (by kernel_rfl) ?hent (fun w hSw => inB_calls hSw (SM.out w hSw)) ?_; (case hent => (intro w hSw; go_simp; done))) | (refine wq_call (by kernel_rfl) ?hent (fun w hSw => inB_calls hSw (EQ.out w hSw)) ?_; (case hent => (intro w hSw; go_simp; done))))
   simp only [zz]
   refine wq_td ?_
   simp only [zz]
   refine wq_td ?_
   simp only [zz]
   refine wq_td ?_
   simp only [zz]
   refine wq_td ?_
   simp only [zz]
   (first | (refine wq_mload (by kernel_rfl) _ (by rfl) (by rfl) V1.out ?_) | (refine wq_mload (by kernel_rfl) _ (by rfl) (by rfl) V2.out ?_) | (refine wq_take (v := ?_) (by kernel_rfl) (by intro w hSw; have hXD := XD.out w hSw; have hXN := XN.out w hSw; go_simp; first | done | with_reducible rfl) ?_))
   simp only [zz]
   refine wq_td ?_
   simp only [zz]
   refine wq_td ?_
   simp only [zz]
   refine wq_td ?_
   simp only [zz]
   (first | (refine wq_mload (by kernel_rfl) _ (by rfl) (by rfl) V1.out ?_) | (refine wq_mload (by kernel_rfl) _ (by rfl) (by rfl) V2.out ?_) | (refine wq_take (v := ?_) (by kernel_rfl) (by intro w hSw; have hXD := XD.out w hSw; have hXN := XN.out w hSw; go_simp; first | done | with_reducible rfl) ?_))
   simp only [zz]
   refine wq_td ?_
   simp only [zz]
   (first | (refine wq_mload (by kernel_rfl) _ (by rfl) (by rfl) V1.out ?_) | (refine wq_mload (by kernel_rfl) _ (by rfl) (by rfl) V2.out ?_) | (refine wq_take (v := ?_) (by kernel_rfl) (by intro w hSw; have hXD := XD.out w hSw; have hXN := XN.out w hSw; go_simp; first | done | with_reducible rfl) ?_))
   simp only [zz]
   refine wq_td ?_
   simp only [zz]
   refine wq_td ?_
   simp only [zz]
   refine wq_td ?_
   simp only [zz]
   (first | (refine wq_mload (by kernel_rfl) _ (by rfl) (by rfl) V1.out ?_) | (refine wq_mload (by kernel_rfl) _ (by rfl) (by rfl) V2.out ?_) | (refine wq_take (v := ?_) (by kernel_rfl) (by intro w hSw; have hXD := XD.out w hSw; have hXN := XN.out w hSw; go_simp; first | done | with_reducible rfl) ?_))
   simp only [zz]
   (first | (refine wq_call (by kernel_rfl) ?hent (fun w hSw => inB_calls hSw (SM.out w hSw)) ?_; (case hent => (intro w hSw; go_simp; done))) | (refine wq_call (by kernel_rfl) ?hent (fun w hSw => inB_calls hSw (EQ.out w hSw)) ?_; (case hent => (intro w hSw; go_simp; done))))
   simp only [zz]
   refine wq_td ?_
   simp only [zz]
   refine wq_td ?_
   simp only [zz]
   refine wq_nil ?_
   intro wq hq
   have HQ1 := Lib.hid hq
   clear hq
   have HQ := Lib.hid (hb.out.trans (HQ1.out.below.mono hb.out.size))
   go_wp2_with fail
   exact ⟨⟨n + 1, by omega, by go_num, HQ⟩, by show rs.length - ((n : Int) + 1).toNat < rs.length - (n : Int).toNat; omega⟩
  ·obtain rfl : n = rs.length := by omega
   go_wp2_with fail
   go_loopw [6] (fun i W => ∃ m : Nat, m ≤ k.items.length ∧ i = .int .i64 (m : Int) ∧ Hid (Below W0.heap.size W0 W)) (fun i _ => k.items.length - (intOf i).toNat)
   case atStart => exact ⟨0, Nat.zero_le _, rfl, hb⟩
   case round =>
    clear c0 c1 c2 c3 hb
    obtain ⟨m, hm, rfl, hb⟩ := hrel
    obtain ⟨c0, c1, c2, c3⟩ := XC.out _ hb.out
    by_cases hlt2 : m < k.items.length
    ·obtain ⟨bk, o, cap1, e, -, -, hbk⟩ := (HI.out W0 (Below.refl _ _)).1.block (by omega)
     injection e with e1 e2 e3
     subst e1 e3
     clear e2
     obtain ⟨bk2, o2, cap2, e, -, -, hbk2⟩ := (HJ.out W0 (Below.refl _ _)).1.block (by omega)
     injection e with e1 e2 e3
     subst e1 e3
     clear e2
     obtain ⟨x, hx⟩ : ∃ x, k.items[m]? = some x := ⟨_, List.getElem?_eq_getElem hlt2⟩
     have hx65 := (HI.out W0 (Below.refl _ _)).2 x (List.mem_of_getElem? hx)
     have XD := Lib.hid (fun (W : World) (h : InB wr W) => XC.out W (hb.out.trans (h.below.mono hb.out.size)))
     have L1 := Lib.hid (fun (W : World) (h : InB wr W) => (ItAt.elem (HI.out W (hb.out.trans (h.below.mono hb.out.size))).1 hx hx65).all)
     have L2 := Lib.hid (fun (W : World) (h : InB wr W) => (ItAt.elem (HJ.out W (hb.out.trans (h.below.mono hb.out.size))).1 hx hx65).all)
     have ve := fun w => it_equalSelf hx65 w
     have hm0 : (0 : Int) ≤ (m : Int) := by omega
     have hm1 : (m : Int) < (k.items.length : Int) := by omega
     have hm2 : (m : Int) ≤ 99999 := by omega
     clear hx hx65
     go_wp2_with fail
     refine wp_region_below (by assumption) (by kernel_rfl) ?_
     refine wq_td ?_
     simp only [zz]
     (first | (refine wq_mload (by kernel_rfl) _ (by rfl) (by rfl) L1.out ?_) | (refine wq_mload (by kernel_rfl) _ (by rfl) (by rfl) L2.out ?_) | (refine wq_take (v := ?_) (by kernel_rfl) (by intro w hSw; have hXD := XD.out w hSw; go_simp; first | done | with_reducible rfl) ?_))
     simp only [zz]
     refine wq_td ?_
     simp only [zz]
     refine wq_td ?_
     simp only [zz]
     (first | (refine wq_mload (by kernel_rfl) _ (by rfl) (by rfl) L1.out ?_) | (refine wq_mload (by kernel_rfl) _ (by rfl) (by rfl) L2.out ?_) | (refine wq_take (v := ?_) (by kernel_rfl) (by intro w hSw; have hXD := XD.out w hSw; go_simp; first | done | with_reducible rfl) ?_))
     simp only [zz]
     refine wq_td ?_
     simp only [zz]
     (first | (refine wq_mload (by kernel_rfl) _ (by rfl) (by rfl) L1.out ?_) | (refine wq_mload (by kernel_rfl) _ (by rfl) (by rfl) L2.out ?_) | (refine wq_take (v := ?_) (by kernel_rfl) (by intro w hSw; have hXD := XD.out w hSw; go_simp; first | done | with_reducible rfl) ?_))
     simp only [zz]
     refine wq_td ?_
     simp only [zz]
     refine wq_td ?_
     simp only [zz]
     (first | (refine wq_mload (by kernel_rfl) _ (by rfl) (by rfl) L1.out ?_) | (refine wq_mload (by kernel_rfl) _ (by rfl) (by rfl) L2.out ?_) | (refine wq_take (v := ?_) (by kernel_rfl) (by intro w hSw; have hXD := XD.out w hSw; go_simp; first | done | with_reducible rfl) ?_))
     simp only [zz]
     refine wq_td ?_
     simp only [zz]
     refine wq_nil ?_
     intro wq hq
     have HQ1 := Lib.hid hq
     clear hq
     have HQ := Lib.hid (hb.out.trans (HQ1.out.below.mono hb.out.size))
     go_wp2_with fail
     exact ⟨⟨m + 1, by omega, by go_num, HQ⟩, by show k.items.length - ((m : Int) + 1).toNat < k.items.length - (m : Int).toNat; omega⟩
    ·obtain rfl : m = k.items.length := by omega
     have HE := Lib.hid (HB0.out.trans (hb.out.mono HB0.out.size))
     go_wp2_with fail
     go_ret
     exact ⟨rfl, HE.out⟩
end Go.Proofs.YtpafpegcodempaaGreat
