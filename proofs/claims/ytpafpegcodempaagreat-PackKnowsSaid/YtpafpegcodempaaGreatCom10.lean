import Derived.Test.YtpafpegcodempaaGreatCom7
import Derived.Test.YtpafpegcodempaaGreatCom4
import Derived.Test.YtpafpegcodempaaGreatCom8
import Derived.Test.YtpafpegcodempaaGreatCom9
set_option maxRecDepth 100000
set_option linter.all false
set_option maxHeartbeats 12800000
namespace Go.Proofs.YtpafpegcodempaaGreat
open Go.RowKit Go.Sort
structure LsAt {α : Type} (t k : Nat) (f : α → List Value) (w : World) (b : Nat) (l : List UInt8) (e : Int) (out : List α) (v : Value) (wr : World) : Prop where
 own : wr.ownsRow w.heap.size t k v out.length (out.flatMap f)
 rd : RdL wr b l e
 gb : w.grownBy wr (some b)
theorem LsAt.cell {w W : World} {b c : Nat} {u : Value} (hc : w.cell? ⟨c, 0, none⟩ = some u) (hcb : c ≠ b) (hW : w.grownBy W (some b)) : W.cell? ⟨c, 0, none⟩ = some u := by
 have hlt : c < w.heap.size := by
  refine Nat.lt_of_not_le (fun hn => ?_)
  have : w.heap[c]? = none := Array.getElem?_eq_none hn
  unfold World.cell? at hc
  simp [this] at hc
 exact (World.cell?_of_block (w := w) (a := ⟨c, 0, none⟩) (hW.block c hlt (fun e => hcb (by injection e)))).trans hc
section
variable {α : Type} {t k : Nat} {f : α → List Value} {w wr w2 w3 : World} {b p : Nat} {l l2 tt lr : List UInt8} {e e2 er : Int} {out : List α} {v : Value}
theorem LsAt.mid (h : LsAt t k f w b l e out v wr) (ht : 190 ≠ t) (g2 : wr.grownBy w2 (some b)) (h2 : RdL w2 p tt 0) (g3 : w2.grownBy w3 (some p)) (o : Obj) : (w3.alloc o).ownsRow w.heap.size t k v out.length (out.flatMap f) := by
 have o2 := h.own.kept g2 (Or.inr (own_other h.own h.rd ht))
 have o3 := o2.kept g3 (Or.inr (own_other o2 h2 ht))
 exact o3.alloc o
theorem LsAt.more (h : LsAt t k f w b l e out v wr) (ht : 190 ≠ t) (hbw : b < w.heap.size) (g2 : wr.grownBy w2 (some b)) (h3 : RdL w2 b l2 e2) (hp : wr.heap.size ≤ p) (g3 : w2.grownBy w3 (some p)) (h4 : RdL w3 p lr er) {x : α} :
  wr.heap.size ≤ w3.heap.size ∧ ∀ (o : Obj) (v4 : Value) (w4 : World), w4.ownsRow w.heap.size t k v4 (out.length + [x].length) (out.flatMap f ++ [x].flatMap f) → (w3.alloc o).grownBy w4 v.ownBlock → LsAt t k f w b l2 e2 (out ++ [x]) v4 w4 ∧ RdL w4 p lr er := by
 have hs := h.gb.size
 have hpb : p ≠ b := by omega
 have o2 := h.own.kept g2 (Or.inr (own_other h.own h.rd ht))
 refine ⟨Nat.le_trans g2.size g3.size, fun o v4 w4 own hg => ?_⟩
 have d3 : RdL w3 b l2 e2 := Row.grown h3 g3 (fun e => hpb (by injection e))
 have hne1 : v.ownBlock ≠ some b := own_other h.own h.rd ht
 have hb : b < w3.heap.size := Row.inHeap d3
 have hlt := fun g hg => (h.own.lt g hg)
 have hnp : v.ownBlock ≠ some p := fun e => by have := (hlt p e).2; omega
 refine ⟨⟨?_, Row.grown (Row.behindNew d3 o) hg hne1, ?_⟩, Row.grown (Row.behindNew h4 o) hg hnp⟩
 ·rw [List.length_append, List.flatMap_append]; exact own
 ·have k3 := gb_kept (gb_trans h.gb g2) (Kept.ofGrown (F := fun i => i = p) g3 (fun i e => by injection e with e; exact e.symm)) (fun i e => by omega)
  exact gb_kept (gb_new k3 o) (Kept.ofGrown (F := fun i => v.ownBlock = some i) hg (fun i e => e)) (fun i e => (hlt i e).1)
end
theorem pck_list_ver {w : World} {b c : Nat} {l : List UInt8} {e : Int} (h : RdL w b l e) (hc : w.cell? ⟨c, 0, none⟩ = some (.func (.func 269) #[] #[])) (hcb : c ≠ b) (hm : l.length ≤ 100000) :
  Calls Tryz.prog 341 #[.pointer (some ⟨b, 0, none⟩), .pointer (some ⟨c, 0, none⟩)] w fun ed w' => ∃ v, ed = .returned v ∧ Vrs w' (NewIn w w') v (Pck.list Pck.rdVer l e).1 ∧ RdL w' b (Pck.list Pck.rdVer l e).2.1 (Pck.list Pck.rdVer l e).2.2 ∧ w.grownBy w' (some b) := by
 obtain ⟨i0, hi, hz0, hz1, hz2⟩ := ver_parts verInfo
 have hbw : b < w.heap.size := Row.inHeap h
 have HC := Lib.hid (fun (W : World) (hW : w.grownBy W (some b)) => LsAt.cell hc hcb hW)
 have N1 := Lib.hid (pck_n h hm)
 have hl1 := stepN_left l e
 have hn63 := stepN_fits l e
 unfold Pck.list
 unfold Pck.rn at N1
 generalize stepN l e = s1 at *
 obtain ⟨n, l1, e1⟩ := s1
 dsimp only at hl1 hn63 N1 ⊢
 obtain ⟨T, hT⟩ : ∃ T, T = Pck.elems Pck.rdVer n l1 e1 := ⟨_, rfl⟩
 rw [← hT]
 replace hT := Lib.hid hT
 have hn : (n : Int) ≤ 9223372036854775807 := by omega
 have HL1 : Hid (l1.length ≤ 100000) := Lib.hid (by omega)
 have HBW := Lib.hid hbw
 clear h hc hcb hm hl1 hn63 hbw
 go_enter Tryz.func341, Tryz.ntmps341
 go_wp2_with fail
 refine N1.out.mono ?_
 rintro ed w1 ⟨rfl, h1, g1⟩
 have A0 : Hid (LsAt 51 2 verV w b l1 e1 [] (.slice none 0 0) w1) := Lib.hid ⟨World.ownsRow_nil _ _ _ _, h1, g1⟩
 clear h1 g1
 go_wp2_with fail
 go_loopw [4, 8] (fun v i wr => ∃ (k : Nat) (lk : List UInt8) (ek : Int) (out : List Ver.V), k ≤ n ∧ i = .int .i64 (k : Int) ∧ LsAt 51 2 verV w b lk ek out v wr ∧ Hid (T = (out ++ (Pck.elems Pck.rdVer (n - k) lk ek).1, (Pck.elems Pck.rdVer (n - k) lk ek).2)) ∧ Hid (out.length + lk.length ≤ 100000)) (fun _ i _ => n - (intOf i).toNat)
 case atStart => exact ⟨0, l1, e1, [], Nat.zero_le _, rfl, A0.out, Lib.hid (by rw [hT.out]; rfl), Lib.hid (by simpa using HL1.out)⟩
 case round =>
  obtain ⟨k, lk, ek, out, hk, rfl, hA, hR, hF⟩ := hrel
  by_cases hlt : k < n
  ·have hk0 : (k : Int) < (n : Int) := by omega
   have Hlt := Lib.hid hlt
   have hF' := hF.out
   have IN := Lib.hid (pck_inner hA.rd (by omega))
   have hle := stepT_left lk ek
   have HA := Lib.hid hA
   obtain ⟨m, hm⟩ : ∃ m, n - k = m + 1 := ⟨n - k - 1, by omega⟩
   have hm2 : n - (k + 1) = m := by omega
   have hR' := hR.out
   rw [hm, Pck.elems] at hR'
   have VR := Lib.hid (fun (W : World) (p : Nat) (h : RdL W p (stepT lk ek).1 0) => pck_ver h (by omega))
   have hrl : (Pck.rdVer (stepT lk ek).1 0).2.1.length ≤ 100000 := Nat.le_trans (Pck.rdVer_left _ _) (by omega)
   have hnev := fun h => Pck.rdVer_never.some (t := (stepT lk ek).1) h
   have hless := fun h => stepT_less (l := lk) (e := ek) h
   generalize stepT lk ek = s2 at *
   obtain ⟨t, l2, e2⟩ := s2
   dsimp only at *
   generalize Pck.rdVer t 0 = s3 at *
   obtain ⟨⟨x1, x2⟩, lr, er⟩ := s3
   dsimp only at *
   have hout : out.length ≤ 100000 := by omega
   have Hlr := Lib.hid hrl
   clear hrl hA hle hF' hk hlt hm hR
   by_cases hend : endOf lr.length er = 0
   ·rw [if_pos hend] at hR'
    have hless2 := hless (hnev hend)
    have HR1 : Hid (T = ((out ++ [(⟨x1, x2⟩ : Ver.V)]) ++ (Pck.elems Pck.rdVer (n - (k + 1)) l2 e2).1, (Pck.elems Pck.rdVer (n - (k + 1)) l2 e2).2)) := Lib.hid (by rw [hR', hm2, List.append_assoc]; rfl)
    have HF1 : Hid ((out ++ [(⟨x1, x2⟩ : Ver.V)]).length + l2.length ≤ 100000) := Lib.hid (by have := hF.out; rw [List.length_append, List.length_singleton]; omega)
    have hed : (endOf lr.length er != 0) = false := by rw [hend]; rfl
    have Hout := Lib.hid hout
    clear hnev hless hR' hend hF hless2 hm2 hout
    go_wp2_with fail
    refine IN.out.mono ?_
    rintro ed w2 ⟨p, rfl, h2, hp, h3, g2⟩
    have c2 := HC.out _ (gb_trans HA.out.gb g2)
    have H2 := Lib.hid h2
    have MID := Lib.hid (fun (W : World) (g3 : w2.grownBy W (some p)) (o : Obj) => HA.out.mid (by decide) g2 h2 g3 o)
    have MORE := Lib.hid (fun (W : World) (g3 : w2.grownBy W (some p)) (h4 : RdL W p lr er) => HA.out.more (by decide) HBW.out g2 h3 hp g3 h4 (x := (⟨x1, x2⟩ : Ver.V)))
    clear h2 hp h3 g2
    go_wp2_with fail
    refine (VR.out _ _ H2.out).mono ?_
    rintro ed w3 ⟨rfl, h4, g3⟩
    have own1 := MID.out _ g3 (.cells #[.int .i64 x1, .int .i64 x2] 51)
    have hbs : w.heap.size ≤ w3.heap.size := Nat.le_trans HA.out.gb.size (MORE.out _ g3 h4).1
    have MO := Lib.hid (MORE.out _ g3 h4).2
    clear c2 h4 g3
    dsimp only [verA]
    go_wp2_with (at_builtin; refine wp_joins (f := verV) (l := [(⟨x1, x2⟩ : Ver.V)]) rfl _ _ 33 rfl w.heap.size 51 i0 (.agg #[.int .i64 0, .int .i64 0]) 16 Tryz.underlying33 hi hz0 hz1 hz2 rfl (by decide) rfl rfl own1 (rows_made (f := verV) w3 51 (⟨x1, x2⟩ : Ver.V)) (fun _ _ => rfl) (fun x hx => ver_one x) ?a1 ?a2 ?a3 ?_; (case a1 => (have := Hout.out; simp only [List.length_cons, List.length_nil]; unfold maxLen; omega)); (case a2 => (have := Hout.out; simp only [List.length_cons, List.length_nil]; omega)); (case a3 => (rw [World.size_alloc]; omega)); intro v4 w4 own4 hg4 hn4; obtain ⟨LS4, H5⟩ := MO.out _ _ _ own4 hg4; replace LS4 := Lib.hid LS4; replace H5 := Lib.hid H5; clear own4 hg4 hn4 own1)
    refine (end_any H5.out (by show (mk lr).size ≤ _; rw [mk_len]; have := Hlr.out; omega)).mono ?_
    rintro ed w5 ⟨rfl, rfl⟩
    go_wp2_with fail
    go_roundw
    case rel => exact ⟨k + 1, l2, e2, _, by have := Hlt.out; omega, by go_num, LS4.out, HR1, HF1⟩
    case measure => (have := Hlt.out; simp [intOf]; omega)
   ·rw [if_neg hend] at hR'
    have HR1 : Hid (T = (out ++ [(⟨x1, x2⟩ : Ver.V)], (l2, e2))) := Lib.hid hR'
    have hed : (endOf lr.length er != 0) = true := by simpa using hend
    have Hout := Lib.hid hout
    clear hnev hless hR' hend hF hm2 hout
    go_wp2_with fail
    refine IN.out.mono ?_
    rintro ed w2 ⟨p, rfl, h2, hp, h3, g2⟩
    have c2 := HC.out _ (gb_trans HA.out.gb g2)
    have H2 := Lib.hid h2
    have MID := Lib.hid (fun (W : World) (g3 : w2.grownBy W (some p)) (o : Obj) => HA.out.mid (by decide) g2 h2 g3 o)
    have MORE := Lib.hid (fun (W : World) (g3 : w2.grownBy W (some p)) (h4 : RdL W p lr er) => HA.out.more (by decide) HBW.out g2 h3 hp g3 h4 (x := (⟨x1, x2⟩ : Ver.V)))
    clear h2 hp h3 g2
    go_wp2_with fail
    refine (VR.out _ _ H2.out).mono ?_
    rintro ed w3 ⟨rfl, h4, g3⟩
    have own1 := MID.out _ g3 (.cells #[.int .i64 x1, .int .i64 x2] 51)
    have hbs : w.heap.size ≤ w3.heap.size := Nat.le_trans HA.out.gb.size (MORE.out _ g3 h4).1
    have MO := Lib.hid (MORE.out _ g3 h4).2
    clear c2 h4 g3
    dsimp only [verA]
    go_wp2_with (at_builtin; refine wp_joins (f := verV) (l := [(⟨x1, x2⟩ : Ver.V)]) rfl _ _ 33 rfl w.heap.size 51 i0 (.agg #[.int .i64 0, .int .i64 0]) 16 Tryz.underlying33 hi hz0 hz1 hz2 rfl (by decide) rfl rfl own1 (rows_made (f := verV) w3 51 (⟨x1, x2⟩ : Ver.V)) (fun _ _ => rfl) (fun x hx => ver_one x) ?a1 ?a2 ?a3 ?_; (case a1 => (have := Hout.out; simp only [List.length_cons, List.length_nil]; unfold maxLen; omega)); (case a2 => (have := Hout.out; simp only [List.length_cons, List.length_nil]; omega)); (case a3 => (rw [World.size_alloc]; omega)); intro v4 w4 own4 hg4 hn4; obtain ⟨LS4, H5⟩ := MO.out _ _ _ own4 hg4; replace LS4 := Lib.hid LS4; replace H5 := Lib.hid H5; clear own4 hg4 hn4 own1)
    refine (end_any H5.out (by show (mk lr).size ≤ _; rw [mk_len]; have := Hlr.out; omega)).mono ?_
    rintro ed w5 ⟨rfl, rfl⟩
    go_wp2_with fail
    go_ret
    rw [HR1.out]
    exact ⟨_, rfl, Rws.ofOwn LS4.out.own rfl (fun _ _ => rfl) (fun _ _ h1 h2 => ⟨h1, h2⟩), LS4.out.rd, LS4.out.gb⟩
  ·obtain rfl : k = n := by omega
   have HR1 := hR.out
   rw [Nat.sub_self, Pck.elems, List.append_nil] at HR1
   replace HR1 := Lib.hid HR1
   have HA := Lib.hid hA
   clear hR hF hA hk hlt
   go_wp2_with fail
   go_ret
   rw [HR1.out]
   exact ⟨_, rfl, Rws.ofOwn HA.out.own rfl (fun _ _ => rfl) (fun _ _ h1 h2 => ⟨h1, h2⟩), HA.out.rd, HA.out.gb⟩
theorem pck_list_cl {w : World} {b c : Nat} {l : List UInt8} {e : Int} (h : RdL w b l e) (hc : w.cell? ⟨c, 0, none⟩ = some (.func (.func 279) #[] #[])) (hcb : c ≠ b) (hm : l.length ≤ 100000) :
  Calls Tryz.prog 342 #[.pointer (some ⟨b, 0, none⟩), .pointer (some ⟨c, 0, none⟩)] w fun ed w' => ∃ v, ed = .returned v ∧ Cls w' (NewIn w w') v (Pck.list Pck.rdCl l e).1 ∧ RdL w' b (Pck.list Pck.rdCl l e).2.1 (Pck.list Pck.rdCl l e).2.2 ∧ w.grownBy w' (some b) := by
 obtain ⟨i0, hi, hz0, hz1, hz2⟩ := ver_parts clauseInfo
 have hbw : b < w.heap.size := Row.inHeap h
 have HC := Lib.hid (fun (W : World) (hW : w.grownBy W (some b)) => LsAt.cell hc hcb hW)
 have N1 := Lib.hid (pck_n h hm)
 have hl1 := stepN_left l e
 have hn63 := stepN_fits l e
 unfold Pck.list
 unfold Pck.rn at N1
 generalize stepN l e = s1 at *
 obtain ⟨n, l1, e1⟩ := s1
 dsimp only at hl1 hn63 N1 ⊢
 obtain ⟨T, hT⟩ : ∃ T, T = Pck.elems Pck.rdCl n l1 e1 := ⟨_, rfl⟩
 rw [← hT]
 replace hT := Lib.hid hT
 have hn : (n : Int) ≤ 9223372036854775807 := by omega
 have HL1 : Hid (l1.length ≤ 100000) := Lib.hid (by omega)
 have HBW := Lib.hid hbw
 clear h hc hcb hm hl1 hn63 hbw
 go_enter Tryz.func342, Tryz.ntmps342
 go_wp2_with fail
 refine N1.out.mono ?_
 rintro ed w1 ⟨rfl, h1, g1⟩
 have A0 : Hid (LsAt 116 3 clV w b l1 e1 [] (.slice none 0 0) w1) := Lib.hid ⟨World.ownsRow_nil _ _ _ _, h1, g1⟩
 clear h1 g1
 go_wp2_with fail
 go_loopw [4, 8] (fun v i wr => ∃ (k : Nat) (lk : List UInt8) (ek : Int) (out : List Flt.Cl), k ≤ n ∧ i = .int .i64 (k : Int) ∧ LsAt 116 3 clV w b lk ek out v wr ∧ Hid (T = (out ++ (Pck.elems Pck.rdCl (n - k) lk ek).1, (Pck.elems Pck.rdCl (n - k) lk ek).2)) ∧ Hid (out.length + lk.length ≤ 100000)) (fun _ i _ => n - (intOf i).toNat)
 case atStart => exact ⟨0, l1, e1, [], Nat.zero_le _, rfl, A0.out, Lib.hid (by rw [hT.out]; rfl), Lib.hid (by simpa using HL1.out)⟩
 case round =>
  obtain ⟨k, lk, ek, out, hk, rfl, hA, hR, hF⟩ := hrel
  by_cases hlt : k < n
  ·have hk0 : (k : Int) < (n : Int) := by omega
   have Hlt := Lib.hid hlt
   have hF' := hF.out
   have IN := Lib.hid (pck_inner hA.rd (by omega))
   have hle := stepT_left lk ek
   have HA := Lib.hid hA
   obtain ⟨m, hm⟩ : ∃ m, n - k = m + 1 := ⟨n - k - 1, by omega⟩
   have hm2 : n - (k + 1) = m := by omega
   have hR' := hR.out
   rw [hm, Pck.elems] at hR'
   have VR := Lib.hid (fun (W : World) (p : Nat) (h : RdL W p (stepT lk ek).1 0) => pck_cl h (by omega))
   have hrl : (Pck.rdCl (stepT lk ek).1 0).2.1.length ≤ 100000 := Nat.le_trans (Pck.rdCl_left _ _) (by omega)
   have hnev := fun h => Pck.rdCl_never.some (t := (stepT lk ek).1) h
   have hless := fun h => stepT_less (l := lk) (e := ek) h
   generalize stepT lk ek = s2 at *
   obtain ⟨t, l2, e2⟩ := s2
   dsimp only at *
   generalize Pck.rdCl t 0 = s3 at *
   obtain ⟨⟨x1, x2, x3⟩, lr, er⟩ := s3
   dsimp only at *
   have hout : out.length ≤ 100000 := by omega
   have Hlr := Lib.hid hrl
   clear hrl hA hle hF' hk hlt hm hR
   by_cases hend : endOf lr.length er = 0
   ·rw [if_pos hend] at hR'
    have hless2 := hless (hnev hend)
    have HR1 : Hid (T = ((out ++ [(⟨x1, x2, x3⟩ : Flt.Cl)]) ++ (Pck.elems Pck.rdCl (n - (k + 1)) l2 e2).1, (Pck.elems Pck.rdCl (n - (k + 1)) l2 e2).2)) := Lib.hid (by rw [hR', hm2, List.append_assoc]; rfl)
    have HF1 : Hid ((out ++ [(⟨x1, x2, x3⟩ : Flt.Cl)]).length + l2.length ≤ 100000) := Lib.hid (by have := hF.out; rw [List.length_append, List.length_singleton]; omega)
    have hed : (endOf lr.length er != 0) = false := by rw [hend]; rfl
    have Hout := Lib.hid hout
    clear hnev hless hR' hend hF hless2 hm2 hout
    go_wp2_with fail
    refine IN.out.mono ?_
    rintro ed w2 ⟨p, rfl, h2, hp, h3, g2⟩
    have c2 := HC.out _ (gb_trans HA.out.gb g2)
    have H2 := Lib.hid h2
    have MID := Lib.hid (fun (W : World) (g3 : w2.grownBy W (some p)) (o : Obj) => HA.out.mid (by decide) g2 h2 g3 o)
    have MORE := Lib.hid (fun (W : World) (g3 : w2.grownBy W (some p)) (h4 : RdL W p lr er) => HA.out.more (by decide) HBW.out g2 h3 hp g3 h4 (x := (⟨x1, x2, x3⟩ : Flt.Cl)))
    clear h2 hp h3 g2
    go_wp2_with fail
    refine (VR.out _ _ H2.out).mono ?_
    rintro ed w3 ⟨rfl, h4, g3⟩
    have own1 := MID.out _ g3 (.cells #[.string (mk x1), .int .i64 x2, .int .i64 x3] 116)
    have hbs : w.heap.size ≤ w3.heap.size := Nat.le_trans HA.out.gb.size (MORE.out _ g3 h4).1
    have MO := Lib.hid (MORE.out _ g3 h4).2
    clear c2 h4 g3
    dsimp only [clA]
    go_wp2_with (at_builtin; refine wp_joins (f := clV) (l := [(⟨x1, x2, x3⟩ : Flt.Cl)]) rfl _ _ 24 rfl w.heap.size 116 i0 (.agg #[.string ⟨#[]⟩, .int .i64 0, .int .i64 0]) 32 Tryz.underlying24 hi hz0 hz1 hz2 rfl (by decide) rfl rfl own1 (rows_made (f := clV) w3 116 (⟨x1, x2, x3⟩ : Flt.Cl)) (fun _ _ => rfl) (fun x hx => cl_one x) ?a1 ?a2 ?a3 ?_; (case a1 => (have := Hout.out; simp only [List.length_cons, List.length_nil]; unfold maxLen; omega)); (case a2 => (have := Hout.out; simp only [List.length_cons, List.length_nil]; omega)); (case a3 => (rw [World.size_alloc]; omega)); intro v4 w4 own4 hg4 hn4; obtain ⟨LS4, H5⟩ := MO.out _ _ _ own4 hg4; replace LS4 := Lib.hid LS4; replace H5 := Lib.hid H5; clear own4 hg4 hn4 own1)
    refine (end_any H5.out (by show (mk lr).size ≤ _; rw [mk_len]; have := Hlr.out; omega)).mono ?_
    rintro ed w5 ⟨rfl, rfl⟩
    go_wp2_with fail
    go_roundw
    case rel => exact ⟨k + 1, l2, e2, _, by have := Hlt.out; omega, by go_num, LS4.out, HR1, HF1⟩
    case measure => (have := Hlt.out; simp [intOf]; omega)
   ·rw [if_neg hend] at hR'
    have HR1 : Hid (T = (out ++ [(⟨x1, x2, x3⟩ : Flt.Cl)], (l2, e2))) := Lib.hid hR'
    have hed : (endOf lr.length er != 0) = true := by simpa using hend
    have Hout := Lib.hid hout
    clear hnev hless hR' hend hF hm2 hout
    go_wp2_with fail
    refine IN.out.mono ?_
    rintro ed w2 ⟨p, rfl, h2, hp, h3, g2⟩
    have c2 := HC.out _ (gb_trans HA.out.gb g2)
    have H2 := Lib.hid h2
    have MID := Lib.hid (fun (W : World) (g3 : w2.grownBy W (some p)) (o : Obj) => HA.out.mid (by decide) g2 h2 g3 o)
    have MORE := Lib.hid (fun (W : World) (g3 : w2.grownBy W (some p)) (h4 : RdL W p lr er) => HA.out.more (by decide) HBW.out g2 h3 hp g3 h4 (x := (⟨x1, x2, x3⟩ : Flt.Cl)))
    clear h2 hp h3 g2
    go_wp2_with fail
    refine (VR.out _ _ H2.out).mono ?_
    rintro ed w3 ⟨rfl, h4, g3⟩
    have own1 := MID.out _ g3 (.cells #[.string (mk x1), .int .i64 x2, .int .i64 x3] 116)
    have hbs : w.heap.size ≤ w3.heap.size := Nat.le_trans HA.out.gb.size (MORE.out _ g3 h4).1
    have MO := Lib.hid (MORE.out _ g3 h4).2
    clear c2 h4 g3
    dsimp only [clA]
    go_wp2_with (at_builtin; refine wp_joins (f := clV) (l := [(⟨x1, x2, x3⟩ : Flt.Cl)]) rfl _ _ 24 rfl w.heap.size 116 i0 (.agg #[.string ⟨#[]⟩, .int .i64 0, .int .i64 0]) 32 Tryz.underlying24 hi hz0 hz1 hz2 rfl (by decide) rfl rfl own1 (rows_made (f := clV) w3 116 (⟨x1, x2, x3⟩ : Flt.Cl)) (fun _ _ => rfl) (fun x hx => cl_one x) ?a1 ?a2 ?a3 ?_; (case a1 => (have := Hout.out; simp only [List.length_cons, List.length_nil]; unfold maxLen; omega)); (case a2 => (have := Hout.out; simp only [List.length_cons, List.length_nil]; omega)); (case a3 => (rw [World.size_alloc]; omega)); intro v4 w4 own4 hg4 hn4; obtain ⟨LS4, H5⟩ := MO.out _ _ _ own4 hg4; replace LS4 := Lib.hid LS4; replace H5 := Lib.hid H5; clear own4 hg4 hn4 own1)
    refine (end_any H5.out (by show (mk lr).size ≤ _; rw [mk_len]; have := Hlr.out; omega)).mono ?_
    rintro ed w5 ⟨rfl, rfl⟩
    go_wp2_with fail
    go_ret
    rw [HR1.out]
    exact ⟨_, rfl, Rws.ofOwn LS4.out.own rfl (fun _ _ => rfl) (fun _ _ h1 h2 => ⟨h1, h2⟩), LS4.out.rd, LS4.out.gb⟩
  ·obtain rfl : k = n := by omega
   have HR1 := hR.out
   rw [Nat.sub_self, Pck.elems, List.append_nil] at HR1
   replace HR1 := Lib.hid HR1
   have HA := Lib.hid hA
   clear hR hF hA hk hlt
   go_wp2_with fail
   go_ret
   rw [HR1.out]
   exact ⟨_, rfl, Rws.ofOwn HA.out.own rfl (fun _ _ => rfl) (fun _ _ h1 h2 => ⟨h1, h2⟩), HA.out.rd, HA.out.gb⟩
open Go.RowKit Go.Sort
theorem Pck.lst_part {α : Type} {enc : α → List UInt8} {l : List α} {x : α} (h : x ∈ l) : (enc x).length ≤ (Pck.lst enc l).length := by
 obtain ⟨a, b, rfl⟩ := List.append_of_mem h
 unfold Pck.lst
 rw [List.flatMap_append, List.flatMap_cons]
 unfold Pck.txt
 simp only [List.length_append]
 omega
structure LyAt {α : Type} (enc : α → List UInt8) (w : World) (c : Nat) (ok : Bool) (l : List α) (k : Nat) (okk : Bool) (fs : List Fl) (v : Value) (wr : World) : Prop where
 own : wr.ownsRow w.heap.size 164 3 v fs.length (fs.flatMap fl3)
 err : ErrAt wr c okk
 gb : w.grownBy wr (some c)
 len : fs.length = k + 1
 good : ∀ f ∈ fs, FlOk f
 yes : okk = true → ok = true ∧ fs = flN l.length :: (l.take k).map (fun x => flT (enc x))
 no : okk = false → Pck.okTo ok (Pck.lst enc l) = false
section
variable {α : Type} {enc : α → List UInt8} {w w1 wr w8 w9 : World} {c k : Nat} {ok okk : Bool} {l : List α} {fs : List Fl} {v v9 : Value}
theorem LyAt.start (hE : ErrAt w c ok) (hn : l.length ≤ 65536) (hb : Below w.heap.size w w1) :
  LyAt enc w c ok l 0 ok [flN l.length] (.slice (some ⟨w1.heap.size, 0, none⟩) 1 1) (w1.alloc (.cells #[.int .i64 (l.length : Int), .string ⟨#[]⟩, .bool false] 164)) := by
 refine ⟨?_, (hE.below hb).new _, gb_new (gb_below hb _) _, rfl, ?_, fun h => ⟨h, by simp⟩, fun h => by rw [h]; rfl⟩
 ·exact ⟨rfl, Or.inr ⟨w1.heap.size, 1, #[.int .i64 (l.length : Int), .string ⟨#[]⟩, .bool false], rfl, hb.size, heap_alloc_new w1 _, Nat.le_refl _, by unfold maxLen; omega, rfl, rfl⟩⟩
 ·intro f hf
  rw [List.mem_singleton.1 hf]
  exact flN_ok (by omega) (by omega)
theorem LyAt.more (h : LyAt enc w c ok l k okk fs v wr) {x : α} (hx : l[k]? = some x) {f : Fl} {o : Obj} (hf : f = flT (Pck.bsTo okk (enc x))) (hg : wr.grownBy w8 (some c)) (hE : ErrAt w8 c (Pck.okTo okk (enc x)))
  (hown : w9.ownsRow w.heap.size 164 3 v9 (fs.length + [f].length) (fs.flatMap fl3 ++ [f].flatMap fl3)) (hg9 : (w8.alloc o).grownBy w9 v.ownBlock) (hgd : FlOk (flT (Pck.bsTo okk (enc x)))) : LyAt enc w c ok l (k + 1) (Pck.okTo okk (enc x)) (fs ++ [f]) v9 w9 := by
 have hin := List.mem_of_getElem? hx
 have hlt := fun g hg => h.own.lt g hg
 have hne : v.ownBlock ≠ some c := own_other h.own h.err (by decide)
 subst hf
 refine ⟨?_, ?_, ?_, by rw [List.length_append, h.len]; rfl, ?_, ?_, ?_⟩
 ·rw [List.length_append, List.flatMap_append]; exact hown
 ·exact Row.grown (hE.new o) hg9 hne
 ·exact gb_kept (gb_new (gb_trans h.gb hg) o) (Kept.ofGrown (F := fun i => v.ownBlock = some i) hg9 (fun i e => e)) (fun i e => (hlt i e).1)
 ·intro f hf
  rcases List.mem_append.1 hf with hf | hf
  ·exact h.good f hf
  ·rw [List.mem_singleton.1 hf]; exact hgd
 ·intro ho
  have ho' := ho
  unfold Pck.okTo at ho'
  rw [Bool.and_eq_true] at ho'
  obtain ⟨h1, h2⟩ := h.yes ho'.1
  refine ⟨h1, ?_⟩
  have hb : Pck.bsTo okk (enc x) = enc x := by unfold Pck.bsTo; rw [if_pos ho]
  obtain ⟨hl, he⟩ := List.getElem?_eq_some_iff.1 hx
  rw [hb, h2, List.take_succ_eq_append_getElem hl, he, List.map_append]
  rfl
 ·intro ho
  cases hk : okk with
  | false => exact h.no hk
  | true =>
   rw [hk] at ho
   unfold Pck.okTo at ho ⊢
   rw [Bool.true_and, decide_eq_false_iff_not] at ho
   have := Pck.lst_part (enc := enc) hin
   rw [show decide ((Pck.lst enc l).length ≤ 65536) = false from decide_eq_false (by omega), Bool.and_false]
theorem LyAt.form (h : LyAt enc w c ok l k okk fs v wr) : ∃ g cp, v = .slice (some ⟨g, 0, none⟩) fs.length cp := by
 obtain ⟨g, cp, e, -⟩ := h.own.form (by have := h.len; omega)
 exact ⟨g, cp, e⟩
theorem LyAt.fin (h : LyAt enc w c ok l l.length okk fs v wr) {id : FuncId} (L : Lays id) (hn : l.length ≤ 65536) : Calls Tryz.prog id #[v, .pointer (some ⟨c, 0, none⟩)] wr (PutTo w c ok (Pck.lst enc l)) := by
 obtain ⟨g, cp, rfl⟩ := h.form
 have hr := Rws.ofOwn (F := fun i => i < wr.heap.size) h.own rfl (fun f _ => fl3_len f) (fun _ _ _ h2 => h2)
 have hF := fields_at hr (by have := h.len; omega)
 have hb : g < wr.heap.size := (h.own.lt g rfl).2
 refine (L.lays (cap := cp) h.err hF hb (by have := h.len; omega) h.good).mono ?_
 rintro e w' ⟨rfl, h1, h2⟩
 cases hk : okk with
 | true =>
  obtain ⟨h3, h4⟩ := h.yes hk
  have hA : allBytes fs = Pck.lst enc l := by
   rw [h4, List.take_length]
   unfold allBytes Pck.lst
   rw [List.flatMap_cons, flN_all, List.flatMap_map]
   unfold Pck.num
   simp only [flT_all, Int.toNat_natCast]
  rw [hA, hk] at h1
  rw [hA, h3]
  exact ⟨rfl, h1, gb_trans h.gb h2⟩
 | false =>
  have h3 := h.no hk
  rw [hk] at h1
  refine ⟨?_, ?_, gb_trans h.gb h2⟩
  ·unfold Pck.bsTo
   rw [h3, Pck.okTo_false]
   rfl
  ·rw [h3]; exact h1
end
theorem pck_list_of_ver (w : World) : Calls Tryz.prog 235 #[.func (.func 236) #[] #[]] w fun e w' =>
  ∃ c2, e = .returned (.func (.func 320) #[] #[.pointer (some ⟨c2, 0, none⟩)]) ∧ w.heap.size ≤ c2 ∧ Row w' c2 275 #[.func (.func 236) #[] #[]] ∧ Below w.heap.size w w' := by
 have R := Lib.hid (Row.made w 275 #[.func (.func 236) #[] #[]])
 have hb := Lib.hid ((Below.refl w.heap.size w).alloc (Nat.le_refl _) (.cells #[.func (.func 236) #[] #[]] 275))
 go_enter Tryz.func235, Tryz.ntmps235
 go_wp2_with fail
 go_ret
 exact ⟨_, rfl, Nat.le_refl _, R.out, hb.out⟩
theorem pck_list_of_cl (w : World) : Calls Tryz.prog 229 #[.func (.func 230) #[] #[]] w fun e w' =>
  ∃ c2, e = .returned (.func (.func 316) #[] #[.pointer (some ⟨c2, 0, none⟩)]) ∧ w.heap.size ≤ c2 ∧ Row w' c2 271 #[.func (.func 230) #[] #[]] ∧ Below w.heap.size w w' := by
 have R := Lib.hid (Row.made w 271 #[.func (.func 230) #[] #[]])
 have hb := Lib.hid ((Below.refl w.heap.size w).alloc (Nat.le_refl _) (.cells #[.func (.func 230) #[] #[]] 271))
 go_enter Tryz.func229, Tryz.ntmps229
 go_wp2_with fail
 go_ret
 exact ⟨_, rfl, Nat.le_refl _, R.out, hb.out⟩
theorem pck_lay_vers {id : FuncId} (L : Lays id) {w : World} {c c2 : Nat} {ok : Bool} {F : Nat → Prop} {v : Value} {l : List Ver.V} (hE : ErrAt w c ok) (hl : Vrs w F v l) (hF : ∀ i, F i → i ≠ c) (hc2 : w.cell? ⟨c2, 0, none⟩ = some (.func (.func 236) #[] #[])) (hcc : c2 ≠ c) (hn : l.length ≤ 65536) (hx : ∀ x ∈ l, Pck.NnV x) :
  Calls Tryz.prog 320 #[.func (.func id) #[] #[.pointer (some ⟨c, 0, none⟩)], v, .pointer (some ⟨c2, 0, none⟩)] w (PutTo w c ok (Pck.lst Pck.ver l)) := by
 obtain ⟨i0, hi, hz0, hz1, hz2⟩ := ver_parts fieldInfo
 obtain ⟨A, cap, rfl, hcap⟩ := hl.parts
 have hcf := run_callFunc_own L.there
 have hn' : (l.length : Int) ≤ 65536 := by omega
 have hmin : min (l.length : Int) 65536 = (l.length : Int) := by omega
 have FIN := Lib.hid (fun (fs : List Fl) (v : Value) (okk : Bool) (wr : World) (h : LyAt Pck.ver w c ok l l.length okk fs v wr) => h.fin L hn)
 have START := Lib.hid (fun (W : World) (hb : Below w.heap.size w W) => LyAt.start (enc := Pck.ver) (l := l) hE hn hb)
 have XCC := Lib.hid (fun (W : World) (hW : w.grownBy W (some c)) => LsAt.cell hc2 hcc hW)
 have XEL := Lib.hid (fun (W : World) (hW : w.grownBy W (some c)) => hl.kept (Kept.ofGrown (F := fun i => i = c) hW (fun i e => by injection e with e; exact e.symm)) hF)
 have PX := Lib.hid (fun (x : Ver.V) (hin : x ∈ l) (W : World) (okk : Bool) (h : ErrAt W c okk) => pck_layVer L x (hx x hin) h)
 have HN := Lib.hid hn
 clear hE hl hF hc2 hcc hn hx L
 go_enter Tryz.func320, Tryz.ntmps320
 go_wp2_with fail
 refine (field_n _ _).mono ?_
 rintro e w1 ⟨rfl, hb1⟩
 have S0 := Lib.hid (START.out _ hb1)
 clear hb1
 go_wp2_with fail
 go_loopw [6, 15] (fun v i wr => ∃ (k : Nat) (okk : Bool) (fs : List Fl), k ≤ l.length ∧ i = .int .i64 (k : Int) ∧ LyAt Pck.ver w c ok l k okk fs v wr) (fun _ i _ => l.length - (intOf i).toNat)
 case atStart => exact ⟨0, ok, _, Nat.zero_le _, rfl, S0.out⟩
 case round =>
  obtain ⟨k, okk, fs, hk, rfl, hA⟩ := hrel
  by_cases hlt : k < l.length
  ·obtain ⟨be, oe, cap1, e, -, -, hb⟩ := (XEL.out _ hA.gb).block (by omega)
   injection e with e1 e2 e3
   subst e1 e3
   clear e2 hb
   obtain ⟨x, hxk⟩ : ∃ x, l[k]? = some x := ⟨_, List.getElem?_eq_getElem hlt⟩
   have HXK := Lib.hid hxk
   have XC : Hid (∀ W : World, wr.grownBy W (some c) → _) := Lib.hid (fun W hW => (⟨(Vrs.at (XEL.out _ (gb_trans hA.gb hW)) hxk).1, (Vrs.at (XEL.out _ (gb_trans hA.gb hW)) hxk).2, XCC.out _ (gb_trans hA.gb hW)⟩ : W.cell? ⟨be, oe + k * 2, none⟩ = some (.int .i64 x.by_) ∧ W.cell? ⟨be, oe + k * 2 + 1, none⟩ = some (.int .i64 x.n) ∧ W.cell? ⟨c2, 0, none⟩ = some (.func (.func 236) #[] #[])))
   have PV0 := fun W h => PX.out x (List.mem_of_getElem? hxk) W okk h
   have HGD : Hid (FlOk (flT (Pck.bsTo okk (Pck.ver x)))) := Lib.hid (flT_ok (by have := Pck.bsTo_len okk (Pck.ver x); omega))
   obtain ⟨B, hB⟩ : ∃ B, B = mk (Pck.bsTo okk (Pck.ver x)) := ⟨_, rfl⟩
   have HBB : Hid ((⟨0, B, true⟩ : Fl) = flT (Pck.bsTo okk (Pck.ver x))) := Lib.hid (by rw [hB]; rfl)
   obtain ⟨ok1, hok1⟩ : ∃ o, o = Pck.okTo okk (Pck.ver x) := ⟨_, rfl⟩
   have PV : Hid (∀ W : World, ErrAt W c okk → Calls Tryz.prog 236 #[.func (.func id) #[] #[.pointer (some ⟨c, 0, none⟩)], verA x] W fun e w' => e = .returned (.string B) ∧ ErrAt w' c (Pck.okTo okk (Pck.ver x)) ∧ W.grownBy w' (some c)) := Lib.hid (fun W h => by rw [hB]; exact PV0 W h)
   have hk0 : (0 : Int) ≤ (k : Int) := by omega
   have hk1 : (k : Int) < (l.length : Int) := by omega
   have Hlt : Hid (k < l.length ∧ l.length ≤ 65536) := Lib.hid ⟨hlt, HN.out⟩
   have HOD : Hid (wr.drew.ownsRow w.heap.size 164 3 _ fs.length (fs.flatMap fl3)) := Lib.hid hA.own
   have HA := Lib.hid hA
   clear hA hB hxk PV0 hok1 hk hlt
   obtain ⟨x1, x2⟩ := x
   dsimp only [verA] at XC PV
   go_wp2_with fail
   refine wp_region_tail (n := 10) (S := (fun w' : World => wr.grownBy w' (some c))) (by kernel_rfl) (by kernel_rfl) (by rfl) (gb_draw (gb_refl _ _)) (fun hHeld => ?_)
   refine wpAnyH_td (i := 0) rfl ?_
   simp only [zz]
   refine wpAnyH_tk (i := 1) (v := ?_) rfl (Or.inl ⟨by rfl, (by intro w hSw; obtain ⟨d0, d1, cc⟩ := XC.out _ hSw; go_simp; try with_reducible rfl)⟩) (by assumption) ?_
   simp only [zz]
   refine wpAnyH_td (i := 2) rfl ?_
   simp only [zz]
   refine wpAnyH_td (i := 3) rfl ?_
   simp only [zz]
   refine wpAnyH_td (i := 4) rfl ?_
   simp only [zz]
   refine wpAnyH_td (i := 5) rfl ?_
   simp only [zz]
   refine wpAnyH_tk (i := 6) (v := ?_) rfl (Or.inl ⟨by rfl, (by intro w hSw; obtain ⟨d0, d1, cc⟩ := XC.out _ hSw; go_simp; try with_reducible rfl)⟩) (by assumption) ?_
   simp only [zz]
   refine wpAnyH_ready (rs := [7]) (by kernel_rfl) (by simp) ?_
   refine AllReadyH.cons rfl (fun K hK => ?_) AllReadyH.nil
   go_simp
   go_at_call 236
   refine (PV.out _ HA.out.err.draw).mono ?_
   rintro e w7 ⟨rfl, h8, h9⟩
   have E7 := Lib.hid h8
   have G7 := Lib.hid (gb_trans hHeld h9)
   have O7 := Lib.hid (HOD.out.kept h9 (Or.inr (own_other HA.out.own HA.out.err (by decide))))
   refine hK.out _ _ G7.out (fun hHeld => ?_)
   clear h8 h9
   clear hK K
   refine wpAnyH_ready (rs := [8]) (by kernel_rfl) (by simp) ?_
   refine AllReadyH.cons rfl (fun K hK => ?_) AllReadyH.nil
   go_simp
   go_at_call 173
   refine (field_t _ _).mono ?_
   rintro e w8 ⟨rfl, hb⟩
   have E8 := Lib.hid (E7.out.below hb)
   have G8 := Lib.hid (gb_trans hHeld (gb_below hb (some c)))
   have O8 := Lib.hid (row_below O7.out hb)
   refine hK.out _ _ G8.out (fun hHeld => ?_)
   clear hb
   clear hK K
   refine wpAnyH_ready (rs := [9]) (by kernel_rfl) (by simp) ?_
   refine AllReadyH.cons rfl (fun K hK => ?_) AllReadyH.nil
   go_simp
   have O9 := Lib.hid (O8.out.alloc (.cells #[.int .i64 0, .string B, .bool true] 164))
   refine hK.out _ _ (gb_new hHeld _) (fun hHeld => ?_)
   clear hK K
   refine wpAnyH_done (by kernel_rfl) ?_ _
   refine wpAny_of_held (S := fun _ => True) _ _ _ _ ?_
   have hHeld : True := trivial
   refine wpAnyH_ready (rs := [10]) (by kernel_rfl) (by simp) ?_
   refine AllReadyH.cons rfl (fun K hK => ?_) AllReadyH.nil
   refine step_near (f := fl3) (k := 3) (l := [(⟨0, B, true⟩ : Fl)]) rfl (.tmp 18) (.tmp 27) 157 (by rfl) w.heap.size 164 i0 (.agg #[.int .i64 0, .string ⟨#[]⟩, .bool false]) 32 Tryz.underlying157 hi hz0 hz1 hz2 rfl (by decide) (by rfl) (by rfl) O9.out (rows_made (f := fl3) w8 164 (⟨0, B, true⟩ : Fl)) (fun x _ => fl3_len x) (fun x _ => fl3_one x) ?a1 ?a2 ?a3 ?_
   case a1 => (have := HA.out.len; have := Hlt.out; simp only [List.length_cons, List.length_nil]; unfold maxLen; omega)
   case a2 => (have := HA.out.len; have := Hlt.out; simp only [List.length_cons, List.length_nil]; omega)
   case a3 => (have := G8.out.size; have := HA.out.gb.size; rw [World.size_alloc]; omega)
   intro v9 w9 own9 hg9 hn9
   have MORE := Lib.hid (HA.out.more HXK.out (f := ⟨0, B, true⟩) HBB.out G8.out E8.out own9 hg9 HGD.out)
   clear own9 hg9 hn9
   refine hK.out _ _ trivial (fun hHeld => ?_)
   clear hK K
   refine wpAnyH_td (i := 11) rfl ?_
   simp only [zz]
   refine wpAnyH_done (by kernel_rfl) ?_ _
   go_wp2_with fail
   go_roundw
   case rel => exact ⟨k + 1, _, _, by have := Hlt.out; omega, by go_num, MORE.out⟩
   case measure => (have := Hlt.out; simp [intOf]; omega)
  ·obtain rfl : k = l.length := by omega
   obtain ⟨g, cp, e⟩ := hA.form
   subst e
   have FI := Lib.hid (FIN.out _ _ _ _ hA)
   rw [hA.len] at FI
   have hlen := hA.len
   clear hA hlt hk
   go_wp2_with fail
   refine FI.out.mono ?_
   rintro e w9 ⟨rfl, h8, h9⟩
   have E9 := Lib.hid h8
   have G9 := Lib.hid h9
   clear h8 h9
   go_wp2_with fail
   go_ret
   exact ⟨rfl, E9.out, G9.out⟩
theorem pck_lay_cls {id : FuncId} (L : Lays id) {w : World} {c c2 : Nat} {ok : Bool} {F : Nat → Prop} {v : Value} {l : List Flt.Cl} (hE : ErrAt w c ok) (hl : Cls w F v l) (hF : ∀ i, F i → i ≠ c) (hc2 : w.cell? ⟨c2, 0, none⟩ = some (.func (.func 230) #[] #[])) (hcc : c2 ≠ c) (hn : l.length ≤ 65536) (hx : ∀ x ∈ l, Flt.Right x) :
  Calls Tryz.prog 316 #[.func (.func id) #[] #[.pointer (some ⟨c, 0, none⟩)], v, .pointer (some ⟨c2, 0, none⟩)] w (PutTo w c ok (Pck.lst Pck.cl l)) := by
 obtain ⟨i0, hi, hz0, hz1, hz2⟩ := ver_parts fieldInfo
 obtain ⟨A, cap, rfl, hcap⟩ := hl.parts
 have hcf := run_callFunc_own L.there
 have hn' : (l.length : Int) ≤ 65536 := by omega
 have hmin : min (l.length : Int) 65536 = (l.length : Int) := by omega
 have FIN := Lib.hid (fun (fs : List Fl) (v : Value) (okk : Bool) (wr : World) (h : LyAt Pck.cl w c ok l l.length okk fs v wr) => h.fin L hn)
 have START := Lib.hid (fun (W : World) (hb : Below w.heap.size w W) => LyAt.start (enc := Pck.cl) (l := l) hE hn hb)
 have XCC := Lib.hid (fun (W : World) (hW : w.grownBy W (some c)) => LsAt.cell hc2 hcc hW)
 have XEL := Lib.hid (fun (W : World) (hW : w.grownBy W (some c)) => hl.kept (Kept.ofGrown (F := fun i => i = c) hW (fun i e => by injection e with e; exact e.symm)) hF)
 have PX := Lib.hid (fun (x : Flt.Cl) (hin : x ∈ l) (W : World) (okk : Bool) (h : ErrAt W c okk) => pck_layCl L x (hx x hin) h)
 have HN := Lib.hid hn
 clear hE hl hF hc2 hcc hn hx L
 go_enter Tryz.func316, Tryz.ntmps316
 go_wp2_with fail
 refine (field_n _ _).mono ?_
 rintro e w1 ⟨rfl, hb1⟩
 have S0 := Lib.hid (START.out _ hb1)
 clear hb1
 go_wp2_with fail
 go_loopw [6, 15] (fun v i wr => ∃ (k : Nat) (okk : Bool) (fs : List Fl), k ≤ l.length ∧ i = .int .i64 (k : Int) ∧ LyAt Pck.cl w c ok l k okk fs v wr) (fun _ i _ => l.length - (intOf i).toNat)
 case atStart => exact ⟨0, ok, _, Nat.zero_le _, rfl, S0.out⟩
 case round =>
  obtain ⟨k, okk, fs, hk, rfl, hA⟩ := hrel
  by_cases hlt : k < l.length
  ·obtain ⟨be, oe, cap1, e, -, -, hb⟩ := (XEL.out _ hA.gb).block (by omega)
   injection e with e1 e2 e3
   subst e1 e3
   clear e2 hb
   obtain ⟨x, hxk⟩ : ∃ x, l[k]? = some x := ⟨_, List.getElem?_eq_getElem hlt⟩
   have HXK := Lib.hid hxk
   have XC : Hid (∀ W : World, wr.grownBy W (some c) → _) := Lib.hid (fun W hW => (⟨(Cls.at (XEL.out _ (gb_trans hA.gb hW)) hxk).1, (Cls.at (XEL.out _ (gb_trans hA.gb hW)) hxk).2.1, (Cls.at (XEL.out _ (gb_trans hA.gb hW)) hxk).2.2, XCC.out _ (gb_trans hA.gb hW)⟩ : W.cell? ⟨be, oe + k * 3, none⟩ = some (.string (mk x.pre)) ∧ W.cell? ⟨be, oe + k * 3 + 1, none⟩ = some (.int .i64 x.lo) ∧ W.cell? ⟨be, oe + k * 3 + 2, none⟩ = some (.int .i64 x.hi) ∧ W.cell? ⟨c2, 0, none⟩ = some (.func (.func 230) #[] #[])))
   have PV0 := fun W h => PX.out x (List.mem_of_getElem? hxk) W okk h
   have HGD : Hid (FlOk (flT (Pck.bsTo okk (Pck.cl x)))) := Lib.hid (flT_ok (by have := Pck.bsTo_len okk (Pck.cl x); omega))
   obtain ⟨B, hB⟩ : ∃ B, B = mk (Pck.bsTo okk (Pck.cl x)) := ⟨_, rfl⟩
   have HBB : Hid ((⟨0, B, true⟩ : Fl) = flT (Pck.bsTo okk (Pck.cl x))) := Lib.hid (by rw [hB]; rfl)
   obtain ⟨ok1, hok1⟩ : ∃ o, o = Pck.okTo okk (Pck.cl x) := ⟨_, rfl⟩
   have PV : Hid (∀ W : World, ErrAt W c okk → Calls Tryz.prog 230 #[.func (.func id) #[] #[.pointer (some ⟨c, 0, none⟩)], clA x] W fun e w' => e = .returned (.string B) ∧ ErrAt w' c (Pck.okTo okk (Pck.cl x)) ∧ W.grownBy w' (some c)) := Lib.hid (fun W h => by rw [hB]; exact PV0 W h)
   have hk0 : (0 : Int) ≤ (k : Int) := by omega
   have hk1 : (k : Int) < (l.length : Int) := by omega
   have Hlt : Hid (k < l.length ∧ l.length ≤ 65536) := Lib.hid ⟨hlt, HN.out⟩
   have HOD : Hid (wr.drew.ownsRow w.heap.size 164 3 _ fs.length (fs.flatMap fl3)) := Lib.hid hA.own
   have HA := Lib.hid hA
   clear hA hB hxk PV0 hok1 hk hlt
   obtain ⟨p, x1, x2⟩ := x
   dsimp only [clA] at XC PV
   generalize mk p = q at *
   go_wp2_with fail
   refine wp_region_tail (n := 10) (S := (fun w' : World => wr.grownBy w' (some c))) (by kernel_rfl) (by kernel_rfl) (by rfl) (gb_draw (gb_refl _ _)) (fun hHeld => ?_)
   refine wpAnyH_td (i := 0) rfl ?_
   simp only [zz]
   refine wpAnyH_tk (i := 1) (v := ?_) rfl (Or.inl ⟨by rfl, (by intro w hSw; obtain ⟨d0, d1, d2, cc⟩ := XC.out _ hSw; go_simp; try with_reducible rfl)⟩) (by assumption) ?_
   simp only [zz]
   refine wpAnyH_td (i := 2) rfl ?_
   simp only [zz]
   refine wpAnyH_td (i := 3) rfl ?_
   simp only [zz]
   refine wpAnyH_td (i := 4) rfl ?_
   simp only [zz]
   refine wpAnyH_td (i := 5) rfl ?_
   simp only [zz]
   refine wpAnyH_tk (i := 6) (v := ?_) rfl (Or.inl ⟨by rfl, (by intro w hSw; obtain ⟨d0, d1, d2, cc⟩ := XC.out _ hSw; go_simp; try with_reducible rfl)⟩) (by assumption) ?_
   simp only [zz]
   refine wpAnyH_ready (rs := [7]) (by kernel_rfl) (by simp) ?_
   refine AllReadyH.cons rfl (fun K hK => ?_) AllReadyH.nil
   go_simp
   go_at_call 230
   refine (PV.out _ HA.out.err.draw).mono ?_
   rintro e w7 ⟨rfl, h8, h9⟩
   have E7 := Lib.hid h8
   have G7 := Lib.hid (gb_trans hHeld h9)
   have O7 := Lib.hid (HOD.out.kept h9 (Or.inr (own_other HA.out.own HA.out.err (by decide))))
   refine hK.out _ _ G7.out (fun hHeld => ?_)
   clear h8 h9
   clear hK K
   refine wpAnyH_ready (rs := [8]) (by kernel_rfl) (by simp) ?_
   refine AllReadyH.cons rfl (fun K hK => ?_) AllReadyH.nil
   go_simp
   go_at_call 173
   refine (field_t _ _).mono ?_
   rintro e w8 ⟨rfl, hb⟩
   have E8 := Lib.hid (E7.out.below hb)
   have G8 := Lib.hid (gb_trans hHeld (gb_below hb (some c)))
   have O8 := Lib.hid (row_below O7.out hb)
   refine hK.out _ _ G8.out (fun hHeld => ?_)
   clear hb
   clear hK K
   refine wpAnyH_ready (rs := [9]) (by kernel_rfl) (by simp) ?_
   refine AllReadyH.cons rfl (fun K hK => ?_) AllReadyH.nil
   go_simp
   have O9 := Lib.hid (O8.out.alloc (.cells #[.int .i64 0, .string B, .bool true] 164))
   refine hK.out _ _ (gb_new hHeld _) (fun hHeld => ?_)
   clear hK K
   refine wpAnyH_done (by kernel_rfl) ?_ _
   refine wpAny_of_held (S := fun _ => True) _ _ _ _ ?_
   have hHeld : True := trivial
   refine wpAnyH_ready (rs := [10]) (by kernel_rfl) (by simp) ?_
   refine AllReadyH.cons rfl (fun K hK => ?_) AllReadyH.nil
   refine step_near (f := fl3) (k := 3) (l := [(⟨0, B, true⟩ : Fl)]) rfl (.tmp 18) (.tmp 27) 157 (by rfl) w.heap.size 164 i0 (.agg #[.int .i64 0, .string ⟨#[]⟩, .bool false]) 32 Tryz.underlying157 hi hz0 hz1 hz2 rfl (by decide) (by rfl) (by rfl) O9.out (rows_made (f := fl3) w8 164 (⟨0, B, true⟩ : Fl)) (fun x _ => fl3_len x) (fun x _ => fl3_one x) ?a1 ?a2 ?a3 ?_
   case a1 => (have := HA.out.len; have := Hlt.out; simp only [List.length_cons, List.length_nil]; unfold maxLen; omega)
   case a2 => (have := HA.out.len; have := Hlt.out; simp only [List.length_cons, List.length_nil]; omega)
   case a3 => (have := G8.out.size; have := HA.out.gb.size; rw [World.size_alloc]; omega)
   intro v9 w9 own9 hg9 hn9
   have MORE := Lib.hid (HA.out.more HXK.out (f := ⟨0, B, true⟩) HBB.out G8.out E8.out own9 hg9 HGD.out)
   clear own9 hg9 hn9
   refine hK.out _ _ trivial (fun hHeld => ?_)
   clear hK K
   refine wpAnyH_td (i := 11) rfl ?_
   simp only [zz]
   refine wpAnyH_done (by kernel_rfl) ?_ _
   go_wp2_with fail
   go_roundw
   case rel => exact ⟨k + 1, _, _, by have := Hlt.out; omega, by go_num, MORE.out⟩
   case measure => (have := Hlt.out; simp [intOf]; omega)
  ·obtain rfl : k = l.length := by omega
   obtain ⟨g, cp, e⟩ := hA.form
   subst e
   have FI := Lib.hid (FIN.out _ _ _ _ hA)
   rw [hA.len] at FI
   have hlen := hA.len
   clear hA hlt hk
   go_wp2_with fail
   refine FI.out.mono ?_
   rintro e w9 ⟨rfl, h8, h9⟩
   have E9 := Lib.hid h8
   have G9 := Lib.hid h9
   clear h8 h9
   go_wp2_with fail
   go_ret
   exact ⟨rfl, E9.out, G9.out⟩
open Go.RowKit Go.Sort
theorem pck_layVec (V : VecOk) {id : FuncId} (L : Lays id) {w : World} {c : Nat} {ok : Bool} {v : List Int} (hv : v.length = 65) (hb : ∀ n ∈ v, n ≤ 9223372036854775807) (hE : ErrAt w c ok) :
  Calls Tryz.prog 165 #[.func (.func id) #[] #[.pointer (some ⟨c, 0, none⟩)], vecA v] w (PutTo w c ok (Pck.vec v)) := by
 have hcf := run_callFunc_own L.there
 have hcw := Lib.hid (Row.inHeap hE)
 have EN := Lib.hid (fun W => V.ends (w := W) hv)
 have LL := Lib.hid (fun (W : World) (c2 : Nat) (F : Nat → Prop) (s : Value) (h1 : ErrAt W c ok) (h2 : Vrs W F s (Vec.ends v)) (h3 : ∀ i, F i → i ≠ c) (h4 : W.cell? ⟨c2, 0, none⟩ = _) (h5 : c2 ≠ c) => pck_lay_vers L h1 h2 h3 h4 h5 (by have := Pck.ends_le v; omega) (Pck.ends_nn hb))
 have hbox := VRow.made w hv
 have HX : Hid (∀ W : World, (w.alloc (.cells (vecR v) 32)).grownBy W (some c) → VRow W w.heap.size v) := Lib.hid (fun W hW => ⟨hbox.1.grown hW (fun e => by have := hcw.out; injection e with e; omega), hv⟩)
 have E0 : Hid (ErrAt (w.alloc (.cells (vecR v) 32)).drew c ok) := Lib.hid (hE.new _)
 have G0 : Hid (w.grownBy (w.alloc (.cells (vecR v) 32)) (some c)) := Lib.hid (gb_new (gb_refl _ _) _)
 clear hE hb hv hbox L V
 go_enter Tryz.func165, Tryz.ntmps165
 go_wp2_with fail
 refine wp_region_held_drew (S := (fun w' : World => (w.alloc (.cells (vecR v) 32)).grownBy w' (some c))) (by kernel_rfl) (gb_draw (gb_refl _ _)) (fun hHeld => ?_)
 refine wpAnyH_td (i := 1) rfl ?_
 simp only [zz]
 refine wpAnyH_tk (i := 2) (v := vecA v) rfl (Or.inl ⟨by rfl, (by intro w hSw; exact exec_vload (by rfl) (by rfl) (HX.out _ hSw))⟩) (by assumption) ?_
 simp only [zz]
 refine wpAnyH_ready (rs := [0]) (by kernel_rfl) (by simp) ?_
 refine AllReadyH.cons rfl (fun K hK => ?_) AllReadyH.nil
 go_simp
 go_at_call 235
 refine (pck_list_of_ver _).mono ?_
 rintro e w1 ⟨c2, rfl, h7, h8, h9⟩
 have C1 := Lib.hid h8
 have HC : Hid (c2 ≠ c) := Lib.hid (by have := hcw.out; have h7 : w.heap.size + 1 ≤ c2 := (by simpa using h7); omega)
 have E1 := Lib.hid (E0.out.below h9)
 refine hK.out _ _ (gb_trans hHeld (gb_below h9 _)) (fun hHeld => ?_)
 clear h7 h8 h9
 clear hK K
 refine wpAnyH_ready (rs := [3]) (by kernel_rfl) (by simp) ?_
 refine AllReadyH.cons rfl (fun K hK => ?_) AllReadyH.nil
 go_simp
 go_at_call 267
 refine (EN.out _).mono ?_
 rintro e w3 ⟨s, rfl, h8, h9⟩
 have U3 := Lib.hid h8
 have E3 := Lib.hid (E1.out.below h9)
 have C3 := Lib.hid (C1.out.below h9 C1.out.inHeap)
 have HF : Hid (∀ i, NewIn w1 w3 i → i ≠ c) := Lib.hid (fun i hi => by have := hi.1; have := Row.inHeap E1.out; omega)
 refine hK.out _ _ (gb_trans hHeld (gb_below h9 _)) (fun hHeld => ?_)
 clear h8 h9
 clear hK K
 refine wpAnyH_ready (rs := [4]) (by kernel_rfl) (by simp) ?_
 refine AllReadyH.cons rfl (fun K hK => ?_) AllReadyH.nil
 go_simp
 refine (LL.out _ _ _ _ E3.out U3.out HF.out (C3.out.at 0) HC.out).mono ?_
 rintro e w9 ⟨rfl, h8, h9⟩
 have E9 := Lib.hid h8
 have G9 := Lib.hid (gb_trans hHeld h9)
 refine hK.out _ _ G9.out (fun hHeld => ?_)
 clear h8 h9
 clear hK K
 refine wpAnyH_td (i := 5) rfl ?_
 simp only [zz]
 refine wpAnyH_done (by kernel_rfl) ?_ _
 go_wp2_with fail
 go_ret
 exact ⟨rfl, E9.out, gb_trans G0.out G9.out⟩
end Go.Proofs.YtpafpegcodempaaGreat
