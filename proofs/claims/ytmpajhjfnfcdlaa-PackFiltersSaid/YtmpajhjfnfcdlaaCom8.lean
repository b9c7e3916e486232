import Derived.Test.YtmpajhjfnfcdlaaCom6
import Derived.Test.YtmpajhjfnfcdlaaCom7
import Derived.Test.YtmpajhjfnfcdlaaCom4
import Derived.BigQuiet
set_option maxRecDepth 100000
set_option linter.all false
set_option maxHeartbeats 12800000
namespace Go.Proofs.Ytmpajhjfnfcdlaa
open Go.RowKit
def ext (lo hi : Int) : List Sz.Rg := if lo ≤ hi then [(lo, hi)] else []
open Go.RowKit
theorem str_empty (p : List UInt8) : (mk p).toList.isEmpty = decide (p = []) := by rw [Lib.toList_data, mk_data]; cases p <;> rfl
theorem str_nil (p : List UInt8) : ((mk p).toList == []) = decide (p = []) := by rw [Lib.toList_data, mk_data]; cases p <;> rfl
theorem str_same (p q : List UInt8) : ((mk p).toList == (mk q).toList) = decide (p = q) := by
 rw [Lib.toList_data, Lib.toList_data, mk_data, mk_data]
 by_cases h : p = q
 ·rw [h, decide_eq_true rfl]; exact beq_self_eq_true _
 ·rw [decide_eq_false h, beq_eq_false_iff_ne]; exact h
theorem ref_fright (c : Flt.Cl) (w : World) (hp : c.pre.length ≤ 100000) :
  Calls Try.prog 66 #[.agg #[.string (mk c.pre), .int .i64 c.lo, .int .i64 c.hi]] w fun e w' => e = .returned (.bool (decide (Flt.Right c))) ∧ Below w.heap.size w w' := by
 obtain ⟨p, lo, hi⟩ := c
 simp only at hp ⊢
 have ia := str_empty p
 have ea := str_nil p
 have R := Lib.hid (fun W => ref_right p W hp)
 have hD : Hid (decide (Flt.Right ⟨p, lo, hi⟩) = ((decide (p = []) || decide (Pth.Right p)) && (decide (0 ≤ lo) && (decide (lo ≤ hi) && decide (hi ≤ 200))))) := Lib.hid (by rw [Bool.eq_iff_iff]; refine decide_eq_true_iff.trans ?_; simp only [Flt.Right, decide_eq_true_iff, Bool.and_eq_true, Bool.or_eq_true])
 generalize hE : decide (p = []) = d0 at ia ea hD
 generalize decide (Pth.Right p) = d1 at *
 generalize e1 : decide ((0 : Int) ≤ lo) = d2 at hD
 generalize e2 : decide (lo ≤ hi) = d3 at hD
 generalize e3 : decide (hi ≤ (200 : Int)) = d4 at hD
 generalize decide (Flt.Right ⟨p, lo, hi⟩) = D at *
 clear hE
 generalize mk p = x at *
 cases d0
 ·cases d1
  ·go_enter Try.func66, Try.ntmps66
   go_wp2_with fail
   refine (R.out _).mono ?_
   rintro e w1 ⟨rfl, hb1⟩
   go_wp2_with fail
   go_ret
   exact ⟨by rw [hD.out]; rfl, ((Below.refl _ _).alloc (Nat.le_refl _) _).trans (hb1.mono (by simp))⟩
  ·cases d2
   ·go_enter Try.func66, Try.ntmps66
    go_wp2_with fail
    refine (R.out _).mono ?_
    rintro e w1 ⟨rfl, hb1⟩
    have q1 : w1.cell? ⟨w.heap.size, 1, none⟩ = some (.int .i64 lo) := (hb1.cell (p := ⟨w.heap.size, 1, none⟩) (by simp)).trans ((Row.made w 64 #[.string x, .int .i64 lo, .int .i64 hi]).at 1)
    have q2 : w1.cell? ⟨w.heap.size, 2, none⟩ = some (.int .i64 hi) := (hb1.cell (p := ⟨w.heap.size, 2, none⟩) (by simp)).trans ((Row.made w 64 #[.string x, .int .i64 lo, .int .i64 hi]).at 2)
    go_wp2_with fail
    go_ret
    exact ⟨by rw [hD.out]; rfl, ((Below.refl _ _).alloc (Nat.le_refl _) _).trans (hb1.mono (by simp))⟩
   ·cases d3
    ·go_enter Try.func66, Try.ntmps66
     go_wp2_with fail
     refine (R.out _).mono ?_
     rintro e w1 ⟨rfl, hb1⟩
     have q1 : w1.cell? ⟨w.heap.size, 1, none⟩ = some (.int .i64 lo) := (hb1.cell (p := ⟨w.heap.size, 1, none⟩) (by simp)).trans ((Row.made w 64 #[.string x, .int .i64 lo, .int .i64 hi]).at 1)
     have q2 : w1.cell? ⟨w.heap.size, 2, none⟩ = some (.int .i64 hi) := (hb1.cell (p := ⟨w.heap.size, 2, none⟩) (by simp)).trans ((Row.made w 64 #[.string x, .int .i64 lo, .int .i64 hi]).at 2)
     go_wp2_with fail
     go_ret
     exact ⟨by rw [hD.out]; rfl, ((Below.refl _ _).alloc (Nat.le_refl _) _).trans (hb1.mono (by simp))⟩
    ·cases d4
     ·go_enter Try.func66, Try.ntmps66
      go_wp2_with fail
      refine (R.out _).mono ?_
      rintro e w1 ⟨rfl, hb1⟩
      have q1 : w1.cell? ⟨w.heap.size, 1, none⟩ = some (.int .i64 lo) := (hb1.cell (p := ⟨w.heap.size, 1, none⟩) (by simp)).trans ((Row.made w 64 #[.string x, .int .i64 lo, .int .i64 hi]).at 1)
      have q2 : w1.cell? ⟨w.heap.size, 2, none⟩ = some (.int .i64 hi) := (hb1.cell (p := ⟨w.heap.size, 2, none⟩) (by simp)).trans ((Row.made w 64 #[.string x, .int .i64 lo, .int .i64 hi]).at 2)
      go_wp2_with fail
      go_ret
      exact ⟨by rw [hD.out]; rfl, ((Below.refl _ _).alloc (Nat.le_refl _) _).trans (hb1.mono (by simp))⟩
     ·go_enter Try.func66, Try.ntmps66
      go_wp2_with fail
      refine (R.out _).mono ?_
      rintro e w1 ⟨rfl, hb1⟩
      have q1 : w1.cell? ⟨w.heap.size, 1, none⟩ = some (.int .i64 lo) := (hb1.cell (p := ⟨w.heap.size, 1, none⟩) (by simp)).trans ((Row.made w 64 #[.string x, .int .i64 lo, .int .i64 hi]).at 1)
      have q2 : w1.cell? ⟨w.heap.size, 2, none⟩ = some (.int .i64 hi) := (hb1.cell (p := ⟨w.heap.size, 2, none⟩) (by simp)).trans ((Row.made w 64 #[.string x, .int .i64 lo, .int .i64 hi]).at 2)
      go_wp2_with fail
      go_ret
      exact ⟨by rw [hD.out]; rfl, ((Below.refl _ _).alloc (Nat.le_refl _) _).trans (hb1.mono (by simp))⟩
 ·cases d2
  ·go_enter Try.func66, Try.ntmps66
   go_wp2_with fail
   go_ret
   exact ⟨by rw [hD.out]; rfl, (Below.refl _ _).alloc (Nat.le_refl _) _⟩
  ·cases d3
   ·go_enter Try.func66, Try.ntmps66
    go_wp2_with fail
    go_ret
    exact ⟨by rw [hD.out]; rfl, (Below.refl _ _).alloc (Nat.le_refl _) _⟩
   ·cases d4
    ·go_enter Try.func66, Try.ntmps66
     go_wp2_with fail
     go_ret
     exact ⟨by rw [hD.out]; rfl, (Below.refl _ _).alloc (Nat.le_refl _) _⟩
    ·go_enter Try.func66, Try.ntmps66
     go_wp2_with fail
     go_ret
     exact ⟨by rw [hD.out]; rfl, (Below.refl _ _).alloc (Nat.le_refl _) _⟩
theorem clauseInfo : (Try.prog.info? 64).map (fun i => (i.zero, i.size, i.bytes)) = some (some (.agg #[.string ⟨#[]⟩, .int .i64 0, .int .i64 0]), 3, 32) := by kernel_rfl
open Go.RowKit Go.Sort
structure LsAt {α : Type} (t k : Nat) (f : α → List Value) (w : World) (b : Nat) (l : List UInt8) (e : Int) (out : List α) (v : Value) (wr : World) : Prop where
 own : wr.ownsRow w.heap.size t k v out.length (out.flatMap f)
 rd : RdL wr b l e
 gb : w.grownBy wr (some b)
theorem LsAt.cell {w W : World} {b c : Nat} {u : Value} (hc : w.cell? ⟨c, 0, none⟩ = some u) (hcb : c ≠ b) (hW : w.grownBy W (some b)) : W.cell? ⟨c, 0, none⟩ = some u := by
 have hlt : c < w.heap.size := by
  refine Nat.lt_of_not_le (fun hn => ?_)
  have : w.heap[c]? = none := Array.getElem?_eq_none hn
  unfold World.cell? at hc
  simp [this] at hc
 exact (World.cell?_of_block (w := w) (a := ⟨c, 0, none⟩) (hW.block c hlt (fun e => hcb (by injection e)))).trans hc
section
variable {α : Type} {t k : Nat} {f : α → List Value} {w wr w2 w3 : World} {b p : Nat} {l l2 tt lr : List UInt8} {e e2 er : Int} {out : List α} {v : Value}
theorem LsAt.mid (h : LsAt t k f w b l e out v wr) (ht : 150 ≠ t) (g2 : wr.grownBy w2 (some b)) (h2 : RdL w2 p tt 0) (g3 : w2.grownBy w3 (some p)) (o : Obj) : (w3.alloc o).ownsRow w.heap.size t k v out.length (out.flatMap f) := by
 have o2 := h.own.kept g2 (Or.inr (own_other h.own h.rd ht))
 have o3 := o2.kept g3 (Or.inr (own_other o2 h2 ht))
 exact o3.alloc o
theorem LsAt.more (h : LsAt t k f w b l e out v wr) (ht : 150 ≠ t) (hbw : b < w.heap.size) (g2 : wr.grownBy w2 (some b)) (h3 : RdL w2 b l2 e2) (hp : wr.heap.size ≤ p) (g3 : w2.grownBy w3 (some p)) (h4 : RdL w3 p lr er) {x : α} :
  wr.heap.size ≤ w3.heap.size ∧ ∀ (o : Obj) (v4 : Value) (w4 : World), w4.ownsRow w.heap.size t k v4 (out.length + [x].length) (out.flatMap f ++ [x].flatMap f) → (w3.alloc o).grownBy w4 v.ownBlock → LsAt t k f w b l2 e2 (out ++ [x]) v4 w4 ∧ RdL w4 p lr er := by
 have hs := h.gb.size
 have hpb : p ≠ b := by omega
 have o2 := h.own.kept g2 (Or.inr (own_other h.own h.rd ht))
 refine ⟨Nat.le_trans g2.size g3.size, fun o v4 w4 own hg => ?_⟩
 have d3 : RdL w3 b l2 e2 := Row.grown h3 g3 (fun e => hpb (by injection e))
 have hne1 : v.ownBlock ≠ some b := own_other h.own h.rd ht
 have hb : b < w3.heap.size := Row.inHeap d3
 have hlt := fun g hg => (h.own.lt g hg)
 have hnp : v.ownBlock ≠ some p := fun e => by have := (hlt p e).2; omega
 refine ⟨⟨?_, Row.grown (Row.behindNew d3 o) hg hne1, ?_⟩, Row.grown (Row.behindNew h4 o) hg hnp⟩
 ·rw [List.length_append, List.flatMap_append]; exact own
 ·have k3 := gb_kept (gb_trans h.gb g2) (Kept.ofGrown (F := fun i => i = p) g3 (fun i e => by injection e with e; exact e.symm)) (fun i e => by omega)
  exact gb_kept (gb_new k3 o) (Kept.ofGrown (F := fun i => v.ownBlock = some i) hg (fun i e => e)) (fun i e => (hlt i e).1)
end
theorem pck_list_ver {w : World} {b c : Nat} {l : List UInt8} {e : Int} (h : RdL w b l e) (hc : w.cell? ⟨c, 0, none⟩ = some (.func (.func 61) #[] #[])) (hcb : c ≠ b) (hm : l.length ≤ 100000) :
  Calls Try.prog 97 #[.pointer (some ⟨b, 0, none⟩), .pointer (some ⟨c, 0, none⟩)] w fun ed w' => ∃ v, ed = .returned v ∧ Vrs w' (NewIn w w') v (Pck.list Pck.rdVer l e).1 ∧ RdL w' b (Pck.list Pck.rdVer l e).2.1 (Pck.list Pck.rdVer l e).2.2 ∧ w.grownBy w' (some b) := by
 obtain ⟨i0, hi, hz0, hz1, hz2⟩ := ver_parts verInfo
 have hbw : b < w.heap.size := Row.inHeap h
 have HC := Lib.hid (fun (W : World) (hW : w.grownBy W (some b)) => LsAt.cell hc hcb hW)
 have N1 := Lib.hid (pck_n h hm)
 have hl1 := stepN_left l e
 have hn63 := stepN_fits l e
 unfold Pck.list
 unfold Pck.rn at N1
 generalize stepN l e = s1 at *
 obtain ⟨n, l1, e1⟩ := s1
 dsimp only at hl1 hn63 N1 ⊢
 obtain ⟨T, hT⟩ : ∃ T, T = Pck.elems Pck.rdVer n l1 e1 := ⟨_, rfl⟩
 rw [← hT]
 replace hT := Lib.hid hT
 have hn : (n : Int) ≤ 9223372036854775807 := by omega
 have HL1 : Hid (l1.length ≤ 100000) := Lib.hid (by omega)
 have HBW := Lib.hid hbw
 clear h hc hcb hm hl1 hn63 hbw
 go_enter Try.func97, Try.ntmps97
 go_wp2_with fail
 refine N1.out.mono ?_
 rintro ed w1 ⟨rfl, h1, g1⟩
 have A0 : Hid (LsAt 23 2 verV w b l1 e1 [] (.slice none 0 0) w1) := Lib.hid ⟨World.ownsRow_nil _ _ _ _, h1, g1⟩
 clear h1 g1
 go_wp2_with fail
 go_loopw [4, 8] (fun v i wr => ∃ (k : Nat) (lk : List UInt8) (ek : Int) (out : List Ver.V), k ≤ n ∧ i = .int .i64 (k : Int) ∧ LsAt 23 2 verV w b lk ek out v wr ∧ Hid (T = (out ++ (Pck.elems Pck.rdVer (n - k) lk ek).1, (Pck.elems Pck.rdVer (n - k) lk ek).2)) ∧ Hid (out.length + lk.length ≤ 100000)) (fun _ i _ => n - (intOf i).toNat)
 case atStart => exact ⟨0, l1, e1, [], Nat.zero_le _, rfl, A0.out, Lib.hid (by rw [hT.out]; rfl), Lib.hid (by simpa using HL1.out)⟩
 case round =>
  obtain ⟨k, lk, ek, out, hk, rfl, hA, hR, hF⟩ := hrel
  by_cases hlt : k < n
  ·have hk0 : (k : Int) < (n : Int) := by omega
   have Hlt := Lib.hid hlt
   have hF' := hF.out
   have IN := Lib.hid (pck_inner hA.rd (by omega))
   have hle := stepT_left lk ek
   have HA := Lib.hid hA
   obtain ⟨m, hm⟩ : ∃ m, n - k = m + 1 := ⟨n - k - 1, by omega⟩
   have hm2 : n - (k + 1) = m := by omega
   have hR' := hR.out
   rw [hm, Pck.elems] at hR'
   have VR := Lib.hid (fun (W : World) (p : Nat) (h : RdL W p (stepT lk ek).1 0) => pck_ver h (by omega))
   have hrl : (Pck.rdVer (stepT lk ek).1 0).2.1.length ≤ 100000 := Nat.le_trans (Pck.rdVer_left _ _) (by omega)
   have hnev := fun h => Pck.rdVer_never.some (t := (stepT lk ek).1) h
   have hless := fun h => stepT_less (l := lk) (e := ek) h
   generalize stepT lk ek = s2 at *
   obtain ⟨t, l2, e2⟩ := s2
   dsimp only at *
   generalize Pck.rdVer t 0 = s3 at *
   obtain ⟨⟨x1, x2⟩, lr, er⟩ := s3
   dsimp only at *
   have hout : out.length ≤ 100000 := by omega
   have Hlr := Lib.hid hrl
   clear hrl hA hle hF' hk hlt hm hR
   by_cases hend : endOf lr.length er = 0
   ·rw [if_pos hend] at hR'
    have hless2 := hless (hnev hend)
    have HR1 : Hid (T = ((out ++ [(⟨x1, x2⟩ : Ver.V)]) ++ (Pck.elems Pck.rdVer (n - (k + 1)) l2 e2).1, (Pck.elems Pck.rdVer (n - (k + 1)) l2 e2).2)) := Lib.hid (by rw [hR', hm2, List.append_assoc]; rfl)
    have HF1 : Hid ((out ++ [(⟨x1, x2⟩ : Ver.V)]).length + l2.length ≤ 100000) := Lib.hid (by have := hF.out; rw [List.length_append, List.length_singleton]; omega)
    have hed : (endOf lr.length er != 0) = false := by rw [hend]; rfl
    have Hout := Lib.hid hout
    clear hnev hless hR' hend hF hless2 hm2 hout
    go_wp2_with fail
    refine IN.out.mono ?_
    rintro ed w2 ⟨p, rfl, h2, hp, h3, g2⟩
    have c2 := HC.out _ (gb_trans HA.out.gb g2)
    have H2 := Lib.hid h2
    have MID := Lib.hid (fun (W : World) (g3 : w2.grownBy W (some p)) (o : Obj) => HA.out.mid (by decide) g2 h2 g3 o)
    have MORE := Lib.hid (fun (W : World) (g3 : w2.grownBy W (some p)) (h4 : RdL W p lr er) => HA.out.more (by decide) HBW.out g2 h3 hp g3 h4 (x := (⟨x1, x2⟩ : Ver.V)))
    clear h2 hp h3 g2
    go_wp2_with fail
    refine (VR.out _ _ H2.out).mono ?_
    rintro ed w3 ⟨rfl, h4, g3⟩
    have own1 := MID.out _ g3 (.cells #[.int .i64 x1, .int .i64 x2] 23)
    have hbs : w.heap.size ≤ w3.heap.size := Nat.le_trans HA.out.gb.size (MORE.out _ g3 h4).1
    have MO := Lib.hid (MORE.out _ g3 h4).2
    clear c2 h4 g3
    dsimp only [verA]
    go_wp2_with (at_builtin; refine wp_joins (f := verV) (l := [(⟨x1, x2⟩ : Ver.V)]) rfl _ _ 47 rfl w.heap.size 23 i0 (.agg #[.int .i64 0, .int .i64 0]) 16 Try.underlying47 hi hz0 hz1 hz2 rfl (by decide) rfl rfl own1 (rows_made (f := verV) w3 23 (⟨x1, x2⟩ : Ver.V)) (fun _ _ => rfl) (fun x hx => ver_one x) ?a1 ?a2 ?a3 ?_; (case a1 => (have := Hout.out; simp only [List.length_cons, List.length_nil]; unfold maxLen; omega)); (case a2 => (have := Hout.out; simp only [List.length_cons, List.length_nil]; omega)); (case a3 => (rw [World.size_alloc]; omega)); intro v4 w4 own4 hg4 hn4; obtain ⟨LS4, H5⟩ := MO.out _ _ _ own4 hg4; replace LS4 := Lib.hid LS4; replace H5 := Lib.hid H5; clear own4 hg4 hn4 own1)
    refine (end_any H5.out (by show (mk lr).size ≤ _; rw [mk_len]; have := Hlr.out; omega)).mono ?_
    rintro ed w5 ⟨rfl, rfl⟩
    go_wp2_with fail
    go_roundw
    case rel => exact ⟨k + 1, l2, e2, _, by have := Hlt.out; omega, by go_num, LS4.out, HR1, HF1⟩
    case measure => (have := Hlt.out; simp [intOf]; omega)
   ·rw [if_neg hend] at hR'
    have HR1 : Hid (T = (out ++ [(⟨x1, x2⟩ : Ver.V)], (l2, e2))) := Lib.hid hR'
    have hed : (endOf lr.length er != 0) = true := by simpa using hend
    have Hout := Lib.hid hout
    clear hnev hless hR' hend hF hm2 hout
    go_wp2_with fail
    refine IN.out.mono ?_
    rintro ed w2 ⟨p, rfl, h2, hp, h3, g2⟩
    have c2 := HC.out _ (gb_trans HA.out.gb g2)
    have H2 := Lib.hid h2
    have MID := Lib.hid (fun (W : World) (g3 : w2.grownBy W (some p)) (o : Obj) => HA.out.mid (by decide) g2 h2 g3 o)
    have MORE := Lib.hid (fun (W : World) (g3 : w2.grownBy W (some p)) (h4 : RdL W p lr er) => HA.out.more (by decide) HBW.out g2 h3 hp g3 h4 (x := (⟨x1, x2⟩ : Ver.V)))
    clear h2 hp h3 g2
    go_wp2_with fail
    refine (VR.out _ _ H2.out).mono ?_
    rintro ed w3 ⟨rfl, h4, g3⟩
    have own1 := MID.out _ g3 (.cells #[.int .i64 x1, .int .i64 x2] 23)
    have hbs : w.heap.size ≤ w3.heap.size := Nat.le_trans HA.out.gb.size (MORE.out _ g3 h4).1
    have MO := Lib.hid (MORE.out _ g3 h4).2
    clear c2 h4 g3
    dsimp only [verA]
    go_wp2_with (at_builtin; refine wp_joins (f := verV) (l := [(⟨x1, x2⟩ : Ver.V)]) rfl _ _ 47 rfl w.heap.size 23 i0 (.agg #[.int .i64 0, .int .i64 0]) 16 Try.underlying47 hi hz0 hz1 hz2 rfl (by decide) rfl rfl own1 (rows_made (f := verV) w3 23 (⟨x1, x2⟩ : Ver.V)) (fun _ _ => rfl) (fun x hx => ver_one x) ?a1 ?a2 ?a3 ?_; (case a1 => (have := Hout.out; simp only [List.length_cons, List.length_nil]; unfold maxLen; omega)); (case a2 => (have := Hout.out; simp only [List.length_cons, List.length_nil]; omega)); (case a3 => (rw [World.size_alloc]; omega)); intro v4 w4 own4 hg4 hn4; obtain ⟨LS4, H5⟩ := MO.out _ _ _ own4 hg4; replace LS4 := Lib.hid LS4; replace H5 := Lib.hid H5; clear own4 hg4 hn4 own1)
    refine (end_any H5.out (by show (mk lr).size ≤ _; rw [mk_len]; have := Hlr.out; omega)).mono ?_
    rintro ed w5 ⟨rfl, rfl⟩
    go_wp2_with fail
    go_ret
    rw [HR1.out]
    exact ⟨_, rfl, Rws.ofOwn LS4.out.own rfl (fun _ _ => rfl) (fun _ _ h1 h2 => ⟨h1, h2⟩), LS4.out.rd, LS4.out.gb⟩
  ·obtain rfl : k = n := by omega
   have HR1 := hR.out
   rw [Nat.sub_self, Pck.elems, List.append_nil] at HR1
   replace HR1 := Lib.hid HR1
   have HA := Lib.hid hA
   clear hR hF hA hk hlt
   go_wp2_with fail
   go_ret
   rw [HR1.out]
   exact ⟨_, rfl, Rws.ofOwn HA.out.own rfl (fun _ _ => rfl) (fun _ _ h1 h2 => ⟨h1, h2⟩), HA.out.rd, HA.out.gb⟩
theorem pck_list_cl {w : World} {b c : Nat} {l : List UInt8} {e : Int} (h : RdL w b l e) (hc : w.cell? ⟨c, 0, none⟩ = some (.func (.func 69) #[] #[])) (hcb : c ≠ b) (hm : l.length ≤ 100000) :
  Calls Try.prog 104 #[.pointer (some ⟨b, 0, none⟩), .pointer (some ⟨c, 0, none⟩)] w fun ed w' => ∃ v, ed = .returned v ∧ Cls w' (NewIn w w') v (Pck.list Pck.rdCl l e).1 ∧ RdL w' b (Pck.list Pck.rdCl l e).2.1 (Pck.list Pck.rdCl l e).2.2 ∧ w.grownBy w' (some b) := by
 obtain ⟨i0, hi, hz0, hz1, hz2⟩ := ver_parts clauseInfo
 have hbw : b < w.heap.size := Row.inHeap h
 have HC := Lib.hid (fun (W : World) (hW : w.grownBy W (some b)) => LsAt.cell hc hcb hW)
 have N1 := Lib.hid (pck_n h hm)
 have hl1 := stepN_left l e
 have hn63 := stepN_fits l e
 unfold Pck.list
 unfold Pck.rn at N1
 generalize stepN l e = s1 at *
 obtain ⟨n, l1, e1⟩ := s1
 dsimp only at hl1 hn63 N1 ⊢
 obtain ⟨T, hT⟩ : ∃ T, T = Pck.elems Pck.rdCl n l1 e1 := ⟨_, rfl⟩
 rw [← hT]
 replace hT := Lib.hid hT
 have hn : (n : Int) ≤ 9223372036854775807 := by omega
 have HL1 : Hid (l1.length ≤ 100000) := Lib.hid (by omega)
 have HBW := Lib.hid hbw
 clear h hc hcb hm hl1 hn63 hbw
 go_enter Try.func104, Try.ntmps104
 go_wp2_with fail
 refine N1.out.mono ?_
 rintro ed w1 ⟨rfl, h1, g1⟩
 have A0 : Hid (LsAt 64 3 clV w b l1 e1 [] (.slice none 0 0) w1) := Lib.hid ⟨World.ownsRow_nil _ _ _ _, h1, g1⟩
 clear h1 g1
 go_wp2_with fail
 go_loopw [4, 8] (fun v i wr => ∃ (k : Nat) (lk : List UInt8) (ek : Int) (out : List Flt.Cl), k ≤ n ∧ i = .int .i64 (k : Int) ∧ LsAt 64 3 clV w b lk ek out v wr ∧ Hid (T = (out ++ (Pck.elems Pck.rdCl (n - k) lk ek).1, (Pck.elems Pck.rdCl (n - k) lk ek).2)) ∧ Hid (out.length + lk.length ≤ 100000)) (fun _ i _ => n - (intOf i).toNat)
 case atStart => exact ⟨0, l1, e1, [], Nat.zero_le _, rfl, A0.out, Lib.hid (by rw [hT.out]; rfl), Lib.hid (by simpa using HL1.out)⟩
 case round =>
  obtain ⟨k, lk, ek, out, hk, rfl, hA, hR, hF⟩ := hrel
  by_cases hlt : k < n
  ·have hk0 : (k : Int) < (n : Int) := by omega
   have Hlt := Lib.hid hlt
   have hF' := hF.out
   have IN := Lib.hid (pck_inner hA.rd (by omega))
   have hle := stepT_left lk ek
   have HA := Lib.hid hA
   obtain ⟨m, hm⟩ : ∃ m, n - k = m + 1 := ⟨n - k - 1, by omega⟩
   have hm2 : n - (k + 1) = m := by omega
   have hR' := hR.out
   rw [hm, Pck.elems] at hR'
   have VR := Lib.hid (fun (W : World) (p : Nat) (h : RdL W p (stepT lk ek).1 0) => pck_cl h (by omega))
   have hrl : (Pck.rdCl (stepT lk ek).1 0).2.1.length ≤ 100000 := Nat.le_trans (Pck.rdCl_left _ _) (by omega)
   have hnev := fun h => Pck.rdCl_never.some (t := (stepT lk ek).1) h
   have hless := fun h => stepT_less (l := lk) (e := ek) h
   generalize stepT lk ek = s2 at *
   obtain ⟨t, l2, e2⟩ := s2
   dsimp only at *
   generalize Pck.rdCl t 0 = s3 at *
   obtain ⟨⟨x1, x2, x3⟩, lr, er⟩ := s3
   dsimp only at *
   have hout : out.length ≤ 100000 := by omega
   have Hlr := Lib.hid hrl
   clear hrl hA hle hF' hk hlt hm hR
   by_cases hend : endOf lr.length er = 0
   ·rw [if_pos hend] at hR'
    have hless2 := hless (hnev hend)
    have HR1 : Hid (T = ((out ++ [(⟨x1, x2, x3⟩ : Flt.Cl)]) ++ (Pck.elems Pck.rdCl (n - (k + 1)) l2 e2).1, (Pck.elems Pck.rdCl (n - (k + 1)) l2 e2).2)) := Lib.hid (by rw [hR', hm2, List.append_assoc]; rfl)
    have HF1 : Hid ((out ++ [(⟨x1, x2, x3⟩ : Flt.Cl)]).length + l2.length ≤ 100000) := Lib.hid (by have := hF.out; rw [List.length_append, List.length_singleton]; omega)
    have hed : (endOf lr.length er != 0) = false := by rw [hend]; rfl
    have Hout := Lib.hid hout
    clear hnev hless hR' hend hF hless2 hm2 hout
    go_wp2_with fail
    refine IN.out.mono ?_
    rintro ed w2 ⟨p, rfl, h2, hp, h3, g2⟩
    have c2 := HC.out _ (gb_trans HA.out.gb g2)
    have H2 := Lib.hid h2
    have MID := Lib.hid (fun (W : World) (g3 : w2.grownBy W (some p)) (o : Obj) => HA.out.mid (by decide) g2 h2 g3 o)
    have MORE := Lib.hid (fun (W : World) (g3 : w2.grownBy W (some p)) (h4 : RdL W p lr er) => HA.out.more (by decide) HBW.out g2 h3 hp g3 h4 (x := (⟨x1, x2, x3⟩ : Flt.Cl)))
    clear h2 hp h3 g2
    go_wp2_with fail
    refine (VR.out _ _ H2.out).mono ?_
    rintro ed w3 ⟨rfl, h4, g3⟩
    have own1 := MID.out _ g3 (.cells #[.string (mk x1), .int .i64 x2, .int .i64 x3] 64)
    have hbs : w.heap.size ≤ w3.heap.size := Nat.le_trans HA.out.gb.size (MORE.out _ g3 h4).1
    have MO := Lib.hid (MORE.out _ g3 h4).2
    clear c2 h4 g3
    dsimp only [clA]
    go_wp2_with (at_builtin; refine wp_joins (f := clV) (l := [(⟨x1, x2, x3⟩ : Flt.Cl)]) rfl _ _ 60 rfl w.heap.size 64 i0 (.agg #[.string ⟨#[]⟩, .int .i64 0, .int .i64 0]) 32 Try.underlying60 hi hz0 hz1 hz2 rfl (by decide) rfl rfl own1 (rows_made (f := clV) w3 64 (⟨x1, x2, x3⟩ : Flt.Cl)) (fun _ _ => rfl) (fun x hx => cl_one x) ?a1 ?a2 ?a3 ?_; (case a1 => (have := Hout.out; simp only [List.length_cons, List.length_nil]; unfold maxLen; omega)); (case a2 => (have := Hout.out; simp only [List.length_cons, List.length_nil]; omega)); (case a3 => (rw [World.size_alloc]; omega)); intro v4 w4 own4 hg4 hn4; obtain ⟨LS4, H5⟩ := MO.out _ _ _ own4 hg4; replace LS4 := Lib.hid LS4; replace H5 := Lib.hid H5; clear own4 hg4 hn4 own1)
    refine (end_any H5.out (by show (mk lr).size ≤ _; rw [mk_len]; have := Hlr.out; omega)).mono ?_
    rintro ed w5 ⟨rfl, rfl⟩
    go_wp2_with fail
    go_roundw
    case rel => exact ⟨k + 1, l2, e2, _, by have := Hlt.out; omega, by go_num, LS4.out, HR1, HF1⟩
    case measure => (have := Hlt.out; simp [intOf]; omega)
   ·rw [if_neg hend] at hR'
    have HR1 : Hid (T = (out ++ [(⟨x1, x2, x3⟩ : Flt.Cl)], (l2, e2))) := Lib.hid hR'
    have hed : (endOf lr.length er != 0) = true := by simpa using hend
    have Hout := Lib.hid hout
    clear hnev hless hR' hend hF hm2 hout
    go_wp2_with fail
    refine IN.out.mono ?_
    rintro ed w2 ⟨p, rfl, h2, hp, h3, g2⟩
    have c2 := HC.out _ (gb_trans HA.out.gb g2)
    have H2 := Lib.hid h2
    have MID := Lib.hid (fun (W : World) (g3 : w2.grownBy W (some p)) (o : Obj) => HA.out.mid (by decide) g2 h2 g3 o)
    have MORE := Lib.hid (fun (W : World) (g3 : w2.grownBy W (some p)) (h4 : RdL W p lr er) => HA.out.more (by decide) HBW.out g2 h3 hp g3 h4 (x := (⟨x1, x2, x3⟩ : Flt.Cl)))
    clear h2 hp h3 g2
    go_wp2_with fail
    refine (VR.out _ _ H2.out).mono ?_
    rintro ed w3 ⟨rfl, h4, g3⟩
    have own1 := MID.out _ g3 (.cells #[.string (mk x1), .int .i64 x2, .int .i64 x3] 64)
    have hbs : w.heap.size ≤ w3.heap.size := Nat.le_trans HA.out.gb.size (MORE.out _ g3 h4).1
    have MO := Lib.hid (MORE.out _ g3 h4).2
    clear c2 h4 g3
    dsimp only [clA]
    go_wp2_with (at_builtin; refine wp_joins (f := clV) (l := [(⟨x1, x2, x3⟩ : Flt.Cl)]) rfl _ _ 60 rfl w.heap.size 64 i0 (.agg #[.string ⟨#[]⟩, .int .i64 0, .int .i64 0]) 32 Try.underlying60 hi hz0 hz1 hz2 rfl (by decide) rfl rfl own1 (rows_made (f := clV) w3 64 (⟨x1, x2, x3⟩ : Flt.Cl)) (fun _ _ => rfl) (fun x hx => cl_one x) ?a1 ?a2 ?a3 ?_; (case a1 => (have := Hout.out; simp only [List.length_cons, List.length_nil]; unfold maxLen; omega)); (case a2 => (have := Hout.out; simp only [List.length_cons, List.length_nil]; omega)); (case a3 => (rw [World.size_alloc]; omega)); intro v4 w4 own4 hg4 hn4; obtain ⟨LS4, H5⟩ := MO.out _ _ _ own4 hg4; replace LS4 := Lib.hid LS4; replace H5 := Lib.hid H5; clear own4 hg4 hn4 own1)
    refine (end_any H5.out (by show (mk lr).size ≤ _; rw [mk_len]; have := Hlr.out; omega)).mono ?_
    rintro ed w5 ⟨rfl, rfl⟩
    go_wp2_with fail
    go_ret
    rw [HR1.out]
    exact ⟨_, rfl, Rws.ofOwn LS4.out.own rfl (fun _ _ => rfl) (fun _ _ h1 h2 => ⟨h1, h2⟩), LS4.out.rd, LS4.out.gb⟩
  ·obtain rfl : k = n := by omega
   have HR1 := hR.out
   rw [Nat.sub_self, Pck.elems, List.append_nil] at HR1
   replace HR1 := Lib.hid HR1
   have HA := Lib.hid hA
   clear hR hF hA hk hlt
   go_wp2_with fail
   go_ret
   rw [HR1.out]
   exact ⟨_, rfl, Rws.ofOwn HA.out.own rfl (fun _ _ => rfl) (fun _ _ h1 h2 => ⟨h1, h2⟩), HA.out.rd, HA.out.gb⟩
end Go.Proofs.Ytmpajhjfnfcdlaa
