import Derived.Test.YtpafpegcodempaaGreatCom14
import Derived.Test.YtpafpegcodempaaGreatCom15
import Derived.Test.YtpafpegcodempaaGreatCom20
import Derived.Test.YtpafpegcodempaaGreatCom11
import Derived.Test.YtpafpegcodempaaGreatCom4
import Derived.Test.YtpafpegcodempaaGreatCom1
import Derived.Test.YtpafpegcodempaaGreatCom5
import Derived.Test.YtpafpegcodempaaGreatCom6
import Derived.Test.YtpafpegcodempaaGreatCom9
import Derived.OwnWalk
import Derived.Lib.Hide
import Derived.Laws.BitsAllLaws
set_option maxRecDepth 100000
set_option linter.all false
set_option maxHeartbeats 12800000
namespace Go.Proofs.YtpafpegcodempaaGreat
open Go.RowKit Go.Sort
theorem row_liesK {ty t : TypeId} {w : World} {b : Nat} {cs : List Value} (h : Row w b t cs.toArray) (hu : ∃ d, Tryz.prog.underlying ty = some d ∧ d.isRow = true) (hs : (Tryz.prog.info? ty).map (·.size) = some cs.length) : Lies ty w b 0 cs := ⟨range_row h, hu, hs⟩
theorem pck_put_know (V : VecOk) {w : World} {F : Nat → Prop} {v : Value} {k : Know.K} (h : Kns w F v k) (hb : Pck.BdK k) :
  Calls Tryz.prog 84 #[v, .bool (decide (Pck.OkKnow k)), .func (.func 86) #[] #[]] w fun e w' => e = .returned (.tuple #[.string (mk (Pck.putKnow k).1), .int .i64 (Pck.putKnow k).2]) ∧ Below w.heap.size w w' := by
 obtain ⟨u1, u2, rfl, hf, hi⟩ := h
 obtain ⟨A, ca, rfl, -⟩ := hf.parts
 obtain ⟨B, cb, rfl, -⟩ := hi.1.parts
 unfold Pck.putKnow
 by_cases hok : Pck.OkKnow k
 ·rw [decide_eq_true hok, Pck.putOf_true hok]
  dsimp only
  have hB1 : Below w.heap.size w (w.alloc (.cells #[.slice A k.frags.length ca, .slice B k.items.length cb] 28)) := (Below.refl _ _).alloc (Nat.le_refl _) _
  have R0 := Lib.hid ((Row.made w 28 #[.slice A k.frags.length ca, .slice B k.items.length cb]).behindNew (.cells #[.int .i64 0] 39))
  have G0 : Hid (Below w.heap.size w ((w.alloc (.cells #[.slice A k.frags.length ca, .slice B k.items.length cb] 28)).alloc (.cells #[.int .i64 0] 39))) := Lib.hid (hB1.alloc hB1.size _)
  have E0 : Hid (ErrAt ((w.alloc (.cells #[.slice A k.frags.length ca, .slice B k.items.length cb] 28)).alloc (.cells #[.int .i64 0] 39)) (w.heap.size + 1) true) := Lib.hid (by
   have := Row.made (w.alloc (.cells #[.slice A k.frags.length ca, .slice B k.items.length cb] 28)) 39 #[.int .i64 0]
   rw [World.size_alloc] at this
   exact this)
  have hKn : Kns ((w.alloc (.cells #[.slice A k.frags.length ca, .slice B k.items.length cb] 28)).alloc (.cells #[.int .i64 0] 39)) (fun i => i < w.heap.size) (.agg #[.slice A k.frags.length ca, .slice B k.items.length cb]) k := by
   obtain ⟨rs, e1, e2, e3⟩ := hf
   exact ⟨_, _, rfl, ⟨rs, e1, (Rws.below e2.lt G0.out).mono (fun i hi => hi.2), fun r hr => ((e3 r hr).lt.below G0.out).mono (fun i hi => hi.2)⟩, (Rws.below hi.1.lt G0.out).mono (fun i hi => hi.2), hi.2⟩
  have LW0 := pck_layKnow V lays_know hKn (fun i (hi : i < w.heap.size) => by omega) hok hb E0.out
  have LL := Lib.hid LW0
  have Hfu : Hid (∃ d, Tryz.prog.underlying 28 = some d ∧ d.isRow = true) := Lib.hid ⟨_, Tryz.underlying28, rfl⟩
  have Hsz : Hid ((Tryz.prog.info? 28).map (·.size) = some 2) := Lib.hid (by kernel_rfl)
  unfold PutTo at LL
  generalize Pck.know k = enc at *
  clear LW0 E0 hok hb hf hi hKn hB1
  generalize Pck.okTo true enc = oo at *
  generalize hbs : mk (Pck.bsTo true enc) = BB at *
  clear hbs
  obtain ⟨r, hr⟩ : ∃ r : Int, (if oo then (0 : Int) else 4) = r := ⟨_, rfl⟩
  rw [hr]
  have HR := Lib.hid hr
  clear hr
  go_enter Tryz.func84, Tryz.ntmps84
  go_wp2_with (refine wpList_mload (cs := [.slice A k.frags.length ca, .slice B k.items.length cb]) (by rfl) (.tmp 3) (by rfl) (by rfl) (row_liesK (cs := [.slice A k.frags.length ca, .slice B k.items.length cb]) R0.out Hfu.out Hsz.out) ?_)
  refine LL.out.mono ?_
  rintro e w1 ⟨rfl, h1, h2⟩
  have c1 : w1.cell? ⟨w.heap.size + 1, 0, none⟩ = some (.int .i64 r) := by rw [← HR.out]; exact Row.at h1 0
  have B1 := Lib.hid (gb_out G0.out h2 (by omega))
  clear h1 h2 HR
  go_wp2_with fail
  go_quiet (fail)
  go_wp2_with fail
  go_ret2
  exact ⟨rfl, below_drawsN B1.out _⟩
 ·rw [decide_eq_false hok, Pck.put_bad hok]
  dsimp only
  have G0 : Hid (Below w.heap.size w (w.alloc (.cells #[.slice A k.frags.length ca, .slice B k.items.length cb] 28))) := Lib.hid ((Below.refl _ _).alloc (Nat.le_refl _) _)
  clear hok hb hf hi
  go_enter Tryz.func84, Tryz.ntmps84
  go_wp2_with fail
  go_ret2
  exact ⟨rfl, G0.out⟩
theorem pck_PutKnow (V : VecOk) (VS : VersOk) (S : IsetOk) (FO : FilterOk) {w : World} {F : Nat → Prop} {v : Value} {k : Know.K} (h : Kns w F v k) (hb : Pck.BdK k) :
  Calls Tryz.prog 25 #[v] w fun e w' => e = .returned (.tuple #[.string (mk (Pck.putKnow k).1), .int .i64 (Pck.putKnow k).2]) ∧ Below w.heap.size w w' := by
 obtain ⟨u1, u2, rfl, hf, hi⟩ := h
 obtain ⟨A, ca, rfl, -⟩ := hf.parts
 obtain ⟨B, cb, rfl, -⟩ := hi.1.parts
 have G0 : Hid (Below w.heap.size w (w.alloc (.cells #[.slice A k.frags.length ca, .slice B k.items.length cb] 28))) := Lib.hid ((Below.refl _ _).alloc (Nat.le_refl _) _)
 have KN := Lib.hid (fun (W : World) (h : Below (w.alloc (.cells #[.slice A k.frags.length ca, .slice B k.items.length cb] 28)).heap.size (w.alloc (.cells #[.slice A k.frags.length ca, .slice B k.items.length cb] 28)) W) => (⟨_, _, rfl, (hf.below G0.out).below h, (hi.below G0.out).below h⟩ : Kns W F (.agg #[.slice A k.frags.length ca, .slice B k.items.length cb]) k))
 have VK := Lib.hid (fun (W : World) (h : Below (w.alloc (.cells #[.slice A k.frags.length ca, .slice B k.items.length cb] 28)).heap.size (w.alloc (.cells #[.slice A k.frags.length ca, .slice B k.items.length cb] 28)) W) => pck_validKnow V VS S FO (KN.out W h) hb)
 have PP := Lib.hid (fun (W : World) (h : Below (w.alloc (.cells #[.slice A k.frags.length ca, .slice B k.items.length cb] 28)).heap.size (w.alloc (.cells #[.slice A k.frags.length ca, .slice B k.items.length cb] 28)) W) => pck_put_know V (KN.out W h) hb)
 have RB := Lib.hid (Row.made w 28 #[.slice A k.frags.length ca, .slice B k.items.length cb])
 have Hfu : Hid (∃ d, Tryz.prog.underlying 28 = some d ∧ d.isRow = true) := Lib.hid ⟨_, Tryz.underlying28, rfl⟩
 have Hsz : Hid ((Tryz.prog.info? 28).map (·.size) = some 2) := Lib.hid (by kernel_rfl)
 generalize Pck.putKnow k = res at *
 generalize decide (Pck.OkKnow k) = t at *
 obtain ⟨rb, re⟩ := res
 dsimp only at PP ⊢
 generalize mk rb = BB at *
 clear hf hi hb KN
 go_enter Tryz.func25, Tryz.ntmps25
 go_wp2_with fail
 refine wp_region_held_drew (S := (Below (w.alloc (.cells #[.slice A k.frags.length ca, .slice B k.items.length cb] 28)).heap.size (w.alloc (.cells #[.slice A k.frags.length ca, .slice B k.items.length cb] 28)))) (by kernel_rfl) (Below.drew (Below.refl _ _)) (fun hHeld => ?_)
 refine wpAnyH_tk (i := 0) (v := .agg #[.slice A k.frags.length ca, .slice B k.items.length cb]) rfl (Or.inl ⟨by rfl, (by intro w hSw; exact exec_mload (by rfl) (by rfl) (row_liesK (cs := [.slice A k.frags.length ca, .slice B k.items.length cb]) (RB.out.below hSw RB.out.inHeap) Hfu.out Hsz.out))⟩) (by assumption) ?_
 simp only [zz]
 refine wpAnyH_tk (i := 1) (v := .agg #[.slice A k.frags.length ca, .slice B k.items.length cb]) rfl (Or.inl ⟨by rfl, (by intro w hSw; exact exec_mload (by rfl) (by rfl) (row_liesK (cs := [.slice A k.frags.length ca, .slice B k.items.length cb]) (RB.out.below hSw RB.out.inHeap) Hfu.out Hsz.out))⟩) (by assumption) ?_
 simp only [zz]
 refine wpAnyH_ready (rs := [2]) (by kernel_rfl) (by simp) ?_
 refine AllReadyH.cons rfl (fun K hK => ?_) AllReadyH.nil
 go_simp
 go_at_call 85
 refine (VK.out _ hHeld).mono ?_
 rintro e w1 ⟨rfl, hb⟩
 have B1 := Lib.hid (hHeld.trans (hb.mono hHeld.size))
 refine hK.out _ _ B1.out (fun hHeld => ?_)
 clear hb
 clear hK K
 refine wpAnyH_ready (rs := [3]) (by kernel_rfl) (by simp) ?_
 refine AllReadyH.cons rfl (fun K hK => ?_) AllReadyH.nil
 go_simp
 go_at_call 84
 refine (PP.out _ hHeld).mono ?_
 rintro e w2 ⟨rfl, hb⟩
 have B2 := Lib.hid (hHeld.trans (hb.mono hHeld.size))
 refine hK.out _ _ B2.out (fun hHeld => ?_)
 clear hb
 clear hK K
 refine wpAnyH_td (i := 4) rfl ?_
 simp only [zz]
 refine wpAnyH_td (i := 5) rfl ?_
 simp only [zz]
 refine wpAnyH_td (i := 6) rfl ?_
 simp only [zz]
 refine wpAnyH_td (i := 7) rfl ?_
 simp only [zz]
 refine wpAnyH_done (by kernel_rfl) ?_ _
 go_wp2_with fail
 go_ret2
 exact ⟨rfl, G0.out.trans (B2.out.mono G0.out.size)⟩
theorem kns_new2 {w w3 w9 : World} {o : Obj} {v : Value} {k : Know.K} (h : Kns w3 (fun i => (w.alloc o).heap.size ≤ i) v k) (hk : Kept (fun i => i = w.heap.size) w3 w9) : Kns w9 (NewIn w w9) v k := by
 obtain ⟨a, b, e, ⟨rs, e1, e2, e3⟩, e4, e5⟩ := h
 have hm : ∀ i, ((w.alloc o).heap.size ≤ i ∧ i < w9.heap.size) → NewIn w w9 i := fun i hi => ⟨by have := hi.1; rw [World.size_alloc] at this; omega, hi.2⟩
 have hd : ∀ i : Nat, (w.alloc o).heap.size ≤ i → ¬ i = w.heap.size := fun i hi q => by rw [World.size_alloc] at hi; omega
 have q1 := e2.kept hk hd
 have q2 := fun r hr => (e3 r hr).kept hk hd
 have q4 := e4.kept hk hd
 exact ⟨a, b, e, ⟨rs, e1, q1.lt.mono hm, fun r hr => (q2 r hr).lt.mono hm⟩, q4.lt.mono hm, e5⟩
theorem kns_new {w w1 w3 w9 : World} {v : Value} {k : Know.K} (h : Kns w3 (fun i => w1.heap.size < i) v k) (hw : w.heap.size < w1.heap.size) (hk : Kept (fun i => i = w.heap.size) w3 w9) : Kns w9 (NewIn w w9) v k := by
 obtain ⟨a, b, e, ⟨rs, e1, e2, e3⟩, e4, e5⟩ := h
 have hm : ∀ i, (w1.heap.size < i ∧ i < w9.heap.size) → NewIn w w9 i := fun i hi => ⟨by omega, hi.2⟩
 have hd : ∀ i : Nat, w1.heap.size < i → ¬ i = w.heap.size := fun i hi q => by omega
 have q1 := e2.kept hk hd
 have q2 := fun r hr => (e3 r hr).kept hk hd
 have q4 := e4.kept hk hd
 exact ⟨a, b, e, ⟨rs, e1, q1.lt.mono hm, fun r hr => (q2 r hr).lt.mono hm⟩, q4.lt.mono hm, e5⟩
theorem pck_get_know (V : VecOk) (VS : VersOk) (S : IsetOk) (FO : FilterOk) (s : List UInt8) (hs : s.length ≤ 140737488355328) (w : World) :
  Calls Tryz.prog 92 #[.string (mk s), .func (.func 93) #[] #[], .func (.func 25) #[] #[]] w fun e w' => (∃ v, e = .returned (.tuple #[v, .int .i64 (Pck.getKnow s).2]) ∧ Kns w' (NewIn w w') v (Pck.getKnow s).1) ∧ Below w.heap.size w w' := by
 have hz := knZero
 have Hfu : Hid (∃ d, Tryz.prog.underlying 28 = some d ∧ d.isRow = true) := Lib.hid ⟨_, Tryz.underlying28, rfl⟩
 have Hsz : Hid ((Tryz.prog.info? 28).map (·.size) = some 2) := Lib.hid (by kernel_rfl)
 have Q6 : Hid (Row ((w.alloc (.cells #[.slice none 0 0, .slice none 0 0] 28)).alloc (.cells #[.slice none 0 0, .slice none 0 0] 28)) w.heap.size 28 #[.slice none 0 0, .slice none 0 0]) := Lib.hid ((Row.made w 28 #[.slice none 0 0, .slice none 0 0]).behindNew _)
 have Q8 : Hid (Row ((w.alloc (.cells #[.slice none 0 0, .slice none 0 0] 28)).alloc (.cells #[.slice none 0 0, .slice none 0 0] 28)) (w.heap.size + 1) 28 #[.slice none 0 0, .slice none 0 0]) := Lib.hid (by have := Row.made (w.alloc (.cells #[.slice none 0 0, .slice none 0 0] 28)) 28 #[.slice none 0 0, .slice none 0 0]; rwa [World.size_alloc] at this)
 have G0 : Hid (Below w.heap.size w ((w.alloc (.cells #[.slice none 0 0, .slice none 0 0] 28)).alloc (.cells #[.slice none 0 0, .slice none 0 0] 28))) := Lib.hid (((Below.refl _ _).alloc (Nat.le_refl _) _).alloc (by simp) _)
 by_cases hbig : 65536 < s.length
 ·have hE : Pck.getKnow s = (⟨[], []⟩, 6) := if_pos hbig
  have hsz : decide ((65536 : Int) < ((mk s).size : Int)) = true := decide_eq_true (by rw [mk_len]; omega)
  rw [hE]
  clear hE hbig hs
  generalize mk s = S at *
  go_enter Tryz.func92, Tryz.ntmps92
  go_wp2_with (first | (refine wpList_mload (cs := [.slice none 0 0, .slice none 0 0]) (by rfl) (.tmp 8) (by rfl) (by rfl) (row_liesK (cs := [.slice none 0 0, .slice none 0 0]) Q8.out Hfu.out Hsz.out) ?_) | (refine wpList_rstore (cs := [.slice none 0 0, .slice none 0 0]) (by rfl) (.tmp 6) (.tmp 15) (by rfl) (by rfl) (by rfl) Q6.out Hsz.out rfl (two_one rfl rfl) ?_; rintro w9 hr9 hk9; have R9 := Lib.hid hr9; have B9 := Lib.hid (below_kept G0.out hk9 (fun i e => by omega)); have K9 := Lib.hid hk9))
  refine bodyPost_ret (v := .tuple #[.agg #[.slice none 0 0, .slice none 0 0], .int .i64 6]) ?_ rfl ⟨⟨_, rfl, ⟨_, _, rfl, ⟨[], rfl, Rws.none _ _ _, fun _ h => (by cases h)⟩, Rws.none _ _ _, fun _ h => (by cases h)⟩⟩, B9.out⟩
  rw [results_cell_tmp (by rfl)]
  have hl := run_loadVar_row (P := Tryz.prog) _ w.heap.size 28 28 _ (0, 0) _ R9.out Tryz.underlying28 rfl Hsz.out
  simp [asAddr, hl, Result.andThen]
  try rfl
 ·have hsz : decide ((65536 : Int) < ((mk s).size : Int)) = false := decide_eq_false (by rw [mk_len]; omega)
  have hsl : s.length ≤ 65536 := by omega
  have OV := Lib.hid (fun W => pck_over s W)
  have RD := Lib.hid (fun (W : World) (p : Nat) (h : RdL W p s 0) => pck_know V h (by omega))
  have PW := Lib.hid (fun (W : World) (F : Nat → Prop) (v : Value) (h : Kns W F v (Pck.rdKnow s 0).1) => pck_PutKnow V VS S FO h (Pck.rdKnow_bd hsl))
  have hG : Pck.getKnow s = if (Pck.putKnow (Pck.rdKnow s 0).1).2 = 0 ∧ (Pck.putKnow (Pck.rdKnow s 0).1).1 = s then ((Pck.rdKnow s 0).1, 0) else (⟨[], []⟩, 6) := if_neg hbig
  generalize Pck.putKnow (Pck.rdKnow s 0).1 = pp at *
  generalize Pck.rdKnow s 0 = rr at *
  obtain ⟨X, lr, er⟩ := rr
  obtain ⟨ab, r⟩ := pp
  dsimp only at hG RD PW
  have hS : (((mk ab).toList == (mk s).toList) = decide (ab = s)) := by
   rw [Lib.toList_data, Lib.toList_data, mk_data, mk_data]
   rw [Bool.eq_iff_iff, beq_iff_eq, decide_eq_true_iff]
  have hS2 : (((mk ab).toList != (mk s).toList) = !decide (ab = s)) := by
   unfold bne
   rw [hS]
  by_cases hr0 : r = 0
  ·by_cases hab : ab = s
   ·rw [if_pos ⟨hr0, hab⟩] at hG
    rw [hG]
    rw [decide_eq_true hab] at hS hS2
    have hrr : (r != 0) = false := by rw [hr0]; rfl
    clear hG hr0 hab hbig hs hsl
    rw [Bool.not_true] at hS2
    generalize mk ab = AB at *
    generalize mk s = S at *
    go_enter Tryz.func92, Tryz.ntmps92
    go_wp2_with fail
    refine (OV.out _).mono ?_
    rintro e w1 ⟨p, rfl, h1, hp, b1⟩
    have HP : Hid (w.heap.size + 1 + 1 ≤ p) := Lib.hid (by simpa using hp)
    have A6 := Lib.hid (Q6.out.below b1 Q6.out.inHeap)
    have A8 := Lib.hid (Q8.out.below b1 Q8.out.inHeap)
    have D1 := Lib.hid h1
    have B1 := Lib.hid (G0.out.trans (b1.mono G0.out.size))
    clear h1 b1 hp
    go_wp2_with fail
    refine (RD.out _ _ D1.out).mono ?_
    rintro e w2 ⟨⟨v2, rfl, hkn⟩, -, g2⟩
    obtain ⟨u1, u2, rfl, hf, hi⟩ := hkn
    obtain ⟨A, ca, e1, -⟩ := hf.parts
    obtain ⟨B, cb, e2, -⟩ := hi.1.parts
    subst e1 e2
    have C6 := Lib.hid (A6.out.grown g2 (fun e => by have := HP.out; injection e with e; omega))
    have C8 := Lib.hid (A8.out.grown g2 (fun e => by have := HP.out; injection e with e; omega))
    have B2 := Lib.hid (gb_out B1.out g2 (by have := HP.out; omega))
    have HW1 : Hid (w.heap.size < w1.heap.size) := Lib.hid A6.out.inHeap
    have R9a := Lib.hid (Row.made w2 28 #[.slice A X.frags.length ca, .slice B X.items.length cb])
    have E6 := Lib.hid (C6.out.behindNew (.cells #[.slice A X.frags.length ca, .slice B X.items.length cb] 28))
    have E8 := Lib.hid (C8.out.behindNew (.cells #[.slice A X.frags.length ca, .slice B X.items.length cb] 28))
    have B3 := Lib.hid (B2.out.alloc B2.out.size (.cells #[.slice A X.frags.length ca, .slice B X.items.length cb] 28))
    have KN3 : Hid (Kns (w2.alloc (.cells #[.slice A X.frags.length ca, .slice B X.items.length cb] 28)) (fun i => w1.heap.size < i) (.agg #[.slice A X.frags.length ca, .slice B X.items.length cb]) X) := Lib.hid ⟨_, _, rfl, hf.below ((Below.refl _ _).alloc (Nat.le_refl _) _), hi.below ((Below.refl _ _).alloc (Nat.le_refl _) _)⟩
    clear g2 hf hi
    go_wp2_with (refine wpList_mload (cs := [.slice A X.frags.length ca, .slice B X.items.length cb]) (by rfl) (.tmp 9) (by rfl) (by rfl) (row_liesK (cs := [.slice A X.frags.length ca, .slice B X.items.length cb]) R9a.out Hfu.out Hsz.out) ?_)
    refine (PW.out _ _ _ KN3.out).mono ?_
    rintro e w3 ⟨rfl, b3⟩
    have F6 := Lib.hid (E6.out.below b3 E6.out.inHeap)
    have F8 := Lib.hid (E8.out.below b3 E8.out.inHeap)
    have FX := Lib.hid (R9a.out.below b3 R9a.out.inHeap)
    have B4 := Lib.hid (B3.out.trans (b3.mono B3.out.size))
    have KN4 : Hid (Kns w3 (fun i => w1.heap.size < i) (.agg #[.slice A X.frags.length ca, .slice B X.items.length cb]) X) := Lib.hid (by obtain ⟨a1, a2, q, hf, hi⟩ := KN3.out; exact ⟨a1, a2, q, hf.below b3, hi.below b3⟩)
    clear b3
    go_wp2_with (first | (refine wpList_mload (cs := [.slice A X.frags.length ca, .slice B X.items.length cb]) (by rfl) (.tmp 9) (by rfl) (by rfl) (row_liesK (cs := [.slice A X.frags.length ca, .slice B X.items.length cb]) FX.out Hfu.out Hsz.out) ?_) | (refine wpList_rstore (cs := [.slice A X.frags.length ca, .slice B X.items.length cb]) (by rfl) (.tmp 6) (.tmp 34) (by rfl) (by rfl) (by rfl) F6.out Hsz.out rfl (two_one rfl rfl) ?_; rintro w9 hr9 hk9; have R9 := Lib.hid hr9; have B9 := Lib.hid (below_kept B4.out hk9 (fun i e => by omega)); have K9 := Lib.hid hk9))
    refine bodyPost_ret (v := .tuple #[.agg #[.slice A X.frags.length ca, .slice B X.items.length cb], .int .i64 0]) ?_ rfl ⟨⟨_, rfl, kns_new KN4.out HW1.out K9.out⟩, B9.out⟩
    rw [results_cell_tmp (by rfl)]
    have hl := run_loadVar_row (P := Tryz.prog) _ w.heap.size 28 28 _ (0, 0) _ R9.out Tryz.underlying28 rfl Hsz.out
    simp [asAddr, hl, Result.andThen]
    try rfl
   ·rw [if_neg (fun h => hab h.2)] at hG
    rw [hG]
    rw [decide_eq_false hab] at hS hS2
    have hrr : (r != 0) = false := by rw [hr0]; rfl
    clear hG hr0 hab hbig hs hsl
    rw [Bool.not_false] at hS2
    generalize mk ab = AB at *
    generalize mk s = S at *
    go_enter Tryz.func92, Tryz.ntmps92
    go_wp2_with fail
    refine (OV.out _).mono ?_
    rintro e w1 ⟨p, rfl, h1, hp, b1⟩
    have HP : Hid (w.heap.size + 1 + 1 ≤ p) := Lib.hid (by simpa using hp)
    have A6 := Lib.hid (Q6.out.below b1 Q6.out.inHeap)
    have A8 := Lib.hid (Q8.out.below b1 Q8.out.inHeap)
    have D1 := Lib.hid h1
    have B1 := Lib.hid (G0.out.trans (b1.mono G0.out.size))
    clear h1 b1 hp
    go_wp2_with fail
    refine (RD.out _ _ D1.out).mono ?_
    rintro e w2 ⟨⟨v2, rfl, hkn⟩, -, g2⟩
    obtain ⟨u1, u2, rfl, hf, hi⟩ := hkn
    obtain ⟨A, ca, e1, -⟩ := hf.parts
    obtain ⟨B, cb, e2, -⟩ := hi.1.parts
    subst e1 e2
    have C6 := Lib.hid (A6.out.grown g2 (fun e => by have := HP.out; injection e with e; omega))
    have C8 := Lib.hid (A8.out.grown g2 (fun e => by have := HP.out; injection e with e; omega))
    have B2 := Lib.hid (gb_out B1.out g2 (by have := HP.out; omega))
    have HW1 : Hid (w.heap.size < w1.heap.size) := Lib.hid A6.out.inHeap
    have R9a := Lib.hid (Row.made w2 28 #[.slice A X.frags.length ca, .slice B X.items.length cb])
    have E6 := Lib.hid (C6.out.behindNew (.cells #[.slice A X.frags.length ca, .slice B X.items.length cb] 28))
    have E8 := Lib.hid (C8.out.behindNew (.cells #[.slice A X.frags.length ca, .slice B X.items.length cb] 28))
    have B3 := Lib.hid (B2.out.alloc B2.out.size (.cells #[.slice A X.frags.length ca, .slice B X.items.length cb] 28))
    have KN3 : Hid (Kns (w2.alloc (.cells #[.slice A X.frags.length ca, .slice B X.items.length cb] 28)) (fun i => w1.heap.size < i) (.agg #[.slice A X.frags.length ca, .slice B X.items.length cb]) X) := Lib.hid ⟨_, _, rfl, hf.below ((Below.refl _ _).alloc (Nat.le_refl _) _), hi.below ((Below.refl _ _).alloc (Nat.le_refl _) _)⟩
    clear g2 hf hi
    go_wp2_with (refine wpList_mload (cs := [.slice A X.frags.length ca, .slice B X.items.length cb]) (by rfl) (.tmp 9) (by rfl) (by rfl) (row_liesK (cs := [.slice A X.frags.length ca, .slice B X.items.length cb]) R9a.out Hfu.out Hsz.out) ?_)
    refine (PW.out _ _ _ KN3.out).mono ?_
    rintro e w3 ⟨rfl, b3⟩
    have F6 := Lib.hid (E6.out.below b3 E6.out.inHeap)
    have F8 := Lib.hid (E8.out.below b3 E8.out.inHeap)
    have FX := Lib.hid (R9a.out.below b3 R9a.out.inHeap)
    have B4 := Lib.hid (B3.out.trans (b3.mono B3.out.size))
    have KN4 : Hid (Kns w3 (fun i => w1.heap.size < i) (.agg #[.slice A X.frags.length ca, .slice B X.items.length cb]) X) := Lib.hid (by obtain ⟨a1, a2, q, hf, hi⟩ := KN3.out; exact ⟨a1, a2, q, hf.below b3, hi.below b3⟩)
    clear b3
    go_wp2_with (first | (refine wpList_mload (cs := [.slice none 0 0, .slice none 0 0]) (by rfl) (.tmp 8) (by rfl) (by rfl) (row_liesK (cs := [.slice none 0 0, .slice none 0 0]) F8.out Hfu.out Hsz.out) ?_) | (refine wpList_rstore (cs := [.slice none 0 0, .slice none 0 0]) (by rfl) (.tmp 6) (.tmp 33) (by rfl) (by rfl) (by rfl) F6.out Hsz.out rfl (two_one rfl rfl) ?_; rintro w9 hr9 hk9; have R9 := Lib.hid hr9; have B9 := Lib.hid (below_kept B4.out hk9 (fun i e => by omega)); have K9 := Lib.hid hk9))
    refine bodyPost_ret (v := .tuple #[.agg #[.slice none 0 0, .slice none 0 0], .int .i64 6]) ?_ rfl ⟨⟨_, rfl, ⟨_, _, rfl, ⟨[], rfl, Rws.none _ _ _, fun _ h => (by cases h)⟩, Rws.none _ _ _, fun _ h => (by cases h)⟩⟩, B9.out⟩
    rw [results_cell_tmp (by rfl)]
    have hl := run_loadVar_row (P := Tryz.prog) _ w.heap.size 28 28 _ (0, 0) _ R9.out Tryz.underlying28 rfl Hsz.out
    simp [asAddr, hl, Result.andThen]
    try rfl
  ·rw [if_neg (fun h => hr0 h.1)] at hG
   rw [hG]
   have hrr : (r != 0) = true := by simpa using hr0
   clear hG hr0 hbig hs hsl hS hS2
   generalize mk ab = AB at *
   generalize mk s = S at *
   go_enter Tryz.func92, Tryz.ntmps92
   go_wp2_with fail
   refine (OV.out _).mono ?_
   rintro e w1 ⟨p, rfl, h1, hp, b1⟩
   have HP : Hid (w.heap.size + 1 + 1 ≤ p) := Lib.hid (by simpa using hp)
   have A6 := Lib.hid (Q6.out.below b1 Q6.out.inHeap)
   have A8 := Lib.hid (Q8.out.below b1 Q8.out.inHeap)
   have D1 := Lib.hid h1
   have B1 := Lib.hid (G0.out.trans (b1.mono G0.out.size))
   clear h1 b1 hp
   go_wp2_with fail
   refine (RD.out _ _ D1.out).mono ?_
   rintro e w2 ⟨⟨v2, rfl, hkn⟩, -, g2⟩
   obtain ⟨u1, u2, rfl, hf, hi⟩ := hkn
   obtain ⟨A, ca, e1, -⟩ := hf.parts
   obtain ⟨B, cb, e2, -⟩ := hi.1.parts
   subst e1 e2
   have C6 := Lib.hid (A6.out.grown g2 (fun e => by have := HP.out; injection e with e; omega))
   have C8 := Lib.hid (A8.out.grown g2 (fun e => by have := HP.out; injection e with e; omega))
   have B2 := Lib.hid (gb_out B1.out g2 (by have := HP.out; omega))
   have HW1 : Hid (w.heap.size < w1.heap.size) := Lib.hid A6.out.inHeap
   have R9a := Lib.hid (Row.made w2 28 #[.slice A X.frags.length ca, .slice B X.items.length cb])
   have E6 := Lib.hid (C6.out.behindNew (.cells #[.slice A X.frags.length ca, .slice B X.items.length cb] 28))
   have E8 := Lib.hid (C8.out.behindNew (.cells #[.slice A X.frags.length ca, .slice B X.items.length cb] 28))
   have B3 := Lib.hid (B2.out.alloc B2.out.size (.cells #[.slice A X.frags.length ca, .slice B X.items.length cb] 28))
   have KN3 : Hid (Kns (w2.alloc (.cells #[.slice A X.frags.length ca, .slice B X.items.length cb] 28)) (fun i => w1.heap.size < i) (.agg #[.slice A X.frags.length ca, .slice B X.items.length cb]) X) := Lib.hid ⟨_, _, rfl, hf.below ((Below.refl _ _).alloc (Nat.le_refl _) _), hi.below ((Below.refl _ _).alloc (Nat.le_refl _) _)⟩
   clear g2 hf hi
   go_wp2_with (refine wpList_mload (cs := [.slice A X.frags.length ca, .slice B X.items.length cb]) (by rfl) (.tmp 9) (by rfl) (by rfl) (row_liesK (cs := [.slice A X.frags.length ca, .slice B X.items.length cb]) R9a.out Hfu.out Hsz.out) ?_)
   refine (PW.out _ _ _ KN3.out).mono ?_
   rintro e w3 ⟨rfl, b3⟩
   have F6 := Lib.hid (E6.out.below b3 E6.out.inHeap)
   have F8 := Lib.hid (E8.out.below b3 E8.out.inHeap)
   have FX := Lib.hid (R9a.out.below b3 R9a.out.inHeap)
   have B4 := Lib.hid (B3.out.trans (b3.mono B3.out.size))
   have KN4 : Hid (Kns w3 (fun i => w1.heap.size < i) (.agg #[.slice A X.frags.length ca, .slice B X.items.length cb]) X) := Lib.hid (by obtain ⟨a1, a2, q, hf, hi⟩ := KN3.out; exact ⟨a1, a2, q, hf.below b3, hi.below b3⟩)
   clear b3
   go_wp2_with (first | (refine wpList_mload (cs := [.slice none 0 0, .slice none 0 0]) (by rfl) (.tmp 8) (by rfl) (by rfl) (row_liesK (cs := [.slice none 0 0, .slice none 0 0]) F8.out Hfu.out Hsz.out) ?_) | (refine wpList_rstore (cs := [.slice none 0 0, .slice none 0 0]) (by rfl) (.tmp 6) (.tmp 33) (by rfl) (by rfl) (by rfl) F6.out Hsz.out rfl (two_one rfl rfl) ?_; rintro w9 hr9 hk9; have R9 := Lib.hid hr9; have B9 := Lib.hid (below_kept B4.out hk9 (fun i e => by omega)); have K9 := Lib.hid hk9))
   refine bodyPost_ret (v := .tuple #[.agg #[.slice none 0 0, .slice none 0 0], .int .i64 6]) ?_ rfl ⟨⟨_, rfl, ⟨_, _, rfl, ⟨[], rfl, Rws.none _ _ _, fun _ h => (by cases h)⟩, Rws.none _ _ _, fun _ h => (by cases h)⟩⟩, B9.out⟩
   rw [results_cell_tmp (by rfl)]
   have hl := run_loadVar_row (P := Tryz.prog) _ w.heap.size 28 28 _ (0, 0) _ R9.out Tryz.underlying28 rfl Hsz.out
   simp [asAddr, hl, Result.andThen]
   try rfl
theorem pck_GetKnow (V : VecOk) (VS : VersOk) (S : IsetOk) (FO : FilterOk) (s : List UInt8) (hs : s.length ≤ 140737488355328) (w : World) :
  Calls Tryz.prog 29 #[.string (mk s)] w fun e w' => (∃ v, e = .returned (.tuple #[v, .int .i64 (Pck.getKnow s).2]) ∧ Kns w' (NewIn w w') v (Pck.getKnow s).1) ∧ Below w.heap.size w w' := by
 have hz := knZero
 have Hsz : Hid ((Tryz.prog.info? 28).map (·.size) = some 2) := Lib.hid (by kernel_rfl)
 have Q6 := Lib.hid (Row.made w 28 #[.slice none 0 0, .slice none 0 0])
 have G0 : Hid (Below w.heap.size w (w.alloc (.cells #[.slice none 0 0, .slice none 0 0] 28))) := Lib.hid ((Below.refl _ _).alloc (Nat.le_refl _) _)
 have GT := Lib.hid (fun W => pck_get_know V VS S FO s hs W)
 generalize Pck.getKnow s = g at *
 obtain ⟨X, r⟩ := g
 clear hs
 generalize mk s = S at *
 dsimp only at GT ⊢
 go_enter Tryz.func29, Tryz.ntmps29
 go_wp2_with fail
 refine (GT.out _).mono ?_
 rintro e w1 ⟨⟨v, rfl, hkn⟩, b1⟩
 obtain ⟨u1, u2, rfl, hf, hi⟩ := hkn
 obtain ⟨A, ca, e1, -⟩ := hf.parts
 obtain ⟨B, cb, e2, -⟩ := hi.1.parts
 subst e1 e2
 have A6 := Lib.hid (Q6.out.below b1 Q6.out.inHeap)
 have B1 := Lib.hid (G0.out.trans (b1.mono G0.out.size))
 have KN1 : Hid (Kns w1 (fun i => (w.alloc (.cells #[.slice none 0 0, .slice none 0 0] 28)).heap.size ≤ i) (.agg #[.slice A X.frags.length ca, .slice B X.items.length cb]) X) := Lib.hid (by
  obtain ⟨rs, q1, q2, q3⟩ := hf
  exact ⟨_, _, rfl, ⟨rs, q1, q2.mono (fun i hi => hi.1), fun r hr => (q3 r hr).mono (fun i hi => hi.1)⟩, hi.1.mono (fun i hi => hi.1), hi.2⟩)
 clear b1 hf hi
 go_wp2_with (refine wpList_rstore (cs := [.slice A X.frags.length ca, .slice B X.items.length cb]) (by rfl) (.tmp 2) (.tmp 6) (by rfl) (by rfl) (by rfl) A6.out Hsz.out rfl (two_one rfl rfl) ?_; rintro w9 hr9 hk9; have R9 := Lib.hid hr9; have B9 := Lib.hid (below_kept B1.out hk9 (fun i e => by omega)); have K9 := Lib.hid hk9)
 refine bodyPost_ret (v := .tuple #[.agg #[.slice A X.frags.length ca, .slice B X.items.length cb], .int .i64 r]) ?_ rfl ⟨⟨_, rfl, kns_new2 KN1.out K9.out⟩, B9.out⟩
 rw [results_cell_tmp (by rfl)]
 have hl := run_loadVar_row (P := Tryz.prog) _ w.heap.size 28 28 _ (0, 0) _ R9.out Tryz.underlying28 rfl Hsz.out
 simp [asAddr, hl, Result.andThen]
 try rfl
open Go.RowKit
theorem one_byte (W : World) (g : Nat) (hg : g < 256) :
  (convert 68 9 (.slice (some ⟨W.heap.size, 0, none⟩) 1 1)).run Tryz.prog (W.alloc (.cells #[.int .u8 (g : Int)] 5)) = .ok (.string ⟨#[UInt8.ofNat g]⟩) (W.alloc (.cells #[.int .u8 (g : Int)] 5)) := by
 refine run_convert_bytes_back (P := Tryz.prog) _ 68 9 5 ⟨W.heap.size, 0, none⟩ 1 [UInt8.ofNat g] Tryz.underlying68 Tryz.underlying5 Tryz.underlying9 (fun j hj => ?_)
 have hj0 : j = 0 := by simpa using hj
 subst hj0
 have := (Row.made W 5 #[.int .u8 (g : Int)]).at 0
 rw [show (⟨W.heap.size, 0, none⟩ : Addr).add 0 = ⟨W.heap.size, 0, none⟩ from rfl, this]
 simp only [List.getElem_cons_zero, Leb.toNat_ofNat g hg]
 rfl
def RefLoop (w : World) (l : List UInt8) (out : ByteArray) (m : Nat) (wr : World) : Prop :=
 ∃ f, m < 128 ^ (f + 1) ∧ f ≤ 8 ∧ out.data.toList ++ Leb.encF f m = l ∧ Below w.heap.size w wr
theorem ref_number (n : Nat) (w : World) (hn : n < 9223372036854775808) :
  Calls Tryz.prog 68 #[.int .i64 n] w fun e w' => e = .returned (.string ⟨(Leb.enc n).toArray⟩) ∧ Below w.heap.size w w' := by
 have h0 : RefLoop w (Leb.enc n) ⟨#[]⟩ n w := ⟨8, by simpa using hn, by omega, rfl, Below.refl _ _⟩
 clear hn
 go_enter Tryz.func68, Tryz.ntmps68
 go_wp2
 go_loopw [0, 3] (fun x o wr => ∃ (m : Nat) (out : ByteArray), x = .int .i64 m ∧ o = .string out ∧ m ≤ n ∧ RefLoop w (Leb.enc n) out m wr) (fun x _ _ => (intOf x).toNat)
 case atStart => exact ⟨n, ⟨#[]⟩, rfl, rfl, Nat.le_refl _, h0⟩
 case round =>
  obtain ⟨m, out, rfl, rfl, hm, f, hf, hf8, hout, hbel⟩ := hrel
  have hol : out.size ≤ 9 := by
   have h1 := (Leb.enc_len n).2
   rw [← hout, List.length_append, ← Lib.size_eq] at h1
   omega
  have hmm : (m : Int) ≤ 9223372036854775807 := by
   have : (128 : Nat) ^ (f + 1) ≤ 128 ^ 9 := Nat.pow_le_pow_right (by omega) (by omega)
   have h9 : (128 : Nat) ^ 9 = 9223372036854775808 := by decide
   omega
  have Hf := Lib.hid hf
  have Hout := Lib.hid hout
  clear hf hout
  by_cases hbig : 127 < m
  ·obtain ⟨g, hg⟩ : ∃ g : Nat, g = m % 128 + 128 := ⟨_, rfl⟩
   have hg1 : g < 256 := by omega
   have hgi : (m : Int) % 128 + 128 = (g : Int) := by omega
   have hconv := one_byte wr g hg1
   have Hg := Lib.hid hg
   clear hg
   have hnew : RefLoop w (Leb.enc n) (out ++ ⟨#[UInt8.ofNat g]⟩) (m / 128) (wr.alloc (.cells #[.int .u8 (g : Int)] 5)) := by
    have h1 := Hf.out
    have h2 := Hout.out
    cases f with
    | zero => simp at h1; omega
    | succ f =>
     refine ⟨f, ?_, by omega, ?_, hbel.alloc hbel.size _⟩
     ·rw [Nat.div_lt_iff_lt_mul (by omega), ← Nat.pow_succ]; exact h1
     ·rw [← h2, Leb.encF, if_neg (by omega), Hg.out]; simp [ByteArray.data_append]
   have Hnew := Lib.hid hnew
   clear hnew
   go_wp2
   go_roundw
   case rel => exact ⟨m / 128, _, by simp, rfl, by omega, Hnew.out⟩
   case measure => simp [intOf]; omega
  ·have hconv := one_byte wr m (by omega)
   have hfin : Hid ((out ++ ⟨#[UInt8.ofNat m]⟩ : ByteArray) = ⟨(Leb.enc n).toArray⟩) := by
    have h2 := Hout.out
    have he : Leb.encF f m = [UInt8.ofNat m] := by
     cases f with
     | zero => rfl
     | succ f => rw [Leb.encF, if_pos (by omega)]
    rw [he] at h2
    refine bytes_ext ?_
    rw [← h2]; simp [ByteArray.data_append]
   go_wp2
   go_ret
   refine ⟨?_, hbel.alloc hbel.size _⟩
   rw [← hfin.out]; rfl
theorem ref_text (s : ByteArray) (w : World) (hs : s.size ≤ 281474976710656) :
  Calls Tryz.prog 69 #[.string s] w fun e w' => e = .returned (.string ⟨(Leb.enc s.size ++ s.data.toList).toArray⟩) ∧ Below w.heap.size w w' := by
 have hl := (Leb.enc_len s.size).2
 have hz : (⟨(Leb.enc s.size).toArray⟩ : ByteArray).size ≤ 9 := by rw [mk_size]; exact hl
 have hfin : Hid ((⟨(Leb.enc s.size).toArray⟩ ++ s : ByteArray) = ⟨(Leb.enc s.size ++ s.data.toList).toArray⟩) := bytes_ext (by simp [ByteArray.data_append])
 have hnum : Hid (∀ W, Calls Tryz.prog 68 #[.int .i64 s.size] W fun e w' => e = .returned (.string ⟨(Leb.enc s.size).toArray⟩) ∧ Below W.heap.size W w') := fun W => ref_number s.size W (by omega)
 generalize (⟨(Leb.enc s.size).toArray⟩ : ByteArray) = t at *
 go_enter Tryz.func69, Tryz.ntmps69
 go_wp2_with (go_at_call 68; refine (hnum.out _).mono ?_; rintro e w' ⟨rfl, hb⟩)
 go_ret
 refine ⟨?_, hb⟩
 rw [← hfin.out]; rfl
open Go.RowKit Go.Sort
theorem ref_num (n : Int) (hn : Ver.I64 n) (w : World) :
  Calls Tryz.prog 68 #[.int .i64 n] w fun e w' => e = .returned (.string (mk (Pck.numR n))) ∧ Below w.heap.size w w' := by
 by_cases h0 : 0 ≤ n
 ·have := ref_number n.toNat w (by have := hn.2; omega)
  rw [Int.toNat_of_nonneg h0] at this
  unfold Pck.numR
  rw [if_pos h0]
  exact this
 ·have hE : Hid (mk (Pck.numR n) = ⟨#[UInt8.ofNat (n % 256).toNat]⟩) := Lib.hid (by unfold Pck.numR; rw [if_neg h0]; rfl)
  obtain ⟨m, hm⟩ : ∃ m : Nat, m = (n % 256).toNat := ⟨_, rfl⟩
  have hmi : n % 256 = (m : Int) := by omega
  have hm2 : m < 256 := by omega
  have hd : decide ((127 : Int) < n) = false := decide_eq_false (by omega)
  have hd2 : ¬ (127 : Int) < n := by omega
  have hwr : IntKind.u8.wrap n = (m : Int) := by rw [← hmi]; rfl
  have hconv := one_byte w m hm2
  rw [hE.out, ← hm]
  have hb := Lib.hid ((Below.refl w.heap.size w).alloc (Nat.le_refl _) (.cells #[.int .u8 (m : Int)] 5))
  have hfin : Hid ((⟨#[]⟩ ++ ⟨#[UInt8.ofNat m]⟩ : ByteArray) = ⟨#[UInt8.ofNat m]⟩) := Lib.hid (bytes_ext (by simp [ByteArray.data_append]))
  clear hn h0 hm hm2 hE
  go_enter Tryz.func68, Tryz.ntmps68
  go_wp2
  refine wp_loop_rounds 1 ?_
  rw [rounds_succ]
  go_wp2
  go_ret
  exact ⟨by first | rfl | (rw [← hfin.out]; rfl), hb.out⟩
theorem ref_txt (t : List UInt8) (ht : t.length ≤ 281474976710656) (w : World) :
  Calls Tryz.prog 69 #[.string (mk t)] w fun e w' => e = .returned (.string (mk (Pck.txt t))) ∧ Below w.heap.size w w' := by
 have := ref_text (mk t) w (by rw [mk_len]; exact ht)
 rw [mk_len, mk_data] at this
 exact this
theorem ref_pver (v : Ver.V) (hv : Ver.Bd v) (w : World) :
  Calls Tryz.prog 91 #[verA v] w fun e w' => e = .returned (.string (mk (Pck.verR v))) ∧ Below w.heap.size w w' := by
 have mixed : Tryz.prog.follows .mixedOrders = true := by kernel_rfl
 have N1 := Lib.hid (fun W => ref_num v.by_ hv.1 W)
 have N2 := Lib.hid (fun W => ref_num v.n hv.2 W)
 have hfin : Hid (mk (Pck.numR v.by_) ++ mk (Pck.numR v.n) = mk (Pck.verR v)) := Lib.hid (mk_append _ _)
 have h1 := Pck.numR_len v.by_
 have h2 := Pck.numR_len v.n
 rw [← mk_len] at h1 h2
 rw [← hfin.out]
 clear hfin hv
 obtain ⟨a, b⟩ := v
 dsimp only [verA] at *
 generalize mk (Pck.numR a) = x at *
 generalize mk (Pck.numR b) = y at *
 have n1 : ¬ 9223372036854775807 < x.size + y.size := by omega
 have hr := Row.made w 51 #[.int .i64 a, .int .i64 b]
 have XC := Lib.hid (fun (W : World) (h : InB (w.alloc (.cells #[.int .i64 a, .int .i64 b] 51)) W) => (⟨(hr.below h.below hr.inHeap).at 0, (hr.below h.below hr.inHeap).at 1⟩ : W.cell? ⟨w.heap.size, 0, none⟩ = some (.int .i64 a) ∧ W.cell? ⟨w.heap.size, 1, none⟩ = some (.int .i64 b)))
 have hb := Lib.hid ((Below.refl w.heap.size w).alloc (Nat.le_refl _) (.cells #[.int .i64 a, .int .i64 b] 51))
 clear hr h1 h2
 go_enter Tryz.func91, Tryz.ntmps91
 go_wp2_with fail
 refine wp_region_below (by assumption) (by kernel_rfl) ?_
 repeat ((first
  | (refine wq_skip (by rfl) ?_)
  | (refine wq_take (v := ?_) (by kernel_rfl) (by intro w hSw; obtain ⟨c0, c1⟩ := XC.out w hSw; go_simp; first | done | with_reducible rfl) ?_)
  | (refine wq_call (by kernel_rfl) ?hent (fun w hSw => inB_calls hSw (N1.out w)) ?_; (case hent => (intro w hSw; go_simp; done)))
  | (refine wq_call (by kernel_rfl) ?hent (fun w hSw => inB_calls hSw (N2.out w)) ?_; (case hent => (intro w hSw; go_simp; done)))); (try simp only [zz]))
 refine wq_nil ?_
 intro wq hq
 have HQ := Lib.hid (hb.out.trans (hq.below.mono hb.out.size))
 clear hq
 go_wp2_with fail
 go_ret
 exact ⟨rfl, HQ.out⟩
open Go.RowKit Go.Sort
theorem ref_pflt {w : World} {F : Nat → Prop} {v : Value} {l : List (Flt.Cl)} (h : Cls w F v l) (hl : l.length ≤ 100000) (hb : ∀ x ∈ l, Pck.SmC x) :
  Calls Tryz.prog 88 #[v] w fun e w' => e = .returned (.string (mk (Pck.lst Pck.clR l))) ∧ Below w.heap.size w w' := by
 have mixed : Tryz.prog.follows .mixedOrders = true := by kernel_rfl
 obtain ⟨A, cap, rfl, hcap⟩ := h.parts
 have H := Lib.hid h
 have hl' : (l.length : Int) ≤ 100000 := by omega
 have HB := Lib.hid hb
 have HL := Lib.hid hl
 have HLN := Lib.hid (fun n : Nat => Pck.acc_len (f := Pck.clR) (l := l) (m := 1027) (k := 100000) (fun y hy => Pck.clR_len y (hb y hy)) hl n)
 have NU : Hid (∀ W : World, Calls Tryz.prog 68 #[.int .i64 (l.length : Int)] W fun e w' => e = .returned (.string (mk (Pck.acc Pck.clR l 0))) ∧ Below W.heap.size W w') := Lib.hid (fun W => by have := ref_num (l.length : Int) ⟨by omega, by omega⟩ W; rwa [Pck.acc_zero Pck.clR l] at this)
 clear h hl hb hcap
 go_enter Tryz.func88, Tryz.ntmps88
 go_wp2_with fail
 refine (NU.out _).mono ?_
 rintro e w1 ⟨rfl, b1⟩
 have B1 := Lib.hid b1
 clear b1
 go_wp2_with fail
 go_loopw [3, 4] (fun s i wr => ∃ n : Nat, n ≤ l.length ∧ i = .int .i64 (n : Int) ∧ s = .string (mk (Pck.acc Pck.clR l n)) ∧ Below w.heap.size w wr) (fun _ i _ => l.length - (intOf i).toNat)
 case atStart => exact ⟨0, Nat.zero_le _, rfl, rfl, B1.out⟩
 case round =>
  obtain ⟨n, hn, rfl, rfl, hbel⟩ := hrel
  by_cases hlt : n < l.length
  ·obtain ⟨be, oe, cap1, e, -, -, hb⟩ := H.out.block (by omega)
   injection e with e1 e2 e3
   subst e1 e3
   clear e2 hb
   obtain ⟨x, hx⟩ : ∃ x, l[n]? = some x := ⟨_, List.getElem?_eq_getElem hlt⟩
   have hxb := HB.out x (List.mem_of_getElem? hx)
   have hnn0 : (0 : Int) ≤ (n : Int) := by omega
   have hnn1 : (n : Int) < (l.length : Int) := by omega
   have hlen1 : (Pck.acc Pck.clR l n).length ≤ 9 + 100000 * (1027 + 9) := HLN.out n
   have hnext : Hid (mk (Pck.acc Pck.clR l n) ++ mk (Pck.txt (Pck.clR x)) = mk (Pck.acc Pck.clR l (n + 1))) := Lib.hid (by rw [mk_append, Pck.acc_next hx])
   have hxl : (Pck.clR x).length ≤ 1027 := Pck.clR_len x hxb
   have htl := Pck.txt_len (Pck.clR x)
   rw [← mk_len] at hlen1 htl
   have TX := Lib.hid (fun W => ref_txt (Pck.clR x) (by omega) W)
   have XC := Lib.hid (fun (W : World) (hW : InB wr W) => (Cls.at (Rws.below (Rws.below H.out hbel) hW.below) hx : _))
   have HBL := Lib.hid hbel
   have Hlt := Lib.hid hlt
   clear hbel hlt hn
   generalize mk (Pck.acc Pck.clR l n) = acc at *
   have hpl := hxb.1
   have TP := Lib.hid (fun W => ref_txt x.pre (by omega) W)
   have NL := Lib.hid (fun W => ref_num x.lo ⟨hxb.2.2.1, hxb.2.2.2.1⟩ W)
   have NH := Lib.hid (fun W => ref_num x.hi ⟨hxb.2.2.2.2.1, hxb.2.2.2.2.2⟩ W)
   have hcat : mk (Pck.clR x) = mk (Pck.txt x.pre) ++ mk (Pck.numR x.lo) ++ mk (Pck.numR x.hi) := by rw [mk_append, mk_append, List.append_assoc]; rfl
   have s1 := Pck.txt_len x.pre
   have s2 := Pck.numR_len x.lo
   have s3 := Pck.numR_len x.hi
   rw [← mk_len] at s1 s2 s3
   rw [hcat] at TX
   clear hcat hxb hx
   generalize hz : mk (Pck.txt (Pck.clR x)) = tt at *
   clear hz
   obtain ⟨pp, x1, x2⟩ := x
   dsimp only at TP NL NH TX XC s1 s2 s3 hpl
   generalize mk (Pck.txt pp) = p1 at *
   generalize mk (Pck.numR x1) = b1 at *
   generalize mk (Pck.numR x2) = c1 at *
   generalize mk pp = q at *
   have n1 : ¬ 9223372036854775807 < acc.size + tt.size := by omega
   have n2 : ¬ 9223372036854775807 < p1.size + b1.size := by omega
   have n3 : ¬ 9223372036854775807 < p1.size + b1.size + c1.size := by omega
   clear hxl htl hlen1 s1 s2 s3 hpl
   go_wp2_with fail
   refine wp_region_below (by assumption) (by kernel_rfl) ?_
   repeat ((first
    | (refine wq_skip (by rfl) ?_)
    | (refine wq_take (v := ?_) (by kernel_rfl) (by intro w hSw; obtain ⟨c0, c1, c2⟩ := XC.out w hSw; go_simp; first | done | with_reducible rfl) ?_)
    | (refine wq_call (by kernel_rfl) ?hent (fun w hSw => inB_calls hSw (TP.out w)) ?_; (case hent => (intro w hSw; go_simp; done)))
    | (refine wq_call (by kernel_rfl) ?hent (fun w hSw => inB_calls hSw (NL.out w)) ?_; (case hent => (intro w hSw; go_simp; done)))
    | (refine wq_call (by kernel_rfl) ?hent (fun w hSw => inB_calls hSw (NH.out w)) ?_; (case hent => (intro w hSw; go_simp; done)))
    | (refine wq_call (by kernel_rfl) ?hent (fun w hSw => inB_calls hSw (TX.out w)) ?_; (case hent => (intro w hSw; go_simp; done)))); (try simp only [zz]))
   refine wq_nil ?_
   intro wq hq
   have B9 := Lib.hid (HBL.out.trans (hq.below.mono HBL.out.size))
   clear hq
   go_wp2_with fail
   go_roundw
   case rel => exact ⟨n + 1, by have := Hlt.out; omega, by go_num, congrArg Value.string hnext.out, B9.out⟩
   case measure => (have := Hlt.out; simp [intOf]; omega)
  ·obtain rfl : n = l.length := by omega
   have HBL := Lib.hid hbel
   have hE : Hid (mk (Pck.acc Pck.clR l l.length) = mk (Pck.lst Pck.clR l)) := Lib.hid (by rw [Pck.acc_all])
   clear hbel hlt hn
   generalize mk (Pck.acc Pck.clR l l.length) = acc at *
   go_wp2_with fail
   go_ret
   exact ⟨by rw [← hE.out]; rfl, HBL.out⟩
theorem ref_pclauses {w : World} {F : Nat → Prop} {v : Value} {l : List Flt.Cl} (h : Cls w F v l) (hl : l.length ≤ 1000000) (hb : ∀ c ∈ l, c.pre.length ≤ 100000) :
  Calls Tryz.prog 55 #[v] w fun e w' => e = .returned (.bool (decide (Pck.OkFlt l))) ∧ Below w.heap.size w w' := by
 obtain ⟨A, cap, rfl, hcap⟩ := h.parts
 have H := Lib.hid h
 have hl' : (l.length : Int) ≤ 1000000 := by omega
 have P1 := Lib.hid (fun (x : Flt.Cl) (hx : x ∈ l) (W : World) => ref_fright x W (hb x hx))
 clear h hb
 go_enter Tryz.func55, Tryz.ntmps55
 go_wp2_with fail
 go_loopw [3] (fun i wr => ∃ n : Nat, n ≤ l.length ∧ i = .int .i64 (n : Int) ∧ Hid (∀ x ∈ l.take n, Flt.Right x) ∧ Below w.heap.size w wr) (fun i _ => l.length - (intOf i).toNat)
 case atStart => exact ⟨0, Nat.zero_le _, rfl, Lib.hid (by simp), Below.refl _ _⟩
 case round =>
  obtain ⟨n, hn, rfl, hall, hbel⟩ := hrel
  by_cases hlt : n < l.length
  ·obtain ⟨b, o, cap1, e, -, -, hb⟩ := H.out.block (by omega)
   injection e with e1 e2 e3
   subst e1 e3
   clear e2
   obtain ⟨x, hx⟩ : ∃ x, l[n]? = some x := ⟨_, List.getElem?_eq_getElem hlt⟩
   obtain ⟨d0, d1, d2⟩ := Cls.at (Rws.below H.out hbel) hx
   have hn0 : (0 : Int) ≤ (n : Int) := by omega
   have hn1 : (n : Int) < (l.length : Int) := by omega
   have PX := P1.out x (List.mem_of_getElem? hx) wr
   have HBL := Lib.hid hbel
   have Hlt := Lib.hid hlt
   clear hb hlt hn hbel
   by_cases hr : Flt.Right x
   ·rw [decide_eq_true hr] at PX
    have hnext : Hid (∀ y ∈ l.take (n + 1), Flt.Right y) := Lib.hid (by
     obtain ⟨h1, e1⟩ := List.getElem?_eq_some_iff.1 hx
     intro y hy
     rw [List.take_succ_eq_append_getElem h1, e1] at hy
     rcases List.mem_append.1 hy with hy | hy
     ·exact hall.out y hy
     ·rw [List.mem_singleton.1 hy]; exact hr)
    replace PX := Lib.hid PX
    clear hx hr hall
    obtain ⟨p, x1, x2⟩ := x
    dsimp only at PX d0 d1 d2
    generalize mk p = q at *
    go_wp2_with fail
    refine (PX.out).mono ?_
    rintro e w1 ⟨rfl, hb1⟩
    have HB1 := Lib.hid (HBL.out.trans (hb1.mono HBL.out.size))
    clear hb1
    go_wp2_with fail
    go_roundw
    case rel => exact ⟨n + 1, by have := Hlt.out; omega, by go_num, hnext, HB1.out⟩
    case measure => (have := Hlt.out; simp [intOf]; omega)
   ·rw [decide_eq_false hr] at PX
    have hno : Hid (decide (Pck.OkFlt l) = false) := Lib.hid (decide_eq_false (fun h => hr (h.2 x (List.mem_of_getElem? hx))))
    replace PX := Lib.hid PX
    clear hx hr hall
    obtain ⟨p, x1, x2⟩ := x
    dsimp only at PX d0 d1 d2
    generalize mk p = q at *
    go_wp2_with fail
    refine (PX.out).mono ?_
    rintro e w1 ⟨rfl, hb1⟩
    have HB1 := Lib.hid (HBL.out.trans (hb1.mono HBL.out.size))
    clear hb1
    go_wp2_with fail
    go_ret
    exact ⟨by rw [hno.out]; rfl, HB1.out⟩
  ·obtain rfl : n = l.length := by omega
   have hyes : Hid (decide ((l.length : Int) ≤ 64) = decide (Pck.OkFlt l)) := Lib.hid (by have h1 := hall.out; rw [List.take_length] at h1; rw [decide_eq_decide]; exact ⟨fun h => ⟨by omega, h1⟩, fun h => by have := h.1; omega⟩)
   have HBL := Lib.hid hbel
   clear hall hbel hn hlt
   go_wp2_with fail
   go_ret
   exact ⟨by rw [← hyes.out]; rfl, HBL.out⟩
end Go.Proofs.YtpafpegcodempaaGreat
