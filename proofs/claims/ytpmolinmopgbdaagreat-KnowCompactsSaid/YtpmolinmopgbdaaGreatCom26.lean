import Derived.Test.YtpmolinmopgbdaaGreatCom17
import Derived.Test.YtpmolinmopgbdaaGreatCom25
import Derived.Test.YtpmolinmopgbdaaGreatCom5
import Derived.Deep.QuietTactic
set_option maxRecDepth 100000
set_option linter.unusedVariables false
set_option linter.unusedSimpArgs false
set_option maxHeartbeats 12800000
namespace Go.Proofs.YtpmolinmopgbdaaGreat
open Go.RowKit
theorem ref_fequal {w : World} {F G : Nat → Prop} {u v : Value} {f g : List Flt.Cl} (hf : Cls w F u f) (hg : Cls w G v g) (lf : f.length ≤ 100000000) (lg : g.length ≤ 100000000) :
  Calls Tryz.prog 31 #[u, v] w fun e w' => e = .returned (.bool (decide (f = g))) ∧ Below w.heap.size w w' := by
 obtain ⟨A, ca, rfl, hca⟩ := hf.parts
 obtain ⟨B, cb, rfl, hcb⟩ := hg.parts
 have HF := Lib.hid hf
 have HG := Lib.hid hg
 have la' : (f.length : Int) ≤ 100000000 := by omega
 have lb' : (g.length : Int) ≤ 100000000 := by omega
 clear hf hg
 by_cases hlen : f.length = g.length
 ·rw [← hlen]
  rw [← hlen] at HG
  have Hlen := Lib.hid hlen
  clear hlen
  go_enter Tryz.func31, Tryz.ntmps31
  go_wp2_with fail
  go_loopw [5] (fun i wr => ∃ n : Nat, n ≤ f.length ∧ i = .int .i64 (n : Int) ∧ Hid (f.take n = g.take n) ∧ Below w.heap.size w wr) (fun i _ => f.length - (intOf i).toNat)
  case atStart => exact ⟨0, Nat.zero_le _, rfl, Lib.hid (by rw [List.take_zero, List.take_zero]), Below.refl _ _⟩
  case round =>
   obtain ⟨n, hn, rfl, hsame, hbel⟩ := hrel
   by_cases hlt : n < f.length
   ·obtain ⟨b1, o1, cap1, e, -, -, hb1⟩ := HF.out.block (by omega)
    injection e with e1 e2 e3
    subst e1 e3
    obtain ⟨b2, o2, cap2, e, -, -, hb2⟩ := HG.out.block (by have := Hlen.out; omega)
    injection e with e1 e2 e3
    subst e1 e3
    clear e2
    obtain ⟨x, hx⟩ : ∃ x, f[n]? = some x := ⟨_, List.getElem?_eq_getElem hlt⟩
    obtain ⟨y, hy⟩ : ∃ y, g[n]? = some y := ⟨_, List.getElem?_eq_getElem (show n < g.length by have := Hlen.out; omega)⟩
    obtain ⟨c0, c1, c2⟩ := Cls.at (HF.out.below hbel) hx
    obtain ⟨d0, d1, d2⟩ := Cls.at (HG.out.below hbel) hy
    have hn0 : (0 : Int) ≤ (n : Int) := by omega
    have hn1 : (n : Int) < (f.length : Int) := by omega
    have Hbel := Lib.hid hbel
    clear hbel
    have es := str_same x.pre y.pre
    by_cases hxy : x = y
    ·subst hxy
     have hnext : Hid (f.take (n + 1) = g.take (n + 1)) := Lib.hid (by
      obtain ⟨h1, e1⟩ := List.getElem?_eq_some_iff.1 hx
      obtain ⟨h2, e2⟩ := List.getElem?_eq_some_iff.1 hy
      rw [List.take_succ_eq_append_getElem h1, List.take_succ_eq_append_getElem h2, e1, e2, hsame.out])
     obtain ⟨xp, x1, x2⟩ := x
     rw [decide_eq_true (rfl : xp = xp)] at es
     simp only at c0 c1 c2 d0 d1 d2 es
     clear hx hy hsame
     generalize mk xp = xs at *
     go_wp2_with fail
     go_quiet (fail)
     go_wp2_with fail
     refine ⟨⟨n + 1, by omega, rfl, hnext, Hbel.out.trans ((below_drews' wr nq).mono Hbel.out.size)⟩, ?_⟩
     show f.length - ((n : Int) + 1).toNat < f.length - (n : Int).toNat
     omega
    ·have hne : Hid (¬ f = g) := Lib.hid (fun e => hxy (by rw [e, hy] at hx; injection hx with hx; exact hx.symm))
     obtain ⟨xp, x1, x2⟩ := x
     obtain ⟨yp, y1, y2⟩ := y
     have hxy' : xp = yp → x1 = y1 → ¬ x2 = y2 := fun h k l => hxy (by rw [h, k, l])
     simp only at c0 c1 c2 d0 d1 d2 es
     clear hx hy hsame hxy
     by_cases h0 : xp = yp
     ·have hxy2 := hxy' h0
      subst h0
      rw [decide_eq_true (rfl : xp = xp)] at es
      clear hxy'
      generalize mk xp = xs at *
      by_cases h1 : x1 = y1
      ·have h2 := hxy2 h1
       subst h1
       clear hxy2
       go_wp2_with fail
       go_quiet (fail)
       go_wp2_with fail
       go_ret
       exact ⟨by rw [decide_eq_false hne.out]; rfl, Hbel.out.trans ((below_drews' wr nq).mono Hbel.out.size)⟩
      ·clear hxy2
       go_wp2_with fail
       go_quiet (fail)
       go_wp2_with fail
       go_ret
       exact ⟨by rw [decide_eq_false hne.out]; rfl, Hbel.out.trans ((below_drews' wr nq).mono Hbel.out.size)⟩
     ·rw [decide_eq_false h0] at es
      clear hxy' h0
      generalize mk xp = xs at *
      generalize mk yp = ys at *
      go_wp2_with fail
      go_quiet (fail)
      go_wp2_with fail
      go_ret
      exact ⟨by rw [decide_eq_false hne.out]; rfl, Hbel.out.trans ((below_drews' wr nq).mono Hbel.out.size)⟩
   ·obtain rfl : n = f.length := by omega
    have hab : Hid (f = g) := Lib.hid (by
     have := hsame.out
     rw [List.take_length, Hlen.out, List.take_length] at this
     exact this)
    have Hbel := Lib.hid hbel
    clear hbel hsame
    go_wp2_with fail
    go_ret
    exact ⟨by rw [decide_eq_true hab.out]; rfl, Hbel.out⟩
 ·have hlen' : ¬ ((f.length : Nat) : Int) = ((g.length : Nat) : Int) := by omega
  have hne : Hid (¬ f = g) := Lib.hid (fun e => hlen (by rw [e]))
  clear hlen
  go_enter Tryz.func31, Tryz.ntmps31
  go_wp2_with fail
  go_ret
  exact ⟨by rw [decide_eq_false hne.out]; rfl, Below.refl _ _⟩
end Go.Proofs.YtpmolinmopgbdaaGreat
namespace Go.Proofs.YtpmolinmopgbdaaGreat
open List renaming getElem_toArray → z1, getElem_cons_zero → z2, getElem_cons_succ → z3, setIfInBounds_toArray → z4, set_cons_zero → z5, set_cons_succ → z6
open Go.RowKit Go.Sort
structure FrForm (x : Know.Fr) : Prop where
 f : Flt.norm x.f = x.f
 some : x.f ≠ []
 v : Vec.Plain x.v
 has : Vec.ends x.v ≠ []
 no : Ver.sort x.no = x.no
theorem ref_kfrag {w : World} {F : Nat → Prop} {r : RFr} (hr : r.In w F) (br : FrBd r.x) (hx : FrForm r.x) :
  Calls Tryz.prog 41 #[frA r] w fun e w' => e = .returned (.bool true) ∧ Below w.heap.size w w' := by
 obtain ⟨W, hW⟩ : ∃ W, W = w.alloc (.cells (rfV r).toArray 42) := ⟨_, rfl⟩
 have hb : Below w.heap.size w W := by rw [hW]; exact (Below.refl _ _).alloc (Nat.le_refl _) _
 have FB : FrAt W w.heap.size 0 r := by rw [hW]; exact FrAt.made w hr.len _
 have hs : w.heap.size < W.heap.size := by rw [hW]; simp
 obtain ⟨A0, a0, e0, -⟩ := hr.no.parts
 obtain ⟨B0, b0, e2, -⟩ := hr.f.parts
 have XC := Lib.hid (fun (W' : World) (h : Below W.heap.size W W') => (⟨((FB.below h hs).f.trans (congrArg some e2)), ((FB.below h hs).no0.trans (congrArg some e0)), (FB.below h hs).v0⟩ : W'.cell? ⟨w.heap.size, 0, none⟩ = some (.slice B0 r.x.f.length b0) ∧ W'.cell? ⟨w.heap.size, 66, none⟩ = some (.slice A0 r.x.no.length a0) ∧ Lies 39 W' w.heap.size 1 (vecL r.x.v)))
 have HF := Lib.hid (fun (W' : World) (h : Below W.heap.size W W') => (e2 ▸ (Rws.below (Rws.below hr.f hb) h) : Cls W' F (.slice B0 r.x.f.length b0) r.x.f))
 have HV := Lib.hid (fun (W' : World) (h : Below W.heap.size W W') => (e0 ▸ (Rws.below (Rws.below hr.no hb) h) : Vrs W' F (.slice A0 r.x.no.length a0) r.x.no))
 have NO := Lib.hid (fun (W' : World) (h : Below W.heap.size W W') => ref_fnorm (HF.out W' h) br.f br.pre)
 have EQ := Lib.hid (fun (W' : World) (G : Nat → Prop) (u : Value) (h : Below W.heap.size W W') (hu : Cls W' G u r.x.f) => ref_fequal (HF.out W' h) hu (Nat.le_trans br.f (by decide)) (Nat.le_trans br.f (by decide)))
 have PL := Lib.hid (fun (W' : World) => ref_vplain W' hr.len)
 have EN := Lib.hid (fun (W' : World) => ref_vends W' hr.len)
 have OF := Lib.hid (fun (W' : World) (h : Below W.heap.size W W') => ref_iof (HV.out W' h) br.no)
 have SM := Lib.hid (fun (W' : World) (G : Nat → Prop) (u : Value) (h : Below W.heap.size W W') (hu : Vrs W' G u r.x.no) => ref_vsame (HV.out W' h) hu br.no br.no)
 rw [decide_eq_true hx.v] at PL
 rw [hx.f] at NO
 rw [hx.no] at OF
 rw [decide_eq_true rfl] at EQ SM
 have hl0 : decide (0 < r.x.f.length) = true := decide_eq_true (List.length_pos_iff.2 hx.some)
 have hl1 : decide (0 < (Vec.ends r.x.v).length) = true := decide_eq_true (List.length_pos_iff.2 hx.has)
 have HB := Lib.hid hb
 clear hr br hx hb FB hs e0 e2
 go_enter Tryz.func41, Tryz.ntmps41
 go_wp2_with fail
 rw [← hW]
 clear hW
 refine wp_region_held_drew (S := (fun w' : World => Below W.heap.size W w')) (by kernel_rfl) ((Below.refl _ _).drew) (fun hHeld => ?_)
 refine wpAnyH_td (i := 0) rfl ?_
 simp only [Act.put, z1, z2, z3, z4, z5, z6]
 refine wpAnyH_tk (i := 1) (v := ?_) rfl (Or.inl ⟨by rfl, (by intro w hSw; obtain ⟨d0, d1, -⟩ := XC.out _ hSw; go_simp; try with_reducible rfl)⟩) (by assumption) ?_
 simp only [Act.put, z1, z2, z3, z4, z5, z6]
 refine wpAnyH_td (i := 2) rfl ?_
 simp only [Act.put, z1, z2, z3, z4, z5, z6]
 refine wpAnyH_tk (i := 3) (v := ?_) rfl (Or.inl ⟨by rfl, (by intro w hSw; obtain ⟨d0, d1, -⟩ := XC.out _ hSw; go_simp; try with_reducible rfl)⟩) (by assumption) ?_
 simp only [Act.put, z1, z2, z3, z4, z5, z6]
 refine wpAnyH_ready (rs := [4]) (by kernel_rfl) (by simp) ?_
 refine AllReadyH.cons rfl (fun K hK => ?_) AllReadyH.nil
 go_simp
 go_at_call 79
 refine (NO.out _ hHeld).mono ?_
 rintro e w4 ⟨v4, rfl, h4⟩
 have H4 := Lib.hid h4
 have hhN := hHeld.trans (h4.2.mono hHeld.size)
 clear h4
 refine hK.out _ _ hhN (fun hHeld => ?_)
 clear hhN
 clear hK K
 refine wpAnyH_ready (rs := [5]) (by kernel_rfl) (by simp) ?_
 refine AllReadyH.cons rfl (fun K hK => ?_) AllReadyH.nil
 go_simp
 go_at_call 31
 refine (EQ.out _ _ _ hHeld (H4.out.rows (fun _ _ => rfl))).mono ?_
 rintro e w5 ⟨rfl, hbN⟩
 have hhN := hHeld.trans (hbN.mono hHeld.size)
 clear hbN
 refine hK.out _ _ hhN (fun hHeld => ?_)
 clear hhN
 clear hK K
 refine wpAnyH_td (i := 6) rfl ?_
 simp only [Act.put, z1, z2, z3, z4, z5, z6]
 refine wpAnyH_td (i := 7) rfl ?_
 simp only [Act.put, z1, z2, z3, z4, z5, z6]
 refine wpAnyH_tk (i := 8) (v := ?_) rfl (Or.inl ⟨by rfl, (by intro w hSw; obtain ⟨d0, d1, -⟩ := XC.out _ hSw; go_simp; try with_reducible rfl)⟩) (by assumption) ?_
 simp only [Act.put, z1, z2, z3, z4, z5, z6]
 refine wpAnyH_td (i := 9) rfl ?_
 simp only [Act.put, z1, z2, z3, z4, z5, z6]
 refine wpAnyH_td (i := 10) rfl ?_
 simp only [Act.put, z1, z2, z3, z4, z5, z6]
 refine wpAnyH_td (i := 11) rfl ?_
 simp only [Act.put, z1, z2, z3, z4, z5, z6]
 refine wpAnyH_td (i := 12) rfl ?_
 simp only [Act.put, z1, z2, z3, z4, z5, z6]
 refine wpAnyH_td (i := 13) rfl ?_
 simp only [Act.put, z1, z2, z3, z4, z5, z6]
 refine wpAnyH_tk (i := 14) (v := .agg (vecL r.x.v).toArray) rfl (Or.inl ⟨by rfl, (by intro w hSw; exact exec_mload (by rfl) (by rfl) ((XC.out _ hSw).2.2))⟩) (by assumption) ?_
 simp only [Act.put, z1, z2, z3, z4, z5, z6]
 refine wpAnyH_ready (rs := [15]) (by kernel_rfl) (by simp) ?_
 refine AllReadyH.cons rfl (fun K hK => ?_) AllReadyH.nil
 go_simp
 go_at_call 44
 refine (PL.out _).mono ?_
 rintro e w6 ⟨rfl, hbN⟩
 have hhN := hHeld.trans (hbN.mono hHeld.size)
 clear hbN
 refine hK.out _ _ hhN (fun hHeld => ?_)
 clear hhN
 clear hK K
 refine wpAnyH_td (i := 16) rfl ?_
 simp only [Act.put, z1, z2, z3, z4, z5, z6]
 refine wpAnyH_td (i := 17) rfl ?_
 simp only [Act.put, z1, z2, z3, z4, z5, z6]
 refine wpAnyH_td (i := 18) rfl ?_
 simp only [Act.put, z1, z2, z3, z4, z5, z6]
 refine wpAnyH_tk (i := 19) (v := .agg (vecL r.x.v).toArray) rfl (Or.inl ⟨by rfl, (by intro w hSw; exact exec_mload (by rfl) (by rfl) ((XC.out _ hSw).2.2))⟩) (by assumption) ?_
 simp only [Act.put, z1, z2, z3, z4, z5, z6]
 refine wpAnyH_ready (rs := [20]) (by kernel_rfl) (by simp) ?_
 refine AllReadyH.cons rfl (fun K hK => ?_) AllReadyH.nil
 go_simp
 go_at_call 26
 refine (EN.out _).mono ?_
 rintro e w7 ⟨v7, rfl, h7⟩
 obtain ⟨A7, c7, e7, -⟩ := (h7.rows (fun _ _ => rfl)).parts
 subst e7
 have hhN := hHeld.trans (h7.2.mono hHeld.size)
 clear h7
 refine hK.out _ _ hhN (fun hHeld => ?_)
 clear hhN
 clear hK K
 refine wpAnyH_td (i := 21) rfl ?_
 simp only [Act.put, z1, z2, z3, z4, z5, z6]
 refine wpAnyH_td (i := 22) rfl ?_
 simp only [Act.put, z1, z2, z3, z4, z5, z6]
 refine wpAnyH_td (i := 23) rfl ?_
 simp only [Act.put, z1, z2, z3, z4, z5, z6]
 refine wpAnyH_td (i := 24) rfl ?_
 simp only [Act.put, z1, z2, z3, z4, z5, z6]
 refine wpAnyH_td (i := 25) rfl ?_
 simp only [Act.put, z1, z2, z3, z4, z5, z6]
 refine wpAnyH_tk (i := 26) (v := ?_) rfl (Or.inl ⟨by rfl, (by intro w hSw; obtain ⟨d0, d1, -⟩ := XC.out _ hSw; go_simp; try with_reducible rfl)⟩) (by assumption) ?_
 simp only [Act.put, z1, z2, z3, z4, z5, z6]
 refine wpAnyH_td (i := 27) rfl ?_
 simp only [Act.put, z1, z2, z3, z4, z5, z6]
 refine wpAnyH_tk (i := 28) (v := ?_) rfl (Or.inl ⟨by rfl, (by intro w hSw; obtain ⟨d0, d1, -⟩ := XC.out _ hSw; go_simp; try with_reducible rfl)⟩) (by assumption) ?_
 simp only [Act.put, z1, z2, z3, z4, z5, z6]
 refine wpAnyH_ready (rs := [29]) (by kernel_rfl) (by simp) ?_
 refine AllReadyH.cons rfl (fun K hK => ?_) AllReadyH.nil
 go_simp
 go_at_call 80
 refine (OF.out _ hHeld).mono ?_
 rintro e w8 ⟨v8, rfl, h8⟩
 have H8 := Lib.hid h8
 have hhN := hHeld.trans (h8.2.mono hHeld.size)
 clear h8
 refine hK.out _ _ hhN (fun hHeld => ?_)
 clear hhN
 clear hK K
 refine wpAnyH_ready (rs := [30]) (by kernel_rfl) (by simp) ?_
 refine AllReadyH.cons rfl (fun K hK => ?_) AllReadyH.nil
 go_simp
 go_at_call 43
 refine (SM.out _ _ _ hHeld (H8.out.rows (fun _ _ => rfl))).mono ?_
 rintro e w9 ⟨rfl, hbN⟩
 have hhN := hHeld.trans (hbN.mono hHeld.size)
 clear hbN
 refine hK.out _ _ hhN (fun hHeld => ?_)
 clear hhN
 clear hK K
 refine wpAnyH_td (i := 31) rfl ?_
 simp only [Act.put, z1, z2, z3, z4, z5, z6]
 refine wpAnyH_td (i := 32) rfl ?_
 simp only [Act.put, z1, z2, z3, z4, z5, z6]
 refine wpAnyH_done (by kernel_rfl) ?_ _
 have HE := Lib.hid (HB.out.trans (hHeld.mono HB.out.size))
 clear hHeld
 go_wp2_with fail
 go_ret
 exact ⟨rfl, HE.out⟩
end Go.Proofs.YtpmolinmopgbdaaGreat
