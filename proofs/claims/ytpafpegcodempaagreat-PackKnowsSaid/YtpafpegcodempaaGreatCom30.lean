import Derived.Test.YtpafpegcodempaaGreatCom29
import Derived.Test.YtpafpegcodempaaGreatCom24
import Derived.Test.YtpafpegcodempaaGreatCom9
import Derived.Test.YtpafpegcodempaaGreatCom17
import Derived.Test.YtpafpegcodempaaGreatCom4
import Derived.Shelf.SlicesQ.Equal
import Derived.Shelf.SlicesQ.IndexFunc
import Derived.BigQuiet
import Derived.Shelf.SlSortCmp.NoneTotal
import Derived.Great.Walk
set_option maxRecDepth 100000
set_option linter.all false
set_option maxHeartbeats 12800000
namespace Go.Proofs.YtpafpegcodempaaGreat
open Go.RowKit
theorem flt_norm (Z : SizesOk) {w : World} {F : Nat → Prop} {v : Value} {f : List Flt.Cl} (h : Cls w F v f) (hl : f.length ≤ 100000) (bf : ∀ c ∈ f, Flt.Bd c) :
  Calls Tryz.prog 203 #[v] w fun e w' => ∃ v', e = .returned v' ∧ Cls w' (NewIn w w') v' (Flt.norm f) ∧ Below w.heap.size w w' := by
 obtain ⟨i0, hi0, hz0, hzz1, hz2⟩ := info_parts clauseInfo
 have SZ := Lib.hid (flt_sizer Z h hl bf)
 have PR := Lib.hid (fun (W : World) (hW : Below w.heap.size w W) => flt_prefixes (h.below hW) hl)
 have HPS := Lib.hid (Flt.prefixes_small (f := f) (fun c hc => (bf c hc).1))
 have hpl := Flt.prefixes_len f
 have hpl' : ((Flt.prefixes f).length : Int) ≤ 100000 := by omega
 have HPL : Hid ((Flt.prefixes f).length ≤ 100000) := Lib.hid (by omega)
 have PA := Lib.hid (fun (q : List UInt8) (hq : q.length ≤ 100000) (W : World) => path_ok.parent q W hq)
 have MI0 := Lib.hid (fun (p : List UInt8) (Y : List Sz.Rg) (hY : Y.length ≤ 202) (hYb : ∀ r ∈ Y, Bd r) (P R : Nat → Prop) (W : World) (x y : Value) (hx : Rgs W P x (Flt.lev f p)) (hy : Rgs W R y Y) => Z.minus hx hy (by have := Flt.lev_len f p; omega) (by omega) (fun r hr => by have := Flt.lev_bd f p r hr; unfold Bd; omega) hYb)
 clear h bf hpl
 go_enter Tryz.func203, Tryz.ntmps203
 go_wp2_with fail
 refine (SZ.out).mono ?_
 rintro e w1 ⟨B, bm, nn, m, rfl, hcB, hBl, hm, hv, hn, hb1⟩
 have TE1 : Hid (∀ W, Below w1.heap.size w1 W → ∀ p : List UInt8, p.length ≤ 100000 → Calls Tryz.prog 350 #[.string (mk p), .pointer (some ⟨B, 0, none⟩)] W fun e w' => ∃ v, e = .returned v ∧ Rgs w' (fun i => i ≠ bm) v (Flt.lev f p) ∧ Below W.heap.size W w') :=
  Lib.hid (fun W hW p hp => tell_any (L := Flt.lev f) (hm.below hW) ((hW.cell (p := ⟨B, 0, none⟩) hBl).trans hcB) (Nat.lt_of_lt_of_le hBl hW.size) (fun q v hq => (hv q v hq).below hW) hn p hp)
 have Hb1 := Lib.hid hb1
 clear hcB hBl hm hv hn hb1 SZ
 go_wp2_with fail
 refine (PR.out _ Hb1.out).mono ?_
 rintro e w2 ⟨pv, rfl, hpv, hb2⟩
 have HP := Lib.hid hpv
 have Hb2 := Lib.hid (Hb1.out.trans (hb2.mono Hb1.out.size))
 have TE : Hid (∀ W, Below w2.heap.size w2 W → ∀ p : List UInt8, p.length ≤ 100000 → Calls Tryz.prog 350 #[.string (mk p), .pointer (some ⟨B, 0, none⟩)] W fun e w' => ∃ v, e = .returned v ∧ Rgs w' (fun i => i ≠ bm) v (Flt.lev f p) ∧ Below W.heap.size W w') :=
  Lib.hid (fun W hW p hp => TE1.out W (hb2.trans (hW.mono hb2.size)) p hp)
 clear hpv hb2 PR TE1
 obtain ⟨PA0, pc, rfl, hpc⟩ := HP.out.parts
 go_wp2_with fail
 go_loopw [4, 6, 7, 9, 15] (fun out _ _ _ i wr => ∃ n : Nat, n ≤ (Flt.prefixes f).length ∧ i = .int .i64 (n : Int) ∧ RowsOwn 116 3 clV w2 (Flt.normTo f n) out wr) (fun _ _ _ _ i _ => (Flt.prefixes f).length - (intOf i).toNat)
 case atStart => exact ⟨0, Nat.zero_le _, rfl, RowsOwn.start _ _ _ w2⟩
 case round =>
  obtain ⟨n, hn, rfl, hown⟩ := hrel
  by_cases hlt : n < (Flt.prefixes f).length
  ·obtain ⟨pb, po, pc', e, -, -, hpb⟩ := HP.out.block (by omega)
   injection e with e1 e2 e3
   subst e1 e3
   clear e2
   obtain ⟨p, hp⟩ : ∃ p, (Flt.prefixes f)[n]? = some p := ⟨_, List.getElem?_eq_getElem hlt⟩
   have HPP := Lib.hid (HPS.out p (List.mem_of_getElem? hp))
   have hn0 : (0 : Int) ≤ (n : Int) := by omega
   have hn1 : (n : Int) < ((Flt.prefixes f).length : Int) := by omega
   have Hlt : Hid (n < (Flt.prefixes f).length) := Lib.hid hlt
   have d0 := Txs.at (HP.out.below hown.2) hp
   have hmore := Lib.hid (Flt.normTo_more hp)
   have hnl := Lib.hid (Flt.normTo_len f n (by have := HPL.out; omega))
   have Hown := Lib.hid hown
   clear hown hp hlt hn
   have ea := str_nil p
   have ia := str_empty p
   by_cases h0 : p = []
   ·rw [decide_eq_true h0] at ea ia
    have hpc2 := Flt.piece_top f
    have MI : Hid (∀ (P R : Nat → Prop) (W : World) (x y : Value), Rgs W P x (Flt.lev f p) → Rgs W R y [] → Calls Tryz.prog 290 #[x, y] W fun e w' => ∃ v', e = .returned v' ∧ Rgs w' (NewIn W w') v' (Flt.piece f p) ∧ Below W.heap.size W w') := Lib.hid (fun P R W x y hx hy => by
     have := MI0.out p [] (by simp) (fun r hr => by cases hr) P R W x y hx hy
     rw [h0] at this ⊢
     rwa [← hpc2] at this)
    have HB9 : Hid (Below w2.heap.size w2 wr) := Lib.hid Hown.out.2
    have HO9 := Hown
    have HY : Hid (Rgs wr (fun _ => False) (.slice none 0 0) []) := Lib.hid (Rws.none _ _ _)
    clear h0 hpc2 MI0
    go_wp2_with fail
    refine (TE.out _ HB9.out p HPP.out).mono ?_
    rintro e w3 ⟨xv, rfl, hx, hb3⟩
    have HX := Lib.hid hx
    have HY3 := Lib.hid (HY.out.below hb3)
    have HO3 := Lib.hid (HO9.out.below hb3)
    clear hx hb3
    go_wp2_with fail
    refine (MI.out _ _ _ _ _ HX.out HY3.out).mono ?_
    rintro e w5 ⟨qv, rfl, hq, hb5⟩
    have HQ := Lib.hid hq
    have Hown5 := Lib.hid (HO3.out.below hb5)
    have hob : Hid (∀ g, u4.ownBlock = some g → g < w3.heap.size ∨ w5.heap.size ≤ g) := Lib.hid (fun g hg => Or.inl (HO3.out.1.lt g hg).2)
    clear hq hb5
    have hql := Flt.piece_len f p
    obtain ⟨QA, qc, rfl, hqc⟩ := HQ.out.parts
    generalize Flt.piece f p = Q at *
    have hql' : (Q.length : Int) ≤ 202 := by omega
    go_wp2_with fail
    go_loopw [4, 9, 31] (fun out _ k wq => ∃ m : Nat, m ≤ Q.length ∧ k = .int .i64 (m : Int) ∧ RowsOwn 116 3 clV w2 (Flt.normTo f n ++ Flt.clauses p (Q.take m)) out wq ∧ Rgs wq (NewIn w3 w5) (.slice QA Q.length qc) Q ∧ Hid (∀ g, out.ownBlock = some g → g < w3.heap.size ∨ w5.heap.size ≤ g) ∧ w5.heap.size ≤ wq.heap.size) (fun _ _ k _ => Q.length - (intOf k).toNat)
    case atStart => exact ⟨0, Nat.zero_le _, rfl, by simpa [Flt.clauses] using Hown5.out, HQ.out, hob, Nat.le_refl _⟩
    case round =>
     obtain ⟨m, hm, rfl, hown, hq, hob, hz5⟩ := hrel
     by_cases hlm : m < Q.length
     ·obtain ⟨qb, qo, qc', e, -, hqF, hqb⟩ := hq.block (by omega)
      injection e with e1 e2 e3
      subst e1 e3
      clear e2
      obtain ⟨x, hx⟩ : ∃ x, Q[m]? = some x := ⟨_, List.getElem?_eq_getElem hlm⟩
      obtain ⟨c0, c1⟩ := Rgs.at hq hx
      have hst := Lib.hid (Flt.clauses_take (p := p) hx)
      have hcl := Flt.clauses_len p (Q.take m)
      have htl : (Q.take m).length ≤ 202 := by rw [List.length_take]; omega
      have hlen : Hid ((Flt.normTo f n ++ Flt.clauses p (Q.take m)).length ≤ 202000202) := Lib.hid (by rw [List.length_append]; have := hnl.out; omega)
      have hm0 : (0 : Int) ≤ (m : Int) := by omega
      have hm1 : (m : Int) < (Q.length : Int) := by omega
      obtain ⟨x1, x2⟩ := x
      simp only at c0 c1
      have hst : Hid (Flt.clauses p (Q.take (m + 1)) = Flt.clauses p (Q.take m) ++ [⟨p, x1, x2⟩]) := hst
      have hba : Below wr.heap.size wr (wr.alloc (.cells #[.int .i64 x1, .int .i64 x2] 114)) := (Below.refl _ _).alloc (Nat.le_refl _) _
      have hbb : Below wr.heap.size wr ((wr.alloc (.cells #[.int .i64 x1, .int .i64 x2] 114)).alloc (.cells #[.string (mk p), .int .i64 x1, .int .i64 x2] 116)) := hba.alloc hba.size _
      have HownD := Lib.hid (hown.below hba)
      have Hq2 := Lib.hid (hq.below hbb)
      have hown3 := HownD.out.1.alloc (.cells #[.string (mk p), .int .i64 x1, .int .i64 x2] 116)
      have hmade := cl_made (wr.alloc (.cells #[.int .i64 x1, .int .i64 x2] 114)) 116 p x1 x2
      have hz1 : (wr.alloc (.cells #[.int .i64 x1, .int .i64 x2] 114)).heap.size = wr.heap.size + 1 := by simp
      rw [hz1] at hmade
      have hsz3 : w2.heap.size ≤ ((wr.alloc (.cells #[.int .i64 x1, .int .i64 x2] 114)).alloc (.cells #[.string (mk p), .int .i64 x1, .int .i64 x2] 116)).heap.size := by have := HownD.out.2.size; simp at this ⊢; omega
      have Hob := hob
      have Hz5 : Hid (w5.heap.size ≤ wr.heap.size) := Lib.hid hz5
      clear hown hx hcl htl hq hba hbb hz1
      generalize hO : Flt.normTo f n ++ Flt.clauses p (Q.take m) = O at *
      have HO := Lib.hid hO
      clear hO
      go_wp2_with (at_builtin; refine wp_joins (f := clV) (k := 3) rfl _ _ 24 rfl w2.heap.size 116 i0 (.agg #[.string ⟨#[]⟩, .int .i64 0, .int .i64 0]) 32 Tryz.underlying24 hi0 hz0 hzz1 hz2 rfl (by decide) rfl rfl hown3 hmade (fun _ _ => rfl) (fun x _ => cl_one x) ?c3 ?c4 hsz3 ?_)
      case c3 => have := hlen.out; unfold maxLen; first | omega | (simp <;> omega)
      case c4 => have := hlen.out; first | omega | (simp <;> omega)
      intro v9 w9 own9 hg9 hn9
      have Hnew := Lib.hid (HownD.out.more (x := (⟨p, x1, x2⟩ : Flt.Cl)) (v' := v9) (by simpa [clV] using own9) hg9)
      have kk := Kept.ofGrown (F := fun i => u4.ownBlock = some i) hg9 (fun i e => e)
      have Hq9 : Hid (Rgs w9 (NewIn w3 w5) (.slice (some ⟨qb, qo, none⟩) Q.length qc) Q) := Lib.hid (Hq2.out.kept kk (fun i hi e => by have := Hob.out _ e; have := hi.1; have := hi.2; omega))
      have hob9 : Hid (∀ g, v9.ownBlock = some g → g < w3.heap.size ∨ w5.heap.size ≤ g) := Lib.hid (fun g hg => by
       rcases hn9 with h | h
       ·exact Hob.out g (h ▸ hg)
       ·have := h g hg; simp at this; exact Or.inr (by have := Hz5.out; omega))
      have hz9 : Hid (w5.heap.size ≤ w9.heap.size) := Lib.hid (by have := hg9.size; simp at this; have := Hz5.out; omega)
      clear own9 hg9 hn9 kk hown3 hmade hsz3
      go_wp2_with fail
      exact ⟨⟨m + 1, by omega, by go_num, by rw [hst.out, ← List.append_assoc, HO.out]; exact Hnew.out, Hq9.out, hob9, hz9.out⟩, by show Q.length - ((m : Int) + 1).toNat < Q.length - (m : Int).toNat; omega⟩
     ·obtain rfl : m = Q.length := by omega
      rw [List.take_length] at hown
      have Hown := Lib.hid hown
      clear hown hq hob
      go_wp2_with fail
      exact ⟨⟨n + 1, by have := Hlt.out; omega, by go_num, by rw [hmore.out]; exact Hown.out⟩, by have := Hlt.out; show (Flt.prefixes f).length - ((n : Int) + 1).toNat < (Flt.prefixes f).length - (n : Int).toNat; omega⟩
   ·rw [decide_eq_false h0] at ea ia
    have hpc2 := Flt.piece_under f h0
    have MI : Hid (∀ (P R : Nat → Prop) (W : World) (x y : Value), Rgs W P x (Flt.lev f p) → Rgs W R y (Flt.lev f (Pth.parent p)) → Calls Tryz.prog 290 #[x, y] W fun e w' => ∃ v', e = .returned v' ∧ Rgs w' (NewIn W w') v' (Flt.piece f p) ∧ Below W.heap.size W w') := Lib.hid (fun P R W x y hx hy => by
     have := MI0.out p _ (Flt.lev_len f (Pth.parent p)) (fun r hr => by have := Flt.lev_bd f (Pth.parent p) r hr; unfold Bd; omega) P R W x y hx hy
     rwa [← hpc2] at this)
    have PQ := Lib.hid (PA.out p HPP.out)
    have hpl2 : Hid ((Pth.parent p).length ≤ 100000) := Lib.hid (by have := Pth.parent_short h0; have := HPP.out; omega)
    clear h0 hpc2 MI0
    go_wp2_with fail
    refine (PQ.out _).mono ?_
    rintro e w6 ⟨rfl, hb6⟩
    have HO6 := Lib.hid (Hown.out.below hb6)
    clear hb6
    go_wp2_with fail
    refine (TE.out _ HO6.out.2 _ hpl2.out).mono ?_
    rintro e w7 ⟨yv, rfl, hy, hb7⟩
    have HY := Lib.hid hy
    have HO9 := Lib.hid (HO6.out.below hb7)
    have HB9 : Hid (Below w2.heap.size w2 w7) := Lib.hid HO9.out.2
    clear hy hb7
    go_wp2_with fail
    refine (TE.out _ HB9.out p HPP.out).mono ?_
    rintro e w3 ⟨xv, rfl, hx, hb3⟩
    have HX := Lib.hid hx
    have HY3 := Lib.hid (HY.out.below hb3)
    have HO3 := Lib.hid (HO9.out.below hb3)
    clear hx hb3
    go_wp2_with fail
    refine (MI.out _ _ _ _ _ HX.out HY3.out).mono ?_
    rintro e w5 ⟨qv, rfl, hq, hb5⟩
    have HQ := Lib.hid hq
    have Hown5 := Lib.hid (HO3.out.below hb5)
    have hob : Hid (∀ g, u4.ownBlock = some g → g < w3.heap.size ∨ w5.heap.size ≤ g) := Lib.hid (fun g hg => Or.inl (HO3.out.1.lt g hg).2)
    clear hq hb5
    have hql := Flt.piece_len f p
    obtain ⟨QA, qc, rfl, hqc⟩ := HQ.out.parts
    generalize Flt.piece f p = Q at *
    have hql' : (Q.length : Int) ≤ 202 := by omega
    go_wp2_with fail
    go_loopw [4, 9, 31] (fun out _ k wq => ∃ m : Nat, m ≤ Q.length ∧ k = .int .i64 (m : Int) ∧ RowsOwn 116 3 clV w2 (Flt.normTo f n ++ Flt.clauses p (Q.take m)) out wq ∧ Rgs wq (NewIn w3 w5) (.slice QA Q.length qc) Q ∧ Hid (∀ g, out.ownBlock = some g → g < w3.heap.size ∨ w5.heap.size ≤ g) ∧ w5.heap.size ≤ wq.heap.size) (fun _ _ k _ => Q.length - (intOf k).toNat)
    case atStart => exact ⟨0, Nat.zero_le _, rfl, by simpa [Flt.clauses] using Hown5.out, HQ.out, hob, Nat.le_refl _⟩
    case round =>
     obtain ⟨m, hm, rfl, hown, hq, hob, hz5⟩ := hrel
     by_cases hlm : m < Q.length
     ·obtain ⟨qb, qo, qc', e, -, hqF, hqb⟩ := hq.block (by omega)
      injection e with e1 e2 e3
      subst e1 e3
      clear e2
      obtain ⟨x, hx⟩ : ∃ x, Q[m]? = some x := ⟨_, List.getElem?_eq_getElem hlm⟩
      obtain ⟨c0, c1⟩ := Rgs.at hq hx
      have hst := Lib.hid (Flt.clauses_take (p := p) hx)
      have hcl := Flt.clauses_len p (Q.take m)
      have htl : (Q.take m).length ≤ 202 := by rw [List.length_take]; omega
      have hlen : Hid ((Flt.normTo f n ++ Flt.clauses p (Q.take m)).length ≤ 202000202) := Lib.hid (by rw [List.length_append]; have := hnl.out; omega)
      have hm0 : (0 : Int) ≤ (m : Int) := by omega
      have hm1 : (m : Int) < (Q.length : Int) := by omega
      obtain ⟨x1, x2⟩ := x
      simp only at c0 c1
      have hst : Hid (Flt.clauses p (Q.take (m + 1)) = Flt.clauses p (Q.take m) ++ [⟨p, x1, x2⟩]) := hst
      have hba : Below wr.heap.size wr (wr.alloc (.cells #[.int .i64 x1, .int .i64 x2] 114)) := (Below.refl _ _).alloc (Nat.le_refl _) _
      have hbb : Below wr.heap.size wr ((wr.alloc (.cells #[.int .i64 x1, .int .i64 x2] 114)).alloc (.cells #[.string (mk p), .int .i64 x1, .int .i64 x2] 116)) := hba.alloc hba.size _
      have HownD := Lib.hid (hown.below hba)
      have Hq2 := Lib.hid (hq.below hbb)
      have hown3 := HownD.out.1.alloc (.cells #[.string (mk p), .int .i64 x1, .int .i64 x2] 116)
      have hmade := cl_made (wr.alloc (.cells #[.int .i64 x1, .int .i64 x2] 114)) 116 p x1 x2
      have hz1 : (wr.alloc (.cells #[.int .i64 x1, .int .i64 x2] 114)).heap.size = wr.heap.size + 1 := by simp
      rw [hz1] at hmade
      have hsz3 : w2.heap.size ≤ ((wr.alloc (.cells #[.int .i64 x1, .int .i64 x2] 114)).alloc (.cells #[.string (mk p), .int .i64 x1, .int .i64 x2] 116)).heap.size := by have := HownD.out.2.size; simp at this ⊢; omega
      have Hob := hob
      have Hz5 : Hid (w5.heap.size ≤ wr.heap.size) := Lib.hid hz5
      clear hown hx hcl htl hq hba hbb hz1
      generalize hO : Flt.normTo f n ++ Flt.clauses p (Q.take m) = O at *
      have HO := Lib.hid hO
      clear hO
      go_wp2_with (at_builtin; refine wp_joins (f := clV) (k := 3) rfl _ _ 24 rfl w2.heap.size 116 i0 (.agg #[.string ⟨#[]⟩, .int .i64 0, .int .i64 0]) 32 Tryz.underlying24 hi0 hz0 hzz1 hz2 rfl (by decide) rfl rfl hown3 hmade (fun _ _ => rfl) (fun x _ => cl_one x) ?c3 ?c4 hsz3 ?_)
      case c3 => have := hlen.out; unfold maxLen; first | omega | (simp <;> omega)
      case c4 => have := hlen.out; first | omega | (simp <;> omega)
      intro v9 w9 own9 hg9 hn9
      have Hnew := Lib.hid (HownD.out.more (x := (⟨p, x1, x2⟩ : Flt.Cl)) (v' := v9) (by simpa [clV] using own9) hg9)
      have kk := Kept.ofGrown (F := fun i => u4.ownBlock = some i) hg9 (fun i e => e)
      have Hq9 : Hid (Rgs w9 (NewIn w3 w5) (.slice (some ⟨qb, qo, none⟩) Q.length qc) Q) := Lib.hid (Hq2.out.kept kk (fun i hi e => by have := Hob.out _ e; have := hi.1; have := hi.2; omega))
      have hob9 : Hid (∀ g, v9.ownBlock = some g → g < w3.heap.size ∨ w5.heap.size ≤ g) := Lib.hid (fun g hg => by
       rcases hn9 with h | h
       ·exact Hob.out g (h ▸ hg)
       ·have := h g hg; simp at this; exact Or.inr (by have := Hz5.out; omega))
      have hz9 : Hid (w5.heap.size ≤ w9.heap.size) := Lib.hid (by have := hg9.size; simp at this; have := Hz5.out; omega)
      clear own9 hg9 hn9 kk hown3 hmade hsz3
      go_wp2_with fail
      exact ⟨⟨m + 1, by omega, by go_num, by rw [hst.out, ← List.append_assoc, HO.out]; exact Hnew.out, Hq9.out, hob9, hz9.out⟩, by show Q.length - ((m : Int) + 1).toNat < Q.length - (m : Int).toNat; omega⟩
     ·obtain rfl : m = Q.length := by omega
      rw [List.take_length] at hown
      have Hown := Lib.hid hown
      clear hown hq hob
      go_wp2_with fail
      exact ⟨⟨n + 1, by have := Hlt.out; omega, by go_num, by rw [hmore.out]; exact Hown.out⟩, by have := Hlt.out; show (Flt.prefixes f).length - ((n : Int) + 1).toNat < (Flt.prefixes f).length - (n : Int).toNat; omega⟩
  ·obtain rfl : n = (Flt.prefixes f).length := by omega
   rw [Flt.normTo_all] at hown
   have Hrows := Lib.hid ((hown.rows (fun _ _ => rfl)).mono (G := NewIn w wr) (fun i hi => ⟨Nat.le_trans Hb2.out.size hi.1, hi.2⟩))
   have Hfin := Lib.hid (Hb2.out.trans (hown.2.mono Hb2.out.size))
   clear hown
   go_wp2_with fail
   go_ret
   exact ⟨_, rfl, Hrows.out, Hfin.out⟩
open Go.RowKit Go.Shelf Go.Lib
open Go.RowKit Go.Shelf Go.Lib Go.Sort
def cmpLo (x y : Sz.Rg) : Int := Lib.compareInt x.1 y.1
theorem lt_lo (x y : Sz.Rg) : ltOf cmpLo x y = decide (x.1 < y.1) := by
 unfold ltOf cmpLo Lib.compareInt
 by_cases h1 : x.1 < y.1
 ·simp [h1]
 ·by_cases h2 : y.1 < x.1 <;> simp [h1, h2]
theorem swo_lo : SWO (ltOf cmpLo) where
 irrefl x := by rw [lt_lo]; simp
 trans x y z h1 h2 := by rw [lt_lo] at *; simp at *; omega
 ntrans x y z h1 h2 := by rw [lt_lo] at *; simp at *; omega
theorem ris_cmp (x y : Sz.Rg) (W : World) : Calls Tryz.prog 428 #[.agg #[.int .i64 x.1, .int .i64 x.2], .agg #[.int .i64 y.1, .int .i64 y.2]] W fun e w' => e = .returned (.int .i64 (cmpLo x y)) ∧ ∃ q os', w' = grow (W.drewN q) os' := by
 have hcon := fun W' => AnyG.cmp_Compare_int Tryz.cmpInt x.1 y.1 W'
 change ∀ W', Calls Tryz.prog 202 _ _ _ at hcon
 unfold cmpLo
 generalize Lib.compareInt x.1 y.1 = r at hcon ⊢
 go_enter Tryz.func428, Tryz.ntmps428
 go_wp2_with (go_at_call 202; refine (hcon _).mono ?_; rintro e w' ⟨rfl, rfl⟩)
 go_ret
 exact ⟨rfl, 0, _, by rw [alloc_eq_grow, alloc_eq_grow, grow_grow]; rfl⟩
theorem ris_sort {w wr : World} {v : Value} {l : List Sz.Rg} (h : RowsOwn 114 2 rgV w l v wr) (hl : l.length ≤ 1000000) :
  Calls Tryz.prog 427 #[v, .func (.func 428) #[] #[]] wr fun e w' => e = .returned (.tuple #[]) ∧ ∃ S : List Sz.Rg, RowsOwn 114 2 rgV w S v w' ∧ S.Perm l ∧ ∀ (i j : Nat) (x y : Sz.Rg), i < j → S[i]? = some x → S[j]? = some y → x.1 ≤ y.1 := by
 rcases Nat.eq_zero_or_pos l.length with h0 | h0
 ·have hl0 : l = [] := List.eq_nil_of_length_eq_zero h0
  subst hl0
  obtain ⟨A, cap, e, -⟩ := (h.rows (fun _ _ => rfl)).parts
  rw [List.length_nil] at e
  subst e
  refine (AnyF.slices_SortFunc_none (P := Tryz.prog) (ρ := Tryz.sortRg_ren) { Tryz.sortRg with } A cap _ wr).mono ?_
  rintro e w' ⟨rfl, rfl⟩
  exact ⟨rfl, [], h, List.Perm.refl _, fun i j x y _ hx _ => by simp at hx⟩
 ·obtain ⟨g, cap, rfl, hg0, hgl⟩ := h.1.form (by omega)
  have eg : ∀ args w, (callFunc 428 args).run Tryz.prog w = .ok (.enter 428 args) w := enters_of Tryz.func428 (by kernel_rfl) rfl
  have hcon := AnyQ.slices_SortFunc Tryz.sortRg 2 Tryz.isAgg114 Tryz.sizeOf114 rgV rg_len rg_one cmpLo swo_lo 428 #[] g 0 cap l.toArray wr eg (fun _ _ _ _ x y => ris_cmp x y _) (own_holds rg_len (by decide) h.1) hgl (by simp; omega)
  refine hcon.mono ?_
  rintro e w' ⟨rfl, d, n, os, hp, hs, rfl⟩
  obtain ⟨hperm, hsz⟩ := perm_list hp
  refine ⟨rfl, d.toList, h.sorted rg_len (by decide) hsz, hperm, fun i j x y hij hx hy => ?_⟩
  rw [Array.getElem?_toList] at hx hy
  obtain ⟨hi, ex⟩ := Array.getElem?_eq_some_iff.1 hx
  obtain ⟨hj, ey⟩ := Array.getElem?_eq_some_iff.1 hy
  have hlt := hs i j (Nat.zero_le _) hij (by simpa [hsz] using hj)
  rw [lt_lo, getElem!_pos d i hi, getElem!_pos d j hj, ex, ey] at hlt
  have := of_decide_eq_false hlt
  omega
open Go.RowKit
theorem sz_rising {w : World} {F : Nat → Prop} {v : Value} {l : List Sz.Rg} (h : Rgs w F v l) (hl : l.length ≤ 1000000) :
  Calls Tryz.prog 394 #[v] w fun e w' => ∃ v' S, e = .returned v' ∧ RowsOwn 114 2 rgV w S v' w' ∧ Sz.Rising S ∧ S.length ≤ l.length ∧ ∀ n, Sz.holds S n = Sz.holds l n := by
 obtain ⟨A, cap, rfl, hcap⟩ := h.parts
 have H := Lib.hid h
 have hl' : (l.length : Int) ≤ 1000000 := by omega
 clear h
 go_enter Tryz.func394, Tryz.ntmps394
 go_wp2_with fail
 go_loopw [3, 8] (fun o i wr => ∃ n : Nat, n ≤ l.length ∧ i = .int .i64 (n : Int) ∧ RowsOwn 114 2 rgV w (Sz.clip (l.take n)) o wr) (fun _ i _ => l.length - (intOf i).toNat)
 case atStart => exact ⟨0, Nat.zero_le _, rfl, RowsOwn.start _ _ _ w⟩
 case round =>
  obtain ⟨n, hn, rfl, hown⟩ := hrel
  by_cases hlt : n < l.length
  ·obtain ⟨b, o, cap', e, -, -, hb⟩ := H.out.block (by omega)
   injection e with e1 e2 e3
   subst e1 e3
   obtain ⟨x, hx⟩ : ∃ x, l[n]? = some x := ⟨_, List.getElem?_eq_getElem hlt⟩
   obtain ⟨c0, c1⟩ := Rgs.at (H.out.below (Below.refl _ _)) hx
   have c0 : wr.cell? ⟨b, o + n * 2, none⟩ = some (.int .i64 x.1) := (hown.2.cell (p := ⟨b, o + n * 2, none⟩) hb).trans c0
   have c1 : wr.cell? ⟨b, o + n * 2 + 1, none⟩ = some (.int .i64 x.2) := (hown.2.cell (p := ⟨b, o + n * 2 + 1, none⟩) hb).trans c1
   have hst := Lib.hid (Sz.clip_take hx)
   have hcl := Sz.clip_len (l.take n)
   rw [List.length_take] at hcl
   have hn0 : (0 : Int) ≤ (n : Int) := by omega
   have hn1 : (n : Int) < (l.length : Int) := by omega
   clear hx
   obtain ⟨x1, x2⟩ := x
   simp only at c0 c1
   have hzr := hown.2.size
   have HA := Lib.hid (sz_add (hown.1.alloc (.cells #[.int .i64 x1, .int .i64 x2] 114)) (by simp; omega) (by omega) (max x1 0) (min x2 200))
   have hmore : Hid (∀ v' w', w'.ownsRow w.heap.size 114 2 v' (Sz.clip (l.take n) ++ ext (max x1 0) (min x2 200)).length ((Sz.clip (l.take n) ++ ext (max x1 0) (min x2 200)).flatMap rgV) → (wr.alloc (.cells #[.int .i64 x1, .int .i64 x2] 114)).grownBy w' u3.ownBlock → RowsOwn 114 2 rgV w (Sz.clip (l.take (n + 1))) v' w') := Lib.hid (by
    intro v' w' h1 h2
    rw [hst.out]
    exact ⟨h1, (hown.2.alloc hown.2.size _).grown h2 (by simp; omega) (fun k hk => (hown.1.lt k hk).1)⟩)
   clear hown hst
   go_wp2_with fail
   refine (HA.out).mono ?_
   rintro e w3 ⟨v3, rfl, h1, h2, -⟩
   have hnew := hmore.out v3 w3 h1 h2
   clear h1 h2
   go_wp2_with fail
   exact ⟨⟨n + 1, by omega, by go_num, hnew⟩, by show l.length - ((n : Int) + 1).toNat < l.length - (n : Int).toNat; omega⟩
  ·obtain rfl : n = l.length := by omega
   rw [List.take_length] at hown
   have hcl := Sz.clip_len l
   have HS := Lib.hid (ris_sort hown (by omega))
   have hfin : Hid (∀ S : List Sz.Rg, S.Perm (Sz.clip l) → (∀ (i j : Nat) (x y : Sz.Rg), i < j → S[i]? = some x → S[j]? = some y → x.1 ≤ y.1) → Sz.Rising S ∧ S.length ≤ l.length ∧ ∀ n, Sz.holds S n = Sz.holds l n) := Lib.hid (by
    intro S hp hu
    exact ⟨⟨fun x hx => Sz.clip_bd l x (hp.mem_iff.1 hx), hu⟩, by rw [hp.length_eq]; exact hcl, fun n => by rw [Sz.holds_perm hp, Sz.clip_holds]⟩)
   clear hown hcl
   go_wp2_with fail
   refine (HS.out).mono ?_
   rintro e w3 ⟨rfl, S, hown3, hp, hu⟩
   have Hown3 := Lib.hid hown3
   have Hf := Lib.hid (hfin.out S hp hu)
   clear hown3 hp hu hfin
   go_wp2_with fail
   go_ret
   exact ⟨u3, S, rfl, Hown3.out, Hf.out⟩
open Go.RowKit
theorem flat_at {l : List Sz.Rg} {m : Nat} {q : Sz.Rg} (h : l[m]? = some q) : (l.flatMap rgV)[m * 2]? = some (.int .i64 q.1) ∧ (l.flatMap rgV)[m * 2 + 1]? = some (.int .i64 q.2) :=
 ⟨rows_at (f := rgV) (k := 2) l (fun _ _ => rfl) m q h 0 _ rfl, rows_at (f := rgV) (k := 2) l (fun _ _ => rfl) m q h 1 _ rfl⟩
theorem flat_set (out : List Sz.Rg) (q : Sz.Rg) (u : Int) : ((out ++ [q]).flatMap rgV).set (out.length * 2 + 1) (.int .i64 u) = (out ++ [(q.1, u)]).flatMap rgV := by
 rw [List.flatMap_append, List.flatMap_append]
 have hl : (out.flatMap rgV).length = out.length * 2 := rows_len (f := rgV) (k := 2) out (fun _ _ => rfl)
 rw [List.set_append_right _ _ (by omega)]
 congr 1
 rw [hl, show out.length * 2 + 1 - out.length * 2 = 1 by omega]
 rfl
theorem RowsOwn.last {w wr : World} {out : List Sz.Rg} {q : Sz.Rg} {g cap : Nat} {T : Nat} (h : RowsOwn T 2 rgV w (out ++ [q]) (.slice (some ⟨g, 0, none⟩) (out ++ [q]).length cap) wr) (u : Int) :
  RowsOwn T 2 rgV w (out ++ [(q.1, u)]) (.slice (some ⟨g, 0, none⟩) (out ++ [q]).length cap) (wr.setCell ⟨g, out.length * 2 + 1, none⟩ (.int .i64 u)) := by
 have hg := h.1.lt g rfl
 have hs := h.1.stored (out.length * 2 + 1) (.int .i64 u)
 refine ⟨?_, h.2.grown hs.2 h.2.size (fun k hk => by injection hk with hk; omega)⟩
 have h1 := hs.1
 rw [flat_set] at h1
 rw [List.length_append, List.length_singleton] at h1 ⊢
 rw [List.length_append, List.length_singleton]
 exact h1
theorem put_cases {S out : List Sz.Rg} {n : Nat} {x : Sz.Rg} (h : Sz.Put S n out) (hS : Sz.Rising S) (hx : S[n]? = some x) :
  (out = [] ∧ Sz.Put S (n + 1) [x]) ∨ ∃ o q, out = o ++ [q] ∧ 0 ≤ q.1 ∧ q.1 ≤ q.2 ∧ q.2 ≤ 200 ∧ ((x.1 ≤ q.2 + 1 ∧ Sz.Put S (n + 1) (o ++ [(q.1, max q.2 x.2)])) ∨ (¬ x.1 ≤ q.2 + 1 ∧ Sz.Put S (n + 1) (o ++ [q] ++ [x]))) := by
 rcases List.eq_nil_or_concat out with rfl | ⟨o, q, rfl⟩
 ·exact Or.inl ⟨rfl, h.first hS hx⟩
 ·rw [List.concat_eq_append] at h ⊢
  right
  have hb := h.nm.bd q (by simp)
  refine ⟨o, q, rfl, hb.1, hb.2.1, hb.2.2, ?_⟩
  by_cases hq : x.1 ≤ q.2 + 1
  ·exact Or.inl ⟨hq, h.on hS hx hq⟩
  ·exact Or.inr ⟨hq, h.more hS hx hq⟩
theorem sz_norm {w : World} {F : Nat → Prop} {v : Value} {l : List Sz.Rg} (h : Rgs w F v l) (hl : l.length ≤ 1000000) :
  Calls Tryz.prog 359 #[v] w fun e w' => ∃ v', e = .returned v' ∧ RowsOwn 114 2 rgV w (Sz.norm l) v' w' := by
 obtain ⟨i0, hi0, hz0, hz1, hz2⟩ := info_parts rangeInfo
 have HR := Lib.hid (sz_rising h hl)
 clear h
 go_enter Tryz.func359, Tryz.ntmps359
 go_wp2_with fail
 refine (HR.out).mono ?_
 rintro e w1 ⟨sv, S, rfl, hown1, hris, hlen, hsame⟩
 obtain ⟨A, cap, rfl, hcap⟩ := (hown1.rows (fun _ _ => rfl)).parts
 have Hown1 := Lib.hid hown1
 have Hris := Lib.hid hris
 have Hsame := Lib.hid hsame
 have hl' : (S.length : Int) ≤ 1000000 := by omega
 clear hown1 hris hsame
 go_wp2_with fail
 go_loopw [3, 10] (fun o i wr => ∃ (n : Nat) (out : List Sz.Rg), n ≤ S.length ∧ i = .int .i64 (n : Int) ∧ RowsOwn 114 2 rgV w1 out o wr ∧ Hid (Sz.Put S n out)) (fun _ i _ => S.length - (intOf i).toNat)
 case atStart => exact ⟨0, [], Nat.zero_le _, rfl, RowsOwn.start _ _ _ w1, Lib.hid (Sz.Put.start S)⟩
 case round =>
  obtain ⟨n, out, hn, rfl, hown, hput⟩ := hrel
  by_cases hlt : n < S.length
  ·have HS := Hown1.out.rows (fun _ _ => rfl)
   obtain ⟨b, o, cap', e, -, -, hb⟩ := HS.block (by omega)
   injection e with e1 e2 e3
   subst e1 e3
   obtain ⟨x, hx⟩ : ∃ x, S[n]? = some x := ⟨_, List.getElem?_eq_getElem hlt⟩
   obtain ⟨c0, c1⟩ := Rgs.at HS hx
   have c0 : wr.cell? ⟨b, o + n * 2, none⟩ = some (.int .i64 x.1) := (hown.2.cell (p := ⟨b, o + n * 2, none⟩) hb).trans c0
   have c1 : wr.cell? ⟨b, o + n * 2 + 1, none⟩ = some (.int .i64 x.2) := (hown.2.cell (p := ⟨b, o + n * 2 + 1, none⟩) hb).trans c1
   have hxb := Hris.out.bd x (List.mem_of_getElem? hx)
   have hcase := put_cases hput.out Hris.out hx
   have hol := hput.out.len
   have hn0 : (0 : Int) ≤ (n : Int) := by omega
   have hn1 : (n : Int) < (S.length : Int) := by omega
   clear HS hx hput
   obtain ⟨x1, x2⟩ := x
   simp only at c0 c1 hxb hcase
   have hzr := hown.2.size
   have hbox := Row.made wr 114 #[.int .i64 x1, .int .i64 x2]
   have hownW : RowsOwn 114 2 rgV w1 out u3 (wr.alloc (.cells #[.int .i64 x1, .int .i64 x2] 114)) := hown.below ((Below.refl _ _).alloc (Nat.le_refl _) _)
   clear hown
   rcases hcase with ⟨rfl, hput⟩ | ⟨out, q, rfl, q1, q2, q3, hcase⟩
   ·have Hput := Lib.hid hput
    obtain ⟨A3, c3, e3, hc3⟩ := (hownW.rows (fun _ _ => rfl)).parts
    rw [List.length_nil] at e3
    subst e3
    have Hbox := Lib.hid hbox
    have Hown := Lib.hid hownW
    clear hput hownW hbox
    go_wp2_with fail
    generalize wr.alloc (.cells #[.int .i64 x1, .int .i64 x2] 114) = W at *
    generalize wr.heap.size = B at *
    go_quiet (fail)
    have Hbox2 := Lib.hid (Row.behindDraws Hbox.out nq)
    have Hown2 := Lib.hid (Hown.out.below (below_drews' _ nq))
    clear Hbox Hown
    generalize W.drewN nq = W2 at *
    have hx0 : W2.cell? ⟨B, 0, none⟩ = some (.int .i64 x1) := Hbox2.out.at 0
    have hx1 : W2.cell? ⟨B, 1, none⟩ = some (.int .i64 x2) := Hbox2.out.at 1
    have hown3 := Hown2.out.1.alloc (.cells #[.int .i64 x1, .int .i64 x2] 114)
    have hmade := rg_made W2 114 x1 x2
    have hsz3 : w1.heap.size ≤ (W2.alloc (.cells #[.int .i64 x1, .int .i64 x2] 114)).heap.size := by have := Hown2.out.2.size; simp; omega
    go_wp2_with (at_builtin; refine wp_joins (f := rgV) (k := 2) rfl _ _ 154 rfl w1.heap.size 114 i0 (.agg #[.int .i64 0, .int .i64 0]) 16 Tryz.underlying154 hi0 hz0 hz1 hz2 rfl (by decide) rfl rfl hown3 hmade (fun _ _ => rfl) (fun x _ => rg_one x) ?c3 ?c4 hsz3 ?_)
    case c3 => unfold maxLen; first | omega | (simp <;> omega)
    case c4 => first | omega | (simp <;> omega)
    intro v3 w3 h1 h2 _
    have hnew := Hown2.out.more (x := (x1, x2)) (v' := v3) (by simpa using h1) h2
    clear h1 h2 hown3 hmade
    go_wp2_with fail
    exact ⟨⟨n + 1, _, by omega, by go_num, hnew, Hput⟩, by show S.length - ((n : Int) + 1).toNat < S.length - (n : Int).toNat; omega⟩
   ·obtain ⟨g, c3, rfl, hg0, hgl⟩ := hownW.1.form (by rw [List.length_append, List.length_singleton]; omega)
    obtain ⟨qa, qb⟩ := q
    have hHi := hownW.1.cellAt (out.length * 2 + 1) (by rw [List.length_append, List.length_singleton]; omega)
    rw [(flat_at (m := out.length) (q := (qa, qb)) (by simp)).2] at hHi
    have hFz := hownW.1.frozenAt (out.length * 2 + 1)
    have hBx : (wr.alloc (.cells #[.int .i64 x1, .int .i64 x2] 114)).cell? ⟨wr.heap.size, 1, none⟩ = some (.int .i64 x2) := hbox.at 1
    have hBx0 : (wr.alloc (.cells #[.int .i64 x1, .int .i64 x2] 114)).cell? ⟨wr.heap.size, 0, none⟩ = some (.int .i64 x1) := hbox.at 0
    have Hbox := Lib.hid hbox
    have Hown := Lib.hid hownW
    simp only at q1 q2 q3 hcase hHi
    have hm0 : (0 : Int) ≤ (out.length : Int) := by omega
    have hol2 : out.length + 1 ≤ n := by rw [List.length_append, List.length_singleton] at hol; exact hol
    have hm1 : (out.length : Int) ≤ 1000000 := by omega
    clear hownW hbox hol
    rw [show (out ++ [(qa, qb)]).length = out.length + 1 by rw [List.length_append, List.length_singleton]]
    rcases hcase with ⟨hle, hput⟩ | ⟨hle, hput⟩
    ·have d1 : decide (x1 ≤ qb + 1) = true := decide_eq_true hle
     have Hput := Lib.hid hput
     clear hput
     go_wp2_with fail
     generalize wr.alloc (.cells #[.int .i64 x1, .int .i64 x2] 114) = W at *
     generalize wr.heap.size = B at *
     go_quiet (fail)
     have Hown2 := Lib.hid (Hown.out.below (below_drews' _ nq))
     have hHi : (W.drewN nq).cell? ⟨g, out.length * 2 + 1, none⟩ = some (.int .i64 qb) := hHi
     have hFz : (W.drewN nq).frozen? ⟨g, out.length * 2 + 1, none⟩ = false := hFz
     have hBx : (W.drewN nq).cell? ⟨B, 1, none⟩ = some (.int .i64 x2) := hBx
     clear Hbox Hown hBx0
     generalize W.drewN nq = W2 at *
     go_wp2_with fail
     have hlt1 : (out.length : Int) < (out.length : Int) + 1 := by omega
     refine wp_region_tail (n := 10) (S := (fun w' : World => w'.cell? ⟨g, out.length * 2 + 1, none⟩ = some (.int .i64 qb) ∧ w'.cell? ⟨B, 1, none⟩ = some (.int .i64 x2))) (by kernel_rfl) (by kernel_rfl) (by rfl) (⟨hHi, hBx⟩) (fun hHeld => ?_)
     refine wpAnyH_td (i := 0) rfl ?_
     simp only [zz]
     refine wpAnyH_td (i := 1) rfl ?_
     simp only [zz]
     refine wpAnyH_td (i := 2) rfl ?_
     simp only [zz]
     refine wpAnyH_td (i := 3) rfl ?_
     simp only [zz]
     refine wpAnyH_td (i := 4) rfl ?_
     simp only [zz]
     refine wpAnyH_td (i := 5) rfl ?_
     simp only [zz]
     refine wpAnyH_tk (i := 6) (v := ?_) rfl (Or.inl ⟨by rfl, (by intro w hSw; have c0 := hSw.1; have c1 := hSw.2; go_simp; try with_reducible rfl)⟩) (by assumption) ?_
     simp only [zz]
     refine wpAnyH_td (i := 7) rfl ?_
     simp only [zz]
     refine wpAnyH_tk (i := 8) (v := ?_) rfl (Or.inl ⟨by rfl, (by intro w hSw; have c0 := hSw.1; have c1 := hSw.2; go_simp; try with_reducible rfl)⟩) (by assumption) ?_
     simp only [zz]
     refine wpAnyH_td (i := 9) rfl ?_
     simp only [zz]
     refine wpAnyH_done (by kernel_rfl) ?_ _
     refine wpAny_of_held (S := fun _ => True) _ _ _ _ ?_
     have hHeld : True := trivial
     refine wpAnyH_td (i := 10) rfl ?_
     simp only [zz]
     refine wpAnyH_td (i := 11) rfl ?_
     simp only [zz]
     refine wpAnyH_ready (rs := [12]) (by kernel_rfl) (by simp) ?_
     refine AllReadyH.cons rfl (fun K hK => ?_) AllReadyH.nil
     go_simp
     refine hK.out _ _ trivial (fun hHeld => ?_)
     clear hK K
     refine wpAnyH_done (by kernel_rfl) ?_ _
     have hnew := (Hown2.out.last (max qb x2)).below (Below.drew (Below.refl _ _))
     rw [show (out ++ [(qa, qb)]).length = out.length + 1 by rw [List.length_append, List.length_singleton]] at hnew
     clear hFz hHi hBx hHeld
     go_wp2_with fail
     exact ⟨⟨n + 1, _, by omega, by go_num, hnew, Hput⟩, by show S.length - ((n : Int) + 1).toNat < S.length - (n : Int).toNat; omega⟩
    ·have d1 : decide (x1 ≤ qb + 1) = false := decide_eq_false hle
     have Hput := Lib.hid hput
     clear hput hFz
     go_wp2_with fail
     generalize wr.alloc (.cells #[.int .i64 x1, .int .i64 x2] 114) = W at *
     generalize wr.heap.size = B at *
     go_quiet (fail)
     have Hbox2 := Lib.hid (Row.behindDraws Hbox.out nq)
     have Hown2 := Lib.hid (Hown.out.below (below_drews' _ nq))
     rw [show (out ++ [(qa, qb)]).length = out.length + 1 by rw [List.length_append, List.length_singleton]] at Hown2
     clear Hbox Hown hHi hBx hBx0
     generalize W.drewN nq = W2 at *
     have hx0 : W2.cell? ⟨B, 0, none⟩ = some (.int .i64 x1) := Hbox2.out.at 0
     have hx1 : W2.cell? ⟨B, 1, none⟩ = some (.int .i64 x2) := Hbox2.out.at 1
     have hown3 := Hown2.out.1.alloc (.cells #[.int .i64 x1, .int .i64 x2] 114)
     have hmade := rg_made W2 114 x1 x2
     have hsz3 : w1.heap.size ≤ (W2.alloc (.cells #[.int .i64 x1, .int .i64 x2] 114)).heap.size := by have := Hown2.out.2.size; simp; omega
     go_wp2_with (at_builtin; refine wp_joins (f := rgV) (k := 2) rfl _ _ 154 rfl w1.heap.size 114 i0 (.agg #[.int .i64 0, .int .i64 0]) 16 Tryz.underlying154 hi0 hz0 hz1 hz2 rfl (by decide) rfl rfl hown3 hmade (fun _ _ => rfl) (fun x _ => rg_one x) ?c3 ?c4 hsz3 ?_)
     case c3 => unfold maxLen; first | omega | (simp <;> omega)
     case c4 => first | omega | (simp <;> omega)
     intro v3 w3 h1 h2 _
     have hnew := Hown2.out.more (x := (x1, x2)) (v' := v3) (by simpa using h1) h2
     clear h1 h2 hown3 hmade
     go_wp2_with fail
     exact ⟨⟨n + 1, _, by omega, by go_num, hnew, Hput⟩, by show S.length - ((n : Int) + 1).toNat < S.length - (n : Int).toNat; omega⟩
  ·obtain rfl : n = S.length := by omega
   have Hend : Hid (RowsOwn 114 2 rgV w (Sz.norm l) u3 wr) := Lib.hid (by
    rw [← hput.out.done Hsame.out]
    exact hown.since Hown1.out.2)
   clear hown hput
   go_wp2_with fail
   go_ret
   exact ⟨u3, rfl, Hend.out⟩
end Go.Proofs.YtpafpegcodempaaGreat
