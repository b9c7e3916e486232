/- The document's own answers of layer 11: Parse. -/
import Derived.Test.YtabnfaonlkipbaaGreatDoorCom16
import Derived.Test.YtabnfaonlkipbaaGreatDoorCom9
import Derived.Test.YtabnfaonlkipbaaGreatDoorCom11
import Derived.Test.YtabnfaonlkipbaaGreatDoorCom15
import Derived.Test.YtabnfaonlkipbaaGreatDoorCom13
import Derived.Lib.SplitLaws
set_option linter.unusedSimpArgs false
set_option linter.unusedVariables false
namespace Go.Proofs.YtabnfaonlkipbaaGreatDoor
open Go.RowKit

namespace Flg
open Flt (Tx Cl)
set_option maxRecDepth 100000 in
theorem clauses_app : ∀ (l m : List Tx), clauses (l ++ m) = match clauses l, clauses m with
    | some f, some g => some (f ++ g)
    | _, _ => none
  | [], m => by
    show clauses m = match some [], clauses m with
      | some f, some g => some (f ++ g)
      | _, _ => none
    cases clauses m <;> rfl
  | a :: l, m => by
    have e1 : clauses (a :: l ++ m) = match clause a, clauses (l ++ m) with
      | some c, some f => some (c :: f)
      | _, _ => none := rfl
    have e2 : clauses (a :: l) = match clause a, clauses l with
      | some c, some f => some (c :: f)
      | _, _ => none := rfl
    rw [e1, e2, clauses_app l m]
    cases clause a <;> cases clauses l <;> cases clauses m <;> rfl
set_option maxRecDepth 100000 in
theorem clauses_one (a : Tx) : clauses [a] = (clause a).map fun c => [c] := by
  show (match clause a, some [] with
    | some c, some f => some (c :: f)
    | _, _ => none) = _
  cases clause a <;> rfl
set_option maxRecDepth 100000 in
theorem clauses_more {l : List Tx} {n : Nat} {a : Tx} {F : List Cl} {c : Cl} (ha : l[n]? = some a) (h : clauses (l.take n) = some F) (hc : clause a = some c) : clauses (l.take (n + 1)) = some (F ++ [c]) := by
  obtain ⟨hl, he⟩ := List.getElem?_eq_some_iff.1 ha
  rw [List.take_succ_eq_append_getElem hl, he, clauses_app, h, clauses_one, hc]
  rfl
set_option maxRecDepth 100000 in
theorem clauses_stop {l : List Tx} {n : Nat} {a : Tx} (ha : l[n]? = some a) (hc : clause a = none) : clauses l = none := by
  obtain ⟨hl, he⟩ := List.getElem?_eq_some_iff.1 ha
  have e : l = l.take n ++ ([a] ++ l.drop (n + 1)) := by
    rw [← he, List.singleton_append, List.getElem_cons_drop, List.take_append_drop]
  rw [e, clauses_app, clauses_app, clauses_one, hc]
  cases clauses (l.take n) <;> rfl
end Flg

set_option maxRecDepth 100000 in
set_option maxHeartbeats 3200000 in
theorem ref_parse11 (s : List UInt8) (w : World) (hs : s.length ≤ 100000) :
    Calls Tryz.prog 13 #[.string (mk s)] w fun e w' => ∃ v', e = .returned (.tuple #[v', .bool (Flg.parse s).isSome]) ∧ (∀ f, Flg.parse s = some f → Cls w' (NewIn w w') v' f) ∧ Below w.heap.size w w' := by
  have e33 := str_one s 33
  by_cases h33 : s = [33]
  · have hp : Hid (Flg.parse s = some []) := Lib.hid (by rw [h33]; rfl)
    rw [decide_eq_true h33] at e33
    clear h33 hs
    generalize Flg.parse s = R at *
    generalize mk s = u at *
    go_enter Tryz.func13, Tryz.ntmps13
    go_wp2_with fail
    go_ret2
    exact ⟨.slice none 0 0, by rw [hp.out]; rfl, fun f hf => (by rw [hp.out] at hf; injection hf with hf; rw [← hf]; exact Rws.none _ _ _), Below.refl _ _⟩
  · rw [decide_eq_false h33] at e33
    have hpar : Flg.parse s = match Flg.clauses (Flg.cut 44 s) with
        | some f => if f.length ≤ 8 then some f else none
        | none => none := by unfold Flg.parse; rw [if_neg h33]; rfl
    obtain ⟨i0, hi0, hz0, hz1, hz2⟩ := info_parts clauseInfo
    have SP := Lib.hid (ref_parts 44 s w hs)
    have e44 : ((44 : UInt8).toNat : Int) = 44 := rfl
    rw [e44] at SP
    have LX := Lib.hid (fun (a : List UInt8) (ha : a ∈ Flg.cut 44 s) => show a.length ≤ 100000 by
      have := (Flg.cut_small 44 s []).1 a ha
      simp at this
      omega)
    have hLl : (Flg.cut 44 s).length ≤ 100001 := by have := (Flg.cut_small 44 s []).2; show (Flg.splitC 44 [] s).length ≤ _; omega
    have hLi : ((Flg.cut 44 s).length : Int) ≤ 100001 := by omega
    have HPA := Lib.hid hpar
    clear hpar h33 hs e44
    generalize Flg.parse s = R at *
    generalize Flg.cut 44 s = L at *
    generalize mk s = u at *
    go_enter Tryz.func13, Tryz.ntmps13
    go_wp2_with fail
    refine (SP.out).mono ?_
    rintro e w1 ⟨tv, rfl, htv, hb1⟩
    have HTX := Lib.hid htv
    have HB1 := Lib.hid hb1
    obtain ⟨TA, tc, rfl, htc⟩ := htv.parts
    clear hb1 htv
    go_wp2_with fail
    go_loopw [4, 6, 7, 8] (fun out i _ _ wr => ∃ (n : Nat) (F : List Flt.Cl), n ≤ L.length ∧ i = .int .i64 (n : Int) ∧ Hid (Flg.clauses (L.take n) = some F) ∧ Hid (F.length = n) ∧ RowsOwn 42 3 clV w1 F out wr) (fun _ i _ _ _ => L.length - (intOf i).toNat)
    case atStart => exact ⟨0, [], Nat.zero_le _, rfl, Lib.hid (by rw [List.take_zero]; rfl), Lib.hid rfl, RowsOwn.start _ _ _ w1⟩
    case round =>
      obtain ⟨n, F, hn, rfl, hcl, hFl, hown⟩ := hrel
      by_cases hlt : n < L.length
      · obtain ⟨b, o, cap', e, -, -, hb⟩ := HTX.out.block (by omega)
        injection e with e1 e2 e3
        subst e1 e3
        clear e2
        obtain ⟨x, hx⟩ : ∃ x, L[n]? = some x := ⟨_, List.getElem?_eq_getElem hlt⟩
        have hxl := LX.out x (List.mem_of_getElem? hx)
        have hn0 : (0 : Int) ≤ (n : Int) := by omega
        have hn1 : (n : Int) < (L.length : Int) := by omega
        have c0 := Txs.at (HTX.out.below hown.2) hx
        have RC := Lib.hid (ref_clause11 x wr hxl)
        have Hown := Lib.hid hown
        have HX := Lib.hid hx
        have hFn : F.length = n := hFl.out
        clear hx hxl hown
        cases hcx : Flg.clause x with
        | none =>
          have hno : Hid (R = none) := Lib.hid (by rw [HPA.out, Flg.clauses_stop HX.out hcx])
          rw [hcx] at RC
          clear hcx
          generalize mk x = xs at *
          go_wp2_with fail
          refine (RC.out).mono ?_
          rintro e w2 ⟨c, rfl, -, hb2⟩
          have HBA := Lib.hid ((Hown.out.2.trans (hb2.mono Hown.out.2.size)).alloc ((Hown.out.2.trans (hb2.mono Hown.out.2.size)).size) (.cells #[.string (mk c.pre), .int .i64 c.lo, .int .i64 c.hi] 42))
          clear hb2
          go_wp2_with fail
          go_ret2
          exact ⟨.slice none 0 0, by rw [hno.out]; rfl, fun f hf => (by rw [hno.out] at hf; cases hf), HB1.out.trans (HBA.out.mono HB1.out.size)⟩
        | some d =>
          have hnx := Lib.hid (Flg.clauses_more HX.out hcl.out hcx)
          rw [hcx] at RC
          clear hcx
          generalize mk x = xs at *
          go_wp2_with fail
          refine (RC.out).mono ?_
          rintro e w2 ⟨c, rfl, hcd, hb2⟩
          obtain rfl : c = d := hcd d rfl
          have hba : Below wr.heap.size wr (w2.alloc (.cells #[.string (mk c.pre), .int .i64 c.lo, .int .i64 c.hi] 42)) := hb2.alloc hb2.size _
          have Hown2 := Lib.hid (Hown.out.below hba)
          clear hba hb2 hcd
          have hown3 := Hown2.out.1.alloc (.cells #[.string (mk c.pre), .int .i64 c.lo, .int .i64 c.hi] 42)
          have hmade := cl_made (w2.alloc (.cells #[.string (mk c.pre), .int .i64 c.lo, .int .i64 c.hi] 42)) 42 c.pre c.lo c.hi
          have hzz : (w2.alloc (.cells #[.string (mk c.pre), .int .i64 c.lo, .int .i64 c.hi] 42)).heap.size = w2.heap.size + 1 := by simp
          rw [hzz] at hmade
          have hsz3 : w1.heap.size ≤ ((w2.alloc (.cells #[.string (mk c.pre), .int .i64 c.lo, .int .i64 c.hi] 42)).alloc (.cells #[.string (mk c.pre), .int .i64 c.lo, .int .i64 c.hi] 42)).heap.size := by have := Hown2.out.2.size; simp at this ⊢; omega
          clear hzz
          obtain ⟨cp, cl, ch⟩ := c
          simp only at hown3 hmade hsz3 Hown2 hnx
          generalize hcs : mk cp = cs at *
          have HCS := Lib.hid hcs
          clear hcs
          go_wp2_with (at_builtin; refine wp_joins (f := clV) (k := 3) rfl _ _ 22 rfl w1.heap.size 42 i0 (.agg #[.string ⟨#[]⟩, .int .i64 0, .int .i64 0]) 32 Tryz.underlying22 hi0 hz0 hz1 hz2 rfl (by decide) rfl rfl hown3 hmade (fun _ _ => rfl) (fun x _ => cl_one x) ?c3 ?c4 hsz3 ?_)
          case c3 => unfold maxLen; first | omega | (simp <;> omega)
          case c4 => first | omega | (simp <;> omega)
          intro v3 w3 h1 h2 _
          have hnew := Lib.hid (Hown2.out.more (x := (⟨cp, cl, ch⟩ : Flt.Cl)) (v' := v3) (by simpa [clV, hFn] using h1) h2)
          clear h1 h2 hown3 hmade
          go_wp2_with fail
          exact ⟨⟨n + 1, F ++ [⟨cp, cl, ch⟩], by omega, by go_num, hnx, Lib.hid (by rw [List.length_append, hFn]; rfl), hnew.out⟩, by show L.length - ((n : Int) + 1).toNat < L.length - (n : Int).toNat; omega⟩
      · obtain rfl : n = L.length := by omega
        rw [List.take_length] at hcl
        obtain ⟨A, cap, rfl, -⟩ := (hown.rows (fun _ _ => rfl)).parts
        have Hown := Lib.hid hown
        have hFn : (F.length : Int) ≤ 100001 := by have := hFl.out; omega
        clear hown
        by_cases h8 : F.length ≤ 8
        · have hR : Hid (R = some F) := Lib.hid (by rw [HPA.out, hcl.out]; exact if_pos h8)
          have g8 : decide ((F.length : Int) ≤ 8) = true := decide_eq_true (by omega)
          clear h8
          go_wp2_with fail
          go_ret2
          exact ⟨_, by rw [hR.out]; rfl, fun f hf => (by rw [hR.out] at hf; injection hf with hf; rw [← hf]; exact (Hown.out.since HB1.out).rows (fun _ _ => rfl)), HB1.out.trans (Hown.out.2.mono HB1.out.size)⟩
        · have hR : Hid (R = none) := Lib.hid (by rw [HPA.out, hcl.out]; exact if_neg h8)
          have g8 : decide ((F.length : Int) ≤ 8) = false := decide_eq_false (by omega)
          clear h8
          go_wp2_with fail
          go_ret2
          exact ⟨_, by rw [hR.out]; rfl, fun f hf => (by rw [hR.out] at hf; cases hf), HB1.out.trans (Hown.out.2.mono HB1.out.size)⟩
end Go.Proofs.YtabnfaonlkipbaaGreatDoor
/- FlangPrints, FlangParses out of the contracts. -/
set_option linter.unusedSimpArgs false
set_option linter.unusedVariables false
namespace Go.Proofs.YtabnfaonlkipbaaGreatDoor
open Go.RowKit

set_option maxRecDepth 100000 in
theorem Flg.bd_of {c : Flt.Cl} (h : Flt.Right c) : Flt.Bd c := by
  refine ⟨?_, Flt.right_bd h⟩
  rcases h.1 with e | e
  · rw [e]; exact Nat.zero_le _
  · have := e.2.1; omega

set_option maxRecDepth 100000 in
set_option maxHeartbeats 6400000 in
theorem fprints_walk (H : FlangOk) (Z : FilterOk) {w : World} {u : Value} {f : List Flt.Cl} (hT : Flg.Tabs w) (hf : Cls w (fun i => i < w.heap.size) u f) (lf : f.length ≤ 9223372036854775807)
    (bf : ∀ c ∈ f, c.pre.length ≤ 9223372036854775807 ∧ Bd (Flt.rg c)) :
    Calls Tryz.prog 3 #[u] w fun e w' => e = .returned (.bool true) ∧ Below w.heap.size w w' := by
  have AW := Lib.hid (fun (W : World) (hW : Below w.heap.size w W) => flg_awake H W (hT.below hW))
  have LI := Lib.hid (light_any hf lf (fun c hc => (bf c hc).1))
  by_cases hlf : Flt.light f
  · have LI : Hid (Calls Tryz.prog 6 #[u] w fun e w' => e = .returned (.bool true) ∧ Below w.heap.size w w') := Lib.hid (by have := LI.out; rwa [decide_eq_true hlf] at this)
    obtain ⟨hf1, hf2⟩ := hlf
    have BF : ∀ c ∈ f, Flt.Bd c := fun c hc => ⟨by have := hf1 c hc; omega, (bf c hc).2⟩
    have PR := Lib.hid (fun (W : World) (hW : Below w.heap.size w W) => H.print (hT.below hW) (hf.below hW) (by omega) BF)
    have CH := Lib.hid (fun (W : World) (hW : Below w.heap.size w W) => Z.check (hf.below hW) (by omega) BF)
    by_cases hc : Flt.check f = 0
    · obtain ⟨h8, hr⟩ := (Flg.check_zero f).1 hc
      have htl := Flg.text_len hr h8
      have hpt : Flg.printT f = Flg.text f := by unfold Flg.printT; rw [if_pos hc]
      have hps := Flg.parse_text hr h8
      have hl : ¬ 512 < (Flg.text f).length := by omega
      have hpE : Flg.parseE (Flg.text f) = 0 := by unfold Flg.parseE; rw [if_neg hl, hps]; rfl
      have hpF : Flg.parseF (Flg.text f) = f := by unfold Flg.parseF; rw [if_neg hl, hps]; rfl
      have PA : Hid (∀ (W : World), Below w.heap.size w W → Calls Tryz.prog 10 #[.string (mk (Flg.text f))] W fun e w' => ∃ v', e = .returned (.tuple #[v', .int .i64 0]) ∧ Cls w' (NewIn W w') v' f ∧ Below W.heap.size W w') := Lib.hid (fun W hW => by
        have := H.parse (Flg.text f) (hT.below hW) (by omega)
        rwa [hpE, hpF] at this)
      have TX := Lib.hid (fun (W : World) (hW : Below w.heap.size w W) => ref_text11 (hf.below hW) (by omega) hr)
      have EQ : Hid (∀ (P Q : Nat → Prop) (W : World) (x y : Value), Cls W P x f → Cls W Q y f → Calls Tryz.prog 12 #[x, y] W fun e w' => e = .returned (.bool true) ∧ Below W.heap.size W w') := Lib.hid (fun P Q W x y hx hy => by
        have := ref_fequal hx hy (by omega) (by omega)
        rwa [decide_eq_true (rfl : f = f)] at this)
      have FW := Lib.hid (fun (W : World) (hW : Below w.heap.size w W) => hf.below hW)
      have lt : (mk (Flg.text f)).size = (Flg.text f).length := mk_len _
      have g1 : ¬ (512 : Int) < ((mk (Flg.text f)).size : Int) := by omega
      have g2 : ((mk (Flg.text f)).size : Int) ≤ 9223372036854775807 := by omega
      rw [hpt, hc] at PR
      rw [hc] at CH
      clear hf bf lf hf1 hf2 BF hc h8 hr htl hpt hps hl hpE hpF lt hT
      generalize mk (Flg.text f) = t at *
      have hss : (t.toList == t.toList) = true := beq_self_eq_true _
      have hB0 := Below.refl w.heap.size w
      have PR0 := Lib.hid (PR.out w hB0)
      clear hB0
      go_enter Tryz.func3, Tryz.ntmps3
      go_wp2_with fail
      refine (LI.out).mono ?_
      rintro e w1 ⟨rfl, hb1⟩
      have B1 := Lib.hid hb1
      clear hb1
      go_wp2_with fail
      refine (PR.out _ B1.out).mono ?_
      rintro e w2 ⟨rfl, hb2⟩
      have B2 := Lib.hid (B1.out.trans (hb2.mono B1.out.size))
      clear hb2
      go_wp2_with fail
      refine (CH.out _ B2.out).mono ?_
      rintro e w3 ⟨rfl, hb3⟩
      have B3 := Lib.hid (B2.out.trans (hb3.mono B2.out.size))
      clear hb3
      go_wp2_with fail
      refine (PA.out _ B3.out).mono ?_
      rintro e w4 ⟨xv, rfl, hxv, hb4⟩
      have HX := Lib.hid hxv
      have B4 := Lib.hid (B3.out.trans (hb4.mono B3.out.size))
      clear hb4 hxv
      go_wp2_with fail
      refine (AW.out _ B4.out).mono ?_
      rintro e w5 ⟨rfl, hb5⟩
      have HX5 := Lib.hid (HX.out.below hb5)
      have B5 := Lib.hid (B4.out.trans (hb5.mono B4.out.size))
      clear hb5
      go_wp2_with fail
      refine (TX.out _ B5.out).mono ?_
      rintro e w6 ⟨rfl, hb6⟩
      have HX6 := Lib.hid (HX5.out.below hb6)
      have B6 := Lib.hid (B5.out.trans (hb6.mono B5.out.size))
      clear hb6
      go_wp2_with fail
      refine (EQ.out _ _ _ _ _ HX6.out (FW.out _ B6.out)).mono ?_
      rintro e w7 ⟨rfl, hb7⟩
      have B7 := Lib.hid (B6.out.trans (hb7.mono B6.out.size))
      clear hb7
      go_wp2_with fail
      go_ret
      exact ⟨rfl, B7.out⟩
    · have hpt : Flg.printT f = [] := by unfold Flg.printT; rw [if_neg hc]
      have b1 : (Flt.check f != 0) = true := by rw [bne_iff_ne]; exact hc
      have hnil : mk [] = ⟨#[]⟩ := rfl
      rw [hpt, hnil] at PR
      clear hf bf lf hf1 hf2 BF hpt hnil hT
      generalize Flt.check f = E at *
      go_enter Tryz.func3, Tryz.ntmps3
      go_wp2_with fail
      refine (LI.out).mono ?_
      rintro e w1 ⟨rfl, hb1⟩
      have B1 := Lib.hid hb1
      clear hb1
      go_wp2_with fail
      refine (PR.out _ B1.out).mono ?_
      rintro e w2 ⟨rfl, hb2⟩
      have B2 := Lib.hid (B1.out.trans (hb2.mono B1.out.size))
      clear hb2
      go_wp2_with fail
      refine (CH.out _ B2.out).mono ?_
      rintro e w3 ⟨rfl, hb3⟩
      have B3 := Lib.hid (B2.out.trans (hb3.mono B2.out.size))
      clear hb3
      go_wp2_with fail
      refine (AW.out _ B3.out).mono ?_
      rintro e w5 ⟨rfl, hb5⟩
      have B5 := Lib.hid (B3.out.trans (hb5.mono B3.out.size))
      clear hb5
      go_wp2_with fail
      go_ret
      exact ⟨rfl, B5.out⟩
  · have LI : Hid (Calls Tryz.prog 6 #[u] w fun e w' => e = .returned (.bool false) ∧ Below w.heap.size w w') := Lib.hid (by have := LI.out; rwa [decide_eq_false hlf] at this)
    clear hf bf lf hlf hT
    go_enter Tryz.func3, Tryz.ntmps3
    go_wp2_with fail
    refine (LI.out).mono ?_
    rintro e w1 ⟨rfl, hb1⟩
    have B1 := Lib.hid hb1
    clear hb1
    go_wp2_with fail
    refine (AW.out _ B1.out).mono ?_
    rintro e w5 ⟨rfl, hb5⟩
    have B5 := Lib.hid (B1.out.trans (hb5.mono B1.out.size))
    clear hb5
    go_wp2_with fail
    go_ret
    exact ⟨rfl, B5.out⟩

set_option maxRecDepth 100000 in
set_option maxHeartbeats 6400000 in
theorem fparses_walk (H : FlangOk) {w : World} {s : List UInt8} (hT : Flg.Tabs w) (hs : s.length ≤ 9223372036854775807) :
    Calls Tryz.prog 4 #[.string (mk s)] w fun e w' => e = .returned (.bool true) ∧ Below w.heap.size w w' := by
  have AW := Lib.hid (fun (W : World) (hW : Below w.heap.size w W) => flg_awake H W (hT.below hW))
  have PA := Lib.hid (H.parse s hT hs)
  have ls := mk_len s
  by_cases hbig : 512 < s.length
  · have hE : Flg.parseE s = 4 := by unfold Flg.parseE; rw [if_pos hbig]
    have hF : Flg.parseF s = [] := by unfold Flg.parseF; rw [if_pos hbig]
    have g1 : (512 : Int) < ((mk s).size : Int) := by omega
    have g2 : ((mk s).size : Int) ≤ 9223372036854775807 := by omega
    rw [hE, hF] at PA
    clear hT hs ls hbig hE hF
    generalize mk s = t at *
    go_enter Tryz.func4, Tryz.ntmps4
    go_wp2_with fail
    refine (PA.out).mono ?_
    rintro e w1 ⟨fv, rfl, hfv, hb1⟩
    obtain ⟨fA, fc, rfl, -⟩ := hfv.parts
    have B1 := Lib.hid hb1
    clear hb1 hfv
    go_wp2_with fail
    refine (AW.out _ B1.out).mono ?_
    rintro e w2 ⟨rfl, hb2⟩
    have B2 := Lib.hid (B1.out.trans (hb2.mono B1.out.size))
    clear hb2
    go_wp2_with fail
    go_ret
    exact ⟨rfl, B2.out⟩
  · have g1 : ¬ (512 : Int) < ((mk s).size : Int) := by omega
    have g2 : ((mk s).size : Int) ≤ 9223372036854775807 := by omega
    have RP := Lib.hid (fun W => ref_parse11 s W (by omega))
    cases hp : Flg.parse s with
    | none =>
      have hE : Flg.parseE s = 14 := by unfold Flg.parseE; rw [if_neg hbig, hp]; rfl
      have hF : Flg.parseF s = [] := by unfold Flg.parseF; rw [if_neg hbig, hp]; rfl
      rw [hE, hF] at PA
      rw [hp] at RP
      clear hT hs ls hbig hE hF hp
      generalize mk s = t at *
      go_enter Tryz.func4, Tryz.ntmps4
      go_wp2_with fail
      refine (PA.out).mono ?_
      rintro e w1 ⟨fv, rfl, hfv, hb1⟩
      obtain ⟨fA, fc, rfl, -⟩ := hfv.parts
      have B1 := Lib.hid hb1
      clear hb1 hfv
      go_wp2_with fail
      refine (RP.out _).mono ?_
      rintro e w2 ⟨gv, rfl, -, hb2⟩
      have B2 := Lib.hid (B1.out.trans (hb2.mono B1.out.size))
      clear hb2
      go_wp2_with fail
      refine (AW.out _ B2.out).mono ?_
      rintro e w3 ⟨rfl, hb3⟩
      have B3 := Lib.hid (B2.out.trans (hb3.mono B2.out.size))
      clear hb3
      go_wp2_with fail
      go_ret
      exact ⟨rfl, B3.out⟩
    | some F =>
      have hE : Flg.parseE s = 0 := by unfold Flg.parseE; rw [if_neg hbig, hp]; rfl
      have hF : Flg.parseF s = F := by unfold Flg.parseF; rw [if_neg hbig, hp]; rfl
      have h8 := (Flg.parse_right hp).2
      have EQ : Hid (∀ (P Q : Nat → Prop) (W : World) (x y : Value), Cls W P x F → Cls W Q y F → Calls Tryz.prog 12 #[x, y] W fun e w' => e = .returned (.bool true) ∧ Below W.heap.size W w') := Lib.hid (fun P Q W x y hx hy => by
        have := ref_fequal hx hy (by omega) (by omega)
        rwa [decide_eq_true (rfl : F = F)] at this)
      rw [hE, hF] at PA
      rw [hp] at RP
      clear hT hs ls hbig hE hF hp h8
      generalize mk s = t at *
      go_enter Tryz.func4, Tryz.ntmps4
      go_wp2_with fail
      refine (PA.out).mono ?_
      rintro e w1 ⟨fv, rfl, hfv, hb1⟩
      have HF := Lib.hid hfv
      have B1 := Lib.hid hb1
      clear hb1 hfv
      go_wp2_with fail
      refine (RP.out _).mono ?_
      rintro e w2 ⟨gv, rfl, hgv, hb2⟩
      have HF2 := Lib.hid (HF.out.below hb2)
      have HG2 := Lib.hid (hgv F rfl)
      have B2 := Lib.hid (B1.out.trans (hb2.mono B1.out.size))
      clear hb2 hgv
      go_wp2_with fail
      refine (AW.out _ B2.out).mono ?_
      rintro e w3 ⟨rfl, hb3⟩
      have HF3 := Lib.hid (HF2.out.below hb3)
      have HG3 := Lib.hid (HG2.out.below hb3)
      have B3 := Lib.hid (B2.out.trans (hb3.mono B2.out.size))
      clear hb3
      go_wp2_with fail
      refine (EQ.out _ _ _ _ _ HF3.out HG3.out).mono ?_
      rintro e w4 ⟨rfl, hb4⟩
      have B4 := Lib.hid (B3.out.trans (hb4.mono B3.out.size))
      clear hb4
      go_wp2_with fail
      go_ret
      exact ⟨rfl, B4.out⟩
end Go.Proofs.YtabnfaonlkipbaaGreatDoor
/- The landed flang: strings.Split between one byte, strings.Clone; what the clauses that were read come to. -/
set_option linter.unusedSimpArgs false
set_option linter.unusedVariables false
namespace Go.Proofs.YtabnfaonlkipbaaGreatDoor
open Go.RowKit

set_option maxRecDepth 100000 in
theorem Flg.split_texts (b : UInt8) (s : List UInt8) : Lib.splitB ⟨#[b]⟩ 0 (Lib.countB (mk s) ⟨#[b]⟩) (mk s) = (Flg.cut b s).map mk := by
  have h1 := Lib.splitB_data ⟨#[b]⟩ 0 (Lib.countB (mk s) ⟨#[b]⟩) (mk s)
  rw [mk_data, show (⟨#[b]⟩ : ByteArray).data.toList = [b] from rfl] at h1
  have h2 : Lib.countB (mk s) ⟨#[b]⟩ = Lib.count s [b] := rfl
  rw [h2, Flg.split_cut b s.length s (Nat.le_refl _)] at h1
  rw [h2, ← h1, List.map_map]
  have h3 : mk ∘ (fun x : ByteArray => x.data.toList) = id := by funext x; exact mk_of x
  rw [h3, List.map_id]
set_option maxRecDepth 100000 in
theorem split_one (b : UInt8) (s : List UInt8) (w : World) (hT : Flg.Tabs w) (hs : s.length ≤ 100000) :
    Calls Tryz.prog 20 #[.string (mk s), .string ⟨#[b]⟩] w fun e w' => ∃ v, e = .returned v ∧ Txs w' (NewIn w w') v (Flg.cut b s) ∧ Below w.heap.size w w' := by
  obtain ⟨m, hm⟩ := hT.top
  have hlen := Lib.splitB_all ⟨#[b]⟩ (Nat.le_refl 1) 0 _ (mk s) rfl
  refine (Tryz.strings_Split (mk s) ⟨#[b]⟩ m w (by rw [mk_len]; omega) hm (Nat.le_refl 1)).mono ?_
  rw [Flg.split_texts, List.length_map] at hlen
  rw [Flg.split_texts]
  rintro e w' ⟨rfl, rfl⟩
  refine ⟨_, rfl, ?_, (Below.refl _ _).alloc (Nat.le_refl _) _⟩
  rw [← hlen, List.map_map]
  refine ⟨_, _, rfl, Nat.le_refl _, fun h0 => ⟨w.heap.size, 0, rfl, ⟨Nat.le_refl _, by simp⟩, by simp, fun i x hx j u hu => ?_⟩⟩
  match j, hu with
  | 0, hu =>
    have hu : Value.string (mk x) = u := by simpa [txV] using hu
    subst hu
    rw [(Row.made w _ _).at]
    simp [hx]

set_option maxRecDepth 100000 in
theorem clone_one (s : ByteArray) (w : World) (hs : s.size ≤ 100000) : Calls Tryz.prog 24 #[.string s] w fun e w' => e = .returned (.string s) ∧ Below w.heap.size w w' := by
  have C := Lib.hid (Tryz.stringslite_Clone s w (by omega))
  clear hs
  go_enter Tryz.func24, Tryz.ntmps24
  go_wp2_with fail
  refine (C.out).mono ?_
  rintro e w1 ⟨rfl, hb⟩
  go_wp2_with fail
  go_ret
  exact ⟨rfl, hb⟩

namespace Flg
open Flt (Tx Cl)
set_option maxRecDepth 100000 in
theorem good_mem : ∀ {l : List Tx} {c : Cl}, c ∈ good l → ∃ a ∈ l, readL a = some c
  | [], c, h => by cases h
  | a :: l, c, h => by
    cases ha : readL a with
    | none => rw [good_none ha] at h; cases h
    | some d =>
      rw [good_some ha] at h
      rcases List.mem_cons.1 h with rfl | h
      · exact ⟨a, List.mem_cons_self .., ha⟩
      · obtain ⟨x, hx, e⟩ := good_mem h
        exact ⟨x, List.mem_cons_of_mem _ hx, e⟩
set_option maxRecDepth 100000 in
theorem cut_in {c : UInt8} {s a : Tx} (h : a ∈ cut c s) : a.length ≤ s.length := by
  have := (cut_small c s []).1 a h
  simpa using this
set_option maxRecDepth 100000 in
theorem cut_len (c : UInt8) (s : Tx) : (cut c s).length ≤ s.length + 1 := (cut_small c s []).2
set_option maxRecDepth 100000 in
/-- One of the parts is no clause. -/
theorem parse_stop {s : Tx} {n : Nat} {a : Tx} (hs : s ≠ [33]) (hl : ¬ 512 < s.length) (ha : (cut 44 s)[n]? = some a) (hg : (good ((cut 44 s).take n)).length = n) (hr : readL a = none) : parseE s = 14 ∧ parseF s = [] := by
  have hn := (List.getElem?_eq_some_iff.1 ha).1
  have e := good_stop ha hg hr
  have : parse s = none := by
    rw [parse_good hs, if_neg]
    rintro ⟨h, -⟩
    rw [e, hg] at h
    omega
  unfold parseE parseF
  rw [if_neg hl, if_neg hl, this]
  exact ⟨rfl, rfl⟩
set_option maxRecDepth 100000 in
theorem parse_bad {s : Tx} (hs : s ≠ [33]) (hl : ¬ 512 < s.length) (hc : ¬ Flt.check (good (cut 44 s)) = 0) : parseE s = 14 ∧ parseF s = [] := by
  have : parse s = none := by rw [parse_good hs, if_neg (fun h => hc h.2)]
  unfold parseE parseF
  rw [if_neg hl, if_neg hl, this]
  exact ⟨rfl, rfl⟩
set_option maxRecDepth 100000 in
theorem parse_all {s : Tx} (hs : s ≠ [33]) (hl : ¬ 512 < s.length) (hg : (good (cut 44 s)).length = (cut 44 s).length) (hc : Flt.check (good (cut 44 s)) = 0) : parseE s = 0 ∧ parseF s = good (cut 44 s) := by
  have : parse s = some (good (cut 44 s)) := by rw [parse_good hs, if_pos ⟨hg, hc⟩]
  unfold parseE parseF
  rw [if_neg hl, if_neg hl, this]
  exact ⟨rfl, rfl⟩
set_option maxRecDepth 100000 in
theorem readL_in {x : Tx} {a b : Nat} (hm : (58 : UInt8) ∈ x) (he : ends (behind 58 x) = some (a, b)) (hq : ahead 58 x ≠ []) : readL x = some ⟨unstar (ahead 58 x), (a : Int), (b : Int)⟩ := by
  unfold readL
  rw [if_pos hm, he]
  simp only
  rw [if_neg hq]
set_option maxRecDepth 100000 in
theorem readL_none {x : Tx} (hm : (58 : UInt8) ∈ x) (he : ends (behind 58 x) = none) : readL x = none := by
  unfold readL
  rw [if_pos hm, he]
set_option maxRecDepth 100000 in
theorem readL_empty {x : Tx} (hq : ahead 58 x = []) : readL x = none := by
  unfold readL
  by_cases hm : (58 : UInt8) ∈ x
  · rw [if_pos hm]
    cases ends (behind 58 x) with
    | none => rfl
    | some p => obtain ⟨a, b⟩ := p; simp only; rw [if_pos hq]
  · rw [if_neg hm, if_pos]
    rw [← (ahead_no hm).1]; exact hq
set_option maxRecDepth 100000 in
theorem readL_out {x : Tx} (hm : ¬ (58 : UInt8) ∈ x) (hq : ahead 58 x ≠ []) : readL x = some ⟨unstar (ahead 58 x), 0, 200⟩ := by
  rw [(ahead_no hm).1] at hq ⊢
  unfold readL
  rw [if_neg hm, if_neg hq]
end Flg
end Go.Proofs.YtabnfaonlkipbaaGreatDoor
