/- The landed flang: Parse. -/
import Derived.Test.YtabnfaonlkipbaaGreatDoorCom17
import Derived.Test.YtabnfaonlkipbaaGreatDoorCom9
import Derived.Test.YtabnfaonlkipbaaGreatDoorCom7
import Derived.WalkMore
set_option linter.unusedSimpArgs false
set_option linter.unusedVariables false
namespace Go.Proofs.YtabnfaonlkipbaaGreatDoor
open Go.RowKit

set_option maxRecDepth 100000 in
theorem str_star (p : List UInt8) (c : UInt8) : ((mk p).toList == [c]) = decide (p = [c]) := by
  rw [Lib.toList_data, mk_data]
  by_cases h : p = [c]
  · rw [h, decide_eq_true rfl]; exact beq_self_eq_true _
  · rw [decide_eq_false h, beq_eq_false_iff_ne]; exact h

set_option maxRecDepth 100000 in
set_option maxHeartbeats 6400000 in
theorem flg_parse (Z : FilterOk) (s : List UInt8) {w : World} (hT : Flg.Tabs w) (hs : s.length ≤ 9223372036854775807) :
    Calls Tryz.prog 10 #[.string (mk s)] w fun e w' => ∃ v', e = .returned (.tuple #[v', .int .i64 (Flg.parseE s)]) ∧ Cls w' (NewIn w w') v' (Flg.parseF s) ∧ Below w.heap.size w w' := by
  have ls := mk_len s
  by_cases hbig : 512 < s.length
  · have hE : Hid (Flg.parseE s = 4) := Lib.hid (by unfold Flg.parseE; rw [if_pos hbig])
    have hF : Hid (Flg.parseF s = []) := Lib.hid (by unfold Flg.parseF; rw [if_pos hbig])
    have g1 : (512 : Int) < ((mk s).size : Int) := by omega
    have g2 : ((mk s).size : Int) ≤ 9223372036854775807 := by omega
    clear hbig ls hs hT
    generalize Flg.parseE s = E at *
    generalize Flg.parseF s = G at *
    generalize mk s = u at *
    go_enter Tryz.func10, Tryz.ntmps10
    go_wp2_with fail
    go_step3
    go_wp2_with fail
    try rw [Exit.noGoto_ret]
    go_ret2
    exact ⟨.slice none 0 0, by rw [hE.out]; rfl, by rw [hF.out]; exact Rws.none _ _ _, Below.refl _ _⟩
  · have g1 : ¬ (512 : Int) < ((mk s).size : Int) := by omega
    have g2 : ((mk s).size : Int) ≤ 9223372036854775807 := by omega
    have e33 := str_star s 33
    by_cases h33 : s = [33]
    · have hp : Flg.parse s = some [] := by rw [h33]; rfl
      have hE : Hid (Flg.parseE s = 0) := Lib.hid (by unfold Flg.parseE; rw [if_neg hbig, hp]; rfl)
      have hF : Hid (Flg.parseF s = []) := Lib.hid (by unfold Flg.parseF; rw [if_neg hbig, hp]; rfl)
      rw [decide_eq_true h33] at e33
      clear hbig ls hs h33 hp hT
      generalize Flg.parseE s = E at *
      generalize Flg.parseF s = G at *
      generalize mk s = u at *
      go_enter Tryz.func10, Tryz.ntmps10
      go_wp2_with fail
      go_step3
      go_wp2_with fail
      try rw [Exit.noGoto_ret]
      go_ret2
      exact ⟨.slice none 0 0, by rw [hE.out]; rfl, by rw [hF.out]; exact Rws.none _ _ _, Below.refl _ _⟩
    · rw [decide_eq_false h33] at e33
      obtain ⟨i0, hi0, hz0, hz1, hz2⟩ := info_parts clauseInfo
      have SP := Lib.hid (split_one 44 s w hT (by omega))
      have STOP := Lib.hid (fun (n : Nat) (a : List UInt8) (ha : (Flg.cut 44 s)[n]? = some a) (hg : (Flg.good ((Flg.cut 44 s).take n)).length = n) (hr : Flg.readL a = none) => Flg.parse_stop h33 hbig ha hg hr)
      have BAD := Lib.hid (fun (hc : ¬ Flt.check (Flg.good (Flg.cut 44 s)) = 0) => Flg.parse_bad h33 hbig hc)
      have ALL := Lib.hid (fun (hg : (Flg.good (Flg.cut 44 s)).length = (Flg.cut 44 s).length) (hc : Flt.check (Flg.good (Flg.cut 44 s)) = 0) => Flg.parse_all h33 hbig hg hc)
      have LX := Lib.hid (fun (a : List UInt8) (ha : a ∈ Flg.cut 44 s) => show a.length ≤ 512 by have := Flg.cut_in ha; omega)
      have hLl : (Flg.cut 44 s).length ≤ 513 := by have := Flg.cut_len 44 s; omega
      have hLi : ((Flg.cut 44 s).length : Int) ≤ 513 := by omega
      have CK : Hid (∀ (P : Nat → Prop) (W : World) (x : Value), Cls W P x (Flg.good (Flg.cut 44 s)) → Calls Tryz.prog 9 #[x] W fun e w' => e = .returned (.int .i64 (Flt.check (Flg.good (Flg.cut 44 s)))) ∧ Below W.heap.size W w') := Lib.hid (fun P W x hx => Z.check hx (by have := Flg.good_len (Flg.cut 44 s); omega) (fun c hc => by
        obtain ⟨a, ha, e⟩ := Flg.good_mem hc
        exact Flg.readL_bd (by have := LX.out a ha; omega) e))
      have HTW := Lib.hid (fun (W : World) (hW : Below w.heap.size w W) => hT.below hW)
      have CU := Lib.hid (fun (x : List UInt8) (hx : x.length ≤ 512) (W : World) (hW : Below w.heap.size w W) => cut_one 58 x W (HTW.out W hW) (by omega))
      have RA := Lib.hid (fun (x : List UInt8) (hx : x.length ≤ 512) (W : World) (hW : Below w.heap.size w W) => flg_range x W (HTW.out W hW) (by omega))
      have WH := Lib.hid (fun W => flg_whole W)
      have CL := Lib.hid (fun (t : ByteArray) (ht : t.size ≤ 100000) (W : World) => clone_one t W ht)
      clear hbig ls hs h33 hT
      generalize Flg.parseE s = E at *
      generalize Flg.parseF s = G at *
      generalize Flg.cut 44 s = L at *
      generalize mk s = u at *
      go_enter Tryz.func10, Tryz.ntmps10
      go_wp2_with fail
      go_step3
      go_wp2_with fail
      refine (SP.out).mono ?_
      rintro e w1 ⟨tv, rfl, htv, hb1⟩
      have HTX := Lib.hid htv
      have HB1 := Lib.hid hb1
      obtain ⟨TA, tc, rfl, htc⟩ := htv.parts
      clear hb1 htv
      go_wp2_with fail
      go_step3
      go_wp2_with fail
      go_loopw [5, 7, 8, 9, 10, 11, 12, 22] (fun out _ _ _ _ _ _ i wr => ∃ n : Nat, n ≤ L.length ∧ i = .int .i64 (n : Int) ∧ Hid ((Flg.good (L.take n)).length = n) ∧ RowsOwn 42 3 clV w1 (Flg.good (L.take n)) out wr) (fun _ _ _ _ _ _ _ i _ => L.length - (intOf i).toNat)
      case atStart => exact ⟨0, Nat.zero_le _, rfl, Lib.hid (by rw [List.take_zero]; rfl), by rw [List.take_zero]; exact RowsOwn.start _ _ _ w1⟩
      case round =>
        obtain ⟨n, hn, rfl, hgl, hown⟩ := hrel
        by_cases hlt : n < L.length
        · obtain ⟨b, o, cap', e, -, -, hb⟩ := HTX.out.block (by omega)
          injection e with e1 e2 e3
          subst e1 e3
          clear e2
          obtain ⟨x, hx⟩ : ∃ x, L[n]? = some x := ⟨_, List.getElem?_eq_getElem hlt⟩
          have hxl := LX.out x (List.mem_of_getElem? hx)
          have hn0 : (0 : Int) ≤ (n : Int) := by omega
          have hn1 : (n : Int) < (L.length : Int) := by omega
          have c0 := Txs.at (HTX.out.below hown.2) hx
          have HX := Lib.hid hx
          have HBw : Hid (Below w.heap.size w wr) := Lib.hid (HB1.out.trans (hown.2.mono HB1.out.size))
          have CX := Lib.hid (CU.out x hxl wr HBw.out)
          have RX := Lib.hid (fun W hW => RA.out (Flg.behind 58 x) (Flg.behind_small hxl) W hW)
          have Hown := Lib.hid hown
          have hGn : (Flg.good (L.take n)).length = n := hgl.out
          have ia := str_empty (Flg.ahead 58 x)
          have ea := str_nil (Flg.ahead 58 x)
          have es := str_star (Flg.ahead 58 x) 42
          have hql : (mk (Flg.ahead 58 x)).size ≤ 512 := by rw [mk_len]; exact Flg.ahead_small hxl
          have TK := Lib.hid (fun (c : Flt.Cl) (hr : Flg.readL x = some c) => show Flg.good (L.take (n + 1)) = Flg.good (L.take n) ++ [c] by rw [Flg.good_take HX.out hgl.out, hr])
          have ST := Lib.hid (fun (hr : Flg.readL x = none) => STOP.out n x HX.out hgl.out hr)
          have hzw : wr.heap.size ≤ wr.heap.size := Nat.le_refl _
          clear hx hown hgl hxl
          by_cases hm : (58 : UInt8) ∈ x
          · rw [decide_eq_true hm] at CX
            cases he : Flg.ends (Flg.behind 58 x) with
            | none =>
              have HNO := Lib.hid (ST.out (Flg.readL_none hm he))
              rw [he] at RX
              clear hm TK ST
              clear he
              generalize Flg.good (L.take n) = GN at *
              generalize Flg.ahead 58 x = qa at *
              generalize mk (Flg.behind 58 x) = qb at *
              generalize mk qa = qs at *
              generalize mk x = xs at *
              obtain ⟨A, cap, rfl, -⟩ := (Hown.out.rows (fun _ _ => rfl)).parts
              have glt : ((GN.length : Nat) : Int) < (L.length : Int) := by omega
              go_wp2_with fail
              refine (CX.out).mono ?_
              rintro e w2 ⟨rfl, hb2⟩
              have HB2 := Lib.hid hb2
              clear hb2
              go_wp2_with fail
              refine (WH.out _).mono ?_
              rintro e w3 ⟨rfl, hb3⟩
              have HB3 := Lib.hid (HB2.out.trans (hb3.mono HB2.out.size))
              clear hb3
              have hba : Below wr.heap.size wr (w3.alloc (.cells #[.int .i64 0, .int .i64 200] 40)) := HB3.out.alloc HB3.out.size _
              have HBA := Lib.hid hba
              have RR := Lib.hid (Row.made w3 40 #[.int .i64 0, .int .i64 200])
              clear hba
              have hz3 : w3.heap.size < (w3.alloc (.cells #[.int .i64 0, .int .i64 200] 40)).heap.size := by simp
              have HZ3 := Lib.hid hz3
              clear hz3
              have RX1 := Lib.hid (RX.out (w3.alloc (.cells #[.int .i64 0, .int .i64 200] 40)) (HBw.out.trans (HBA.out.mono HBw.out.size)))
              go_wp2_with fail
              refine (RX1.out).mono ?_
              rintro e w4 ⟨x1, x2, rfl, hxy, hb4⟩
              have hr := RR.out.below hb4 HZ3.out
              have q0 := hr.at 0
              have q1 := hr.at 1
              have f0 := hr.free 0
              have f1 := hr.free 1
              have HBB : Hid (Below wr.heap.size wr ((w4.setCell ⟨w3.heap.size, 0, none⟩ (.int .i64 x1)).setCell ⟨w3.heap.size, 1, none⟩ (.int .i64 x2))) := Lib.hid (flg_put (flg_put (HBA.out.trans (hb4.mono HBA.out.size)) HB3.out.size _) HB3.out.size _)
              have RR5 : Hid (Row ((w4.setCell ⟨w3.heap.size, 0, none⟩ (.int .i64 x1)).setCell ⟨w3.heap.size, 1, none⟩ (.int .i64 x2)) w3.heap.size 40 #[.int .i64 x1, .int .i64 x2]) := Lib.hid ((hr.stored 0 _).stored 1 _)
              clear hr hb4 hxy
              go_wp2_with fail
              try go_step3
              go_wp2_with fail
              try go_step3
              go_wp2_with fail
              try rw [Exit.noGoto_ret]
              go_ret2
              exact ⟨.slice none 0 0, by rw [HNO.out.1]; rfl, by rw [HNO.out.2]; exact Rws.none _ _ _, HBw.out.trans (HBB.out.mono HBw.out.size)⟩
            | some ab =>
              obtain ⟨ka, kb⟩ := ab
              rw [he] at RX
              by_cases hq : Flg.ahead 58 x = []
              · have HNO := Lib.hid (ST.out (Flg.readL_empty hq))
                rw [decide_eq_true hq] at ea ia
                rw [decide_eq_false (fun e => by rw [hq] at e; cases e)] at es
                clear hq
                clear hm TK ST
                clear he
                generalize Flg.good (L.take n) = GN at *
                generalize Flg.ahead 58 x = qa at *
                generalize mk (Flg.behind 58 x) = qb at *
                generalize mk qa = qs at *
                generalize mk x = xs at *
                obtain ⟨A, cap, rfl, -⟩ := (Hown.out.rows (fun _ _ => rfl)).parts
                have glt : ((GN.length : Nat) : Int) < (L.length : Int) := by omega
                go_wp2_with fail
                refine (CX.out).mono ?_
                rintro e w2 ⟨rfl, hb2⟩
                have HB2 := Lib.hid hb2
                clear hb2
                go_wp2_with fail
                refine (WH.out _).mono ?_
                rintro e w3 ⟨rfl, hb3⟩
                have HB3 := Lib.hid (HB2.out.trans (hb3.mono HB2.out.size))
                clear hb3
                have hba : Below wr.heap.size wr (w3.alloc (.cells #[.int .i64 0, .int .i64 200] 40)) := HB3.out.alloc HB3.out.size _
                have HBA := Lib.hid hba
                have RR := Lib.hid (Row.made w3 40 #[.int .i64 0, .int .i64 200])
                clear hba
                have hz3 : w3.heap.size < (w3.alloc (.cells #[.int .i64 0, .int .i64 200] 40)).heap.size := by simp
                have HZ3 := Lib.hid hz3
                clear hz3
                have RX1 := Lib.hid (RX.out (w3.alloc (.cells #[.int .i64 0, .int .i64 200] 40)) (HBw.out.trans (HBA.out.mono HBw.out.size)))
                go_wp2_with fail
                refine (RX1.out).mono ?_
                rintro e w4 ⟨x1, x2, rfl, hxy, hb4⟩
                obtain ⟨rfl, rfl⟩ := hxy ka kb rfl
                have hr := RR.out.below hb4 HZ3.out
                have q0 := hr.at 0
                have q1 := hr.at 1
                have f0 := hr.free 0
                have f1 := hr.free 1
                have HBB : Hid (Below wr.heap.size wr ((w4.setCell ⟨w3.heap.size, 0, none⟩ (.int .i64 (ka : Int))).setCell ⟨w3.heap.size, 1, none⟩ (.int .i64 (kb : Int)))) := Lib.hid (flg_put (flg_put (HBA.out.trans (hb4.mono HBA.out.size)) HB3.out.size _) HB3.out.size _)
                have RR5 : Hid (Row ((w4.setCell ⟨w3.heap.size, 0, none⟩ (.int .i64 (ka : Int))).setCell ⟨w3.heap.size, 1, none⟩ (.int .i64 (kb : Int))) w3.heap.size 40 #[.int .i64 (ka : Int), .int .i64 (kb : Int)]) := Lib.hid ((hr.stored 0 _).stored 1 _)
                clear hr hb4
                go_wp2_with fail
                try go_step3
                go_wp2_with fail
                try go_step3
                go_wp2_with fail
                try rw [Exit.noGoto_ret]
                go_ret2
                exact ⟨.slice none 0 0, by rw [HNO.out.1]; rfl, by rw [HNO.out.2]; exact Rws.none _ _ _, HBw.out.trans (HBB.out.mono HBw.out.size)⟩
              · rw [decide_eq_false hq] at ea ia
                have HRD := Flg.readL_in hm he hq
                by_cases hq2 : Flg.ahead 58 x = [42]
                · rw [decide_eq_true hq2] at es
                  rw [show Flg.unstar (Flg.ahead 58 x) = [] by unfold Flg.unstar; rw [if_pos hq2]] at HRD
                  have HST := Lib.hid (TK.out _ HRD)
                  have HMK : Hid (∀ W : World, Cls (W.alloc (.cells #[.string (mk []), .int .i64 ((ka : Int)), .int .i64 ((kb : Int))] 42)) (fun i => i = W.heap.size) (.slice (some ⟨W.heap.size, 0, none⟩) 1 1) [⟨[], ((ka : Int)), ((kb : Int))⟩]) := Lib.hid (fun W => cl_made W 42 [] ((ka : Int)) ((kb : Int)))
                  have eM : mk [] = ⟨#[]⟩ := rfl
                  rw [eM] at HMK
                  clear eM
                  clear hq
                  clear hq2 HRD
                  clear hm TK ST
                  clear he
                  generalize Flg.good (L.take n) = GN at *
                  generalize Flg.ahead 58 x = qa at *
                  generalize mk (Flg.behind 58 x) = qb at *
                  generalize mk qa = qs at *
                  generalize mk x = xs at *
                  go_wp2_with fail
                  refine (CX.out).mono ?_
                  rintro e w2 ⟨rfl, hb2⟩
                  have HB2 := Lib.hid hb2
                  clear hb2
                  go_wp2_with fail
                  refine (WH.out _).mono ?_
                  rintro e w3 ⟨rfl, hb3⟩
                  have HB3 := Lib.hid (HB2.out.trans (hb3.mono HB2.out.size))
                  clear hb3
                  have hba : Below wr.heap.size wr (w3.alloc (.cells #[.int .i64 0, .int .i64 200] 40)) := HB3.out.alloc HB3.out.size _
                  have HBA := Lib.hid hba
                  have RR := Lib.hid (Row.made w3 40 #[.int .i64 0, .int .i64 200])
                  clear hba
                  have hz3 : w3.heap.size < (w3.alloc (.cells #[.int .i64 0, .int .i64 200] 40)).heap.size := by simp
                  have HZ3 := Lib.hid hz3
                  clear hz3
                  have RX1 := Lib.hid (RX.out (w3.alloc (.cells #[.int .i64 0, .int .i64 200] 40)) (HBw.out.trans (HBA.out.mono HBw.out.size)))
                  go_wp2_with fail
                  refine (RX1.out).mono ?_
                  rintro e w4 ⟨x1, x2, rfl, hxy, hb4⟩
                  obtain ⟨rfl, rfl⟩ := hxy ka kb rfl
                  have hr := RR.out.below hb4 HZ3.out
                  have q0 := hr.at 0
                  have q1 := hr.at 1
                  have f0 := hr.free 0
                  have f1 := hr.free 1
                  have HBB : Hid (Below wr.heap.size wr ((w4.setCell ⟨w3.heap.size, 0, none⟩ (.int .i64 (ka : Int))).setCell ⟨w3.heap.size, 1, none⟩ (.int .i64 (kb : Int)))) := Lib.hid (flg_put (flg_put (HBA.out.trans (hb4.mono HBA.out.size)) HB3.out.size _) HB3.out.size _)
                  have RR5 : Hid (Row ((w4.setCell ⟨w3.heap.size, 0, none⟩ (.int .i64 (ka : Int))).setCell ⟨w3.heap.size, 1, none⟩ (.int .i64 (kb : Int))) w3.heap.size 40 #[.int .i64 (ka : Int), .int .i64 (kb : Int)]) := Lib.hid ((hr.stored 0 _).stored 1 _)
                  clear hr hb4
                  have RR9 : Hid (∀ W, Below ((w4.setCell ⟨w3.heap.size, 0, none⟩ (.int .i64 (ka : Int))).setCell ⟨w3.heap.size, 1, none⟩ (.int .i64 (kb : Int))).heap.size ((w4.setCell ⟨w3.heap.size, 0, none⟩ (.int .i64 (ka : Int))).setCell ⟨w3.heap.size, 1, none⟩ (.int .i64 (kb : Int))) W → W.cell? ⟨w3.heap.size, 0, none⟩ = some (.int .i64 (ka : Int)) ∧ W.cell? ⟨w3.heap.size, 1, none⟩ = some (.int .i64 (kb : Int))) := Lib.hid (fun W hW => by
                    have h2 := RR5.out.below hW RR5.out.inHeap
                    exact ⟨h2.at 0, h2.at 1⟩)
                  have OW5 := Lib.hid (Hown.out.below HBB.out)
                  go_wp2_with fail
                  refine wp_region_held_drew (S := (fun w' : World => w'.cell? ⟨w3.heap.size, 0, none⟩ = some (.int .i64 (ka : Int)) ∧ w'.cell? ⟨w3.heap.size, 1, none⟩ = some (.int .i64 (kb : Int)))) (by kernel_rfl) (RR9.out _ ((Below.refl _ _).drew)) (fun hHeld => ?_)
                  refine wpAnyH_take (i := 0) (v := ?_) rfl (by kernel_rfl) (by kernel_rfl) (by kernel_rfl) (fun _ _ _ h => h) (Or.inl ⟨by rfl, (by intro w hSw; go_simp; try with_reducible rfl)⟩) (by assumption) ?_
                  simp only [Act.put, List.getElem_toArray, List.getElem_cons_zero, List.getElem_cons_succ, List.setIfInBounds_toArray, List.set_cons_zero, List.set_cons_succ]
                  refine wpAnyH_take (i := 1) (v := ?_) rfl (by kernel_rfl) (by kernel_rfl) (by kernel_rfl) (fun _ _ _ h => h) (Or.inl ⟨by rfl, (by intro w hSw; go_simp; try with_reducible rfl)⟩) (by assumption) ?_
                  simp only [Act.put, List.getElem_toArray, List.getElem_cons_zero, List.getElem_cons_succ, List.setIfInBounds_toArray, List.set_cons_zero, List.set_cons_succ]
                  refine wpAnyH_take (i := 3) (v := ?_) rfl (by kernel_rfl) (by kernel_rfl) (by kernel_rfl) (fun _ _ _ h => h) (Or.inl ⟨by rfl, (by intro w hSw; have d0 := hSw.1; have d1 := hSw.2; go_simp; try with_reducible rfl)⟩) (by assumption) ?_
                  simp only [Act.put, List.getElem_toArray, List.getElem_cons_zero, List.getElem_cons_succ, List.setIfInBounds_toArray, List.set_cons_zero, List.set_cons_succ]
                  refine wpAnyH_ready (rs := [2]) (by kernel_rfl) (by simp) ?_
                  refine AllReadyH.cons rfl (fun K hK => ?_) AllReadyH.nil
                  go_simp
                  go_at_call 24
                  refine (CL.out _ (by first | omega | (simp <;> omega) | decide) _).mono ?_
                  rintro e wk ⟨rfl, hbN⟩
                  have HBk : Hid (Below ((w4.setCell ⟨w3.heap.size, 0, none⟩ (.int .i64 (ka : Int))).setCell ⟨w3.heap.size, 1, none⟩ (.int .i64 (kb : Int))).heap.size ((w4.setCell ⟨w3.heap.size, 0, none⟩ (.int .i64 (ka : Int))).setCell ⟨w3.heap.size, 1, none⟩ (.int .i64 (kb : Int))) wk) := Lib.hid (((Below.refl _ _).drew).trans (hbN.mono (Nat.le_refl _)))
                  clear hbN
                  refine hK.out _ _ (RR9.out _ HBk.out) (fun hHeld => ?_)
                  clear hK K
                  refine wpAnyH_take (i := 4) (v := ?_) rfl (by kernel_rfl) (by kernel_rfl) (by kernel_rfl) (fun _ _ _ h => h) (Or.inl ⟨by rfl, (by intro w hSw; go_simp; try with_reducible rfl)⟩) (by assumption) ?_
                  simp only [Act.put, List.getElem_toArray, List.getElem_cons_zero, List.getElem_cons_succ, List.setIfInBounds_toArray, List.set_cons_zero, List.set_cons_succ]
                  refine wpAnyH_ready (rs := [5]) (by kernel_rfl) (by simp) ?_
                  refine AllReadyH.cons rfl (fun K hK => ?_) AllReadyH.nil
                  go_simp
                  have HM9 := HMK.out wk
                  have Hown9 := Lib.hid (OW5.out.below HBk.out)
                  have HBl : Hid (Below ((w4.setCell ⟨w3.heap.size, 0, none⟩ (.int .i64 (ka : Int))).setCell ⟨w3.heap.size, 1, none⟩ (.int .i64 (kb : Int))).heap.size ((w4.setCell ⟨w3.heap.size, 0, none⟩ (.int .i64 (ka : Int))).setCell ⟨w3.heap.size, 1, none⟩ (.int .i64 (kb : Int))) (wk.alloc (.cells #[.string ⟨#[]⟩, .int .i64 (ka : Int), .int .i64 (kb : Int)] 42))) := Lib.hid (HBk.out.alloc HBk.out.size _)
                  refine hK.out _ _ (RR9.out _ HBl.out) (fun hHeld => ?_)
                  clear hK K
                  refine wpAnyH_ready (rs := [6]) (by kernel_rfl) (by simp) ?_
                  refine AllReadyH.cons rfl (fun K hK => ?_) AllReadyH.nil
                  have hown3 := Hown9.out.1.alloc (.cells #[.string ⟨#[]⟩, .int .i64 (ka : Int), .int .i64 (kb : Int)] 42)
                  refine step_near rfl (.tmp 47) (.tmp 52) 22 (by rfl) w1.heap.size 42 i0 (.agg #[.string ⟨#[]⟩, .int .i64 0, .int .i64 0]) 32 Tryz.underlying22 hi0 hz0 hz1 hz2 rfl (by decide) (by rfl) (by rfl) hown3 HM9 (fun _ _ => rfl) (fun x _ => cl_one x) ?a1 ?a2 ?a3 ?_
                  case a1 => (unfold maxLen; first | omega | (simp <;> omega))
                  case a2 => (first | omega | (simp <;> omega))
                  case a3 => (have := Hown9.out.2.size; first | omega | (simp at * <;> omega))
                  intro v9 w9 own9 hg9 hn9
                  have Hnew := Lib.hid (Hown9.out.more (x := (⟨[], (ka : Int), (kb : Int)⟩ : Flt.Cl)) (v' := v9) (by simpa [clV] using own9) hg9)
                  have kk := Kept.ofGrown (F := fun i => u5.ownBlock = some i) hg9 (fun i e => e)
                  have hob : ¬ u5.ownBlock = some w3.heap.size := fun e => by have := (Hown.out.1.lt _ e).2; have := HB3.out.size; omega
                  have hzl : w3.heap.size < (wk.alloc (.cells #[.string ⟨#[]⟩, .int .i64 (ka : Int), .int .i64 (kb : Int)] 42)).heap.size := Nat.lt_of_lt_of_le RR5.out.inHeap HBl.out.size
                  have hS9 := (⟨(kk.cell (p := ⟨w3.heap.size, 0, none⟩) hzl hob).trans (RR9.out _ HBl.out).1, (kk.cell (p := ⟨w3.heap.size, 1, none⟩) hzl hob).trans (RR9.out _ HBl.out).2⟩ : _ ∧ _)
                  clear own9 hg9 hn9 hown3 kk hob hzl
                  refine hK.out _ _ hS9 (fun hHeld => ?_)
                  clear hS9
                  clear hK K
                  refine wpAnyH_take (i := 7) (v := ?_) rfl (by kernel_rfl) (by kernel_rfl) (by kernel_rfl) (fun _ _ _ h => h) (Or.inl ⟨by rfl, (by intro w hSw; go_simp; try with_reducible rfl)⟩) (by assumption) ?_
                  simp only [Act.put, List.getElem_toArray, List.getElem_cons_zero, List.getElem_cons_succ, List.setIfInBounds_toArray, List.set_cons_zero, List.set_cons_succ]
                  refine wpAnyH_done (by kernel_rfl) ?_ _
                  go_wp2_with fail
                  exact ⟨⟨n + 1, by omega, by go_num, Lib.hid (by rw [HST.out, List.length_append, hGn]; rfl), by rw [HST.out]; exact Hnew.out⟩, by show L.length - ((n : Int) + 1).toNat < L.length - (n : Int).toNat; omega⟩
                · rw [decide_eq_false hq2] at es
                  rw [show Flg.unstar (Flg.ahead 58 x) = Flg.ahead 58 x by unfold Flg.unstar; rw [if_neg hq2]] at HRD
                  have HST := Lib.hid (TK.out _ HRD)
                  have HMK : Hid (∀ W : World, Cls (W.alloc (.cells #[.string (mk (Flg.ahead 58 x)), .int .i64 ((ka : Int)), .int .i64 ((kb : Int))] 42)) (fun i => i = W.heap.size) (.slice (some ⟨W.heap.size, 0, none⟩) 1 1) [⟨(Flg.ahead 58 x), ((ka : Int)), ((kb : Int))⟩]) := Lib.hid (fun W => cl_made W 42 (Flg.ahead 58 x) ((ka : Int)) ((kb : Int)))
                  clear hq
                  clear hq2 HRD
                  clear hm TK ST
                  clear he
                  generalize Flg.good (L.take n) = GN at *
                  have HP := Lib.hid (rfl : Flg.ahead 58 x = Flg.ahead 58 x)
                  clear HP
                  generalize Flg.ahead 58 x = qa at *
                  generalize mk (Flg.behind 58 x) = qb at *
                  generalize mk qa = qs at *
                  generalize mk x = xs at *
                  go_wp2_with fail
                  refine (CX.out).mono ?_
                  rintro e w2 ⟨rfl, hb2⟩
                  have HB2 := Lib.hid hb2
                  clear hb2
                  go_wp2_with fail
                  refine (WH.out _).mono ?_
                  rintro e w3 ⟨rfl, hb3⟩
                  have HB3 := Lib.hid (HB2.out.trans (hb3.mono HB2.out.size))
                  clear hb3
                  have hba : Below wr.heap.size wr (w3.alloc (.cells #[.int .i64 0, .int .i64 200] 40)) := HB3.out.alloc HB3.out.size _
                  have HBA := Lib.hid hba
                  have RR := Lib.hid (Row.made w3 40 #[.int .i64 0, .int .i64 200])
                  clear hba
                  have hz3 : w3.heap.size < (w3.alloc (.cells #[.int .i64 0, .int .i64 200] 40)).heap.size := by simp
                  have HZ3 := Lib.hid hz3
                  clear hz3
                  have RX1 := Lib.hid (RX.out (w3.alloc (.cells #[.int .i64 0, .int .i64 200] 40)) (HBw.out.trans (HBA.out.mono HBw.out.size)))
                  go_wp2_with fail
                  refine (RX1.out).mono ?_
                  rintro e w4 ⟨x1, x2, rfl, hxy, hb4⟩
                  obtain ⟨rfl, rfl⟩ := hxy ka kb rfl
                  have hr := RR.out.below hb4 HZ3.out
                  have q0 := hr.at 0
                  have q1 := hr.at 1
                  have f0 := hr.free 0
                  have f1 := hr.free 1
                  have HBB : Hid (Below wr.heap.size wr ((w4.setCell ⟨w3.heap.size, 0, none⟩ (.int .i64 (ka : Int))).setCell ⟨w3.heap.size, 1, none⟩ (.int .i64 (kb : Int)))) := Lib.hid (flg_put (flg_put (HBA.out.trans (hb4.mono HBA.out.size)) HB3.out.size _) HB3.out.size _)
                  have RR5 : Hid (Row ((w4.setCell ⟨w3.heap.size, 0, none⟩ (.int .i64 (ka : Int))).setCell ⟨w3.heap.size, 1, none⟩ (.int .i64 (kb : Int))) w3.heap.size 40 #[.int .i64 (ka : Int), .int .i64 (kb : Int)]) := Lib.hid ((hr.stored 0 _).stored 1 _)
                  clear hr hb4
                  have RR9 : Hid (∀ W, Below ((w4.setCell ⟨w3.heap.size, 0, none⟩ (.int .i64 (ka : Int))).setCell ⟨w3.heap.size, 1, none⟩ (.int .i64 (kb : Int))).heap.size ((w4.setCell ⟨w3.heap.size, 0, none⟩ (.int .i64 (ka : Int))).setCell ⟨w3.heap.size, 1, none⟩ (.int .i64 (kb : Int))) W → W.cell? ⟨w3.heap.size, 0, none⟩ = some (.int .i64 (ka : Int)) ∧ W.cell? ⟨w3.heap.size, 1, none⟩ = some (.int .i64 (kb : Int))) := Lib.hid (fun W hW => by
                    have h2 := RR5.out.below hW RR5.out.inHeap
                    exact ⟨h2.at 0, h2.at 1⟩)
                  have OW5 := Lib.hid (Hown.out.below HBB.out)
                  go_wp2_with fail
                  refine wp_region_held_drew (S := (fun w' : World => w'.cell? ⟨w3.heap.size, 0, none⟩ = some (.int .i64 (ka : Int)) ∧ w'.cell? ⟨w3.heap.size, 1, none⟩ = some (.int .i64 (kb : Int)))) (by kernel_rfl) (RR9.out _ ((Below.refl _ _).drew)) (fun hHeld => ?_)
                  refine wpAnyH_take (i := 0) (v := ?_) rfl (by kernel_rfl) (by kernel_rfl) (by kernel_rfl) (fun _ _ _ h => h) (Or.inl ⟨by rfl, (by intro w hSw; go_simp; try with_reducible rfl)⟩) (by assumption) ?_
                  simp only [Act.put, List.getElem_toArray, List.getElem_cons_zero, List.getElem_cons_succ, List.setIfInBounds_toArray, List.set_cons_zero, List.set_cons_succ]
                  refine wpAnyH_take (i := 1) (v := ?_) rfl (by kernel_rfl) (by kernel_rfl) (by kernel_rfl) (fun _ _ _ h => h) (Or.inl ⟨by rfl, (by intro w hSw; go_simp; try with_reducible rfl)⟩) (by assumption) ?_
                  simp only [Act.put, List.getElem_toArray, List.getElem_cons_zero, List.getElem_cons_succ, List.setIfInBounds_toArray, List.set_cons_zero, List.set_cons_succ]
                  refine wpAnyH_take (i := 3) (v := ?_) rfl (by kernel_rfl) (by kernel_rfl) (by kernel_rfl) (fun _ _ _ h => h) (Or.inl ⟨by rfl, (by intro w hSw; have d0 := hSw.1; have d1 := hSw.2; go_simp; try with_reducible rfl)⟩) (by assumption) ?_
                  simp only [Act.put, List.getElem_toArray, List.getElem_cons_zero, List.getElem_cons_succ, List.setIfInBounds_toArray, List.set_cons_zero, List.set_cons_succ]
                  refine wpAnyH_ready (rs := [2]) (by kernel_rfl) (by simp) ?_
                  refine AllReadyH.cons rfl (fun K hK => ?_) AllReadyH.nil
                  go_simp
                  go_at_call 24
                  refine (CL.out _ (by first | omega | (simp <;> omega) | decide) _).mono ?_
                  rintro e wk ⟨rfl, hbN⟩
                  have HBk : Hid (Below ((w4.setCell ⟨w3.heap.size, 0, none⟩ (.int .i64 (ka : Int))).setCell ⟨w3.heap.size, 1, none⟩ (.int .i64 (kb : Int))).heap.size ((w4.setCell ⟨w3.heap.size, 0, none⟩ (.int .i64 (ka : Int))).setCell ⟨w3.heap.size, 1, none⟩ (.int .i64 (kb : Int))) wk) := Lib.hid (((Below.refl _ _).drew).trans (hbN.mono (Nat.le_refl _)))
                  clear hbN
                  refine hK.out _ _ (RR9.out _ HBk.out) (fun hHeld => ?_)
                  clear hK K
                  refine wpAnyH_take (i := 4) (v := ?_) rfl (by kernel_rfl) (by kernel_rfl) (by kernel_rfl) (fun _ _ _ h => h) (Or.inl ⟨by rfl, (by intro w hSw; go_simp; try with_reducible rfl)⟩) (by assumption) ?_
                  simp only [Act.put, List.getElem_toArray, List.getElem_cons_zero, List.getElem_cons_succ, List.setIfInBounds_toArray, List.set_cons_zero, List.set_cons_succ]
                  refine wpAnyH_ready (rs := [5]) (by kernel_rfl) (by simp) ?_
                  refine AllReadyH.cons rfl (fun K hK => ?_) AllReadyH.nil
                  go_simp
                  have HM9 := HMK.out wk
                  have Hown9 := Lib.hid (OW5.out.below HBk.out)
                  have HBl : Hid (Below ((w4.setCell ⟨w3.heap.size, 0, none⟩ (.int .i64 (ka : Int))).setCell ⟨w3.heap.size, 1, none⟩ (.int .i64 (kb : Int))).heap.size ((w4.setCell ⟨w3.heap.size, 0, none⟩ (.int .i64 (ka : Int))).setCell ⟨w3.heap.size, 1, none⟩ (.int .i64 (kb : Int))) (wk.alloc (.cells #[.string qs, .int .i64 (ka : Int), .int .i64 (kb : Int)] 42))) := Lib.hid (HBk.out.alloc HBk.out.size _)
                  refine hK.out _ _ (RR9.out _ HBl.out) (fun hHeld => ?_)
                  clear hK K
                  refine wpAnyH_ready (rs := [6]) (by kernel_rfl) (by simp) ?_
                  refine AllReadyH.cons rfl (fun K hK => ?_) AllReadyH.nil
                  have hown3 := Hown9.out.1.alloc (.cells #[.string qs, .int .i64 (ka : Int), .int .i64 (kb : Int)] 42)
                  refine step_near rfl (.tmp 47) (.tmp 52) 22 (by rfl) w1.heap.size 42 i0 (.agg #[.string ⟨#[]⟩, .int .i64 0, .int .i64 0]) 32 Tryz.underlying22 hi0 hz0 hz1 hz2 rfl (by decide) (by rfl) (by rfl) hown3 HM9 (fun _ _ => rfl) (fun x _ => cl_one x) ?a1 ?a2 ?a3 ?_
                  case a1 => (unfold maxLen; first | omega | (simp <;> omega))
                  case a2 => (first | omega | (simp <;> omega))
                  case a3 => (have := Hown9.out.2.size; first | omega | (simp at * <;> omega))
                  intro v9 w9 own9 hg9 hn9
                  have Hnew := Lib.hid (Hown9.out.more (x := (⟨qa, (ka : Int), (kb : Int)⟩ : Flt.Cl)) (v' := v9) (by simpa [clV] using own9) hg9)
                  have kk := Kept.ofGrown (F := fun i => u5.ownBlock = some i) hg9 (fun i e => e)
                  have hob : ¬ u5.ownBlock = some w3.heap.size := fun e => by have := (Hown.out.1.lt _ e).2; have := HB3.out.size; omega
                  have hzl : w3.heap.size < (wk.alloc (.cells #[.string qs, .int .i64 (ka : Int), .int .i64 (kb : Int)] 42)).heap.size := Nat.lt_of_lt_of_le RR5.out.inHeap HBl.out.size
                  have hS9 := (⟨(kk.cell (p := ⟨w3.heap.size, 0, none⟩) hzl hob).trans (RR9.out _ HBl.out).1, (kk.cell (p := ⟨w3.heap.size, 1, none⟩) hzl hob).trans (RR9.out _ HBl.out).2⟩ : _ ∧ _)
                  clear own9 hg9 hn9 hown3 kk hob hzl
                  refine hK.out _ _ hS9 (fun hHeld => ?_)
                  clear hS9
                  clear hK K
                  refine wpAnyH_take (i := 7) (v := ?_) rfl (by kernel_rfl) (by kernel_rfl) (by kernel_rfl) (fun _ _ _ h => h) (Or.inl ⟨by rfl, (by intro w hSw; go_simp; try with_reducible rfl)⟩) (by assumption) ?_
                  simp only [Act.put, List.getElem_toArray, List.getElem_cons_zero, List.getElem_cons_succ, List.setIfInBounds_toArray, List.set_cons_zero, List.set_cons_succ]
                  refine wpAnyH_done (by kernel_rfl) ?_ _
                  go_wp2_with fail
                  exact ⟨⟨n + 1, by omega, by go_num, Lib.hid (by rw [HST.out, List.length_append, hGn]; rfl), by rw [HST.out]; exact Hnew.out⟩, by show L.length - ((n : Int) + 1).toNat < L.length - (n : Int).toNat; omega⟩
          · rw [decide_eq_false hm] at CX
            by_cases hq : Flg.ahead 58 x = []
            · have HNO := Lib.hid (ST.out (Flg.readL_empty hq))
              rw [decide_eq_true hq] at ea ia
              rw [decide_eq_false (fun e => by rw [hq] at e; cases e)] at es
              clear hq
              clear hm TK ST
              generalize Flg.good (L.take n) = GN at *
              generalize Flg.ahead 58 x = qa at *
              generalize mk (Flg.behind 58 x) = qb at *
              generalize mk qa = qs at *
              generalize mk x = xs at *
              obtain ⟨A, cap, rfl, -⟩ := (Hown.out.rows (fun _ _ => rfl)).parts
              have glt : ((GN.length : Nat) : Int) < (L.length : Int) := by omega
              go_wp2_with fail
              refine (CX.out).mono ?_
              rintro e w2 ⟨rfl, hb2⟩
              have HB2 := Lib.hid hb2
              clear hb2
              go_wp2_with fail
              refine (WH.out _).mono ?_
              rintro e w3 ⟨rfl, hb3⟩
              have HB3 := Lib.hid (HB2.out.trans (hb3.mono HB2.out.size))
              clear hb3
              have hba : Below wr.heap.size wr (w3.alloc (.cells #[.int .i64 0, .int .i64 200] 40)) := HB3.out.alloc HB3.out.size _
              have HBA := Lib.hid hba
              have RR := Lib.hid (Row.made w3 40 #[.int .i64 0, .int .i64 200])
              clear hba
              have hz3 : w3.heap.size < (w3.alloc (.cells #[.int .i64 0, .int .i64 200] 40)).heap.size := by simp
              have HZ3 := Lib.hid hz3
              clear hz3
              go_wp2_with fail
              try go_step3
              go_wp2_with fail
              try go_step3
              go_wp2_with fail
              try rw [Exit.noGoto_ret]
              go_ret2
              exact ⟨.slice none 0 0, by rw [HNO.out.1]; rfl, by rw [HNO.out.2]; exact Rws.none _ _ _, HBw.out.trans (HBA.out.mono HBw.out.size)⟩
            · rw [decide_eq_false hq] at ea ia
              have HRD := Flg.readL_out hm hq
              by_cases hq2 : Flg.ahead 58 x = [42]
              · rw [decide_eq_true hq2] at es
                rw [show Flg.unstar (Flg.ahead 58 x) = [] by unfold Flg.unstar; rw [if_pos hq2]] at HRD
                have HST := Lib.hid (TK.out _ HRD)
                have HMK : Hid (∀ W : World, Cls (W.alloc (.cells #[.string (mk []), .int .i64 0, .int .i64 200] 42)) (fun i => i = W.heap.size) (.slice (some ⟨W.heap.size, 0, none⟩) 1 1) [⟨[], 0, 200⟩]) := Lib.hid (fun W => cl_made W 42 [] 0 200)
                have eM : mk [] = ⟨#[]⟩ := rfl
                rw [eM] at HMK
                clear eM
                clear hq
                clear hq2 HRD
                clear hm TK ST
                generalize Flg.good (L.take n) = GN at *
                generalize Flg.ahead 58 x = qa at *
                generalize mk (Flg.behind 58 x) = qb at *
                generalize mk qa = qs at *
                generalize mk x = xs at *
                go_wp2_with fail
                refine (CX.out).mono ?_
                rintro e w2 ⟨rfl, hb2⟩
                have HB2 := Lib.hid hb2
                clear hb2
                go_wp2_with fail
                refine (WH.out _).mono ?_
                rintro e w3 ⟨rfl, hb3⟩
                have HB3 := Lib.hid (HB2.out.trans (hb3.mono HB2.out.size))
                clear hb3
                have hba : Below wr.heap.size wr (w3.alloc (.cells #[.int .i64 0, .int .i64 200] 40)) := HB3.out.alloc HB3.out.size _
                have HBA := Lib.hid hba
                have RR := Lib.hid (Row.made w3 40 #[.int .i64 0, .int .i64 200])
                clear hba
                have hz3 : w3.heap.size < (w3.alloc (.cells #[.int .i64 0, .int .i64 200] 40)).heap.size := by simp
                have HZ3 := Lib.hid hz3
                clear hz3
                have RR9 : Hid (∀ W, Below (w3.alloc (.cells #[.int .i64 0, .int .i64 200] 40)).heap.size (w3.alloc (.cells #[.int .i64 0, .int .i64 200] 40)) W → W.cell? ⟨w3.heap.size, 0, none⟩ = some (.int .i64 0) ∧ W.cell? ⟨w3.heap.size, 1, none⟩ = some (.int .i64 200)) := Lib.hid (fun W hW => by
                  have h2 := RR.out.below hW RR.out.inHeap
                  exact ⟨h2.at 0, h2.at 1⟩)
                have OW5 := Lib.hid (Hown.out.below HBA.out)
                go_wp2_with fail
                refine wp_region_held_drew (S := (fun w' : World => w'.cell? ⟨w3.heap.size, 0, none⟩ = some (.int .i64 0) ∧ w'.cell? ⟨w3.heap.size, 1, none⟩ = some (.int .i64 200))) (by kernel_rfl) (RR9.out _ ((Below.refl _ _).drew)) (fun hHeld => ?_)
                refine wpAnyH_take (i := 0) (v := ?_) rfl (by kernel_rfl) (by kernel_rfl) (by kernel_rfl) (fun _ _ _ h => h) (Or.inl ⟨by rfl, (by intro w hSw; go_simp; try with_reducible rfl)⟩) (by assumption) ?_
                simp only [Act.put, List.getElem_toArray, List.getElem_cons_zero, List.getElem_cons_succ, List.setIfInBounds_toArray, List.set_cons_zero, List.set_cons_succ]
                refine wpAnyH_take (i := 1) (v := ?_) rfl (by kernel_rfl) (by kernel_rfl) (by kernel_rfl) (fun _ _ _ h => h) (Or.inl ⟨by rfl, (by intro w hSw; go_simp; try with_reducible rfl)⟩) (by assumption) ?_
                simp only [Act.put, List.getElem_toArray, List.getElem_cons_zero, List.getElem_cons_succ, List.setIfInBounds_toArray, List.set_cons_zero, List.set_cons_succ]
                refine wpAnyH_take (i := 3) (v := ?_) rfl (by kernel_rfl) (by kernel_rfl) (by kernel_rfl) (fun _ _ _ h => h) (Or.inl ⟨by rfl, (by intro w hSw; have d0 := hSw.1; have d1 := hSw.2; go_simp; try with_reducible rfl)⟩) (by assumption) ?_
                simp only [Act.put, List.getElem_toArray, List.getElem_cons_zero, List.getElem_cons_succ, List.setIfInBounds_toArray, List.set_cons_zero, List.set_cons_succ]
                refine wpAnyH_ready (rs := [2]) (by kernel_rfl) (by simp) ?_
                refine AllReadyH.cons rfl (fun K hK => ?_) AllReadyH.nil
                go_simp
                go_at_call 24
                refine (CL.out _ (by first | omega | (simp <;> omega) | decide) _).mono ?_
                rintro e wk ⟨rfl, hbN⟩
                have HBk : Hid (Below (w3.alloc (.cells #[.int .i64 0, .int .i64 200] 40)).heap.size (w3.alloc (.cells #[.int .i64 0, .int .i64 200] 40)) wk) := Lib.hid (((Below.refl _ _).drew).trans (hbN.mono (Nat.le_refl _)))
                clear hbN
                refine hK.out _ _ (RR9.out _ HBk.out) (fun hHeld => ?_)
                clear hK K
                refine wpAnyH_take (i := 4) (v := ?_) rfl (by kernel_rfl) (by kernel_rfl) (by kernel_rfl) (fun _ _ _ h => h) (Or.inl ⟨by rfl, (by intro w hSw; go_simp; try with_reducible rfl)⟩) (by assumption) ?_
                simp only [Act.put, List.getElem_toArray, List.getElem_cons_zero, List.getElem_cons_succ, List.setIfInBounds_toArray, List.set_cons_zero, List.set_cons_succ]
                refine wpAnyH_ready (rs := [5]) (by kernel_rfl) (by simp) ?_
                refine AllReadyH.cons rfl (fun K hK => ?_) AllReadyH.nil
                go_simp
                have HM9 := HMK.out wk
                have Hown9 := Lib.hid (OW5.out.below HBk.out)
                have HBl : Hid (Below (w3.alloc (.cells #[.int .i64 0, .int .i64 200] 40)).heap.size (w3.alloc (.cells #[.int .i64 0, .int .i64 200] 40)) (wk.alloc (.cells #[.string ⟨#[]⟩, .int .i64 0, .int .i64 200] 42))) := Lib.hid (HBk.out.alloc HBk.out.size _)
                refine hK.out _ _ (RR9.out _ HBl.out) (fun hHeld => ?_)
                clear hK K
                refine wpAnyH_ready (rs := [6]) (by kernel_rfl) (by simp) ?_
                refine AllReadyH.cons rfl (fun K hK => ?_) AllReadyH.nil
                have hown3 := Hown9.out.1.alloc (.cells #[.string ⟨#[]⟩, .int .i64 0, .int .i64 200] 42)
                refine step_near rfl (.tmp 47) (.tmp 52) 22 (by rfl) w1.heap.size 42 i0 (.agg #[.string ⟨#[]⟩, .int .i64 0, .int .i64 0]) 32 Tryz.underlying22 hi0 hz0 hz1 hz2 rfl (by decide) (by rfl) (by rfl) hown3 HM9 (fun _ _ => rfl) (fun x _ => cl_one x) ?a1 ?a2 ?a3 ?_
                case a1 => (unfold maxLen; first | omega | (simp <;> omega))
                case a2 => (first | omega | (simp <;> omega))
                case a3 => (have := Hown9.out.2.size; first | omega | (simp at * <;> omega))
                intro v9 w9 own9 hg9 hn9
                have Hnew := Lib.hid (Hown9.out.more (x := (⟨[], 0, 200⟩ : Flt.Cl)) (v' := v9) (by simpa [clV] using own9) hg9)
                have kk := Kept.ofGrown (F := fun i => u5.ownBlock = some i) hg9 (fun i e => e)
                have hob : ¬ u5.ownBlock = some w3.heap.size := fun e => by have := (Hown.out.1.lt _ e).2; have := HB3.out.size; omega
                have hzl : w3.heap.size < (wk.alloc (.cells #[.string ⟨#[]⟩, .int .i64 0, .int .i64 200] 42)).heap.size := Nat.lt_of_lt_of_le RR.out.inHeap HBl.out.size
                have hS9 := (⟨(kk.cell (p := ⟨w3.heap.size, 0, none⟩) hzl hob).trans (RR9.out _ HBl.out).1, (kk.cell (p := ⟨w3.heap.size, 1, none⟩) hzl hob).trans (RR9.out _ HBl.out).2⟩ : _ ∧ _)
                clear own9 hg9 hn9 hown3 kk hob hzl
                refine hK.out _ _ hS9 (fun hHeld => ?_)
                clear hS9
                clear hK K
                refine wpAnyH_take (i := 7) (v := ?_) rfl (by kernel_rfl) (by kernel_rfl) (by kernel_rfl) (fun _ _ _ h => h) (Or.inl ⟨by rfl, (by intro w hSw; go_simp; try with_reducible rfl)⟩) (by assumption) ?_
                simp only [Act.put, List.getElem_toArray, List.getElem_cons_zero, List.getElem_cons_succ, List.setIfInBounds_toArray, List.set_cons_zero, List.set_cons_succ]
                refine wpAnyH_done (by kernel_rfl) ?_ _
                go_wp2_with fail
                exact ⟨⟨n + 1, by omega, by go_num, Lib.hid (by rw [HST.out, List.length_append, hGn]; rfl), by rw [HST.out]; exact Hnew.out⟩, by show L.length - ((n : Int) + 1).toNat < L.length - (n : Int).toNat; omega⟩
              · rw [decide_eq_false hq2] at es
                rw [show Flg.unstar (Flg.ahead 58 x) = Flg.ahead 58 x by unfold Flg.unstar; rw [if_neg hq2]] at HRD
                have HST := Lib.hid (TK.out _ HRD)
                have HMK : Hid (∀ W : World, Cls (W.alloc (.cells #[.string (mk (Flg.ahead 58 x)), .int .i64 0, .int .i64 200] 42)) (fun i => i = W.heap.size) (.slice (some ⟨W.heap.size, 0, none⟩) 1 1) [⟨(Flg.ahead 58 x), 0, 200⟩]) := Lib.hid (fun W => cl_made W 42 (Flg.ahead 58 x) 0 200)
                clear hq
                clear hq2 HRD
                clear hm TK ST
                generalize Flg.good (L.take n) = GN at *
                have HP := Lib.hid (rfl : Flg.ahead 58 x = Flg.ahead 58 x)
                clear HP
                generalize Flg.ahead 58 x = qa at *
                generalize mk (Flg.behind 58 x) = qb at *
                generalize mk qa = qs at *
                generalize mk x = xs at *
                go_wp2_with fail
                refine (CX.out).mono ?_
                rintro e w2 ⟨rfl, hb2⟩
                have HB2 := Lib.hid hb2
                clear hb2
                go_wp2_with fail
                refine (WH.out _).mono ?_
                rintro e w3 ⟨rfl, hb3⟩
                have HB3 := Lib.hid (HB2.out.trans (hb3.mono HB2.out.size))
                clear hb3
                have hba : Below wr.heap.size wr (w3.alloc (.cells #[.int .i64 0, .int .i64 200] 40)) := HB3.out.alloc HB3.out.size _
                have HBA := Lib.hid hba
                have RR := Lib.hid (Row.made w3 40 #[.int .i64 0, .int .i64 200])
                clear hba
                have hz3 : w3.heap.size < (w3.alloc (.cells #[.int .i64 0, .int .i64 200] 40)).heap.size := by simp
                have HZ3 := Lib.hid hz3
                clear hz3
                have RR9 : Hid (∀ W, Below (w3.alloc (.cells #[.int .i64 0, .int .i64 200] 40)).heap.size (w3.alloc (.cells #[.int .i64 0, .int .i64 200] 40)) W → W.cell? ⟨w3.heap.size, 0, none⟩ = some (.int .i64 0) ∧ W.cell? ⟨w3.heap.size, 1, none⟩ = some (.int .i64 200)) := Lib.hid (fun W hW => by
                  have h2 := RR.out.below hW RR.out.inHeap
                  exact ⟨h2.at 0, h2.at 1⟩)
                have OW5 := Lib.hid (Hown.out.below HBA.out)
                go_wp2_with fail
                refine wp_region_held_drew (S := (fun w' : World => w'.cell? ⟨w3.heap.size, 0, none⟩ = some (.int .i64 0) ∧ w'.cell? ⟨w3.heap.size, 1, none⟩ = some (.int .i64 200))) (by kernel_rfl) (RR9.out _ ((Below.refl _ _).drew)) (fun hHeld => ?_)
                refine wpAnyH_take (i := 0) (v := ?_) rfl (by kernel_rfl) (by kernel_rfl) (by kernel_rfl) (fun _ _ _ h => h) (Or.inl ⟨by rfl, (by intro w hSw; go_simp; try with_reducible rfl)⟩) (by assumption) ?_
                simp only [Act.put, List.getElem_toArray, List.getElem_cons_zero, List.getElem_cons_succ, List.setIfInBounds_toArray, List.set_cons_zero, List.set_cons_succ]
                refine wpAnyH_take (i := 1) (v := ?_) rfl (by kernel_rfl) (by kernel_rfl) (by kernel_rfl) (fun _ _ _ h => h) (Or.inl ⟨by rfl, (by intro w hSw; go_simp; try with_reducible rfl)⟩) (by assumption) ?_
                simp only [Act.put, List.getElem_toArray, List.getElem_cons_zero, List.getElem_cons_succ, List.setIfInBounds_toArray, List.set_cons_zero, List.set_cons_succ]
                refine wpAnyH_take (i := 3) (v := ?_) rfl (by kernel_rfl) (by kernel_rfl) (by kernel_rfl) (fun _ _ _ h => h) (Or.inl ⟨by rfl, (by intro w hSw; have d0 := hSw.1; have d1 := hSw.2; go_simp; try with_reducible rfl)⟩) (by assumption) ?_
                simp only [Act.put, List.getElem_toArray, List.getElem_cons_zero, List.getElem_cons_succ, List.setIfInBounds_toArray, List.set_cons_zero, List.set_cons_succ]
                refine wpAnyH_ready (rs := [2]) (by kernel_rfl) (by simp) ?_
                refine AllReadyH.cons rfl (fun K hK => ?_) AllReadyH.nil
                go_simp
                go_at_call 24
                refine (CL.out _ (by first | omega | (simp <;> omega) | decide) _).mono ?_
                rintro e wk ⟨rfl, hbN⟩
                have HBk : Hid (Below (w3.alloc (.cells #[.int .i64 0, .int .i64 200] 40)).heap.size (w3.alloc (.cells #[.int .i64 0, .int .i64 200] 40)) wk) := Lib.hid (((Below.refl _ _).drew).trans (hbN.mono (Nat.le_refl _)))
                clear hbN
                refine hK.out _ _ (RR9.out _ HBk.out) (fun hHeld => ?_)
                clear hK K
                refine wpAnyH_take (i := 4) (v := ?_) rfl (by kernel_rfl) (by kernel_rfl) (by kernel_rfl) (fun _ _ _ h => h) (Or.inl ⟨by rfl, (by intro w hSw; go_simp; try with_reducible rfl)⟩) (by assumption) ?_
                simp only [Act.put, List.getElem_toArray, List.getElem_cons_zero, List.getElem_cons_succ, List.setIfInBounds_toArray, List.set_cons_zero, List.set_cons_succ]
                refine wpAnyH_ready (rs := [5]) (by kernel_rfl) (by simp) ?_
                refine AllReadyH.cons rfl (fun K hK => ?_) AllReadyH.nil
                go_simp
                have HM9 := HMK.out wk
                have Hown9 := Lib.hid (OW5.out.below HBk.out)
                have HBl : Hid (Below (w3.alloc (.cells #[.int .i64 0, .int .i64 200] 40)).heap.size (w3.alloc (.cells #[.int .i64 0, .int .i64 200] 40)) (wk.alloc (.cells #[.string qs, .int .i64 0, .int .i64 200] 42))) := Lib.hid (HBk.out.alloc HBk.out.size _)
                refine hK.out _ _ (RR9.out _ HBl.out) (fun hHeld => ?_)
                clear hK K
                refine wpAnyH_ready (rs := [6]) (by kernel_rfl) (by simp) ?_
                refine AllReadyH.cons rfl (fun K hK => ?_) AllReadyH.nil
                have hown3 := Hown9.out.1.alloc (.cells #[.string qs, .int .i64 0, .int .i64 200] 42)
                refine step_near rfl (.tmp 47) (.tmp 52) 22 (by rfl) w1.heap.size 42 i0 (.agg #[.string ⟨#[]⟩, .int .i64 0, .int .i64 0]) 32 Tryz.underlying22 hi0 hz0 hz1 hz2 rfl (by decide) (by rfl) (by rfl) hown3 HM9 (fun _ _ => rfl) (fun x _ => cl_one x) ?a1 ?a2 ?a3 ?_
                case a1 => (unfold maxLen; first | omega | (simp <;> omega))
                case a2 => (first | omega | (simp <;> omega))
                case a3 => (have := Hown9.out.2.size; first | omega | (simp at * <;> omega))
                intro v9 w9 own9 hg9 hn9
                have Hnew := Lib.hid (Hown9.out.more (x := (⟨qa, 0, 200⟩ : Flt.Cl)) (v' := v9) (by simpa [clV] using own9) hg9)
                have kk := Kept.ofGrown (F := fun i => u5.ownBlock = some i) hg9 (fun i e => e)
                have hob : ¬ u5.ownBlock = some w3.heap.size := fun e => by have := (Hown.out.1.lt _ e).2; have := HB3.out.size; omega
                have hzl : w3.heap.size < (wk.alloc (.cells #[.string qs, .int .i64 0, .int .i64 200] 42)).heap.size := Nat.lt_of_lt_of_le RR.out.inHeap HBl.out.size
                have hS9 := (⟨(kk.cell (p := ⟨w3.heap.size, 0, none⟩) hzl hob).trans (RR9.out _ HBl.out).1, (kk.cell (p := ⟨w3.heap.size, 1, none⟩) hzl hob).trans (RR9.out _ HBl.out).2⟩ : _ ∧ _)
                clear own9 hg9 hn9 hown3 kk hob hzl
                refine hK.out _ _ hS9 (fun hHeld => ?_)
                clear hS9
                clear hK K
                refine wpAnyH_take (i := 7) (v := ?_) rfl (by kernel_rfl) (by kernel_rfl) (by kernel_rfl) (fun _ _ _ h => h) (Or.inl ⟨by rfl, (by intro w hSw; go_simp; try with_reducible rfl)⟩) (by assumption) ?_
                simp only [Act.put, List.getElem_toArray, List.getElem_cons_zero, List.getElem_cons_succ, List.setIfInBounds_toArray, List.set_cons_zero, List.set_cons_succ]
                refine wpAnyH_done (by kernel_rfl) ?_ _
                go_wp2_with fail
                exact ⟨⟨n + 1, by omega, by go_num, Lib.hid (by rw [HST.out, List.length_append, hGn]; rfl), by rw [HST.out]; exact Hnew.out⟩, by show L.length - ((n : Int) + 1).toNat < L.length - (n : Int).toNat; omega⟩
        · obtain rfl : n = L.length := by omega
          rw [List.take_length] at hown hgl
          obtain ⟨A, cap, rfl, -⟩ := (hown.rows (fun _ _ => rfl)).parts
          have CK1 := Lib.hid (CK.out _ _ _ (hown.rows (fun _ _ => rfl)))
          have Hown := Lib.hid hown
          have hlen : ((Flg.good L).length : Int) = (L.length : Int) := by have := hgl.out; omega
          have glt : ¬ ((Flg.good L).length : Int) < (L.length : Int) := by omega
          clear hown
          by_cases hc : Flt.check (Flg.good L) = 0
          · have hfin := Lib.hid (ALL.out hgl.out hc)
            rw [hc] at CK1
            clear hc hlen
            generalize hGG : Flg.good L = GG at *
            have HGG := Lib.hid hGG
            clear hGG
            go_wp2_with fail
            refine (CK1.out).mono ?_
            rintro e w2 ⟨rfl, hb2⟩
            have HV := Lib.hid (Hown.out.below hb2)
            clear hb2
            go_wp2_with fail
            try rw [Exit.noGoto_ret]
            go_ret2
            exact ⟨_, by rw [hfin.out.1]; rfl, by rw [hfin.out.2]; exact (HV.out.since HB1.out).rows (fun _ _ => rfl), HB1.out.trans (HV.out.2.mono HB1.out.size)⟩
          · have hfin := Lib.hid (BAD.out hc)
            have b1 : (Flt.check (Flg.good L) != 0) = true := by rw [bne_iff_ne]; exact hc
            clear hlen
            generalize Flt.check (Flg.good L) = CC at *
            generalize hGG : Flg.good L = GG at *
            clear hGG
            go_wp2_with fail
            refine (CK1.out).mono ?_
            rintro e w2 ⟨rfl, hb2⟩
            have HV := Lib.hid (Hown.out.2.trans (hb2.mono Hown.out.2.size))
            clear hb2
            go_wp2_with fail
            try rw [Exit.noGoto_ret]
            go_ret2
            exact ⟨.slice none 0 0, by rw [hfin.out.1]; rfl, by rw [hfin.out.2]; exact Rws.none _ _ _, HB1.out.trans (HV.out.mono HB1.out.size)⟩
end Go.Proofs.YtabnfaonlkipbaaGreatDoor
