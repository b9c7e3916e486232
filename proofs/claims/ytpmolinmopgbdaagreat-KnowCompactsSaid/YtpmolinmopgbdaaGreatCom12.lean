import Derived.Test.YtpmolinmopgbdaaGreatCom5
import Derived.Test.YtpmolinmopgbdaaGreatCom11
import Derived.Laws.StructEq
import Derived.Great.Walk
import Derived.WalkMore
import Derived.DeepKeys4
import Derived.Maps.Keyed
import Derived.WideKeyElems
import Derived.Great.BuildSlice
set_option maxRecDepth 100000
set_option linter.unusedVariables false
set_option linter.unusedSimpArgs false
set_option maxHeartbeats 12800000
namespace Go.Proofs.YtpmolinmopgbdaaGreat
open Go.RowKit
theorem vec_part {x : List Int} (hx : x.length = 65) {i : Nat} (hi : i < 65) (w : World) : (part 3 (vecR x) (i * 1)).run Tryz.prog w = .ok (.int .i64 ((x[i]?).getD 0)) w := by
 have ha := Tryz.isAgg3
 have hg : (vecR x)[i]? = some (.int .i64 ((x[i]?).getD 0)) := vecR_get (by rw [List.getElem?_eq_getElem (by omega)]; rfl)
 simp [part, ha, hg]
theorem vec_equalIn (m : Nat) (w : World) {x y : List Int} (hx : x.length = 65) (hy : y.length = 65) (hE : ∀ (w : World) (a b : Int), (Op.equalIn m 3 (.int .i64 a) (.int .i64 b)).run Tryz.prog w = .ok (a == b) w) : (Op.equalIn (m + 1) 39 (vecA x) (vecA y)).run Tryz.prog w = .ok (decide (x = y)) w := by
 have hu := Tryz.underlying39
 have hs := Tryz.sizeOf3
 have key : ∀ (n j : Nat), j + n = 65 → (∀ i, i < j → x[i]? = y[i]?) → ∀ w : World, ((forIn (List.range' j n) ((none : Option Bool), ()) (fun i (_ : Option Bool × Unit) => do
   let a ← part 3 (vecR x) (i * 1)
   let b ← part 3 (vecR y) (i * 1)
   let r ← Op.equalIn m 3 a b
   if (!r) = true then pure (ForInStep.done (some false, ())) else pure (ForInStep.yield (none, ())))).run Tryz.prog w) = .ok (if x = y then (none, ()) else (some false, ())) w := by
  intro n
  induction n with
  | zero =>
   intro j hj hp w
   have e : x = y := by
    apply List.ext_getElem?
    intro i
    by_cases hi : i < j
    ·exact hp i hi
    ·rw [List.getElem?_eq_none (by omega), List.getElem?_eq_none (by omega)]
   rw [if_pos e]
   simp
  | succ n ih =>
   intro j hj hp w
   rw [List.range'_succ, List.forIn_cons]
   simp only [Sem.run_bind, vec_part hx (show j < 65 by omega), vec_part hy (show j < 65 by omega), Result.andThen_ok, hE]
   by_cases h : (x[j]?).getD 0 = (y[j]?).getD 0
   ·have h2 : ((x[j]?).getD 0 == (y[j]?).getD 0) = true := by simpa using h
    simp only [h2, Bool.not_true, Bool.false_eq_true, if_false, Sem.run_pure, Result.andThen_ok]
    refine ih (j + 1) (by omega) (fun i hi => ?_) w
    by_cases hij : i = j
    ·subst hij
     rw [List.getElem?_eq_getElem (by omega), List.getElem?_eq_getElem (by omega)] at h ⊢
     simpa using h
    ·exact hp i (by omega)
   ·have h2 : ((x[j]?).getD 0 == (y[j]?).getD 0) = false := by simpa using h
    have hne : ¬ x = y := fun e => h (by rw [e])
    simp only [h2, Bool.not_false, if_true, Sem.run_pure, Result.andThen_ok, if_neg hne]
 simp only [Op.equalIn, Sem.run_bind, run_underlying hu, Result.andThen_ok, hs]
 simp only [Std.Legacy.Range.forIn_eq_forIn_range', Std.Legacy.Range.size, Nat.sub_zero, Nat.add_one_sub_one, Nat.div_one]
 rw [key 65 0 rfl (fun i hi => absurd hi (Nat.not_lt_zero i))]
 by_cases h : x = y
 ·rw [if_pos h, decide_eq_true h]; rfl
 ·rw [if_neg h, decide_eq_false h]; rfl
theorem vec_eq {x y : List Int} (hx : x.length = 65) (hy : y.length = 65) (w : World) : (Op.equalIn 10000 39 (vecA x) (vecA y)).run Tryz.prog w = .ok (decide (x = y)) w := by
 have u3 := Tryz.underlying3
 exact vec_equalIn 9999 w hx hy (fun w a b => run_equalIn_int w 9998 3 _ _ a b u3)
end Go.Proofs.YtpmolinmopgbdaaGreat
namespace Go.Proofs.YtpmolinmopgbdaaGreat
open Go.RowKit Go.Sort
theorem vec_zeroL (w : World) : (zeroValue 39).run Tryz.prog w = .ok (.agg (vecL Vec.zeros).toArray) w := vecZero w
theorem vec_eqL {x y : List Int} (hx : x.length = 65) (hy : y.length = 65) (w : World) : (Op.equalIn 10000 39 (.agg (vecL x).toArray) (.agg (vecL y).toArray)).run Tryz.prog w = .ok (decide (x = y)) w := vec_eq hx hy w
theorem know_widest (V : VecOk) (I : IsetOk) (C : CoverOk) {w : World} {F : Nat → Prop} {v : Value} {l : List Know.Fr} (h : Frs w F v l) (hl : l.length ≤ 99999) (hn : ∀ x ∈ l, x.no.length ≤ 100000) (hc : ∀ x ∈ l, Cov.Ok x.f) :
  Calls Tryz.prog 32 #[v] w fun e w' => ∃ v' rs, e = .returned v' ∧ FOwn w rs v' w' ∧ rs.map (·.x) = Know.wide l := by
 obtain ⟨rs, rfl, hr, hi⟩ := h
 rw [List.length_map] at hl
 obtain ⟨i1, hi1, hy0, hy1, hy2⟩ := ver_parts frInfo
 have hz := frZero
 have hvz := vec_zeroL
 have HI := Lib.hid hi
 have HR := Lib.hid hr
 have HN : Hid (∀ r ∈ rs, r.x.no.length ≤ 100000) := Lib.hid (fun r hr => hn _ (List.mem_map.2 ⟨r, hr, rfl⟩))
 have HC : Hid (∀ r ∈ rs, Cov.Ok r.x.f) := Lib.hid (fun r hr => hc _ (List.mem_map.2 ⟨r, hr, rfl⟩))
 obtain ⟨A, cap, rfl, hcap⟩ := hr.parts
 have hl0 : (rs.length : Int) ≤ 99999 := by omega
 clear hr hi hn hc
 go_enter Tryz.func32, Tryz.ntmps32
 go_wp2_with fail
 go_step3
 go_wp2_with fail
 try go_step3
 try go_wp2_with fail
 go_loopw [3, 10] (fun s3 i wr => ∃ n RS, n ≤ rs.length ∧ i = .int .i64 (n : Nat) ∧ Hid (FOwn w RS s3 wr ∧ RS.map (·.x) = Know.wideTo (rs.map (·.x)) n)) (fun _ i _ => rs.length - (intOf i).toNat)
 case atStart => exact ⟨0, [], Nat.zero_le _, rfl, Lib.hid ⟨FOwn.start w, rfl⟩⟩
 case round =>
  obtain ⟨n, RS, hn, rfl, hst⟩ := hrel
  by_cases hlt : n < rs.length
  ·obtain ⟨b, o, cap1, e, -, -, hb⟩ := HR.out.block (by omega)
   injection e with e1 e2 e3
   subst e1 e3
   clear e2
   obtain ⟨r, hr⟩ : ∃ r, rs[n]? = some r := ⟨_, List.getElem?_eq_getElem hlt⟩
   have hrm := List.mem_of_getElem? hr
   have hIn := HI.out r hrm
   have hbr := hst.out.1.size
   have LE := Lib.hid ((FrAt.elem HR.out hr hIn.len).below hbr hb)
   have hone := Lib.hid hIn.one
   have hr65 := Lib.hid hIn.len
   have HS : Hid ((Tryz.prog.info? 42).map (·.size) = some (rfV r).length ∧ (rfV frZ).toArray.size = (rfV r).length) := Lib.hid ⟨frSize hIn.len, by rw [rf_len hIn.len]; exact frZ_size⟩
   have hbA : Below wr.heap.size wr (wr.alloc (.cells (rfV r).toArray 42)) := (Below.refl _ _).alloc (Nat.le_refl _) _
   have FB : FrAt (wr.alloc (.cells (rfV r).toArray 42)) wr.heap.size 0 r := FrAt.made wr hIn.len _
   have hbx : wr.heap.size < (wr.alloc (.cells (rfV r).toArray 42)).heap.size := by simp
   obtain ⟨A2, c2, eA, -⟩ := hIn.f.parts
   have c0 := FB.f
   rw [eA] at c0
   have V0 := Lib.hid FB.v0
   have LX := Lib.hid (fun (W : World) (h : Below (wr.alloc (.cells (rfV r).toArray 42)).heap.size (wr.alloc (.cells (rfV r).toArray 42)) W) => FB.all.below h hbx)
   have Hrx : Hid ((rs.map (·.x))[n]? = some r.x) := Lib.hid (by rw [List.getElem?_map, hr]; rfl)
   have HST := Lib.hid (And.intro (hst.out.1.below hbA) hst.out.2)
   have HTop := Lib.hid (fun (h : ¬ Know.Top (rs.map (·.x)) n r.x) => And.intro (hst.out.1.below hbA) (hst.out.2.trans (Know.wide_no Hrx.out h).symm))
   have hk0 : (0 : Int) ≤ (n : Int) := by omega
   have hk1 : (n : Int) < (rs.length : Int) := by omega
   have hk2 : (n : Int) ≤ 99999 := by omega
   clear hr hIn hbA FB hbx eA
   by_cases hf : r.x.f = []
   ·have HN1 := Lib.hid (HTop.out (fun h => h.1 hf))
    rw [hf, List.length_nil] at c0
    clear hst HTop hf
    go_wp2_with (first | refine wpList_mload (by rfl) _ (by rfl) (by rfl) LE.out.all ?_ | refine wpList_nstore (by rfl) _ _ (by rfl) (by rfl) (by rfl) HS.out.1 HS.out.2 hone.out ?_)
    exact ⟨⟨n + 1, RS, by omega, by go_num, HN1⟩, by show rs.length - ((n : Int) + 1).toNat < rs.length - (n : Int).toNat; omega⟩
   ·have hne : ((r.x.f.length : Int) == 0) = false := by
     cases hff : r.x.f with
     | nil => exact absurd hff hf
     | cons a t => rw [List.length_cons]; simp; omega
    have ve := fun w => vec_eqL hr65.out Vec.zeros_len w
    by_cases hv : r.x.v = Vec.zeros
    ·have HN1 := Lib.hid (HTop.out (fun h => h.2.1 hv))
     rw [decide_eq_true hv] at ve
     clear hst HTop hf hv
     go_wp2_with (first | refine wpList_mload (by rfl) _ (by rfl) (by rfl) LE.out.all ?_ | refine wpList_nstore (by rfl) _ _ (by rfl) (by rfl) (by rfl) HS.out.1 HS.out.2 hone.out ?_ | refine wpList_mload (by rfl) _ (by rfl) (by rfl) V0.out ?_)
     exact ⟨⟨n + 1, RS, by omega, by go_num, HN1⟩, by show rs.length - ((n : Int) + 1).toNat < rs.length - (n : Int).toNat; omega⟩
    ·rw [decide_eq_false hv] at ve
     go_wp2_with (first | refine wpList_mload (by rfl) _ (by rfl) (by rfl) LE.out.all ?_ | refine wpList_nstore (by rfl) _ _ (by rfl) (by rfl) (by rfl) HS.out.1 HS.out.2 hone.out ?_ | refine wpList_mload (by rfl) _ (by rfl) (by rfl) V0.out ?_)
     have hW0 := Lib.hid (hst.out.1.size.trans (((Below.refl wr.heap.size wr).alloc (Nat.le_refl _) (.cells (rfV r).toArray 42)).mono hst.out.1.size.size))
     have HTf := Lib.hid hf
     have HTv := Lib.hid hv
     have HN := HN
     have Hno := Lib.hid (HN.out r hrm)
     have Hrc := Lib.hid (HC.out r hrm)
     have Hin := Lib.hid (HI.out r hrm)
     have HTW := Lib.hid (fun (W : World) (hb : Below (wr.alloc (.cells (rfV r).toArray 42)).heap.size (wr.alloc (.cells (rfV r).toArray 42)) W) (h : ¬ Know.Top (rs.map (·.x)) n r.x) => And.intro (HST.out.1.below hb) (HST.out.2.trans (Know.wide_no Hrx.out h).symm))
     have HTY := Lib.hid (fun (h : Know.Top (rs.map (·.x)) n r.x) => (Know.wide_yes Hrx.out h))
     have HFW := Lib.hid (fun (W : World) (hb : Below (wr.alloc (.cells (rfV r).toArray 42)).heap.size (wr.alloc (.cells (rfV r).toArray 42)) W) => HST.out.1.below hb)
     have HSTm := Lib.hid HST.out.2
     clear c0 ve hne hf hv hst V0 HTop HST hrm
     generalize hbk : wr.heap.size = bk at *
     clear hbk
     generalize wr.alloc (.cells (rfV r).toArray 42) = W0 at *
     go_loopw [27] (fun i W => ∃ m : Nat, m ≤ rs.length ∧ i = .int .i64 (m : Int) ∧ Hid (∀ k y, k < m → k ≠ n → (rs.map (·.x))[k]? = some y → ¬ Know.Incl y r.x) ∧ Hid (Below W0.heap.size W0 W)) (fun i _ => rs.length - (intOf i).toNat)
     case atStart => exact ⟨0, Nat.zero_le _, rfl, Lib.hid (fun k y hk => absurd hk (Nat.not_lt_zero k)), Lib.hid (Below.refl _ _)⟩
     case round =>
      obtain ⟨m, hm, rfl, hnone, hbel⟩ := hrel
      by_cases hlt2 : m < rs.length
      ·obtain ⟨s, hs⟩ : ∃ s, rs[m]? = some s := ⟨_, List.getElem?_eq_getElem hlt2⟩
       have hsm := List.mem_of_getElem? hs
       have hsIn := HI.out s hsm
       have hbw := hW0.out.trans (hbel.out.mono hW0.out.size)
       have LS := Lib.hid ((FrAt.elem HR.out hs hsIn.len).below hbw hb)
       have hone2 := Lib.hid hsIn.one
       have HS2 : Hid ((Tryz.prog.info? 42).map (·.size) = some (rfV s).length ∧ (rfV frZ).toArray.size = (rfV s).length) := Lib.hid ⟨frSize hsIn.len, by rw [rf_len hsIn.len]; exact frZ_size⟩
       have hbB : Below wr.heap.size wr (wr.alloc (.cells (rfV s).toArray 42)) := (Below.refl _ _).alloc (Nat.le_refl _) _
       have FS := Lib.hid (FrAt.made wr hsIn.len 42)
       have LX2 := Lib.hid (LX.out _ (hbel.out.trans (hbB.mono hbel.out.size)))
       have IC := Lib.hid (know_includes V I C (hsIn.below (hbw.trans (hbB.mono hbw.size))) (Hin.out.below (hbw.trans (hbB.mono hbw.size))) (HN.out s hsm) Hno.out (HC.out s hsm) Hrc.out)
       have HB2 := Lib.hid (hbel.out.trans (hbB.mono hbel.out.size))
       have Hsx : Hid ((rs.map (·.x))[m]? = some s.x) := Lib.hid (by rw [List.getElem?_map, hs]; rfl)
       have hm0 : (0 : Int) ≤ (m : Int) := by omega
       have hm1 : (m : Int) < (rs.length : Int) := by omega
       have hm2 : (m : Int) ≤ 99999 := by omega
       clear hs hsm hsIn hbw hbB
       by_cases hmn : m = n
       ·subst hmn
        have HNx : Hid (∀ k y, k < m + 1 → k ≠ m → (rs.map (·.x))[k]? = some y → ¬ Know.Incl y r.x) := Lib.hid (fun k y hk hne => hnone.out k y (by omega) hne)
        clear IC hnone
        go_wp2_with (first | refine wpList_mload (by rfl) _ (by rfl) (by rfl) LS.out.all ?_ | refine wpList_nstore (by rfl) _ _ (by rfl) (by rfl) (by rfl) HS2.out.1 HS2.out.2 hone2.out ?_)
        exact ⟨⟨m + 1, by omega, by go_num, HNx, HB2⟩, by show rs.length - ((m : Int) + 1).toNat < rs.length - (m : Int).toNat; omega⟩
       ·have hmn2 : ((m : Int) != (n : Int)) = true := by simp; omega
        by_cases hinc : Know.Incl s.x r.x
        ·rw [decide_eq_true hinc] at IC
         have HTn := Lib.hid (fun (W : World) (hb : Below W0.heap.size W0 W) => HTW.out W hb (fun h => h.2.2 m s.x Hsx.out hmn hinc))
         clear hnone hinc
         go_wp2_with (first | refine wpList_mload (by rfl) _ (by rfl) (by rfl) LS.out.all ?_ | refine wpList_nstore (by rfl) _ _ (by rfl) (by rfl) (by rfl) HS2.out.1 HS2.out.2 hone2.out ?_ | refine wpList_mload (by rfl) _ (by rfl) (by rfl) FS.out.all ?_ | refine wpList_mload (by rfl) _ (by rfl) (by rfl) LX2.out ?_)
         refine (IC.out).mono ?_
         rintro e w3 ⟨rfl, h3⟩
         have H3 := Lib.hid (HTn.out w3 (HB2.out.trans (h3.mono HB2.out.size)))
         clear h3 IC
         go_wp2_with fail
         exact ⟨⟨n + 1, RS, by omega, by go_num, H3⟩, by show rs.length - ((n : Int) + 1).toNat < rs.length - (n : Int).toNat; omega⟩
        ·rw [decide_eq_false hinc] at IC
         have HNx : Hid (∀ k y, k < m + 1 → k ≠ n → (rs.map (·.x))[k]? = some y → ¬ Know.Incl y r.x) := Lib.hid (fun k y hk hne hy => by
          by_cases e : k = m
          ·subst e
           rw [Hsx.out] at hy
           injection hy with hy
           rw [← hy]; exact hinc
          ·exact hnone.out k y (by omega) hne hy)
         clear hnone hinc
         go_wp2_with (first | refine wpList_mload (by rfl) _ (by rfl) (by rfl) LS.out.all ?_ | refine wpList_nstore (by rfl) _ _ (by rfl) (by rfl) (by rfl) HS2.out.1 HS2.out.2 hone2.out ?_ | refine wpList_mload (by rfl) _ (by rfl) (by rfl) FS.out.all ?_ | refine wpList_mload (by rfl) _ (by rfl) (by rfl) LX2.out ?_)
         refine (IC.out).mono ?_
         rintro e w3 ⟨rfl, h3⟩
         have H3 := Lib.hid (HB2.out.trans (h3.mono HB2.out.size))
         clear h3 IC
         go_wp2_with fail
         exact ⟨⟨m + 1, by omega, by go_num, HNx, H3⟩, by show rs.length - ((m : Int) + 1).toNat < rs.length - (m : Int).toNat; omega⟩
      ·obtain rfl : m = rs.length := by omega
       have HT : Hid (Know.Top (rs.map (·.x)) n r.x) := Lib.hid ⟨HTf.out, HTv.out, fun k y hy hne => hnone.out k y (by have h1 := (List.getElem?_eq_some_iff.1 hy).1; rw [List.length_map] at h1; exact h1) hne hy⟩
       have LX2 := Lib.hid (LX.out _ hbel.out)
       have FW := Lib.hid (HFW.out _ hbel.out)
       have OJ := FW.out.own.1
       have OR1 := fr_made1 wr 42 r
       have hws : w.heap.size ≤ wr.heap.size := FW.out.size.size
       have hsz : (rfV r).length = 67 := rf_len hr65.out
       have HRS : Hid (RS.length ≤ 99999) := Lib.hid (by
        have h1 := (Know.wide_sub (rs.map (·.x)) n (by rw [List.length_map]; omega)).length_le
        rw [← HSTm.out, List.length_map, List.length_take, List.length_map] at h1
        omega)
       have hrIn := Hin.out
       clear hnone
       go_wp2_with (first | refine wpList_mload (by rfl) _ (by rfl) (by rfl) LX2.out ?_ | refine wpList_build1 rfl 22 42 _ rfl (by rfl) Tryz.underlying22 hi1 hy0 hy1 hsz ?_ | (at_builtin; refine wp_joins (f := rfV) (k := 67) rfl _ _ 22 rfl w.heap.size 42 i1 (frA frZ) 568 Tryz.underlying22 hi1 hy0 hy1 hy2 frZ_size (by decide) rfl rfl (OJ.alloc _) OR1 ?d1 ?d2 ?d3 ?d4 ?d5 ?_))
       case d2 => first | exact hone.out | (intro x hx; rw [List.mem_singleton.1 hx]; exact hone.out)
       case d3 => (have h1 := HRS.out; have h2 : [r].length = 1 := rfl; unfold maxLen; omega)
       case d4 => (have h1 := HRS.out; have h2 : [r].length = 1 := rfl; omega)
       case d5 => first | exact Nat.le_succ_of_le hws | (rw [World.size_alloc]; exact Nat.le_succ_of_le hws)
       intro v3 w3 own3 hg3 hn3
       have hrW := (hrIn.lt.below FW.out.size).mono (G := Off _) (fun i hi e => by have h1 := (FW.out.own.1.lt i e).1; omega)
       have M3 := FW.out.more hrW (by simpa using own3) hg3 hn3
       have H3 := Lib.hid (And.intro M3 ((by rw [List.map_append, HSTm.out]; exact (HTY.out HT.out).symm : (RS ++ [r]).map (·.x) = Know.wideTo (rs.map (·.x)) (n + 1))))
       clear own3 hg3 hn3 OJ OR1 hrW M3
       go_wp2_with fail
       exact ⟨⟨n + 1, RS ++ [r], by omega, by go_num, H3⟩, by show rs.length - ((n : Int) + 1).toNat < rs.length - (n : Int).toNat; omega⟩
  ·obtain rfl : n = rs.length := by omega
   have HFin : Hid (RS.map (·.x) = Know.wide (rs.map (·.x))) := Lib.hid (by
    rw [hst.out.2]; unfold Know.wide; rw [List.length_map])
   go_wp2_with fail
   try rw [Exit.noGoto_ret]
   go_ret
   first | exact ⟨_, RS, rfl, hst.out.1, HFin.out⟩ | exact ⟨_, rfl, RS, hst.out.1, HFin.out⟩
end Go.Proofs.YtpmolinmopgbdaaGreat
namespace Go.Proofs.YtpmolinmopgbdaaGreat
open Go.RowKit Go.ChangeMaps
theorem ver_law : WideMaps.KeyLaw Tryz.prog 27 := deep_law_laid (m := 9) (by kernel_rfl) (by decide) (of_decide_eq_true (by kernel_rfl)) (by kernel_rfl) (by kernel_rfl)
theorem ver_wf {n : Int} (h : Ver.I64 n) : (Lit.int .i64 n).wf = true := by
 unfold Ver.I64 at h
 simp only [Lit.wf, Bool.and_eq_true, decide_eq_true_iff]
 have h1 : IntKind.i64.min = -9223372036854775808 := rfl
 have h2 : IntKind.i64.max = 9223372036854775807 := rfl
 omega
theorem ver_sized : ∃ m, Tryz.prog.types.size + 1 = m + 2 := ⟨_, rfl⟩
theorem ver_key {x : Ver.V} (h : Ver.Bd x) : ∃ l, keyOf Tryz.prog 27 (verA x) = some l := by
 have w1 := ver_wf h.1
 have w2 := ver_wf h.2
 have hc : Tryz.prog.cellsOf 27 = 2 := by kernel_rfl
 have hi : Tryz.prog.cellsOf 3 = 1 := by kernel_rfl
 have hkt : Tryz.prog.keyType 27 = true := by kernel_rfl
 obtain ⟨m, hm⟩ := ver_sized
 refine ⟨.string (keyBytes [.int .i64 x.by_, .int .i64 x.n]), ?_⟩
 unfold keyOf
 rw [hm]
 simp [Tryz.underlying27, hkt, Value.formed, hc, Program.keyLits, Tryz.underlying3, hi, w1, w2, Value.cells]
def KmAt (w : World) (bm : Nat) (l : List Know.It) : Prop := ∃ es clock, w.heap[bm]? = some (.map es clock) ∧ (∀ e ∈ es.toList, ∃ x : Ver.V, Ver.Bd x ∧ e.key = verA x ∧ e.val = .agg (vecL (Know.vecOf l x)).toArray ∧ x ∈ l.map (·.item)) ∧
 (∀ x ∈ l.map (·.item), ∃ e ∈ es.toList, e.key = verA x) ∧ es.toList.Pairwise (fun a b => a.key ≠ b.key)
section
variable {w w' : World} {bm : Nat} {l : List Know.It}
theorem verA_inj {x y : Ver.V} (h : verA x = verA y) : x = y := by
 cases x; cases y
 simpa using h
theorem Know.vecOf_none {l : List Know.It} {x : Ver.V} (h : x ∉ l.map (·.item)) : Know.vecOf l x = Know.zeros := by
 have : ∀ n, n ≤ l.length → Know.vecOf (l.take n) x = Know.zeros := by
  intro n
  induction n with
  | zero => intro _; rw [List.take_zero]; rfl
  | succ n ih =>
   intro hn
   rw [List.take_succ_eq_append_getElem (by omega), Know.vecOf_more, if_neg (fun e => h (List.mem_map.2 ⟨_, List.getElem_mem _, e⟩))]
   exact ih (by omega)
 have h1 := this l.length (Nat.le_refl _)
 rwa [List.take_length] at h1
theorem KmAt.lt (h : KmAt w bm l) : bm < w.heap.size := by
 obtain ⟨es, clock, hb, -⟩ := h
 exact (Array.getElem?_eq_some_iff.1 hb).1
theorem KmAt.kept {G : Nat → Prop} (h : KmAt w bm l) (k : Kept G w w') (hd : ¬ G bm) : KmAt w' bm l := by
 have hl := h.lt
 obtain ⟨es, clock, hb, r⟩ := h
 exact ⟨es, clock, (k.block bm hl hd).trans hb, r⟩
theorem KmAt.below (h : KmAt w bm l) (k : Below w.heap.size w w') : KmAt w' bm l := h.kept (Kept.ofBelow k (fun _ => False)) (fun h => h)
theorem KmAt.made (w : World) : KmAt (w.alloc (.map #[] 0)) w.heap.size [] := ⟨#[], 0, Array.getElem?_push_size, fun e h => absurd h (List.not_mem_nil), fun x h => absurd h (List.not_mem_nil), List.Pairwise.nil⟩
theorem KmAt.look (h : KmAt w bm l) {x : Ver.V} (hx : Ver.Bd x) : (Instr.lookup 95 (.map (some bm)) (verA x) false).run Tryz.prog w = .ok (.agg (vecL (Know.vecOf l x)).toArray) w := by
 obtain ⟨es, clock, hb, h1, h2, h3⟩ := h
 have K := ver_law
 obtain ⟨kl, hkey⟩ := ver_key hx
 have hz : (zeroValue 39).run Tryz.prog w = .ok (.agg (vecL Vec.zeros).toArray) w := vecZero w
 rcases K.find w hkey es.toList (fun e he => by obtain ⟨y, hy, e1, -⟩ := h1 e he; rw [e1]; exact ver_key hy) with ⟨f1, f2⟩ | ⟨j, e0, f1, f2, f3⟩
 ·have hn : x ∉ l.map (·.item) := fun hm => by
   obtain ⟨e, he, e1⟩ := h2 x hm
   exact f2 e he e1
  rw [Know.vecOf_none hn]
  show _ = Result.ok (Value.agg (vecL Vec.zeros).toArray) w
  generalize Value.agg (vecL Vec.zeros).toArray = z at hz ⊢
  simp [Instr.lookup, run_underlying Tryz.underlying95, MapKept.run_getObj_map hb, K.check w _ hkey, f1, hz, Result.andThen]
 ·obtain ⟨y, hy, e1, e2, -⟩ := h1 e0 (List.mem_of_getElem? f2)
  have hxy : y = x := verA_inj (e1.symm.trans f3)
  subst hxy
  simp [Instr.lookup, run_underlying Tryz.underlying95, MapKept.run_getObj_map hb, K.check w _ hkey, f1, e2, Result.andThen]
theorem KmAt.put (h : KmAt w bm l) (i : Know.It) (hx : Ver.Bd i.item) :
  ∃ w', (Instr.mapUpdate 95 (.map (some bm)) (verA i.item) (Value.agg (vecL (Vec.join (Know.vecOf l i.item) i.v)).toArray)).run Tryz.prog w = .ok () w' ∧ KmAt w' bm (l ++ [i]) ∧ w.grownBy w' (some bm) := by
 have hlt := h.lt
 obtain ⟨es, clock, hb, h1, h2, h3⟩ := h
 have K := ver_law
 obtain ⟨kl, hkey⟩ := ver_key hx
 have hself : Know.vecOf (l ++ [i]) i.item = Vec.join (Know.vecOf l i.item) i.v := by rw [Know.vecOf_more, if_pos rfl]
 have hother : ∀ y, y ≠ i.item → Know.vecOf (l ++ [i]) y = Know.vecOf l y := fun y hy => by rw [Know.vecOf_more, if_neg (fun e => hy e.symm)]
 have hgrow : ∀ o : Obj, w.grownBy (setBlock w bm o) (some bm) := fun o => ⟨rfl, rfl, rfl, by simp [setBlock], fun k hk hne => by
  have hne : bm ≠ k := fun e => hne (by rw [e])
  simp [setBlock, Array.getElem?_setIfInBounds, hne]⟩
 have hget : ∀ o : Obj, (setBlock w bm o).heap[bm]? = some o := fun o => by simp [setBlock, hlt]
 rcases K.find w hkey es.toList (fun e he => by obtain ⟨y, hy, e1, -⟩ := h1 e he; rw [e1]; exact ver_key hy) with ⟨f1, f2⟩ | ⟨j, e0, f1, f2, f3⟩
 ·refine ⟨setBlock w bm (.map (es.push ⟨verA i.item, Value.agg (vecL (Vec.join (Know.vecOf l i.item) i.v)).toArray, clock⟩) (clock + 1)), ?_, ⟨_, _, hget _, ?_, ?_, ?_⟩, hgrow _⟩
  ·simp [Instr.mapUpdate, run_underlying Tryz.underlying95, MapKept.run_getObj_map hb, K.check w false hkey, f1, MapKept.run_setObj_map _ hb, Result.andThen, setBlock]
  ·intro e he
   rw [Array.toList_push] at he
   rcases List.mem_append.1 he with he | he
   ·obtain ⟨y, hy, e1, e2, e3⟩ := h1 e he
    have hne : y ≠ i.item := fun q => f2 e he (by rw [e1, q])
    exact ⟨y, hy, e1, by rw [hother y hne]; exact e2, by rw [List.map_append]; exact List.mem_append.2 (Or.inl e3)⟩
   ·rw [List.mem_singleton.1 he]
    exact ⟨i.item, hx, rfl, by rw [hself], by simp⟩
  ·intro x hxm
   rw [List.map_append] at hxm
   rcases List.mem_append.1 hxm with hm | hm
   ·obtain ⟨e, he, e1⟩ := h2 x hm
    exact ⟨e, by rw [Array.toList_push]; exact List.mem_append.2 (Or.inl he), e1⟩
   ·have : x = i.item := by simpa using hm
    subst this
    exact ⟨⟨verA i.item, Value.agg (vecL (Vec.join (Know.vecOf l i.item) i.v)).toArray, clock⟩, by rw [Array.toList_push]; simp, rfl⟩
  ·rw [Array.toList_push]
   refine List.pairwise_append.2 ⟨h3, List.pairwise_singleton .., fun a ha b hb' => ?_⟩
   rw [List.mem_singleton.1 hb']
   exact f2 a ha
 ·have hj : es[j]? = some e0 := by simpa using f2
  have hjl : j < es.toList.length := (List.getElem?_eq_some_iff.1 f2).1
  have hlist : (es.modify j (fun e' => { e' with key := verA i.item, val := Value.agg (vecL (Vec.join (Know.vecOf l i.item) i.v)).toArray })).toList = es.toList.set j ⟨verA i.item, Value.agg (vecL (Vec.join (Know.vecOf l i.item) i.v)).toArray, e0.born⟩ := by
   rw [Array.toList_modify]
   apply List.ext_getElem?
   intro k
   rw [List.getElem?_modify, List.getElem?_set]
   by_cases e : j = k
   ·subst e
    rw [f2, if_pos rfl, if_pos hjl]
    show some (if j = j then _ else _) = _
    rw [if_pos rfl]
   ·rw [if_neg e]
    cases es.toList[k]? with
    | none => rfl
    | some a =>
     show some (if j = k then _ else a) = some a
     rw [if_neg e]
  refine ⟨setBlock w bm (.map (es.modify j (fun e' => { e' with key := verA i.item, val := Value.agg (vecL (Vec.join (Know.vecOf l i.item) i.v)).toArray })) clock), ?_, ⟨_, _, hget _, ?_, ?_, ?_⟩, hgrow _⟩
  ·simp [Instr.mapUpdate, run_underlying Tryz.underlying95, MapKept.run_getObj_map hb, K.check w false hkey, f1, hj, f3, K.stays w hkey, MapKept.run_setObj_map _ hb, Result.andThen, setBlock]
  ·intro e he
   rw [hlist] at he
   obtain ⟨k, hk⟩ := List.getElem?_of_mem he
   rw [List.getElem?_set] at hk
   by_cases ejk : j = k
   ·rw [if_pos ejk] at hk
    split at hk
    ·injection hk with hk
     rw [← hk]
     exact ⟨i.item, hx, rfl, by rw [hself], by simp⟩
    ·exact absurd hjl (by assumption)
   ·rw [if_neg ejk] at hk
    have hm := List.mem_of_getElem? hk
    obtain ⟨y, hy, e1, e2, e3⟩ := h1 e hm
    have hne : y ≠ i.item := fun q => by
     obtain ⟨hkl, ek⟩ := List.getElem?_eq_some_iff.1 hk
     obtain ⟨hjl', ej⟩ := List.getElem?_eq_some_iff.1 f2
     have hkey2 : e.key = e0.key := by rw [e1, f3, q]
     rcases Nat.lt_or_gt_of_ne ejk with hlt2 | hlt2
     ·have := List.pairwise_iff_getElem.1 h3 j k hjl' hkl hlt2
      rw [ek, ej] at this
      exact this hkey2.symm
     ·have := List.pairwise_iff_getElem.1 h3 k j hkl hjl' hlt2
      rw [ek, ej] at this
      exact this hkey2
    exact ⟨y, hy, e1, by rw [hother y hne]; exact e2, by rw [List.map_append]; exact List.mem_append.2 (Or.inl e3)⟩
  ·intro x hxm
   rw [List.map_append] at hxm
   have hex : ∃ e ∈ es.toList, e.key = verA x := by
    rcases List.mem_append.1 hxm with hm | hm
    ·exact h2 x hm
    ·have : x = i.item := by simpa using hm
     rw [this]
     exact ⟨e0, List.mem_of_getElem? f2, f3⟩
   obtain ⟨e, he, e1⟩ := hex
   obtain ⟨k, hk⟩ := List.getElem?_of_mem he
   by_cases ejk : j = k
   ·subst ejk
    rw [f2] at hk
    injection hk with hk
    refine ⟨_, by rw [hlist]; exact List.mem_of_getElem? (List.getElem?_set_self hjl), ?_⟩
    rw [← e1, ← hk, f3]
   ·exact ⟨e, by rw [hlist]; exact List.mem_of_getElem? (by rw [List.getElem?_set_ne ejk]; exact hk), e1⟩
  ·rw [hlist]
   have hmap : (es.toList.set j ⟨verA i.item, Value.agg (vecL (Vec.join (Know.vecOf l i.item) i.v)).toArray, e0.born⟩).map (·.key) = es.toList.map (·.key) := by
    rw [List.map_set]
    apply List.ext_getElem?
    intro k
    rw [List.getElem?_set]
    by_cases e : j = k
    ·subst e
     rw [if_pos rfl, if_pos (by rw [List.length_map]; exact hjl), List.getElem?_map, f2]
     show some (verA i.item) = some e0.key
     rw [f3]
    ·rw [if_neg e]
   have h3' : (es.toList.map (·.key)).Pairwise (· ≠ ·) := List.pairwise_map.2 h3
   rw [← hmap] at h3'
   exact List.pairwise_map.1 h3'
end
end Go.Proofs.YtpmolinmopgbdaaGreat
namespace Go.Proofs.YtpmolinmopgbdaaGreat
open Go.RowKit
theorem it_places (parts : List (Nat × Value)) : Tryz.prog.built 50 parts = Instr.fill (#[(0, 2), (2, 65)][·]?) (itV itZ).toArray parts := by kernel_rfl
theorem it_built (x : Ver.V) {v : List Int} (hv : v.length = 65) : Tryz.prog.built 50 [(0, verA x), (1, .agg (vecL v).toArray)] = some (itV ⟨x, v⟩).toArray := by
 rw [it_places]
 have hs : (itV itZ).toArray.size = 67 := itZ_size
 have hvl : (vecL v).length = 65 := by rw [vecL_len, hv]
 obtain ⟨p1, p2⟩ := Great.foldl_set 0 (verV x) 0 (itV itZ).toArray
 generalize hc1 : ((verV x).zipIdx 0).foldl (fun cs (x : Value × Nat) => cs.setIfInBounds (0 + x.2) x.1) (itV itZ).toArray = c1 at *
 obtain ⟨q1, q2⟩ := Great.foldl_set 2 (vecL v) 0 c1
 have e1 : (verA x).cells = (verV x).toArray := rfl
 have e2 : (Value.agg (vecL v).toArray).cells = (vecL v).toArray := rfl
 have hfill : Instr.fill (#[(0, 2), (2, 65)][·]?) (itV itZ).toArray [(0, verA x), (1, .agg (vecL v).toArray)] = some (((vecL v).zipIdx 0).foldl (fun cs (x : Value × Nat) => cs.setIfInBounds (2 + x.2) x.1) c1) := by
  have s1 : ((verV x).toArray.zipIdx).foldl (fun cs (x : Value × Nat) => cs.setIfInBounds (0 + x.2) x.1) (itV itZ).toArray = c1 := by
   rw [← hc1, Array.zipIdx_toArray, List.foldl_toArray']
   simp
  have s2 : ((vecL v).toArray.zipIdx).foldl (fun cs (x : Value × Nat) => cs.setIfInBounds (2 + x.2) x.1) c1 = ((vecL v).zipIdx 0).foldl (fun cs (x : Value × Nat) => cs.setIfInBounds (2 + x.2) x.1) c1 := by
   rw [Array.zipIdx_toArray, List.foldl_toArray']
   simp
  unfold Instr.fill
  simp only [List.getElem?_toArray, List.getElem?_cons_zero, e1, List.size_toArray]
  rw [if_neg (by rw [it_len Vec.zeros_len]; simp [verV])]
  unfold Instr.fill
  simp only [List.getElem?_toArray, List.getElem?_cons_succ, List.getElem?_cons_zero, e2, List.size_toArray]
  rw [s1]
  rw [if_neg (by rw [p1, hs, hvl]; simp)]
  unfold Instr.fill
  rw [s2]
 rw [hfill]
 congr 1
 apply Array.ext_getElem?
 intro k
 have hr : (itV ⟨x, v⟩).toArray[k]? = (verV x ++ vecL v)[k]? := by rw [List.getElem?_toArray]; rfl
 rw [q2 k, p1, hs, hr]
 by_cases h : k < 2
 ·rw [if_neg (by omega), p2 k, hs, if_pos (by show 0 + 0 ≤ k ∧ k < 0 + 0 + 2 ∧ k < 67; omega), List.getElem?_append_left (by exact h)]
  simp
 ·by_cases h67 : k < 67
  ·rw [if_pos (by rw [hvl]; omega), List.getElem?_append_right (by show 2 ≤ k; omega)]
   rfl
  ·rw [if_neg (by omega), p2 k, hs, if_neg (by omega), List.getElem?_toArray, List.getElem?_eq_none (by rw [it_len Vec.zeros_len]; omega), List.getElem?_eq_none (by rw [List.length_append, hvl]; show 2 + 65 ≤ k; omega)]
theorem wpList_itbuild {ops : Array Oper} {rest : List Oper} {o : Oper} {a : Act} {w : World} {Q : Exit → Act → World → Prop} (hg : o.guard = none) (x y : Operand) (ho : o.op = .build 50 #[(0, x), (1, y)]) {i : Ver.V} {v : List Int} (hx : a.eval x = verA i) (hy : a.eval y = .agg (vecL v).toArray) (hv : v.length = 65)
  (h : wpList Tryz.prog ops Q rest (a.put o.dst (.agg (itV ⟨i, v⟩).toArray)) w) : wpList Tryz.prog ops Q (o :: rest) a w := by
 have hb := it_built i hv
 have e : (#[(0, x), (1, y)].map fun (i, x) => (i, a.eval x)).toList = [(0, verA i), (1, .agg (vecL v).toArray)] := by simp [hx, hy]
 refine wpList_build hg 50 _ ho (by rw [e, hb]; rfl) ?_
 rw [e, hb]
 exact h
theorem exec_itbuild {f : Operand → Value} {op : Oper} {x y : Operand} (ho : op.op = .build 50 #[(0, x), (1, y)]) {i : Ver.V} {v : List Int} (hx : f x = verA i) (hy : f y = .agg (vecL v).toArray) (hv : v.length = 65) (w : World) : (execOp f op).run Tryz.prog w = .ok (.value (.agg (itV ⟨i, v⟩).toArray)) w := by
 have hb := run_build w 50 #[(0, verA i), (1, .agg (vecL v).toArray)] _ (it_built i hv)
 have e : (#[(0, x), (1, y)].map fun (i, x) => (i, f x)) = #[(0, verA i), (1, .agg (vecL v).toArray)] := by simp [hx, hy]
 unfold execOp
 simp only [ho, e, Sem.run_bind, hb, Result.andThen_ok]
 rfl
theorem wpList_nstoreAt {ty : TypeId} {w : World} {cs : List Value} {ops : Array Oper} {rest : List Oper} {op : Oper} {a : Act} {Q : Exit → Act → World → Prop} {old : Array Value} {t : TypeId} {g : Nat} (hg : w.heap.size = g) (hw : Region.wanted op (yielded ops a.tmps) = true) (x y : Operand) (ho : op.op = .store ty x y) (hx : a.eval x = .pointer (some ⟨g, 0, none⟩)) (hy : a.eval y = .agg cs.toArray)
  (hi : (Tryz.prog.info? ty).map (·.size) = some cs.length) (hs : old.size = cs.length) (h1 : ∀ u ∈ cs, u.oneCell' = true)
  (k : wpList Tryz.prog ops Q rest (a.put op.dst undef) (w.alloc (.cells cs.toArray t))) : wpList Tryz.prog ops Q (op :: rest) a (w.alloc (.cells old t)) := by
 subst hg
 exact wpList_nstore hw x y ho hx hy hi hs h1 k
end Go.Proofs.YtpmolinmopgbdaaGreat
