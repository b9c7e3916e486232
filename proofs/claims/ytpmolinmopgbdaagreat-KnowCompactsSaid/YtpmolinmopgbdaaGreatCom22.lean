import Derived.Test.YtpmolinmopgbdaaGreatCom12
import Derived.Test.YtpmolinmopgbdaaGreatCom20
import Derived.Test.YtpmolinmopgbdaaGreatCom21
import Derived.Test.YtpmolinmopgbdaaGreatCom9
set_option maxRecDepth 100000
set_option linter.unusedVariables false
set_option linter.unusedSimpArgs false
namespace Go.Proofs.YtpmolinmopgbdaaGreat
open Go.RowKit Go.Sort
def Know.saneF (f : List Flt.Cl) : List Flt.Cl := if Flt.light f then Flt.sane f else []
theorem Know.saneF_fine (f : List Flt.Cl) : (Know.saneF f).length ≤ 24 ∧ ∀ c ∈ Know.saneF f, Flt.Right c := by
 unfold Know.saneF
 by_cases h : Flt.light f
 ·rw [if_pos h]
  exact ⟨Nat.le_trans (Flt.sane_len f) h.2, Flt.sane_right f⟩
 ·rw [if_neg h]
  exact ⟨by simp, fun c hc => by cases hc⟩
def Know.cutFr (x : Know.Fr) : Know.Fr := ⟨Know.saneF x.f, x.v, x.no.take 12⟩
def Know.cutK (k : Know.K) : Know.K := ⟨(k.frags.take 6).map Know.cutFr, k.items.take 12⟩
theorem low12 (a : Nat) (w : World) : Calls Tryz.prog 17 #[.int .i64 a, .int .i64 12] w fun e w' => e = .returned (.int .i64 ((min a 12 : Nat) : Int)) ∧ w = w' := by
 by_cases h : a < 12
 ·have e : min a 12 = a := by omega
  have h1 : (a : Int) < 12 := by omega
  rw [e]
  go_enter Tryz.func17, Tryz.ntmps17
  go_wp2_with fail
  go_ret
  exact ⟨rfl, rfl⟩
 ·have e : min a 12 = 12 := by omega
  have h1 : ¬ (a : Int) < 12 := by omega
  rw [e]
  go_enter Tryz.func17, Tryz.ntmps17
  go_wp2_with fail
  go_ret
  exact ⟨rfl, rfl⟩
theorem law15_sane {w : World} {F : Nat → Prop} {v : Value} {f : List Flt.Cl} (h : Cls w F v f) (hl : f.length ≤ 9223372036854775807) (hs : ∀ c ∈ f, c.pre.length ≤ 9223372036854775807) :
  Calls Tryz.prog 9 #[v] w fun e w' => ∃ v', e = .returned v' ∧ RowsOwn 93 3 clV w (Know.saneF f) v' w' := by
 have LI := Lib.hid (light_any h hl hs)
 by_cases hlf : Flt.light f
 ·have LI : Hid (Calls Tryz.prog 27 #[v] w fun e w' => e = .returned (.bool true) ∧ Below w.heap.size w w') := Lib.hid (by have := LI.out; rwa [decide_eq_true hlf] at this)
  have SA := Lib.hid (fun (W : World) (hW : Below w.heap.size w W) => sane_any (h.below hW) (by have := hlf.2; omega) (fun c hc => by have := hlf.1 c hc; omega))
  have e0 : Hid (Know.saneF f = Flt.sane f) := Lib.hid (if_pos hlf)
  clear h hlf hl hs
  go_enter Tryz.func9, Tryz.ntmps9
  go_wp2_with fail
  refine (LI.out).mono ?_
  rintro e w1 ⟨rfl, hb1⟩
  have K1 := Lib.hid hb1
  clear hb1
  go_wp2_with fail
  refine (SA.out _ K1.out).mono ?_
  rintro e w2 ⟨x, rfl, hx⟩
  have HX := Lib.hid (hx.since K1.out)
  clear hx
  go_wp2_with fail
  go_ret
  exact ⟨_, rfl, by rw [e0.out]; exact HX.out⟩
 ·have LI : Hid (Calls Tryz.prog 27 #[v] w fun e w' => e = .returned (.bool false) ∧ Below w.heap.size w w') := Lib.hid (by have := LI.out; rwa [decide_eq_false hlf] at this)
  have e0 : Hid (Know.saneF f = []) := Lib.hid (if_neg hlf)
  clear h hlf hl hs
  go_enter Tryz.func9, Tryz.ntmps9
  go_wp2_with fail
  refine (LI.out).mono ?_
  rintro e w1 ⟨rfl, hb1⟩
  have K1 := Lib.hid hb1
  clear hb1
  go_wp2_with fail
  go_ret
  exact ⟨_, rfl, by rw [e0.out]; exact RowsOwn.first K1.out⟩
theorem fr_places (parts : List (Nat × Value)) : Tryz.prog.built 42 parts = Instr.fill (#[(0, 1), (1, 65), (66, 1)][·]?) (rfV frZ).toArray parts := by kernel_rfl
theorem fr_built (A B : Option Addr) (n c m d : Nat) (f : List Flt.Cl) {v : List Int} (no : List Ver.V) (hv : v.length = 65) : Tryz.prog.built 42 [(0, .slice A n c), (1, .agg (vecL v).toArray), (2, .slice B m d)] = some (rfV ⟨.slice A n c, .slice B m d, ⟨f, v, no⟩⟩).toArray := by
 rw [fr_places]
 have hs : (rfV frZ).toArray.size = 67 := frZ_size
 have hvl : (vecL v).length = 65 := by rw [vecL_len, hv]
 have e1 : (Value.slice A n c).cells = #[.slice A n c] := rfl
 have e2 : (Value.agg (vecL v).toArray).cells = (vecL v).toArray := rfl
 have e3 : (Value.slice B m d).cells = #[.slice B m d] := rfl
 obtain ⟨p1, p2⟩ := Great.foldl_set 0 [.slice A n c] 0 (rfV frZ).toArray
 generalize hc1 : (([.slice A n c] : List Value).zipIdx 0).foldl (fun cs (x : Value × Nat) => cs.setIfInBounds (0 + x.2) x.1) (rfV frZ).toArray = c1 at *
 obtain ⟨q1, q2⟩ := Great.foldl_set 1 (vecL v) 0 c1
 generalize hc2 : ((vecL v).zipIdx 0).foldl (fun cs (x : Value × Nat) => cs.setIfInBounds (1 + x.2) x.1) c1 = c2 at *
 obtain ⟨r1, r2⟩ := Great.foldl_set 66 [.slice B m d] 0 c2
 have hfill : Instr.fill (#[(0, 1), (1, 65), (66, 1)][·]?) (rfV frZ).toArray [(0, .slice A n c), (1, .agg (vecL v).toArray), (2, .slice B m d)] = some ((([.slice B m d] : List Value).zipIdx 0).foldl (fun cs (x : Value × Nat) => cs.setIfInBounds (66 + x.2) x.1) c2) := by
  have s1 : ((#[Value.slice A n c] : Array Value).zipIdx).foldl (fun cs (x : Value × Nat) => cs.setIfInBounds (0 + x.2) x.1) (rfV frZ).toArray = c1 := by
   rw [← hc1]; simp
  have s2 : ((vecL v).toArray.zipIdx).foldl (fun cs (x : Value × Nat) => cs.setIfInBounds (1 + x.2) x.1) c1 = c2 := by
   rw [← hc2, Array.zipIdx_toArray, List.foldl_toArray']
   simp
  have s3 : ((#[Value.slice B m d] : Array Value).zipIdx).foldl (fun cs (x : Value × Nat) => cs.setIfInBounds (66 + x.2) x.1) c2 = (([.slice B m d] : List Value).zipIdx 0).foldl (fun cs (x : Value × Nat) => cs.setIfInBounds (66 + x.2) x.1) c2 := by
   simp
  unfold Instr.fill
  simp only [List.getElem?_toArray, List.getElem?_cons_zero, e1]
  rw [s1]
  rw [if_neg (by rw [hs]; simp)]
  unfold Instr.fill
  simp only [List.getElem?_toArray, List.getElem?_cons_succ, List.getElem?_cons_zero, e2, List.size_toArray]
  rw [s2]
  rw [if_neg (by rw [p1, hs, hvl]; simp)]
  unfold Instr.fill
  simp only [List.getElem?_toArray, List.getElem?_cons_succ, List.getElem?_cons_zero, e3]
  rw [s3]
  rw [if_neg (by rw [q1, p1, hs]; simp)]
  unfold Instr.fill
  rfl
 rw [hfill]
 congr 1
 apply Array.ext_getElem?
 intro k
 have hr : (rfV ⟨.slice A n c, .slice B m d, ⟨f, v, no⟩⟩).toArray[k]? = (Value.slice A n c :: (vecL v ++ [Value.slice B m d]))[k]? := by rw [List.getElem?_toArray]; rfl
 rw [r2 k, q1, p1, hs, hr]
 rcases k with _ | k
 ·rw [if_neg (by omega), q2 0, if_neg (by omega), p2 0, hs, if_pos (by simp)]
  rfl
 ·rw [List.getElem?_cons_succ]
  by_cases h : k < 65
  ·rw [if_neg (by omega), q2 (k + 1), p1, hs, if_pos (by rw [hvl]; omega), List.getElem?_append_left (by rw [hvl]; omega)]
   rw [show k + 1 - (1 + 0) = k by omega]
  ·rw [List.getElem?_append_right (by omega), hvl]
   by_cases h65 : k = 65
   ·subst h65
    rw [if_pos (by simp)]
    try rfl
   ·rw [if_neg (by simp; omega), q2 (k + 1), p1, hs, if_neg (by rw [hvl]; omega), p2 (k + 1), hs, if_neg (by simp), List.getElem?_toArray, List.getElem?_eq_none (by rw [rf_len Vec.zeros_len]; omega), List.getElem?_eq_none (by simp; omega)]
theorem exec_frbuild {ff : Operand → Value} {op : Oper} {x y z : Operand} (ho : op.op = .build 42 #[(0, x), (1, y), (2, z)]) {A B : Option Addr} {n c m d : Nat} (f : List Flt.Cl) {v : List Int} (no : List Ver.V) (hx : ff x = .slice A n c) (hy : ff y = .agg (vecL v).toArray) (hz : ff z = .slice B m d) (hv : v.length = 65) (w : World) :
  (execOp ff op).run Tryz.prog w = .ok (.value (.agg (rfV ⟨.slice A n c, .slice B m d, ⟨f, v, no⟩⟩).toArray)) w := by
 have hb := run_build w 42 #[(0, .slice A n c), (1, .agg (vecL v).toArray), (2, .slice B m d)] _ (fr_built A B n c m d f no hv)
 have e : (#[(0, x), (1, y), (2, z)].map fun (i, x) => (i, ff x)) = #[(0, .slice A n c), (1, .agg (vecL v).toArray), (2, .slice B m d)] := by simp [hx, hy, hz]
 unfold execOp
 simp only [ho, e, Sem.run_bind, hb, Result.andThen_ok]
 rfl
end Go.Proofs.YtpmolinmopgbdaaGreat
