/- The landed flang: readNumber, readRange, whole; strings.Cut at one byte. -/
import Derived.Test.YtabnfaonlkipbaaGreatDoorCom6
import Derived.Test.YtabnfaonlkipbaaGreatDoorCom11
import Derived.Test.YtabnfaonlkipbaaGreatDoorCom14
import Derived.Lib.AtoiErrMem
import Derived.Lib.AppendIntMem
set_option linter.unusedSimpArgs false
set_option linter.unusedVariables false
namespace Go.Proofs.YtabnfaonlkipbaaGreatDoor
open Go.RowKit

set_option maxRecDepth 100000 in
theorem Flg.lib_cut (b : UInt8) (s : List UInt8) : Lib.cut s [b] = (Flg.ahead b s, Flg.behind b s, decide (b ∈ s)) := by
  unfold Lib.cut
  rw [Lib.index_one]
  rcases Flg.byte_cases b s with ⟨h1, h2⟩ | ⟨x, y, rfl, h2, h3⟩
  · rw [h1, if_neg (by omega), (Flg.ahead_no h2).1, (Flg.ahead_no h2).2, decide_eq_false h2]
  · rw [h3, if_pos (by omega), (Flg.ahead_at h2).1, (Flg.ahead_at h2).2, decide_eq_true (show b ∈ x ++ b :: y by simp)]
    have e : ((x.length : Int)).toNat = x.length := by omega
    rw [e]
    simp
set_option maxRecDepth 100000 in
theorem cut_one (b : UInt8) (s : List UInt8) (w : World) (hT : Flg.Tabs w) (hs : s.length ≤ 100000) :
    Calls Tryz.prog 21 #[.string (mk s), .string ⟨#[b]⟩] w fun e w' => e = .returned (.tuple #[.string (mk (Flg.ahead b s)), .string (mk (Flg.behind b s)), .bool (decide (b ∈ s))]) ∧ Below w.heap.size w w' := by
  obtain ⟨m, hm⟩ := hT.top
  refine (Tryz.strings_Cut (mk s) ⟨#[b]⟩ m w (by rw [mk_len]; omega) hm).mono ?_
  rintro e w' ⟨rfl, n, rfl⟩
  refine ⟨?_, below_drews' _ _⟩
  rw [mk_data, show (⟨#[b]⟩ : ByteArray).data.toList = [b] from rfl, Flg.lib_cut]
  rfl
set_option maxRecDepth 100000 in
theorem below_new {w : World} (k : Nat) (os : Array Obj) : Below w.heap.size w (Go.Sort.grow (w.drewN k) os) := Go.Lib.below_grow _ _ (Nat.le_refl _) _ _
set_option maxRecDepth 100000 in
theorem itoa_flg (n : Int) (w : World) (hT : Flg.Tabs w) (h0 : -9223372036854775808 ≤ n) (h1 : n ≤ 9223372036854775807) :
    Calls Tryz.prog 34 #[.int .i64 n] w fun e w' => e = .returned (.string (mk (Lib.itoa n))) ∧ Below w.heap.size w w' := by
  refine (Tryz.strconv_Itoa n h0 h1 w hT.pow).mono ?_
  rintro e w' ⟨rfl, k, os, rfl⟩
  exact ⟨rfl, below_new k os⟩

set_option maxRecDepth 100000 in
set_option maxHeartbeats 1600000 in
theorem flg_number (s : List UInt8) (w : World) (hT : Flg.Tabs w) (hs : s.length ≤ 100000) :
    Calls Tryz.prog 41 #[.string (mk s)] w fun e w' => ∃ n : Int, e = .returned (.tuple #[.int .i64 n, .bool (Flg.num s).isSome]) ∧ (∀ k, Flg.num s = some k → n = (k : Int)) ∧ Below w.heap.size w w' := by
  have hz : (mk s).size ≤ 100000 := by rw [mk_len]; exact hs
  cases ha : Lib.atoiAll s with
  | ok v =>
    have hb := Lib.atoiAll_bounds ha
    have AT : Hid (Calls Tryz.prog 62 #[.string (mk s)] w fun e w' => e = .returned (.tuple #[.int .i64 v, .nilIface]) ∧ Below w.heap.size w w') := Lib.hid (by
      refine (Tryz.strconv_Atoi_ok (mk s) (by omega) v (by rw [mk_data]; exact ha) w).mono ?_
      rintro e w' ⟨rfl, rfl | ⟨t, rfl⟩⟩
      · exact ⟨rfl, Below.refl _ _⟩
      · exact ⟨rfl, Lib.bytesWorld_below _ _ _⟩)
    have IT := Lib.hid (fun (W : World) (hW : Below w.heap.size w W) => itoa_flg v W (hT.below hW) hb.1 hb.2)
    have es := str_same (Lib.itoa v) s
    by_cases h0 : 0 ≤ v
    · have g0 : decide ((0 : Int) ≤ v) = true := decide_eq_true h0
      by_cases he : Lib.itoa v = s
      · have hn : Hid (Flg.num s = some v.toNat) := Lib.hid (by unfold Flg.num; rw [ha]; simp only; rw [if_pos ⟨h0, he⟩])
        have hn2 : Hid ((v.toNat : Int) = v) := Lib.hid (by omega)
        rw [decide_eq_true he] at es
        clear ha he hb hz hs hT
        generalize Flg.num s = R at *
        generalize mk (Lib.itoa v) = t at *
        generalize mk s = u at *
        go_enter Tryz.func41, Tryz.ntmps41
        go_wp2_with fail
        refine (AT.out).mono ?_
        rintro e w1 ⟨rfl, hb1⟩
        have IT1 := Lib.hid (IT.out w1 hb1)
        go_wp2_with fail
        refine (IT1.out).mono ?_
        rintro e w2 ⟨rfl, hb2⟩
        go_wp2_with fail
        go_ret2
        exact ⟨v, by rw [hn.out]; rfl, fun k hk => by rw [hn.out] at hk; injection hk with hk; rw [← hk]; exact hn2.out.symm, hb1.trans (hb2.mono hb1.size)⟩
      · have hn : Hid (Flg.num s = none) := Lib.hid (by unfold Flg.num; rw [ha]; simp only; rw [if_neg (fun h => he h.2)])
        rw [decide_eq_false he] at es
        clear ha he hb hz hs hT
        generalize Flg.num s = R at *
        generalize mk (Lib.itoa v) = t at *
        generalize mk s = u at *
        go_enter Tryz.func41, Tryz.ntmps41
        go_wp2_with fail
        refine (AT.out).mono ?_
        rintro e w1 ⟨rfl, hb1⟩
        have IT1 := Lib.hid (IT.out w1 hb1)
        go_wp2_with fail
        refine (IT1.out).mono ?_
        rintro e w2 ⟨rfl, hb2⟩
        go_wp2_with fail
        go_ret2
        exact ⟨v, by rw [hn.out]; rfl, fun k hk => (by rw [hn.out] at hk; cases hk), hb1.trans (hb2.mono hb1.size)⟩
    · have g0 : decide ((0 : Int) ≤ v) = false := decide_eq_false h0
      have hn : Hid (Flg.num s = none) := Lib.hid (by unfold Flg.num; rw [ha]; simp only; rw [if_neg (fun h => h0 h.1)])
      clear ha hb hz hs hT IT es
      generalize Flg.num s = R at *
      generalize mk s = u at *
      go_enter Tryz.func41, Tryz.ntmps41
      go_wp2_with fail
      refine (AT.out).mono ?_
      rintro e w1 ⟨rfl, hb1⟩
      go_wp2_with fail
      go_ret2
      exact ⟨v, by rw [hn.out]; rfl, fun k hk => (by rw [hn.out] at hk; cases hk), hb1⟩
  | «syntax» =>
    obtain ⟨tp, pv, hv⟩ := hT.bad
    have AT := Lib.hid (Tryz.strconv_Atoi_syntax_var (mk s) (by omega) (by rw [mk_data]; exact ha) tp pv w hv)
    have hn : Hid (Flg.num s = none) := Lib.hid (by unfold Flg.num; rw [ha])
    clear ha hz hs hT
    generalize Flg.num s = R at *
    generalize mk s = u at *
    go_enter Tryz.func41, Tryz.ntmps41
    go_wp2_with fail
    refine (AT.out).mono ?_
    rintro e w1 ⟨N, rfl, -, -, hb1⟩
    go_wp2_with fail
    go_ret2
    exact ⟨0, by rw [hn.out]; rfl, fun k hk => (by rw [hn.out] at hk; cases hk), hb1⟩
  | range =>
    obtain ⟨tp, pv, hv⟩ := hT.out
    have AT := Lib.hid (Tryz.strconv_Atoi_range_var (mk s) (by omega) (by rw [mk_data]; exact ha) tp pv w hv)
    have hn : Hid (Flg.num s = none) := Lib.hid (by unfold Flg.num; rw [ha])
    clear ha hz hs hT
    generalize Flg.num s = R at *
    generalize Lib.atoiSat (mk s).data.toList = sat at *
    generalize mk s = u at *
    go_enter Tryz.func41, Tryz.ntmps41
    go_wp2_with fail
    refine (AT.out).mono ?_
    rintro e w1 ⟨N, rfl, -, -, hb1⟩
    go_wp2_with fail
    go_ret2
    exact ⟨sat, by rw [hn.out]; rfl, fun k hk => (by rw [hn.out] at hk; cases hk), hb1⟩

set_option maxRecDepth 100000 in
theorem flg_whole (w : World) : Calls Tryz.prog 22 #[] w fun e w' => e = .returned (.agg #[.int .i64 0, .int .i64 200]) ∧ Below w.heap.size w w' := by
  have HB0 := Lib.hid (show Below w.heap.size w (w.alloc (.cells #[.int .i64 0, .int .i64 200] 40)) from (Below.refl _ _).alloc (Nat.le_refl _) _)
  have Hsz : Hid ((Tryz.prog.info? 40).map (·.size) = some 2) := Lib.hid (by kernel_rfl)
  go_enter Tryz.func22, Tryz.ntmps22
  go_wp2_with fail
  exact bodyPost_ret (v := .agg #[.int .i64 0, .int .i64 200]) (results_cell_row (by rfl) _ _ w.heap.size 40 _ (0, 0) _ (by rfl) (heap_alloc_new w _) Tryz.underlying40 rfl Hsz.out) rfl ⟨rfl, HB0.out⟩
end Go.Proofs.YtabnfaonlkipbaaGreatDoor
/- The landed flang: readRange. -/
set_option linter.unusedSimpArgs false
set_option linter.unusedVariables false
namespace Go.Proofs.YtabnfaonlkipbaaGreatDoor
open Go.RowKit

set_option maxRecDepth 100000 in
theorem Flg.ahead_small {b : UInt8} {s : List UInt8} {k : Nat} (h : s.length ≤ k) : (Flg.ahead b s).length ≤ k := Nat.le_trans (Flg.ahead_len b s) h
set_option maxRecDepth 100000 in
theorem Flg.behind_small {b : UInt8} {s : List UInt8} {k : Nat} (h : s.length ≤ k) : (Flg.behind b s).length ≤ k := by
  unfold Flg.behind
  have := (List.dropWhile_sublist (fun x => x != b) (l := s)).length_le
  rw [List.length_drop]
  omega
set_option maxRecDepth 100000 in
theorem flg_put {B : Nat} {w w' : World} (h : Below B w w') {p : Addr} (hp : B ≤ p.block) (u : Value) : Below B w (w'.setCell p u) :=
  ⟨h.os, h.tape, h.output, by simpa [World.setCell] using h.size, fun i hi => (Below.heap_setCell w' p u i (by omega)).trans (h.block i hi)⟩

set_option maxRecDepth 100000 in
set_option maxHeartbeats 1600000 in
theorem flg_range (s : List UInt8) (w : World) (hT : Flg.Tabs w) (hs : s.length ≤ 100000) :
    Calls Tryz.prog 23 #[.string (mk s)] w fun e w' => ∃ x y : Int, e = .returned (.tuple #[.agg #[.int .i64 x, .int .i64 y], .bool (Flg.ends s).isSome]) ∧ (∀ a b, Flg.ends s = some (a, b) → x = (a : Int) ∧ y = (b : Int)) ∧ Below w.heap.size w w' := by
  have hB0 : Below w.heap.size w (w.alloc (.cells #[.int .i64 0, .int .i64 0] 40)) := (Below.refl _ _).alloc (Nat.le_refl _) _
  have CU := Lib.hid (fun (W : World) (hW : Below w.heap.size w W) => cut_one 45 s W (hT.below hW) hs)
  have NA := Lib.hid (fun (W : World) (hW : Below w.heap.size w W) => flg_number (Flg.ahead 45 s) W (hT.below hW) (Flg.ahead_small hs))
  have NB := Lib.hid (fun (W : World) (hW : Below w.heap.size w W) => flg_number (Flg.behind 45 s) W (hT.below hW) (Flg.behind_small hs))
  have hE : Hid ((Flg.ends s).isSome = ((Flg.num (Flg.ahead 45 s)).isSome && (Flg.num (Flg.behind 45 s)).isSome) ∧ ∀ a b, Flg.ends s = some (a, b) → Flg.num (Flg.ahead 45 s) = some a ∧ Flg.num (Flg.behind 45 s) = some b) := Lib.hid (by
    unfold Flg.ends
    cases Flg.num (Flg.ahead 45 s) with
    | none => exact ⟨rfl, fun a b h => by cases h⟩
    | some a =>
      cases Flg.num (Flg.behind 45 s) with
      | none => exact ⟨rfl, fun a b h => by cases h⟩
      | some b => exact ⟨rfl, fun a b h => by injection h with h; injection h with h1 h2; rw [h1, h2]; exact ⟨rfl, rfl⟩⟩)
  have RW := Lib.hid (Row.made w 40 #[.int .i64 0, .int .i64 0])
  have HB0 := Lib.hid hB0
  have HZ : Hid (w.heap.size < (w.alloc (.cells #[.int .i64 0, .int .i64 0] 40)).heap.size) := Lib.hid (by simp)
  have Hsz : Hid ((Tryz.prog.info? 40).map (·.size) = some 2) := Lib.hid (by kernel_rfl)
  clear hT hs hB0
  generalize Flg.ends s = E at *
  generalize Flg.num (Flg.ahead 45 s) = A at *
  generalize Flg.num (Flg.behind 45 s) = B at *
  generalize decide (45 ∈ s) = d at *
  generalize mk (Flg.ahead 45 s) = sa at *
  generalize mk (Flg.behind 45 s) = sb at *
  generalize mk s = u at *
  have CU0 := Lib.hid (CU.out _ HB0.out)
  go_enter Tryz.func23, Tryz.ntmps23
  go_wp2_with fail
  refine (CU0.out).mono ?_
  rintro e w1 ⟨rfl, hb1⟩
  have J1 := Lib.hid (HB0.out.trans (hb1.mono HB0.out.size))
  have NA1 := Lib.hid (NA.out w1 J1.out)
  go_wp2_with fail
  refine (NA1.out).mono ?_
  rintro e w2 ⟨x, rfl, hx, hb2⟩
  have J2 := Lib.hid (J1.out.trans (hb2.mono J1.out.size))
  have NB2 := Lib.hid (NB.out w2 J2.out)
  have HX := Lib.hid hx
  clear hx
  go_wp2_with fail
  refine (NB2.out).mono ?_
  rintro e w3 ⟨y, rfl, hy, hb3⟩
  have J3 := Lib.hid (J2.out.trans (hb3.mono J2.out.size))
  have HY := Lib.hid hy
  clear hy
  have h13 := hb1.trans ((hb2.trans (hb3.mono hb2.size)).mono hb1.size)
  have hr := RW.out.below h13 HZ.out
  have hr1 : Hid (Row ((w3.setCell ⟨w.heap.size, 0, none⟩ (.int .i64 x)).setCell ⟨w.heap.size, 1, none⟩ (.int .i64 y)) w.heap.size 40 #[.int .i64 x, .int .i64 y]) := Lib.hid ((hr.stored 0 (.int .i64 x)).stored 1 (.int .i64 y))
  have q0 := hr.at 0
  have q1 := hr.at 1
  have f0 := hr.free 0
  have f1 := hr.free 1
  clear h13 hr hb1 hb2 hb3
  have hfin : Hid (∀ a b, E = some (a, b) → x = (a : Int) ∧ y = (b : Int)) := Lib.hid (fun a b h => ⟨HX.out a (hE.out.2 a b h).1, HY.out b (hE.out.2 a b h).2⟩)
  cases hA : A.isSome
  all_goals
    have hs2 : Hid (E.isSome = (A.isSome && B.isSome)) := Lib.hid hE.out.1
    rw [hA] at hs2
    go_wp2_with fail
    refine bodyPost_ret (v := .tuple #[.agg #[.int .i64 x, .int .i64 y], .bool E.isSome]) ?_ rfl ⟨x, y, rfl, hfin.out, flg_put (flg_put J3.out (Nat.le_refl _) _) (Nat.le_refl _) _⟩
    rw [results_cell_tmp (by rfl)]
    have hl := run_loadVar_row (P := Tryz.prog) _ w.heap.size 40 40 _ (0, 0) _ hr1.out Tryz.underlying40 rfl Hsz.out
    simp [asAddr, hl, Result.andThen, hs2.out]
end Go.Proofs.YtabnfaonlkipbaaGreatDoor
