import Derived.Test.YtkacfmaogiblfaaUom9
import Derived.Test.YtkacfmaogiblfaaUom12
import Derived.Test.YtkacfmaogiblfaaUom13
import Derived.Test.YtkacfmaogiblfaaUom14
set_option maxRecDepth 100000
set_option linter.all false
set_option maxHeartbeats 12800000
namespace Go.Proofs.Ytkacfmaogiblfaa
open Go.RowKit Go.Sort
theorem pack_str_sameU (S : ByteArray) : (S.toList == S.toList) = true ∧ (S.toList != S.toList) = false := ⟨by simp, by simp⟩
theorem upZInfo : (Try.prog.info? 27).map (fun i => (i.zero, i.size)) = some (some (.agg #[.int .i64 0, .int .i64 0, .int .i64 0, .int .i64 0, .int .i64 0, .string ⟨#[]⟩, .string ⟨#[]⟩, .bool false]), 8) := by kernel_rfl
theorem pupZero (w : World) : (zeroValue 27).run Try.prog w = .ok (.agg #[.int .i64 0, .int .i64 0, .int .i64 0, .int .i64 0, .int .i64 0, .string ⟨#[]⟩, .string ⟨#[]⟩, .bool false]) w := (zero_of_info upZInfo).1 w
theorem mtZInfo : (Try.prog.info? 29).map (fun i => (i.zero, i.size)) = some (some (.agg #[.int .i64 0, .int .i64 0, .int .i64 0, .int .i64 0, .int .i64 0, .string ⟨#[]⟩, .int .i64 0, .bool false]), 8) := by kernel_rfl
theorem mtZero (w : World) : (zeroValue 29).run Try.prog w = .ok (.agg #[.int .i64 0, .int .i64 0, .int .i64 0, .int .i64 0, .int .i64 0, .string ⟨#[]⟩, .int .i64 0, .bool false]) w := (zero_of_info mtZInfo).1 w
theorem up_eqS (w : World) (a : Upd.U) : (Op.equalIn 10000 27 (upA a) (upA a)).run Try.prog w = .ok true w := by rw [up_eqIn, decide_eq_true rfl]
theorem mt_eqIn_self (w : World) (a : Upd.M) : (Op.equalIn 10000 29 (mtA a) (mtA a)).run Try.prog w = .ok true w := by
 have hS : Try.prog.underlying 29 = some (.struct (Try.prog.fieldsOf 29)) := by kernel_rfl
 have hp : Try.prog.stoodInHeld 29 = false := by kernel_rfl
 have u9 := Try.underlying9
 have a9 := Try.isAgg9
 have z9 := Try.sizeOf9
 have u4 := Try.underlying4
 have a4 := Try.isAgg4
 have z4 := Try.sizeOf4
 have u3 := Try.underlying3
 have a3 := Try.isAgg3
 have z3 := Try.sizeOf3
 have a23 := Try.isAgg23
 have z23 := Try.sizeOf23
 have a25 := Try.isAgg25
 have z25 := Try.sizeOf25
 obtain ⟨⟨i1, i2⟩, ⟨t, ⟨v1, v2⟩⟩, p, d, dd⟩ := a
 have hV := fun w => ver_eqIn 9997 w ⟨i1, i2⟩ ⟨i1, i2⟩
 have hW := fun w => stp_eqIn 9996 w ⟨t, ⟨v1, v2⟩⟩ ⟨t, ⟨v1, v2⟩⟩
 rw [decide_eq_true rfl] at hV hW
 have e1 := txt_same p p
 rw [decide_eq_true rfl] at e1
 rw [show (10000 : Nat) = 9999 + 1 from rfl, run_equalIn_agg w 9999 29 _ _ hS hp]
 simp only [Program.fieldsOf, Try.underlying29]
 have hT : ∀ (w : World) (a b : ByteArray), (Op.equalIn 9999 9 (.string a) (.string b)).run Try.prog w = .ok (a.toList == b.toList) w := fun w a b => run_equalIn_string w 9998 9 a b u9
 have hB : ∀ (w : World) (a b : Bool), (Op.equalIn 9999 4 (.bool a) (.bool b)).run Try.prog w = .ok (a == b) w := fun w a b => run_equalIn_bool w 9998 4 a b u4
 have hI : ∀ (w : World) (a b : Int), (Op.equalIn 9999 3 (.int .i64 a) (.int .i64 b)).run Try.prog w = .ok (a == b) w := fun w a b => run_equalIn_int w 9998 3 _ _ a b u3
 simp only [Op.eqFields]
 generalize Op.equalIn 9999 = EQ at hV hW hT hB hI ⊢
 dsimp only [verA, stpA] at hV hW
 go_simp
 try simp [e1]
theorem pack_upd_facts (O : UpdateOk) (u : Upd.U) (hub : Upd.Bd u) : ∃ (A : ByteArray) (ea : Int) (may : Bool) (S1 : ByteArray) (X1 : Upd.U) (g1 : Int), ((may = true ∧ A = S1 ∧ ea = 0) ∨ (may = false ∧ A = ⟨#[]⟩ ∧ ea = 2)) ∧ (may = decide (Upd.err u = 0) ∧ A = mk (Pck.putUpd u).1 ∧ ea = (Pck.putUpd u).2 ∧ S1 = mk (Pck.updR u)) ∧ (∀ W : World, Calls Try.prog 15 #[.string A] W fun e w' => e = .returned (.tuple #[upA X1, .int .i64 g1]) ∧ Below W.heap.size W w') ∧ (may = true → X1 = u ∧ g1 = 0) := by
 by_cases hok : Pck.OkUpd u
 ·have hl := Pck.upd_le hok
  have hp : Pck.putUpd u = (Pck.upd u, 0) := Pck.put_good hok (by omega)
  have hg : Pck.getUpd (Pck.upd u) = (u, 0) := Pck.get_back hok (Pck.takes_upd hok hub) (by omega)
  refine ⟨mk (Pck.upd u), 0, true, mk (Pck.updR u), u, 0, Or.inl ⟨rfl, by rw [Pck.updR_is hok hub], rfl⟩, ⟨(decide_eq_true hok).symm, by rw [hp], by rw [hp], rfl⟩, fun W => ?_, fun _ => ⟨rfl, rfl⟩⟩
  have := pck_GetUpdate O (Pck.upd u) (by omega) W
  rwa [hg] at this
 ·have hp : Pck.putUpd u = ([], 2) := Pck.put_bad hok
  refine ⟨⟨#[]⟩, 2, false, mk (Pck.updR u), (Pck.getUpd []).1, (Pck.getUpd []).2, Or.inr ⟨rfl, rfl, rfl⟩, ⟨(decide_eq_false hok).symm, by rw [hp]; rfl, by rw [hp], rfl⟩, fun W => pck_GetUpdate O [] (by simp) W, fun h => by cases h⟩
theorem pack_met_facts (O : UpdateOk) (m : Upd.M) (hmb : Upd.BdM m) : ∃ (B : ByteArray) (eb : Int) (ec : Int) (S2 : ByteArray) (Y1 : Upd.M) (g2 : Int), (((ec == 0) = true ∧ B = S2 ∧ eb = 0) ∨ ((ec == 0) = false ∧ B = ⟨#[]⟩ ∧ eb = 2)) ∧ (ec = Upd.errM m ∧ B = mk (Pck.putMet m).1 ∧ eb = (Pck.putMet m).2 ∧ S2 = mk (Pck.metR m)) ∧ (∀ W : World, Calls Try.prog 16 #[.string B] W fun e w' => e = .returned (.tuple #[mtA Y1, .int .i64 g2]) ∧ Below W.heap.size W w') ∧ ((ec == 0) = true → Y1 = m ∧ g2 = 0) := by
 by_cases hok : Pck.OkMet m
 ·have hl := Pck.met_le hok
  have hp : Pck.putMet m = (Pck.met m, 0) := Pck.put_good hok (by omega)
  have hg : Pck.getMet (Pck.met m) = (m, 0) := Pck.get_back hok (Pck.takes_met hok hmb) (by omega)
  refine ⟨mk (Pck.met m), 0, Upd.errM m, mk (Pck.metR m), m, 0, Or.inl ⟨by rw [show Upd.errM m = 0 from hok]; rfl, by rw [Pck.metR_is hok hmb], rfl⟩, ⟨rfl, by rw [hp], by rw [hp], rfl⟩, fun W => ?_, fun _ => ⟨rfl, rfl⟩⟩
  have := pck_GetMeta O (Pck.met m) (by omega) W
  rwa [hg] at this
 ·have hp : Pck.putMet m = ([], 2) := Pck.put_bad hok
  have he : (Upd.errM m == 0) = false := by rw [beq_eq_false_iff_ne]; exact hok
  refine ⟨⟨#[]⟩, 2, Upd.errM m, mk (Pck.metR m), (Pck.getMet []).1, (Pck.getMet []).2, Or.inr ⟨he, rfl, rfl⟩, ⟨rfl, by rw [hp]; rfl, by rw [hp], rfl⟩, fun W => pck_GetMeta O [] (by simp) W, fun h => by rw [he] at h; cases h⟩
theorem pack_upd_any (O : UpdateOk) (s : List UInt8) (hs : s.length ≤ 140737488355328) : ∃ (X2 : Upd.U) (g3 : Int), Pck.getUpd s = (X2, g3) ∧ ((g3 = 0 ∧ (∀ W : World, Calls Try.prog 11 #[upA X2] W fun e w' => e = .returned (.bool true) ∧ Below W.heap.size W w') ∧ ∀ W : World, Calls Try.prog 12 #[upA X2] W fun e w' => e = .returned (.string (mk s)) ∧ Below W.heap.size W w') ∨ (g3 = 6 ∧ X2 = Upd.zeroU)) := by
 rcases Pck.get_ways2 (rd := Pck.rdUpd) (ok := Pck.OkUpd) (f := Pck.upd) (zero := Upd.zeroU) s with ⟨h1, h2, h3, h4⟩ | h1
 ·have hb := Pck.rdUpd_bd (l := s) (e := 0) (by omega)
  refine ⟨_, _, h1, Or.inl ⟨rfl, fun W => ?_, fun W => ?_⟩⟩
  ·have := ref_uright (Pck.rdUpd s 0).1 hb W
   rwa [decide_eq_true (show Upd.err (Pck.rdUpd s 0).1 = 0 from h2)] at this
  ·have := ref_pupd (Pck.rdUpd s 0).1 hb W
   rwa [Pck.updR_is h2 hb, h3] at this
 ·exact ⟨_, _, h1, Or.inr ⟨rfl, rfl⟩⟩
theorem pack_met_any (O : UpdateOk) (s : List UInt8) (hs : s.length ≤ 140737488355328) : ∃ (Y2 : Upd.M) (g4 : Int), Pck.getMet s = (Y2, g4) ∧ ((g4 = 0 ∧ (∀ W : World, Calls Try.prog 13 #[mtA Y2] W fun e w' => e = .returned (.int .i64 0) ∧ Below W.heap.size W w') ∧ ∀ W : World, Calls Try.prog 14 #[mtA Y2] W fun e w' => e = .returned (.string (mk s)) ∧ Below W.heap.size W w') ∨ (g4 = 6 ∧ Y2 = Pck.zeroM)) := by
 rcases Pck.get_ways2 (rd := Pck.rdMet) (ok := Pck.OkMet) (f := Pck.met) (zero := Pck.zeroM) s with ⟨h1, h2, h3, h4⟩ | h1
 ·have hb := Pck.rdMet_bd (l := s) (e := 0) (by omega)
  refine ⟨_, _, h1, Or.inl ⟨rfl, fun W => ?_, fun W => ?_⟩⟩
  ·have := ref_ucheckM (Pck.rdMet s 0).1 hb W
   rwa [show Upd.errM (Pck.rdMet s 0).1 = 0 from h2] at this
  ·have := ref_pmet (Pck.rdMet s 0).1 hb W
   rwa [Pck.metR_is h2 hb, h3] at this
 ·exact ⟨_, _, h1, Or.inr ⟨rfl, rfl⟩⟩
theorem pack_updates_walk (O : UpdateOk) (V : VecOk) {w : World} {u : Upd.U} {m : Upd.M} (s : List UInt8) (hu : Upd.In u) (hm : Upd.InM m) (hs : s.length ≤ 9223372036854775807) :
  Calls Try.prog 3 #[upA u, mtA m, .string (mk s)] w fun e w' => e = .returned (.bool true) ∧ Below w.heap.size w w' := by
 have mixed : Try.prog.follows .mixedOrders = true := by kernel_rfl
 have AW := Lib.hid (fun W => pck_awake V W)
 have LG0 := ulight_any u
 have hsl := mk_len s
 have hml := mk_len m.path
 have HsU : Hid ((Try.prog.info? 27).map (·.size) = some 8) := Lib.hid (by kernel_rfl)
 have HfU : Hid (∃ d, Try.prog.underlying 27 = some d ∧ d.isRow = true) := Lib.hid ⟨_, Try.underlying27, rfl⟩
 have HsM : Hid ((Try.prog.info? 29).map (·.size) = some 8) := Lib.hid (by kernel_rfl)
 have HfM : Hid (∃ d, Try.prog.underlying 29 = some d ∧ d.isRow = true) := Lib.hid ⟨_, Try.underlying29, rfl⟩
 obtain ⟨W0, hW0⟩ : ∃ W0, W0 = (w.alloc (.cells #[.int .i64 u.item.by_, .int .i64 u.item.n, .int .i64 u.stamp.v.by_, .int .i64 u.stamp.v.n, .int .i64 u.stamp.time, .string (mk u.path), .string (mk u.data), .bool u.dead] 27)).alloc (.cells #[.int .i64 m.item.by_, .int .i64 m.item.n, .int .i64 m.stamp.v.by_, .int .i64 m.stamp.v.n, .int .i64 m.stamp.time, .string (mk m.path), .int .i64 m.size, .bool m.dead] 29) := ⟨_, rfl⟩
 have hb0 : Below w.heap.size w W0 := by rw [hW0]; exact ((Below.refl _ _).alloc (Nat.le_refl _) _).alloc (by simp) _
 have r0 : Row W0 w.heap.size 27 #[.int .i64 u.item.by_, .int .i64 u.item.n, .int .i64 u.stamp.v.by_, .int .i64 u.stamp.v.n, .int .i64 u.stamp.time, .string (mk u.path), .string (mk u.data), .bool u.dead] := by rw [hW0]; exact (Row.made w _ _).behindNew _
 have r1 : Row W0 (w.heap.size + 1) 29 #[.int .i64 m.item.by_, .int .i64 m.item.n, .int .i64 m.stamp.v.by_, .int .i64 m.stamp.v.n, .int .i64 m.stamp.time, .string (mk m.path), .int .i64 m.size, .bool m.dead] := by
  rw [hW0]
  have := Row.made (w.alloc (.cells #[.int .i64 u.item.by_, .int .i64 u.item.n, .int .i64 u.stamp.v.by_, .int .i64 u.stamp.v.n, .int .i64 u.stamp.time, .string (mk u.path), .string (mk u.data), .bool u.dead] 27)) 29 #[.int .i64 m.item.by_, .int .i64 m.item.n, .int .i64 m.stamp.v.by_, .int .i64 m.stamp.v.n, .int .i64 m.stamp.time, .string (mk m.path), .int .i64 m.size, .bool m.dead]
  rwa [World.size_alloc] at this
 have XU := Lib.hid (fun (W : World) (h : Below W0.heap.size W0 W) => r0.below h r0.inHeap)
 have XM := Lib.hid (fun (W : World) (h : Below W0.heap.size W0 W) => r1.below h r1.inHeap)
 have HB0 := Lib.hid hb0
 have B0 : Hid (Below W0.heap.size W0 W0) := Lib.hid (Below.refl _ _)
 clear hb0 r0 r1
 by_cases lu : Upd.light u
 ·rw [decide_eq_true lu] at LG0
  by_cases lm : m.path.length ≤ 200
  ·have hx1 : ¬ (200 : Int) < ((mk m.path).size : Int) := by omega
   by_cases ls : s.length ≤ 1000
   ·have hx2 : ¬ (1000 : Int) < ((mk s).size : Int) := by omega
    have hub := Upd.light_bd hu lu
    have hmb : Upd.BdM m := ⟨hm.item, hm.stamp, by omega, hm.size⟩
    have PU := Lib.hid (fun W => pck_PutUpdate O u hub W)
    have PM := Lib.hid (fun W => pck_PutMeta m O hmb W)
    have RU := Lib.hid (fun W => ref_uright u hub W)
    have WU := Lib.hid (fun W => ref_pupd u hub W)
    have RM := Lib.hid (fun W => ref_ucheckM m hmb W)
    have WM := Lib.hid (fun W => ref_pmet m hmb W)
    have GS := Lib.hid (fun W => pck_GetUpdate O s (by omega) W)
    have HS := Lib.hid (fun W => pck_GetMeta O s (by omega) W)
    obtain ⟨A, ea, may, S1, X1, g1, hA, hput, hget, hXu⟩ : ∃ (A : ByteArray) (ea : Int) (may : Bool) (S1 : ByteArray) (X1 : Upd.U) (g1 : Int), ((may = true ∧ A = S1 ∧ ea = 0) ∨ (may = false ∧ A = ⟨#[]⟩ ∧ ea = 2)) ∧ (may = decide (Upd.err u = 0) ∧ A = mk (Pck.putUpd u).1 ∧ ea = (Pck.putUpd u).2 ∧ S1 = mk (Pck.updR u)) ∧ (∀ W : World, Calls Try.prog 15 #[.string A] W fun e w' => e = .returned (.tuple #[upA X1, .int .i64 g1]) ∧ Below W.heap.size W w') ∧ (may = true → X1 = u ∧ g1 = 0) := pack_upd_facts O u hub
    obtain ⟨B, eb, ec, S2, Y1, g2, hB, hputM, hgetM, hYm⟩ : ∃ (B : ByteArray) (eb : Int) (ec : Int) (S2 : ByteArray) (Y1 : Upd.M) (g2 : Int), (((ec == 0) = true ∧ B = S2 ∧ eb = 0) ∨ ((ec == 0) = false ∧ B = ⟨#[]⟩ ∧ eb = 2)) ∧ (ec = Upd.errM m ∧ B = mk (Pck.putMet m).1 ∧ eb = (Pck.putMet m).2 ∧ S2 = mk (Pck.metR m)) ∧ (∀ W : World, Calls Try.prog 16 #[.string B] W fun e w' => e = .returned (.tuple #[mtA Y1, .int .i64 g2]) ∧ Below W.heap.size W w') ∧ ((ec == 0) = true → Y1 = m ∧ g2 = 0) := pack_met_facts O m hmb
    obtain ⟨p1, p2, p3, p4⟩ := hput
    obtain ⟨q1, q2, q3, q4⟩ := hputM
    rw [← p2, ← p3] at PU
    rw [← p1] at RU
    rw [← p4] at WU
    rw [← q2, ← q3] at PM
    rw [← q1] at RM
    rw [← q4] at WM
    have AN1 := Lib.hid (fun W => pck_answer A S1 ea may hA W)
    have AN2 := Lib.hid (fun W => pck_answer B S2 eb (ec == 0) hB W)
    have GU := Lib.hid hget
    have GM := Lib.hid hgetM
    have hS := pack_str_sameU (mk s)
    obtain ⟨X2, g3, hX2, hXs⟩ := pack_upd_any O s (by omega)
    obtain ⟨Y2, g4, hY2, hYs⟩ := pack_met_any O s (by omega)
    rw [hX2] at GS
    rw [hY2] at HS
    dsimp only at GS HS
    have FU0 : Hid (ea = 0 ∧ u = X1 ∧ g1 = 0 ∨ ea = 2) := Lib.hid (by rcases hA with ⟨h1, -, h3⟩ | ⟨-, -, h3⟩; exact Or.inl ⟨h3, (hXu h1).1.symm, (hXu h1).2⟩; exact Or.inr h3)
    have FM0 : Hid (eb = 0 ∧ m = Y1 ∧ g2 = 0 ∨ eb = 2) := Lib.hid (by rcases hB with ⟨h1, -, h3⟩ | ⟨-, -, h3⟩; exact Or.inl ⟨h3, (hYm h1).1.symm, (hYm h1).2⟩; exact Or.inr h3)
    clear hA hB p1 p2 p3 p4 q1 q2 q3 q4 hget hgetM hXu hYm hX2 hY2 lm ls lu hsl hml hu hm hs hub hmb
    generalize Ss : mk s = S at *
    clear Ss
    have LG := Lib.hid LG0
    clear LG0
    have UN := fun (w : World) => up_eqS w u
    have MN := fun (w : World) => mt_eqIn_self w m
    dsimp only [upA, mtA] at *
    go_enter Try.func3, Try.ntmps3
    go_wp2_with fail
    rw [← hW0]
    clear hW0
    refine (LG.out _).mono ?_
    rintro e w1 ⟨rfl, b1⟩
    have B1 := Lib.hid (B0.out.trans (b1.mono B0.out.size))
    have c5 := (XM.out _ B1.out).at 5
    clear b1
    go_wp2_with (refine wpList_mload (cs := [.int .i64 u.item.by_, .int .i64 u.item.n, .int .i64 u.stamp.v.by_, .int .i64 u.stamp.v.n, .int .i64 u.stamp.time, .string (mk u.path), .string (mk u.data), .bool u.dead]) (by rfl) (.tmp 3) (by rfl) (by rfl) (row_lies (cs := [.int .i64 u.item.by_, .int .i64 u.item.n, .int .i64 u.stamp.v.by_, .int .i64 u.stamp.v.n, .int .i64 u.stamp.time, .string (mk u.path), .string (mk u.data), .bool u.dead]) (XU.out _ B1.out) HfU.out HsU.out) ?_)
    clear c5
    refine (PU.out _).mono ?_
    rintro e w2 ⟨rfl, b2⟩
    have B2 := Lib.hid (B1.out.trans (b2.mono B1.out.size))
    clear b2
    go_wp2_with (refine wpList_mload (cs := [.int .i64 m.item.by_, .int .i64 m.item.n, .int .i64 m.stamp.v.by_, .int .i64 m.stamp.v.n, .int .i64 m.stamp.time, .string (mk m.path), .int .i64 m.size, .bool m.dead]) (by rfl) (.tmp 4) (by rfl) (by rfl) (row_lies (cs := [.int .i64 m.item.by_, .int .i64 m.item.n, .int .i64 m.stamp.v.by_, .int .i64 m.stamp.v.n, .int .i64 m.stamp.time, .string (mk m.path), .int .i64 m.size, .bool m.dead]) (XM.out _ B2.out) HfM.out HsM.out) ?_)
    refine (PM.out _).mono ?_
    rintro e w3 ⟨rfl, b3⟩
    have B3 := Lib.hid (B2.out.trans (b3.mono B2.out.size))
    clear b3
    go_wp2_with fail
    refine wp_region_below (by assumption) (by kernel_rfl) ?_
    repeat ((first
     | (refine wq_skip (by rfl) ?_)
     | (refine wq_mload (cs := [.int .i64 u.item.by_, .int .i64 u.item.n, .int .i64 u.stamp.v.by_, .int .i64 u.stamp.v.n, .int .i64 u.stamp.time, .string (mk u.path), .string (mk u.data), .bool u.dead]) (by kernel_rfl) _ (by rfl) (by rfl) (fun w hSw => row_lies (cs := [.int .i64 u.item.by_, .int .i64 u.item.n, .int .i64 u.stamp.v.by_, .int .i64 u.stamp.v.n, .int .i64 u.stamp.time, .string (mk u.path), .string (mk u.data), .bool u.dead]) (XU.out _ (B3.out.trans (hSw.below.mono B3.out.size))) HfU.out HsU.out) ?_)
     | (refine wq_mload (cs := [.int .i64 m.item.by_, .int .i64 m.item.n, .int .i64 m.stamp.v.by_, .int .i64 m.stamp.v.n, .int .i64 m.stamp.time, .string (mk m.path), .int .i64 m.size, .bool m.dead]) (by kernel_rfl) _ (by rfl) (by rfl) (fun w hSw => row_lies (cs := [.int .i64 m.item.by_, .int .i64 m.item.n, .int .i64 m.stamp.v.by_, .int .i64 m.stamp.v.n, .int .i64 m.stamp.time, .string (mk m.path), .int .i64 m.size, .bool m.dead]) (XM.out _ (B3.out.trans (hSw.below.mono B3.out.size))) HfM.out HsM.out) ?_)
     | (refine wq_td ?_)
     | (refine wq_call (by kernel_rfl) ?hent (fun w hSw => inB_calls hSw (RU.out w)) ?_; (case hent => (intro w hSw; go_simp; done)))
     | (refine wq_call (by kernel_rfl) ?hent (fun w hSw => inB_calls hSw (WU.out w)) ?_; (case hent => (intro w hSw; go_simp; done)))
     | (refine wq_call (by kernel_rfl) ?hent (fun w hSw => inB_calls hSw (AN1.out w)) ?_; (case hent => (intro w hSw; go_simp; done)))
     | (refine wq_call (by kernel_rfl) ?hent (fun w hSw => inB_calls hSw (RM.out w)) ?_; (case hent => (intro w hSw; go_simp; done)))
     | (refine wq_call (by kernel_rfl) ?hent (fun w hSw => inB_calls hSw (WM.out w)) ?_; (case hent => (intro w hSw; go_simp; done)))
     | (refine wq_call (by kernel_rfl) ?hent (fun w hSw => inB_calls hSw (AN2.out w)) ?_; (case hent => (intro w hSw; go_simp; done)))); (try simp only [zz]))
    refine wq_nil ?_
    intro wq hq
    have B4 := Lib.hid (B3.out.trans (hq.below.mono B3.out.size))
    clear hq
    go_wp2_with fail
    refine (GU.out _).mono ?_
    rintro e w5 ⟨rfl, b5⟩
    have B5 := Lib.hid (B4.out.trans (b5.mono B4.out.size))
    clear b5
    rcases FU0.out with ⟨f1, f2, f3⟩ | f1
    ·subst f1 f2 f3
     have R5 := Lib.hid (Row.made w5 27 #[.int .i64 u.item.by_, .int .i64 u.item.n, .int .i64 u.stamp.v.by_, .int .i64 u.stamp.v.n, .int .i64 u.stamp.time, .string (mk u.path), .string (mk u.data), .bool u.dead])
     have C5 := Lib.hid (B5.out.alloc B5.out.size (.cells #[.int .i64 u.item.by_, .int .i64 u.item.n, .int .i64 u.stamp.v.by_, .int .i64 u.stamp.v.n, .int .i64 u.stamp.time, .string (mk u.path), .string (mk u.data), .bool u.dead] 27))
     go_wp2_with (first | (refine wpList_mload (cs := [.int .i64 u.item.by_, .int .i64 u.item.n, .int .i64 u.stamp.v.by_, .int .i64 u.stamp.v.n, .int .i64 u.stamp.time, .string (mk u.path), .string (mk u.data), .bool u.dead]) (by rfl) (.tmp 11) (by rfl) (by rfl) (row_lies (cs := [.int .i64 u.item.by_, .int .i64 u.item.n, .int .i64 u.stamp.v.by_, .int .i64 u.stamp.v.n, .int .i64 u.stamp.time, .string (mk u.path), .string (mk u.data), .bool u.dead]) R5.out HfU.out HsU.out) ?_) | (refine wpList_mload (cs := [.int .i64 u.item.by_, .int .i64 u.item.n, .int .i64 u.stamp.v.by_, .int .i64 u.stamp.v.n, .int .i64 u.stamp.time, .string (mk u.path), .string (mk u.data), .bool u.dead]) (by rfl) (.tmp 3) (by rfl) (by rfl) (row_lies (cs := [.int .i64 u.item.by_, .int .i64 u.item.n, .int .i64 u.stamp.v.by_, .int .i64 u.stamp.v.n, .int .i64 u.stamp.time, .string (mk u.path), .string (mk u.data), .bool u.dead]) (XU.out _ C5.out) HfU.out HsU.out) ?_))
     refine (GM.out _).mono ?_
     rintro e w6 ⟨rfl, b6⟩
     have B6 := Lib.hid (C5.out.trans (b6.mono C5.out.size))
     clear b6
     rcases FM0.out with ⟨f1, f2, f3⟩ | f1
     ·subst f1 f2 f3
      have R6 := Lib.hid (Row.made w6 29 #[.int .i64 m.item.by_, .int .i64 m.item.n, .int .i64 m.stamp.v.by_, .int .i64 m.stamp.v.n, .int .i64 m.stamp.time, .string (mk m.path), .int .i64 m.size, .bool m.dead])
      have C6 := Lib.hid (B6.out.alloc B6.out.size (.cells #[.int .i64 m.item.by_, .int .i64 m.item.n, .int .i64 m.stamp.v.by_, .int .i64 m.stamp.v.n, .int .i64 m.stamp.time, .string (mk m.path), .int .i64 m.size, .bool m.dead] 29))
      go_wp2_with (first | (refine wpList_mload (cs := [.int .i64 m.item.by_, .int .i64 m.item.n, .int .i64 m.stamp.v.by_, .int .i64 m.stamp.v.n, .int .i64 m.stamp.time, .string (mk m.path), .int .i64 m.size, .bool m.dead]) (by rfl) (.tmp 13) (by rfl) (by rfl) (row_lies (cs := [.int .i64 m.item.by_, .int .i64 m.item.n, .int .i64 m.stamp.v.by_, .int .i64 m.stamp.v.n, .int .i64 m.stamp.time, .string (mk m.path), .int .i64 m.size, .bool m.dead]) R6.out HfM.out HsM.out) ?_) | (refine wpList_mload (cs := [.int .i64 m.item.by_, .int .i64 m.item.n, .int .i64 m.stamp.v.by_, .int .i64 m.stamp.v.n, .int .i64 m.stamp.time, .string (mk m.path), .int .i64 m.size, .bool m.dead]) (by rfl) (.tmp 4) (by rfl) (by rfl) (row_lies (cs := [.int .i64 m.item.by_, .int .i64 m.item.n, .int .i64 m.stamp.v.by_, .int .i64 m.stamp.v.n, .int .i64 m.stamp.time, .string (mk m.path), .int .i64 m.size, .bool m.dead]) (XM.out _ C6.out) HfM.out HsM.out) ?_))
      refine (GS.out _).mono ?_
      rintro e w7 ⟨rfl, b7⟩
      have B7 := Lib.hid (C6.out.trans (b7.mono C6.out.size))
      clear b7
      rcases hXs with ⟨f4, f5, f6⟩ | ⟨f4, f5⟩
      ·subst f4
       have R7 := Lib.hid (Row.made w7 27 #[.int .i64 X2.item.by_, .int .i64 X2.item.n, .int .i64 X2.stamp.v.by_, .int .i64 X2.stamp.v.n, .int .i64 X2.stamp.time, .string (mk X2.path), .string (mk X2.data), .bool X2.dead])
       have C7 := Lib.hid (B7.out.alloc B7.out.size (.cells #[.int .i64 X2.item.by_, .int .i64 X2.item.n, .int .i64 X2.stamp.v.by_, .int .i64 X2.stamp.v.n, .int .i64 X2.stamp.time, .string (mk X2.path), .string (mk X2.data), .bool X2.dead] 27))
       go_wp2_with (refine wpList_mload (cs := [.int .i64 X2.item.by_, .int .i64 X2.item.n, .int .i64 X2.stamp.v.by_, .int .i64 X2.stamp.v.n, .int .i64 X2.stamp.time, .string (mk X2.path), .string (mk X2.data), .bool X2.dead]) (by rfl) (.tmp 15) (by rfl) (by rfl) (row_lies (cs := [.int .i64 X2.item.by_, .int .i64 X2.item.n, .int .i64 X2.stamp.v.by_, .int .i64 X2.stamp.v.n, .int .i64 X2.stamp.time, .string (mk X2.path), .string (mk X2.data), .bool X2.dead]) R7.out HfU.out HsU.out) ?_)
       refine (f5 _).mono ?_
       rintro e w8 ⟨rfl, b8⟩
       have R8 := Lib.hid (R7.out.below b8 R7.out.inHeap)
       have B8 := Lib.hid (C7.out.trans (b8.mono C7.out.size))
       clear b8
       go_wp2_with (refine wpList_mload (cs := [.int .i64 X2.item.by_, .int .i64 X2.item.n, .int .i64 X2.stamp.v.by_, .int .i64 X2.stamp.v.n, .int .i64 X2.stamp.time, .string (mk X2.path), .string (mk X2.data), .bool X2.dead]) (by rfl) (.tmp 15) (by rfl) (by rfl) (row_lies (cs := [.int .i64 X2.item.by_, .int .i64 X2.item.n, .int .i64 X2.stamp.v.by_, .int .i64 X2.stamp.v.n, .int .i64 X2.stamp.time, .string (mk X2.path), .string (mk X2.data), .bool X2.dead]) R8.out HfU.out HsU.out) ?_)
       refine (f6 _).mono ?_
       rintro e w9 ⟨rfl, b9⟩
       have B9 := Lib.hid (B8.out.trans (b9.mono B8.out.size))
       clear b9
       go_wp2_with fail
       refine (HS.out _).mono ?_
       rintro e w10 ⟨rfl, b10⟩
       have B10 := Lib.hid (B9.out.trans (b10.mono B9.out.size))
       clear b10
       rcases hYs with ⟨g5, g6, g7⟩ | ⟨g5, g6⟩
       ·subst g5
        have R10 := Lib.hid (Row.made w10 29 #[.int .i64 Y2.item.by_, .int .i64 Y2.item.n, .int .i64 Y2.stamp.v.by_, .int .i64 Y2.stamp.v.n, .int .i64 Y2.stamp.time, .string (mk Y2.path), .int .i64 Y2.size, .bool Y2.dead])
        have C10 := Lib.hid (B10.out.alloc B10.out.size (.cells #[.int .i64 Y2.item.by_, .int .i64 Y2.item.n, .int .i64 Y2.stamp.v.by_, .int .i64 Y2.stamp.v.n, .int .i64 Y2.stamp.time, .string (mk Y2.path), .int .i64 Y2.size, .bool Y2.dead] 29))
        go_wp2_with fail
        refine (AW.out _).mono ?_
        rintro e w11 ⟨rfl, b11⟩
        have R11 := Lib.hid (R10.out.below b11 R10.out.inHeap)
        have B11 := Lib.hid (C10.out.trans (b11.mono C10.out.size))
        clear b11
        go_wp2_with (refine wpList_mload (cs := [.int .i64 Y2.item.by_, .int .i64 Y2.item.n, .int .i64 Y2.stamp.v.by_, .int .i64 Y2.stamp.v.n, .int .i64 Y2.stamp.time, .string (mk Y2.path), .int .i64 Y2.size, .bool Y2.dead]) (by rfl) (.tmp 17) (by rfl) (by rfl) (row_lies (cs := [.int .i64 Y2.item.by_, .int .i64 Y2.item.n, .int .i64 Y2.stamp.v.by_, .int .i64 Y2.stamp.v.n, .int .i64 Y2.stamp.time, .string (mk Y2.path), .int .i64 Y2.size, .bool Y2.dead]) R11.out HfM.out HsM.out) ?_)
        refine (g6 _).mono ?_
        rintro e w12 ⟨rfl, b12⟩
        have R12 := Lib.hid (R11.out.below b12 R11.out.inHeap)
        have B12 := Lib.hid (B11.out.trans (b12.mono B11.out.size))
        clear b12
        go_wp2_with (refine wpList_mload (cs := [.int .i64 Y2.item.by_, .int .i64 Y2.item.n, .int .i64 Y2.stamp.v.by_, .int .i64 Y2.stamp.v.n, .int .i64 Y2.stamp.time, .string (mk Y2.path), .int .i64 Y2.size, .bool Y2.dead]) (by rfl) (.tmp 17) (by rfl) (by rfl) (row_lies (cs := [.int .i64 Y2.item.by_, .int .i64 Y2.item.n, .int .i64 Y2.stamp.v.by_, .int .i64 Y2.stamp.v.n, .int .i64 Y2.stamp.time, .string (mk Y2.path), .int .i64 Y2.size, .bool Y2.dead]) R12.out HfM.out HsM.out) ?_)
        refine (g7 _).mono ?_
        rintro e w13 ⟨rfl, b13⟩
        have B13 := Lib.hid (B12.out.trans (b13.mono B12.out.size))
        clear b13
        go_wp2_with fail
        go_ret
        exact ⟨rfl, HB0.out.trans (B13.out.mono HB0.out.size)⟩
       ·subst g5
        have ZN2 := fun (w : World) => mt_eqIn_self w Y2
        have hzm : ∀ w : World, (zeroValue 29).run Try.prog w = .ok (mtA Y2) w := by rw [g6]; exact mtZero
        dsimp only [mtA] at ZN2 hzm
        clear g6
        have R10 := Lib.hid (Row.made w10 29 #[.int .i64 Y2.item.by_, .int .i64 Y2.item.n, .int .i64 Y2.stamp.v.by_, .int .i64 Y2.stamp.v.n, .int .i64 Y2.stamp.time, .string (mk Y2.path), .int .i64 Y2.size, .bool Y2.dead])
        have C10 := Lib.hid (B10.out.alloc B10.out.size (.cells #[.int .i64 Y2.item.by_, .int .i64 Y2.item.n, .int .i64 Y2.stamp.v.by_, .int .i64 Y2.stamp.v.n, .int .i64 Y2.stamp.time, .string (mk Y2.path), .int .i64 Y2.size, .bool Y2.dead] 29))
        go_wp2_with fail
        refine (AW.out _).mono ?_
        rintro e w11 ⟨rfl, b11⟩
        have R11 := Lib.hid (R10.out.below b11 R10.out.inHeap)
        have B11 := Lib.hid (C10.out.trans (b11.mono C10.out.size))
        clear b11
        go_wp2_with (refine wpList_mloadD 150 (by with_reducible rfl) (by rfl) (.tmp 17) (by rfl) (by rfl) (row_lies (cs := [.int .i64 Y2.item.by_, .int .i64 Y2.item.n, .int .i64 Y2.stamp.v.by_, .int .i64 Y2.stamp.v.n, .int .i64 Y2.stamp.time, .string (mk Y2.path), .int .i64 Y2.size, .bool Y2.dead]) R11.out HfM.out HsM.out) ?_)
        go_ret
        exact ⟨rfl, HB0.out.trans (B11.out.mono HB0.out.size)⟩
      ·subst f4
       have ZN := fun (w : World) => up_eqS w X2
       have hzu : ∀ w : World, (zeroValue 27).run Try.prog w = .ok (upA X2) w := by rw [f5]; exact pupZero
       dsimp only [upA] at ZN hzu
       clear f5
       have R7 := Lib.hid (Row.made w7 27 #[.int .i64 X2.item.by_, .int .i64 X2.item.n, .int .i64 X2.stamp.v.by_, .int .i64 X2.stamp.v.n, .int .i64 X2.stamp.time, .string (mk X2.path), .string (mk X2.data), .bool X2.dead])
       have C7 := Lib.hid (B7.out.alloc B7.out.size (.cells #[.int .i64 X2.item.by_, .int .i64 X2.item.n, .int .i64 X2.stamp.v.by_, .int .i64 X2.stamp.v.n, .int .i64 X2.stamp.time, .string (mk X2.path), .string (mk X2.data), .bool X2.dead] 27))
       go_wp2_with fail
       clear hzu ZN
       refine (HS.out _).mono ?_
       rintro e w10 ⟨rfl, b10⟩
       have B10 := Lib.hid (C7.out.trans (b10.mono C7.out.size))
       clear b10
       rcases hYs with ⟨g5, g6, g7⟩ | ⟨g5, g6⟩
       ·subst g5
        have R10 := Lib.hid (Row.made w10 29 #[.int .i64 Y2.item.by_, .int .i64 Y2.item.n, .int .i64 Y2.stamp.v.by_, .int .i64 Y2.stamp.v.n, .int .i64 Y2.stamp.time, .string (mk Y2.path), .int .i64 Y2.size, .bool Y2.dead])
        have C10 := Lib.hid (B10.out.alloc B10.out.size (.cells #[.int .i64 Y2.item.by_, .int .i64 Y2.item.n, .int .i64 Y2.stamp.v.by_, .int .i64 Y2.stamp.v.n, .int .i64 Y2.stamp.time, .string (mk Y2.path), .int .i64 Y2.size, .bool Y2.dead] 29))
        go_wp2_with fail
        refine (AW.out _).mono ?_
        rintro e w11 ⟨rfl, b11⟩
        have R11 := Lib.hid (R10.out.below b11 R10.out.inHeap)
        have B11 := Lib.hid (C10.out.trans (b11.mono C10.out.size))
        clear b11
        go_wp2_with (refine wpList_mload (cs := [.int .i64 Y2.item.by_, .int .i64 Y2.item.n, .int .i64 Y2.stamp.v.by_, .int .i64 Y2.stamp.v.n, .int .i64 Y2.stamp.time, .string (mk Y2.path), .int .i64 Y2.size, .bool Y2.dead]) (by rfl) (.tmp 17) (by rfl) (by rfl) (row_lies (cs := [.int .i64 Y2.item.by_, .int .i64 Y2.item.n, .int .i64 Y2.stamp.v.by_, .int .i64 Y2.stamp.v.n, .int .i64 Y2.stamp.time, .string (mk Y2.path), .int .i64 Y2.size, .bool Y2.dead]) R11.out HfM.out HsM.out) ?_)
        refine (g6 _).mono ?_
        rintro e w12 ⟨rfl, b12⟩
        have R12 := Lib.hid (R11.out.below b12 R11.out.inHeap)
        have B12 := Lib.hid (B11.out.trans (b12.mono B11.out.size))
        clear b12
        go_wp2_with (refine wpList_mload (cs := [.int .i64 Y2.item.by_, .int .i64 Y2.item.n, .int .i64 Y2.stamp.v.by_, .int .i64 Y2.stamp.v.n, .int .i64 Y2.stamp.time, .string (mk Y2.path), .int .i64 Y2.size, .bool Y2.dead]) (by rfl) (.tmp 17) (by rfl) (by rfl) (row_lies (cs := [.int .i64 Y2.item.by_, .int .i64 Y2.item.n, .int .i64 Y2.stamp.v.by_, .int .i64 Y2.stamp.v.n, .int .i64 Y2.stamp.time, .string (mk Y2.path), .int .i64 Y2.size, .bool Y2.dead]) R12.out HfM.out HsM.out) ?_)
        refine (g7 _).mono ?_
        rintro e w13 ⟨rfl, b13⟩
        have B13 := Lib.hid (B12.out.trans (b13.mono B12.out.size))
        clear b13
        go_wp2_with fail
        go_ret
        exact ⟨rfl, HB0.out.trans (B13.out.mono HB0.out.size)⟩
       ·subst g5
        have ZN2 := fun (w : World) => mt_eqIn_self w Y2
        have hzm : ∀ w : World, (zeroValue 29).run Try.prog w = .ok (mtA Y2) w := by rw [g6]; exact mtZero
        dsimp only [mtA] at ZN2 hzm
        clear g6
        have R10 := Lib.hid (Row.made w10 29 #[.int .i64 Y2.item.by_, .int .i64 Y2.item.n, .int .i64 Y2.stamp.v.by_, .int .i64 Y2.stamp.v.n, .int .i64 Y2.stamp.time, .string (mk Y2.path), .int .i64 Y2.size, .bool Y2.dead])
        have C10 := Lib.hid (B10.out.alloc B10.out.size (.cells #[.int .i64 Y2.item.by_, .int .i64 Y2.item.n, .int .i64 Y2.stamp.v.by_, .int .i64 Y2.stamp.v.n, .int .i64 Y2.stamp.time, .string (mk Y2.path), .int .i64 Y2.size, .bool Y2.dead] 29))
        go_wp2_with fail
        refine (AW.out _).mono ?_
        rintro e w11 ⟨rfl, b11⟩
        have R11 := Lib.hid (R10.out.below b11 R10.out.inHeap)
        have B11 := Lib.hid (C10.out.trans (b11.mono C10.out.size))
        clear b11
        go_wp2_with (refine wpList_mloadD 150 (by with_reducible rfl) (by rfl) (.tmp 17) (by rfl) (by rfl) (row_lies (cs := [.int .i64 Y2.item.by_, .int .i64 Y2.item.n, .int .i64 Y2.stamp.v.by_, .int .i64 Y2.stamp.v.n, .int .i64 Y2.stamp.time, .string (mk Y2.path), .int .i64 Y2.size, .bool Y2.dead]) R11.out HfM.out HsM.out) ?_)
        go_ret
        exact ⟨rfl, HB0.out.trans (B11.out.mono HB0.out.size)⟩
     ·have hne : (eb == 0) = false := by rw [f1]; rfl
      have R6 := Lib.hid (Row.made w6 29 #[.int .i64 Y1.item.by_, .int .i64 Y1.item.n, .int .i64 Y1.stamp.v.by_, .int .i64 Y1.stamp.v.n, .int .i64 Y1.stamp.time, .string (mk Y1.path), .int .i64 Y1.size, .bool Y1.dead])
      have C6 := Lib.hid (B6.out.alloc B6.out.size (.cells #[.int .i64 Y1.item.by_, .int .i64 Y1.item.n, .int .i64 Y1.stamp.v.by_, .int .i64 Y1.stamp.v.n, .int .i64 Y1.stamp.time, .string (mk Y1.path), .int .i64 Y1.size, .bool Y1.dead] 29))
      clear f1
      go_wp2_with fail
      refine (GS.out _).mono ?_
      rintro e w7 ⟨rfl, b7⟩
      have B7 := Lib.hid (C6.out.trans (b7.mono C6.out.size))
      clear b7
      rcases hXs with ⟨f4, f5, f6⟩ | ⟨f4, f5⟩
      ·subst f4
       have R7 := Lib.hid (Row.made w7 27 #[.int .i64 X2.item.by_, .int .i64 X2.item.n, .int .i64 X2.stamp.v.by_, .int .i64 X2.stamp.v.n, .int .i64 X2.stamp.time, .string (mk X2.path), .string (mk X2.data), .bool X2.dead])
       have C7 := Lib.hid (B7.out.alloc B7.out.size (.cells #[.int .i64 X2.item.by_, .int .i64 X2.item.n, .int .i64 X2.stamp.v.by_, .int .i64 X2.stamp.v.n, .int .i64 X2.stamp.time, .string (mk X2.path), .string (mk X2.data), .bool X2.dead] 27))
       go_wp2_with (refine wpList_mload (cs := [.int .i64 X2.item.by_, .int .i64 X2.item.n, .int .i64 X2.stamp.v.by_, .int .i64 X2.stamp.v.n, .int .i64 X2.stamp.time, .string (mk X2.path), .string (mk X2.data), .bool X2.dead]) (by rfl) (.tmp 15) (by rfl) (by rfl) (row_lies (cs := [.int .i64 X2.item.by_, .int .i64 X2.item.n, .int .i64 X2.stamp.v.by_, .int .i64 X2.stamp.v.n, .int .i64 X2.stamp.time, .string (mk X2.path), .string (mk X2.data), .bool X2.dead]) R7.out HfU.out HsU.out) ?_)
       refine (f5 _).mono ?_
       rintro e w8 ⟨rfl, b8⟩
       have R8 := Lib.hid (R7.out.below b8 R7.out.inHeap)
       have B8 := Lib.hid (C7.out.trans (b8.mono C7.out.size))
       clear b8
       go_wp2_with (refine wpList_mload (cs := [.int .i64 X2.item.by_, .int .i64 X2.item.n, .int .i64 X2.stamp.v.by_, .int .i64 X2.stamp.v.n, .int .i64 X2.stamp.time, .string (mk X2.path), .string (mk X2.data), .bool X2.dead]) (by rfl) (.tmp 15) (by rfl) (by rfl) (row_lies (cs := [.int .i64 X2.item.by_, .int .i64 X2.item.n, .int .i64 X2.stamp.v.by_, .int .i64 X2.stamp.v.n, .int .i64 X2.stamp.time, .string (mk X2.path), .string (mk X2.data), .bool X2.dead]) R8.out HfU.out HsU.out) ?_)
       refine (f6 _).mono ?_
       rintro e w9 ⟨rfl, b9⟩
       have B9 := Lib.hid (B8.out.trans (b9.mono B8.out.size))
       clear b9
       go_wp2_with fail
       refine (HS.out _).mono ?_
       rintro e w10 ⟨rfl, b10⟩
       have B10 := Lib.hid (B9.out.trans (b10.mono B9.out.size))
       clear b10
       rcases hYs with ⟨g5, g6, g7⟩ | ⟨g5, g6⟩
       ·subst g5
        have R10 := Lib.hid (Row.made w10 29 #[.int .i64 Y2.item.by_, .int .i64 Y2.item.n, .int .i64 Y2.stamp.v.by_, .int .i64 Y2.stamp.v.n, .int .i64 Y2.stamp.time, .string (mk Y2.path), .int .i64 Y2.size, .bool Y2.dead])
        have C10 := Lib.hid (B10.out.alloc B10.out.size (.cells #[.int .i64 Y2.item.by_, .int .i64 Y2.item.n, .int .i64 Y2.stamp.v.by_, .int .i64 Y2.stamp.v.n, .int .i64 Y2.stamp.time, .string (mk Y2.path), .int .i64 Y2.size, .bool Y2.dead] 29))
        go_wp2_with fail
        refine (AW.out _).mono ?_
        rintro e w11 ⟨rfl, b11⟩
        have R11 := Lib.hid (R10.out.below b11 R10.out.inHeap)
        have B11 := Lib.hid (C10.out.trans (b11.mono C10.out.size))
        clear b11
        go_wp2_with (refine wpList_mload (cs := [.int .i64 Y2.item.by_, .int .i64 Y2.item.n, .int .i64 Y2.stamp.v.by_, .int .i64 Y2.stamp.v.n, .int .i64 Y2.stamp.time, .string (mk Y2.path), .int .i64 Y2.size, .bool Y2.dead]) (by rfl) (.tmp 17) (by rfl) (by rfl) (row_lies (cs := [.int .i64 Y2.item.by_, .int .i64 Y2.item.n, .int .i64 Y2.stamp.v.by_, .int .i64 Y2.stamp.v.n, .int .i64 Y2.stamp.time, .string (mk Y2.path), .int .i64 Y2.size, .bool Y2.dead]) R11.out HfM.out HsM.out) ?_)
        refine (g6 _).mono ?_
        rintro e w12 ⟨rfl, b12⟩
        have R12 := Lib.hid (R11.out.below b12 R11.out.inHeap)
        have B12 := Lib.hid (B11.out.trans (b12.mono B11.out.size))
        clear b12
        go_wp2_with (refine wpList_mload (cs := [.int .i64 Y2.item.by_, .int .i64 Y2.item.n, .int .i64 Y2.stamp.v.by_, .int .i64 Y2.stamp.v.n, .int .i64 Y2.stamp.time, .string (mk Y2.path), .int .i64 Y2.size, .bool Y2.dead]) (by rfl) (.tmp 17) (by rfl) (by rfl) (row_lies (cs := [.int .i64 Y2.item.by_, .int .i64 Y2.item.n, .int .i64 Y2.stamp.v.by_, .int .i64 Y2.stamp.v.n, .int .i64 Y2.stamp.time, .string (mk Y2.path), .int .i64 Y2.size, .bool Y2.dead]) R12.out HfM.out HsM.out) ?_)
        refine (g7 _).mono ?_
        rintro e w13 ⟨rfl, b13⟩
        have B13 := Lib.hid (B12.out.trans (b13.mono B12.out.size))
        clear b13
        go_wp2_with fail
        go_ret
        exact ⟨rfl, HB0.out.trans (B13.out.mono HB0.out.size)⟩
       ·subst g5
        have ZN2 := fun (w : World) => mt_eqIn_self w Y2
        have hzm : ∀ w : World, (zeroValue 29).run Try.prog w = .ok (mtA Y2) w := by rw [g6]; exact mtZero
        dsimp only [mtA] at ZN2 hzm
        clear g6
        have R10 := Lib.hid (Row.made w10 29 #[.int .i64 Y2.item.by_, .int .i64 Y2.item.n, .int .i64 Y2.stamp.v.by_, .int .i64 Y2.stamp.v.n, .int .i64 Y2.stamp.time, .string (mk Y2.path), .int .i64 Y2.size, .bool Y2.dead])
        have C10 := Lib.hid (B10.out.alloc B10.out.size (.cells #[.int .i64 Y2.item.by_, .int .i64 Y2.item.n, .int .i64 Y2.stamp.v.by_, .int .i64 Y2.stamp.v.n, .int .i64 Y2.stamp.time, .string (mk Y2.path), .int .i64 Y2.size, .bool Y2.dead] 29))
        go_wp2_with fail
        refine (AW.out _).mono ?_
        rintro e w11 ⟨rfl, b11⟩
        have R11 := Lib.hid (R10.out.below b11 R10.out.inHeap)
        have B11 := Lib.hid (C10.out.trans (b11.mono C10.out.size))
        clear b11
        go_wp2_with (refine wpList_mloadD 150 (by with_reducible rfl) (by rfl) (.tmp 17) (by rfl) (by rfl) (row_lies (cs := [.int .i64 Y2.item.by_, .int .i64 Y2.item.n, .int .i64 Y2.stamp.v.by_, .int .i64 Y2.stamp.v.n, .int .i64 Y2.stamp.time, .string (mk Y2.path), .int .i64 Y2.size, .bool Y2.dead]) R11.out HfM.out HsM.out) ?_)
        go_ret
        exact ⟨rfl, HB0.out.trans (B11.out.mono HB0.out.size)⟩
      ·subst f4
       have ZN := fun (w : World) => up_eqS w X2
       have hzu : ∀ w : World, (zeroValue 27).run Try.prog w = .ok (upA X2) w := by rw [f5]; exact pupZero
       dsimp only [upA] at ZN hzu
       clear f5
       have R7 := Lib.hid (Row.made w7 27 #[.int .i64 X2.item.by_, .int .i64 X2.item.n, .int .i64 X2.stamp.v.by_, .int .i64 X2.stamp.v.n, .int .i64 X2.stamp.time, .string (mk X2.path), .string (mk X2.data), .bool X2.dead])
       have C7 := Lib.hid (B7.out.alloc B7.out.size (.cells #[.int .i64 X2.item.by_, .int .i64 X2.item.n, .int .i64 X2.stamp.v.by_, .int .i64 X2.stamp.v.n, .int .i64 X2.stamp.time, .string (mk X2.path), .string (mk X2.data), .bool X2.dead] 27))
       go_wp2_with fail
       clear hzu ZN
       refine (HS.out _).mono ?_
       rintro e w10 ⟨rfl, b10⟩
       have B10 := Lib.hid (C7.out.trans (b10.mono C7.out.size))
       clear b10
       rcases hYs with ⟨g5, g6, g7⟩ | ⟨g5, g6⟩
       ·subst g5
        have R10 := Lib.hid (Row.made w10 29 #[.int .i64 Y2.item.by_, .int .i64 Y2.item.n, .int .i64 Y2.stamp.v.by_, .int .i64 Y2.stamp.v.n, .int .i64 Y2.stamp.time, .string (mk Y2.path), .int .i64 Y2.size, .bool Y2.dead])
        have C10 := Lib.hid (B10.out.alloc B10.out.size (.cells #[.int .i64 Y2.item.by_, .int .i64 Y2.item.n, .int .i64 Y2.stamp.v.by_, .int .i64 Y2.stamp.v.n, .int .i64 Y2.stamp.time, .string (mk Y2.path), .int .i64 Y2.size, .bool Y2.dead] 29))
        go_wp2_with fail
        refine (AW.out _).mono ?_
        rintro e w11 ⟨rfl, b11⟩
        have R11 := Lib.hid (R10.out.below b11 R10.out.inHeap)
        have B11 := Lib.hid (C10.out.trans (b11.mono C10.out.size))
        clear b11
        go_wp2_with (refine wpList_mload (cs := [.int .i64 Y2.item.by_, .int .i64 Y2.item.n, .int .i64 Y2.stamp.v.by_, .int .i64 Y2.stamp.v.n, .int .i64 Y2.stamp.time, .string (mk Y2.path), .int .i64 Y2.size, .bool Y2.dead]) (by rfl) (.tmp 17) (by rfl) (by rfl) (row_lies (cs := [.int .i64 Y2.item.by_, .int .i64 Y2.item.n, .int .i64 Y2.stamp.v.by_, .int .i64 Y2.stamp.v.n, .int .i64 Y2.stamp.time, .string (mk Y2.path), .int .i64 Y2.size, .bool Y2.dead]) R11.out HfM.out HsM.out) ?_)
        refine (g6 _).mono ?_
        rintro e w12 ⟨rfl, b12⟩
        have R12 := Lib.hid (R11.out.below b12 R11.out.inHeap)
        have B12 := Lib.hid (B11.out.trans (b12.mono B11.out.size))
        clear b12
        go_wp2_with (refine wpList_mload (cs := [.int .i64 Y2.item.by_, .int .i64 Y2.item.n, .int .i64 Y2.stamp.v.by_, .int .i64 Y2.stamp.v.n, .int .i64 Y2.stamp.time, .string (mk Y2.path), .int .i64 Y2.size, .bool Y2.dead]) (by rfl) (.tmp 17) (by rfl) (by rfl) (row_lies (cs := [.int .i64 Y2.item.by_, .int .i64 Y2.item.n, .int .i64 Y2.stamp.v.by_, .int .i64 Y2.stamp.v.n, .int .i64 Y2.stamp.time, .string (mk Y2.path), .int .i64 Y2.size, .bool Y2.dead]) R12.out HfM.out HsM.out) ?_)
        refine (g7 _).mono ?_
        rintro e w13 ⟨rfl, b13⟩
        have B13 := Lib.hid (B12.out.trans (b13.mono B12.out.size))
        clear b13
        go_wp2_with fail
        go_ret
        exact ⟨rfl, HB0.out.trans (B13.out.mono HB0.out.size)⟩
       ·subst g5
        have ZN2 := fun (w : World) => mt_eqIn_self w Y2
        have hzm : ∀ w : World, (zeroValue 29).run Try.prog w = .ok (mtA Y2) w := by rw [g6]; exact mtZero
        dsimp only [mtA] at ZN2 hzm
        clear g6
        have R10 := Lib.hid (Row.made w10 29 #[.int .i64 Y2.item.by_, .int .i64 Y2.item.n, .int .i64 Y2.stamp.v.by_, .int .i64 Y2.stamp.v.n, .int .i64 Y2.stamp.time, .string (mk Y2.path), .int .i64 Y2.size, .bool Y2.dead])
        have C10 := Lib.hid (B10.out.alloc B10.out.size (.cells #[.int .i64 Y2.item.by_, .int .i64 Y2.item.n, .int .i64 Y2.stamp.v.by_, .int .i64 Y2.stamp.v.n, .int .i64 Y2.stamp.time, .string (mk Y2.path), .int .i64 Y2.size, .bool Y2.dead] 29))
        go_wp2_with fail
        refine (AW.out _).mono ?_
        rintro e w11 ⟨rfl, b11⟩
        have R11 := Lib.hid (R10.out.below b11 R10.out.inHeap)
        have B11 := Lib.hid (C10.out.trans (b11.mono C10.out.size))
        clear b11
        go_wp2_with (refine wpList_mloadD 150 (by with_reducible rfl) (by rfl) (.tmp 17) (by rfl) (by rfl) (row_lies (cs := [.int .i64 Y2.item.by_, .int .i64 Y2.item.n, .int .i64 Y2.stamp.v.by_, .int .i64 Y2.stamp.v.n, .int .i64 Y2.stamp.time, .string (mk Y2.path), .int .i64 Y2.size, .bool Y2.dead]) R11.out HfM.out HsM.out) ?_)
        go_ret
        exact ⟨rfl, HB0.out.trans (B11.out.mono HB0.out.size)⟩
    ·have hne : (ea == 0) = false := by rw [f1]; rfl
     have R5 := Lib.hid (Row.made w5 27 #[.int .i64 X1.item.by_, .int .i64 X1.item.n, .int .i64 X1.stamp.v.by_, .int .i64 X1.stamp.v.n, .int .i64 X1.stamp.time, .string (mk X1.path), .string (mk X1.data), .bool X1.dead])
     have C5 := Lib.hid (B5.out.alloc B5.out.size (.cells #[.int .i64 X1.item.by_, .int .i64 X1.item.n, .int .i64 X1.stamp.v.by_, .int .i64 X1.stamp.v.n, .int .i64 X1.stamp.time, .string (mk X1.path), .string (mk X1.data), .bool X1.dead] 27))
     clear f1
     go_wp2_with fail
     refine (GM.out _).mono ?_
     rintro e w6 ⟨rfl, b6⟩
     have B6 := Lib.hid (C5.out.trans (b6.mono C5.out.size))
     clear b6
     rcases FM0.out with ⟨f1, f2, f3⟩ | f1
     ·subst f1 f2 f3
      have R6 := Lib.hid (Row.made w6 29 #[.int .i64 m.item.by_, .int .i64 m.item.n, .int .i64 m.stamp.v.by_, .int .i64 m.stamp.v.n, .int .i64 m.stamp.time, .string (mk m.path), .int .i64 m.size, .bool m.dead])
      have C6 := Lib.hid (B6.out.alloc B6.out.size (.cells #[.int .i64 m.item.by_, .int .i64 m.item.n, .int .i64 m.stamp.v.by_, .int .i64 m.stamp.v.n, .int .i64 m.stamp.time, .string (mk m.path), .int .i64 m.size, .bool m.dead] 29))
      go_wp2_with (first | (refine wpList_mload (cs := [.int .i64 m.item.by_, .int .i64 m.item.n, .int .i64 m.stamp.v.by_, .int .i64 m.stamp.v.n, .int .i64 m.stamp.time, .string (mk m.path), .int .i64 m.size, .bool m.dead]) (by rfl) (.tmp 13) (by rfl) (by rfl) (row_lies (cs := [.int .i64 m.item.by_, .int .i64 m.item.n, .int .i64 m.stamp.v.by_, .int .i64 m.stamp.v.n, .int .i64 m.stamp.time, .string (mk m.path), .int .i64 m.size, .bool m.dead]) R6.out HfM.out HsM.out) ?_) | (refine wpList_mload (cs := [.int .i64 m.item.by_, .int .i64 m.item.n, .int .i64 m.stamp.v.by_, .int .i64 m.stamp.v.n, .int .i64 m.stamp.time, .string (mk m.path), .int .i64 m.size, .bool m.dead]) (by rfl) (.tmp 4) (by rfl) (by rfl) (row_lies (cs := [.int .i64 m.item.by_, .int .i64 m.item.n, .int .i64 m.stamp.v.by_, .int .i64 m.stamp.v.n, .int .i64 m.stamp.time, .string (mk m.path), .int .i64 m.size, .bool m.dead]) (XM.out _ C6.out) HfM.out HsM.out) ?_))
      refine (GS.out _).mono ?_
      rintro e w7 ⟨rfl, b7⟩
      have B7 := Lib.hid (C6.out.trans (b7.mono C6.out.size))
      clear b7
      rcases hXs with ⟨f4, f5, f6⟩ | ⟨f4, f5⟩
      ·subst f4
       have R7 := Lib.hid (Row.made w7 27 #[.int .i64 X2.item.by_, .int .i64 X2.item.n, .int .i64 X2.stamp.v.by_, .int .i64 X2.stamp.v.n, .int .i64 X2.stamp.time, .string (mk X2.path), .string (mk X2.data), .bool X2.dead])
       have C7 := Lib.hid (B7.out.alloc B7.out.size (.cells #[.int .i64 X2.item.by_, .int .i64 X2.item.n, .int .i64 X2.stamp.v.by_, .int .i64 X2.stamp.v.n, .int .i64 X2.stamp.time, .string (mk X2.path), .string (mk X2.data), .bool X2.dead] 27))
       go_wp2_with (refine wpList_mload (cs := [.int .i64 X2.item.by_, .int .i64 X2.item.n, .int .i64 X2.stamp.v.by_, .int .i64 X2.stamp.v.n, .int .i64 X2.stamp.time, .string (mk X2.path), .string (mk X2.data), .bool X2.dead]) (by rfl) (.tmp 15) (by rfl) (by rfl) (row_lies (cs := [.int .i64 X2.item.by_, .int .i64 X2.item.n, .int .i64 X2.stamp.v.by_, .int .i64 X2.stamp.v.n, .int .i64 X2.stamp.time, .string (mk X2.path), .string (mk X2.data), .bool X2.dead]) R7.out HfU.out HsU.out) ?_)
       refine (f5 _).mono ?_
       rintro e w8 ⟨rfl, b8⟩
       have R8 := Lib.hid (R7.out.below b8 R7.out.inHeap)
       have B8 := Lib.hid (C7.out.trans (b8.mono C7.out.size))
       clear b8
       go_wp2_with (refine wpList_mload (cs := [.int .i64 X2.item.by_, .int .i64 X2.item.n, .int .i64 X2.stamp.v.by_, .int .i64 X2.stamp.v.n, .int .i64 X2.stamp.time, .string (mk X2.path), .string (mk X2.data), .bool X2.dead]) (by rfl) (.tmp 15) (by rfl) (by rfl) (row_lies (cs := [.int .i64 X2.item.by_, .int .i64 X2.item.n, .int .i64 X2.stamp.v.by_, .int .i64 X2.stamp.v.n, .int .i64 X2.stamp.time, .string (mk X2.path), .string (mk X2.data), .bool X2.dead]) R8.out HfU.out HsU.out) ?_)
       refine (f6 _).mono ?_
       rintro e w9 ⟨rfl, b9⟩
       have B9 := Lib.hid (B8.out.trans (b9.mono B8.out.size))
       clear b9
       go_wp2_with fail
       refine (HS.out _).mono ?_
       rintro e w10 ⟨rfl, b10⟩
       have B10 := Lib.hid (B9.out.trans (b10.mono B9.out.size))
       clear b10
       rcases hYs with ⟨g5, g6, g7⟩ | ⟨g5, g6⟩
       ·subst g5
        have R10 := Lib.hid (Row.made w10 29 #[.int .i64 Y2.item.by_, .int .i64 Y2.item.n, .int .i64 Y2.stamp.v.by_, .int .i64 Y2.stamp.v.n, .int .i64 Y2.stamp.time, .string (mk Y2.path), .int .i64 Y2.size, .bool Y2.dead])
        have C10 := Lib.hid (B10.out.alloc B10.out.size (.cells #[.int .i64 Y2.item.by_, .int .i64 Y2.item.n, .int .i64 Y2.stamp.v.by_, .int .i64 Y2.stamp.v.n, .int .i64 Y2.stamp.time, .string (mk Y2.path), .int .i64 Y2.size, .bool Y2.dead] 29))
        go_wp2_with fail
        refine (AW.out _).mono ?_
        rintro e w11 ⟨rfl, b11⟩
        have R11 := Lib.hid (R10.out.below b11 R10.out.inHeap)
        have B11 := Lib.hid (C10.out.trans (b11.mono C10.out.size))
        clear b11
        go_wp2_with (refine wpList_mload (cs := [.int .i64 Y2.item.by_, .int .i64 Y2.item.n, .int .i64 Y2.stamp.v.by_, .int .i64 Y2.stamp.v.n, .int .i64 Y2.stamp.time, .string (mk Y2.path), .int .i64 Y2.size, .bool Y2.dead]) (by rfl) (.tmp 17) (by rfl) (by rfl) (row_lies (cs := [.int .i64 Y2.item.by_, .int .i64 Y2.item.n, .int .i64 Y2.stamp.v.by_, .int .i64 Y2.stamp.v.n, .int .i64 Y2.stamp.time, .string (mk Y2.path), .int .i64 Y2.size, .bool Y2.dead]) R11.out HfM.out HsM.out) ?_)
        refine (g6 _).mono ?_
        rintro e w12 ⟨rfl, b12⟩
        have R12 := Lib.hid (R11.out.below b12 R11.out.inHeap)
        have B12 := Lib.hid (B11.out.trans (b12.mono B11.out.size))
        clear b12
        go_wp2_with (refine wpList_mload (cs := [.int .i64 Y2.item.by_, .int .i64 Y2.item.n, .int .i64 Y2.stamp.v.by_, .int .i64 Y2.stamp.v.n, .int .i64 Y2.stamp.time, .string (mk Y2.path), .int .i64 Y2.size, .bool Y2.dead]) (by rfl) (.tmp 17) (by rfl) (by rfl) (row_lies (cs := [.int .i64 Y2.item.by_, .int .i64 Y2.item.n, .int .i64 Y2.stamp.v.by_, .int .i64 Y2.stamp.v.n, .int .i64 Y2.stamp.time, .string (mk Y2.path), .int .i64 Y2.size, .bool Y2.dead]) R12.out HfM.out HsM.out) ?_)
        refine (g7 _).mono ?_
        rintro e w13 ⟨rfl, b13⟩
        have B13 := Lib.hid (B12.out.trans (b13.mono B12.out.size))
        clear b13
        go_wp2_with fail
        go_ret
        exact ⟨rfl, HB0.out.trans (B13.out.mono HB0.out.size)⟩
       ·subst g5
        have ZN2 := fun (w : World) => mt_eqIn_self w Y2
        have hzm : ∀ w : World, (zeroValue 29).run Try.prog w = .ok (mtA Y2) w := by rw [g6]; exact mtZero
        dsimp only [mtA] at ZN2 hzm
        clear g6
        have R10 := Lib.hid (Row.made w10 29 #[.int .i64 Y2.item.by_, .int .i64 Y2.item.n, .int .i64 Y2.stamp.v.by_, .int .i64 Y2.stamp.v.n, .int .i64 Y2.stamp.time, .string (mk Y2.path), .int .i64 Y2.size, .bool Y2.dead])
        have C10 := Lib.hid (B10.out.alloc B10.out.size (.cells #[.int .i64 Y2.item.by_, .int .i64 Y2.item.n, .int .i64 Y2.stamp.v.by_, .int .i64 Y2.stamp.v.n, .int .i64 Y2.stamp.time, .string (mk Y2.path), .int .i64 Y2.size, .bool Y2.dead] 29))
        go_wp2_with fail
        refine (AW.out _).mono ?_
        rintro e w11 ⟨rfl, b11⟩
        have R11 := Lib.hid (R10.out.below b11 R10.out.inHeap)
        have B11 := Lib.hid (C10.out.trans (b11.mono C10.out.size))
        clear b11
        go_wp2_with (refine wpList_mloadD 150 (by with_reducible rfl) (by rfl) (.tmp 17) (by rfl) (by rfl) (row_lies (cs := [.int .i64 Y2.item.by_, .int .i64 Y2.item.n, .int .i64 Y2.stamp.v.by_, .int .i64 Y2.stamp.v.n, .int .i64 Y2.stamp.time, .string (mk Y2.path), .int .i64 Y2.size, .bool Y2.dead]) R11.out HfM.out HsM.out) ?_)
        go_ret
        exact ⟨rfl, HB0.out.trans (B11.out.mono HB0.out.size)⟩
      ·subst f4
       have ZN := fun (w : World) => up_eqS w X2
       have hzu : ∀ w : World, (zeroValue 27).run Try.prog w = .ok (upA X2) w := by rw [f5]; exact pupZero
       dsimp only [upA] at ZN hzu
       clear f5
       have R7 := Lib.hid (Row.made w7 27 #[.int .i64 X2.item.by_, .int .i64 X2.item.n, .int .i64 X2.stamp.v.by_, .int .i64 X2.stamp.v.n, .int .i64 X2.stamp.time, .string (mk X2.path), .string (mk X2.data), .bool X2.dead])
       have C7 := Lib.hid (B7.out.alloc B7.out.size (.cells #[.int .i64 X2.item.by_, .int .i64 X2.item.n, .int .i64 X2.stamp.v.by_, .int .i64 X2.stamp.v.n, .int .i64 X2.stamp.time, .string (mk X2.path), .string (mk X2.data), .bool X2.dead] 27))
       go_wp2_with fail
       clear hzu ZN
       refine (HS.out _).mono ?_
       rintro e w10 ⟨rfl, b10⟩
       have B10 := Lib.hid (C7.out.trans (b10.mono C7.out.size))
       clear b10
       rcases hYs with ⟨g5, g6, g7⟩ | ⟨g5, g6⟩
       ·subst g5
        have R10 := Lib.hid (Row.made w10 29 #[.int .i64 Y2.item.by_, .int .i64 Y2.item.n, .int .i64 Y2.stamp.v.by_, .int .i64 Y2.stamp.v.n, .int .i64 Y2.stamp.time, .string (mk Y2.path), .int .i64 Y2.size, .bool Y2.dead])
        have C10 := Lib.hid (B10.out.alloc B10.out.size (.cells #[.int .i64 Y2.item.by_, .int .i64 Y2.item.n, .int .i64 Y2.stamp.v.by_, .int .i64 Y2.stamp.v.n, .int .i64 Y2.stamp.time, .string (mk Y2.path), .int .i64 Y2.size, .bool Y2.dead] 29))
        go_wp2_with fail
        refine (AW.out _).mono ?_
        rintro e w11 ⟨rfl, b11⟩
        have R11 := Lib.hid (R10.out.below b11 R10.out.inHeap)
        have B11 := Lib.hid (C10.out.trans (b11.mono C10.out.size))
        clear b11
        go_wp2_with (refine wpList_mload (cs := [.int .i64 Y2.item.by_, .int .i64 Y2.item.n, .int .i64 Y2.stamp.v.by_, .int .i64 Y2.stamp.v.n, .int .i64 Y2.stamp.time, .string (mk Y2.path), .int .i64 Y2.size, .bool Y2.dead]) (by rfl) (.tmp 17) (by rfl) (by rfl) (row_lies (cs := [.int .i64 Y2.item.by_, .int .i64 Y2.item.n, .int .i64 Y2.stamp.v.by_, .int .i64 Y2.stamp.v.n, .int .i64 Y2.stamp.time, .string (mk Y2.path), .int .i64 Y2.size, .bool Y2.dead]) R11.out HfM.out HsM.out) ?_)
        refine (g6 _).mono ?_
        rintro e w12 ⟨rfl, b12⟩
        have R12 := Lib.hid (R11.out.below b12 R11.out.inHeap)
        have B12 := Lib.hid (B11.out.trans (b12.mono B11.out.size))
        clear b12
        go_wp2_with (refine wpList_mload (cs := [.int .i64 Y2.item.by_, .int .i64 Y2.item.n, .int .i64 Y2.stamp.v.by_, .int .i64 Y2.stamp.v.n, .int .i64 Y2.stamp.time, .string (mk Y2.path), .int .i64 Y2.size, .bool Y2.dead]) (by rfl) (.tmp 17) (by rfl) (by rfl) (row_lies (cs := [.int .i64 Y2.item.by_, .int .i64 Y2.item.n, .int .i64 Y2.stamp.v.by_, .int .i64 Y2.stamp.v.n, .int .i64 Y2.stamp.time, .string (mk Y2.path), .int .i64 Y2.size, .bool Y2.dead]) R12.out HfM.out HsM.out) ?_)
        refine (g7 _).mono ?_
        rintro e w13 ⟨rfl, b13⟩
        have B13 := Lib.hid (B12.out.trans (b13.mono B12.out.size))
        clear b13
        go_wp2_with fail
        go_ret
        exact ⟨rfl, HB0.out.trans (B13.out.mono HB0.out.size)⟩
       ·subst g5
        have ZN2 := fun (w : World) => mt_eqIn_self w Y2
        have hzm : ∀ w : World, (zeroValue 29).run Try.prog w = .ok (mtA Y2) w := by rw [g6]; exact mtZero
        dsimp only [mtA] at ZN2 hzm
        clear g6
        have R10 := Lib.hid (Row.made w10 29 #[.int .i64 Y2.item.by_, .int .i64 Y2.item.n, .int .i64 Y2.stamp.v.by_, .int .i64 Y2.stamp.v.n, .int .i64 Y2.stamp.time, .string (mk Y2.path), .int .i64 Y2.size, .bool Y2.dead])
        have C10 := Lib.hid (B10.out.alloc B10.out.size (.cells #[.int .i64 Y2.item.by_, .int .i64 Y2.item.n, .int .i64 Y2.stamp.v.by_, .int .i64 Y2.stamp.v.n, .int .i64 Y2.stamp.time, .string (mk Y2.path), .int .i64 Y2.size, .bool Y2.dead] 29))
        go_wp2_with fail
        refine (AW.out _).mono ?_
        rintro e w11 ⟨rfl, b11⟩
        have R11 := Lib.hid (R10.out.below b11 R10.out.inHeap)
        have B11 := Lib.hid (C10.out.trans (b11.mono C10.out.size))
        clear b11
        go_wp2_with (refine wpList_mloadD 150 (by with_reducible rfl) (by rfl) (.tmp 17) (by rfl) (by rfl) (row_lies (cs := [.int .i64 Y2.item.by_, .int .i64 Y2.item.n, .int .i64 Y2.stamp.v.by_, .int .i64 Y2.stamp.v.n, .int .i64 Y2.stamp.time, .string (mk Y2.path), .int .i64 Y2.size, .bool Y2.dead]) R11.out HfM.out HsM.out) ?_)
        go_ret
        exact ⟨rfl, HB0.out.trans (B11.out.mono HB0.out.size)⟩
     ·have hne : (eb == 0) = false := by rw [f1]; rfl
      have R6 := Lib.hid (Row.made w6 29 #[.int .i64 Y1.item.by_, .int .i64 Y1.item.n, .int .i64 Y1.stamp.v.by_, .int .i64 Y1.stamp.v.n, .int .i64 Y1.stamp.time, .string (mk Y1.path), .int .i64 Y1.size, .bool Y1.dead])
      have C6 := Lib.hid (B6.out.alloc B6.out.size (.cells #[.int .i64 Y1.item.by_, .int .i64 Y1.item.n, .int .i64 Y1.stamp.v.by_, .int .i64 Y1.stamp.v.n, .int .i64 Y1.stamp.time, .string (mk Y1.path), .int .i64 Y1.size, .bool Y1.dead] 29))
      clear f1
      go_wp2_with fail
      refine (GS.out _).mono ?_
      rintro e w7 ⟨rfl, b7⟩
      have B7 := Lib.hid (C6.out.trans (b7.mono C6.out.size))
      clear b7
      rcases hXs with ⟨f4, f5, f6⟩ | ⟨f4, f5⟩
      ·subst f4
       have R7 := Lib.hid (Row.made w7 27 #[.int .i64 X2.item.by_, .int .i64 X2.item.n, .int .i64 X2.stamp.v.by_, .int .i64 X2.stamp.v.n, .int .i64 X2.stamp.time, .string (mk X2.path), .string (mk X2.data), .bool X2.dead])
       have C7 := Lib.hid (B7.out.alloc B7.out.size (.cells #[.int .i64 X2.item.by_, .int .i64 X2.item.n, .int .i64 X2.stamp.v.by_, .int .i64 X2.stamp.v.n, .int .i64 X2.stamp.time, .string (mk X2.path), .string (mk X2.data), .bool X2.dead] 27))
       go_wp2_with (refine wpList_mload (cs := [.int .i64 X2.item.by_, .int .i64 X2.item.n, .int .i64 X2.stamp.v.by_, .int .i64 X2.stamp.v.n, .int .i64 X2.stamp.time, .string (mk X2.path), .string (mk X2.data), .bool X2.dead]) (by rfl) (.tmp 15) (by rfl) (by rfl) (row_lies (cs := [.int .i64 X2.item.by_, .int .i64 X2.item.n, .int .i64 X2.stamp.v.by_, .int .i64 X2.stamp.v.n, .int .i64 X2.stamp.time, .string (mk X2.path), .string (mk X2.data), .bool X2.dead]) R7.out HfU.out HsU.out) ?_)
       refine (f5 _).mono ?_
       rintro e w8 ⟨rfl, b8⟩
       have R8 := Lib.hid (R7.out.below b8 R7.out.inHeap)
       have B8 := Lib.hid (C7.out.trans (b8.mono C7.out.size))
       clear b8
       go_wp2_with (refine wpList_mload (cs := [.int .i64 X2.item.by_, .int .i64 X2.item.n, .int .i64 X2.stamp.v.by_, .int .i64 X2.stamp.v.n, .int .i64 X2.stamp.time, .string (mk X2.path), .string (mk X2.data), .bool X2.dead]) (by rfl) (.tmp 15) (by rfl) (by rfl) (row_lies (cs := [.int .i64 X2.item.by_, .int .i64 X2.item.n, .int .i64 X2.stamp.v.by_, .int .i64 X2.stamp.v.n, .int .i64 X2.stamp.time, .string (mk X2.path), .string (mk X2.data), .bool X2.dead]) R8.out HfU.out HsU.out) ?_)
       refine (f6 _).mono ?_
       rintro e w9 ⟨rfl, b9⟩
       have B9 := Lib.hid (B8.out.trans (b9.mono B8.out.size))
       clear b9
       go_wp2_with fail
       refine (HS.out _).mono ?_
       rintro e w10 ⟨rfl, b10⟩
       have B10 := Lib.hid (B9.out.trans (b10.mono B9.out.size))
       clear b10
       rcases hYs with ⟨g5, g6, g7⟩ | ⟨g5, g6⟩
       ·subst g5
        have R10 := Lib.hid (Row.made w10 29 #[.int .i64 Y2.item.by_, .int .i64 Y2.item.n, .int .i64 Y2.stamp.v.by_, .int .i64 Y2.stamp.v.n, .int .i64 Y2.stamp.time, .string (mk Y2.path), .int .i64 Y2.size, .bool Y2.dead])
        have C10 := Lib.hid (B10.out.alloc B10.out.size (.cells #[.int .i64 Y2.item.by_, .int .i64 Y2.item.n, .int .i64 Y2.stamp.v.by_, .int .i64 Y2.stamp.v.n, .int .i64 Y2.stamp.time, .string (mk Y2.path), .int .i64 Y2.size, .bool Y2.dead] 29))
        go_wp2_with fail
        refine (AW.out _).mono ?_
        rintro e w11 ⟨rfl, b11⟩
        have R11 := Lib.hid (R10.out.below b11 R10.out.inHeap)
        have B11 := Lib.hid (C10.out.trans (b11.mono C10.out.size))
        clear b11
        go_wp2_with (refine wpList_mload (cs := [.int .i64 Y2.item.by_, .int .i64 Y2.item.n, .int .i64 Y2.stamp.v.by_, .int .i64 Y2.stamp.v.n, .int .i64 Y2.stamp.time, .string (mk Y2.path), .int .i64 Y2.size, .bool Y2.dead]) (by rfl) (.tmp 17) (by rfl) (by rfl) (row_lies (cs := [.int .i64 Y2.item.by_, .int .i64 Y2.item.n, .int .i64 Y2.stamp.v.by_, .int .i64 Y2.stamp.v.n, .int .i64 Y2.stamp.time, .string (mk Y2.path), .int .i64 Y2.size, .bool Y2.dead]) R11.out HfM.out HsM.out) ?_)
        refine (g6 _).mono ?_
        rintro e w12 ⟨rfl, b12⟩
        have R12 := Lib.hid (R11.out.below b12 R11.out.inHeap)
        have B12 := Lib.hid (B11.out.trans (b12.mono B11.out.size))
        clear b12
        go_wp2_with (refine wpList_mload (cs := [.int .i64 Y2.item.by_, .int .i64 Y2.item.n, .int .i64 Y2.stamp.v.by_, .int .i64 Y2.stamp.v.n, .int .i64 Y2.stamp.time, .string (mk Y2.path), .int .i64 Y2.size, .bool Y2.dead]) (by rfl) (.tmp 17) (by rfl) (by rfl) (row_lies (cs := [.int .i64 Y2.item.by_, .int .i64 Y2.item.n, .int .i64 Y2.stamp.v.by_, .int .i64 Y2.stamp.v.n, .int .i64 Y2.stamp.time, .string (mk Y2.path), .int .i64 Y2.size, .bool Y2.dead]) R12.out HfM.out HsM.out) ?_)
        refine (g7 _).mono ?_
        rintro e w13 ⟨rfl, b13⟩
        have B13 := Lib.hid (B12.out.trans (b13.mono B12.out.size))
        clear b13
        go_wp2_with fail
        go_ret
        exact ⟨rfl, HB0.out.trans (B13.out.mono HB0.out.size)⟩
       ·subst g5
        have ZN2 := fun (w : World) => mt_eqIn_self w Y2
        have hzm : ∀ w : World, (zeroValue 29).run Try.prog w = .ok (mtA Y2) w := by rw [g6]; exact mtZero
        dsimp only [mtA] at ZN2 hzm
        clear g6
        have R10 := Lib.hid (Row.made w10 29 #[.int .i64 Y2.item.by_, .int .i64 Y2.item.n, .int .i64 Y2.stamp.v.by_, .int .i64 Y2.stamp.v.n, .int .i64 Y2.stamp.time, .string (mk Y2.path), .int .i64 Y2.size, .bool Y2.dead])
        have C10 := Lib.hid (B10.out.alloc B10.out.size (.cells #[.int .i64 Y2.item.by_, .int .i64 Y2.item.n, .int .i64 Y2.stamp.v.by_, .int .i64 Y2.stamp.v.n, .int .i64 Y2.stamp.time, .string (mk Y2.path), .int .i64 Y2.size, .bool Y2.dead] 29))
        go_wp2_with fail
        refine (AW.out _).mono ?_
        rintro e w11 ⟨rfl, b11⟩
        have R11 := Lib.hid (R10.out.below b11 R10.out.inHeap)
        have B11 := Lib.hid (C10.out.trans (b11.mono C10.out.size))
        clear b11
        go_wp2_with (refine wpList_mloadD 150 (by with_reducible rfl) (by rfl) (.tmp 17) (by rfl) (by rfl) (row_lies (cs := [.int .i64 Y2.item.by_, .int .i64 Y2.item.n, .int .i64 Y2.stamp.v.by_, .int .i64 Y2.stamp.v.n, .int .i64 Y2.stamp.time, .string (mk Y2.path), .int .i64 Y2.size, .bool Y2.dead]) R11.out HfM.out HsM.out) ?_)
        go_ret
        exact ⟨rfl, HB0.out.trans (B11.out.mono HB0.out.size)⟩
      ·subst f4
       have ZN := fun (w : World) => up_eqS w X2
       have hzu : ∀ w : World, (zeroValue 27).run Try.prog w = .ok (upA X2) w := by rw [f5]; exact pupZero
       dsimp only [upA] at ZN hzu
       clear f5
       have R7 := Lib.hid (Row.made w7 27 #[.int .i64 X2.item.by_, .int .i64 X2.item.n, .int .i64 X2.stamp.v.by_, .int .i64 X2.stamp.v.n, .int .i64 X2.stamp.time, .string (mk X2.path), .string (mk X2.data), .bool X2.dead])
       have C7 := Lib.hid (B7.out.alloc B7.out.size (.cells #[.int .i64 X2.item.by_, .int .i64 X2.item.n, .int .i64 X2.stamp.v.by_, .int .i64 X2.stamp.v.n, .int .i64 X2.stamp.time, .string (mk X2.path), .string (mk X2.data), .bool X2.dead] 27))
       go_wp2_with fail
       clear hzu ZN
       refine (HS.out _).mono ?_
       rintro e w10 ⟨rfl, b10⟩
       have B10 := Lib.hid (C7.out.trans (b10.mono C7.out.size))
       clear b10
       rcases hYs with ⟨g5, g6, g7⟩ | ⟨g5, g6⟩
       ·subst g5
        have R10 := Lib.hid (Row.made w10 29 #[.int .i64 Y2.item.by_, .int .i64 Y2.item.n, .int .i64 Y2.stamp.v.by_, .int .i64 Y2.stamp.v.n, .int .i64 Y2.stamp.time, .string (mk Y2.path), .int .i64 Y2.size, .bool Y2.dead])
        have C10 := Lib.hid (B10.out.alloc B10.out.size (.cells #[.int .i64 Y2.item.by_, .int .i64 Y2.item.n, .int .i64 Y2.stamp.v.by_, .int .i64 Y2.stamp.v.n, .int .i64 Y2.stamp.time, .string (mk Y2.path), .int .i64 Y2.size, .bool Y2.dead] 29))
        go_wp2_with fail
        refine (AW.out _).mono ?_
        rintro e w11 ⟨rfl, b11⟩
        have R11 := Lib.hid (R10.out.below b11 R10.out.inHeap)
        have B11 := Lib.hid (C10.out.trans (b11.mono C10.out.size))
        clear b11
        go_wp2_with (refine wpList_mload (cs := [.int .i64 Y2.item.by_, .int .i64 Y2.item.n, .int .i64 Y2.stamp.v.by_, .int .i64 Y2.stamp.v.n, .int .i64 Y2.stamp.time, .string (mk Y2.path), .int .i64 Y2.size, .bool Y2.dead]) (by rfl) (.tmp 17) (by rfl) (by rfl) (row_lies (cs := [.int .i64 Y2.item.by_, .int .i64 Y2.item.n, .int .i64 Y2.stamp.v.by_, .int .i64 Y2.stamp.v.n, .int .i64 Y2.stamp.time, .string (mk Y2.path), .int .i64 Y2.size, .bool Y2.dead]) R11.out HfM.out HsM.out) ?_)
        refine (g6 _).mono ?_
        rintro e w12 ⟨rfl, b12⟩
        have R12 := Lib.hid (R11.out.below b12 R11.out.inHeap)
        have B12 := Lib.hid (B11.out.trans (b12.mono B11.out.size))
        clear b12
        go_wp2_with (refine wpList_mload (cs := [.int .i64 Y2.item.by_, .int .i64 Y2.item.n, .int .i64 Y2.stamp.v.by_, .int .i64 Y2.stamp.v.n, .int .i64 Y2.stamp.time, .string (mk Y2.path), .int .i64 Y2.size, .bool Y2.dead]) (by rfl) (.tmp 17) (by rfl) (by rfl) (row_lies (cs := [.int .i64 Y2.item.by_, .int .i64 Y2.item.n, .int .i64 Y2.stamp.v.by_, .int .i64 Y2.stamp.v.n, .int .i64 Y2.stamp.time, .string (mk Y2.path), .int .i64 Y2.size, .bool Y2.dead]) R12.out HfM.out HsM.out) ?_)
        refine (g7 _).mono ?_
        rintro e w13 ⟨rfl, b13⟩
        have B13 := Lib.hid (B12.out.trans (b13.mono B12.out.size))
        clear b13
        go_wp2_with fail
        go_ret
        exact ⟨rfl, HB0.out.trans (B13.out.mono HB0.out.size)⟩
       ·subst g5
        have ZN2 := fun (w : World) => mt_eqIn_self w Y2
        have hzm : ∀ w : World, (zeroValue 29).run Try.prog w = .ok (mtA Y2) w := by rw [g6]; exact mtZero
        dsimp only [mtA] at ZN2 hzm
        clear g6
        have R10 := Lib.hid (Row.made w10 29 #[.int .i64 Y2.item.by_, .int .i64 Y2.item.n, .int .i64 Y2.stamp.v.by_, .int .i64 Y2.stamp.v.n, .int .i64 Y2.stamp.time, .string (mk Y2.path), .int .i64 Y2.size, .bool Y2.dead])
        have C10 := Lib.hid (B10.out.alloc B10.out.size (.cells #[.int .i64 Y2.item.by_, .int .i64 Y2.item.n, .int .i64 Y2.stamp.v.by_, .int .i64 Y2.stamp.v.n, .int .i64 Y2.stamp.time, .string (mk Y2.path), .int .i64 Y2.size, .bool Y2.dead] 29))
        go_wp2_with fail
        refine (AW.out _).mono ?_
        rintro e w11 ⟨rfl, b11⟩
        have R11 := Lib.hid (R10.out.below b11 R10.out.inHeap)
        have B11 := Lib.hid (C10.out.trans (b11.mono C10.out.size))
        clear b11
        go_wp2_with (refine wpList_mloadD 150 (by with_reducible rfl) (by rfl) (.tmp 17) (by rfl) (by rfl) (row_lies (cs := [.int .i64 Y2.item.by_, .int .i64 Y2.item.n, .int .i64 Y2.stamp.v.by_, .int .i64 Y2.stamp.v.n, .int .i64 Y2.stamp.time, .string (mk Y2.path), .int .i64 Y2.size, .bool Y2.dead]) R11.out HfM.out HsM.out) ?_)
        go_ret
        exact ⟨rfl, HB0.out.trans (B11.out.mono HB0.out.size)⟩
   ·have hx2 : (1000 : Int) < ((mk s).size : Int) := by omega
    clear hsl hml ls
    have LG := Lib.hid LG0
    clear LG0 hu hm hs
    dsimp only [upA, mtA] at *
    go_enter Try.func3, Try.ntmps3
    go_wp2_with fail
    rw [← hW0]
    clear hW0
    refine (LG.out _).mono ?_
    rintro e w1 ⟨rfl, b1⟩
    have B1 := Lib.hid (B0.out.trans (b1.mono B0.out.size))
    have c5 := (XM.out _ B1.out).at 5
    clear b1
    go_wp2_with fail
    refine (AW.out _).mono ?_
    rintro e w2 ⟨rfl, b2⟩
    have B2 := Lib.hid (B1.out.trans (b2.mono B1.out.size))
    clear b2
    go_wp2_with fail
    go_ret
    exact ⟨rfl, HB0.out.trans (B2.out.mono HB0.out.size)⟩
  ·have hx1 : (200 : Int) < ((mk m.path).size : Int) := by omega
   clear hsl hml lm
   have LG := Lib.hid LG0
   clear LG0 hu hm hs
   dsimp only [upA, mtA] at *
   go_enter Try.func3, Try.ntmps3
   go_wp2_with fail
   rw [← hW0]
   clear hW0
   refine (LG.out _).mono ?_
   rintro e w1 ⟨rfl, b1⟩
   have B1 := Lib.hid (B0.out.trans (b1.mono B0.out.size))
   have c5 := (XM.out _ B1.out).at 5
   clear b1
   go_wp2_with fail
   refine (AW.out _).mono ?_
   rintro e w2 ⟨rfl, b2⟩
   have B2 := Lib.hid (B1.out.trans (b2.mono B1.out.size))
   clear b2
   go_wp2_with fail
   go_ret
   exact ⟨rfl, HB0.out.trans (B2.out.mono HB0.out.size)⟩
 ·rw [decide_eq_false lu] at LG0
  clear hsl hml lu
  have LG := Lib.hid LG0
  clear LG0 hu hm hs
  dsimp only [upA, mtA] at *
  go_enter Try.func3, Try.ntmps3
  go_wp2_with fail
  rw [← hW0]
  clear hW0
  refine (LG.out _).mono ?_
  rintro e w1 ⟨rfl, b1⟩
  have B1 := Lib.hid (B0.out.trans (b1.mono B0.out.size))
  have c5 := (XM.out _ B1.out).at 5
  clear b1
  go_wp2_with fail
  refine (AW.out _).mono ?_
  rintro e w2 ⟨rfl, b2⟩
  have B2 := Lib.hid (B1.out.trans (b2.mono B1.out.size))
  clear b2
  go_wp2_with fail
  go_ret
  exact ⟨rfl, HB0.out.trans (B2.out.mono HB0.out.size)⟩
end Go.Proofs.Ytkacfmaogiblfaa
