import Derived.Test.YtpafpegcodempaaCom10
import Derived.Test.YtpafpegcodempaaCom11
import Derived.Test.YtpafpegcodempaaCom12
import Derived.Test.YtpafpegcodempaaCom9
set_option maxRecDepth 100000
set_option linter.all false
set_option maxHeartbeats 12800000
namespace Go.Proofs.Ytpafpegcodempaa
open Go.RowKit Go.Sort
theorem wpList_vstoreS {ops : Array Oper} {rest : List Oper} {op : Oper} {a : Act} {w : World} {b : Nat} {v : List Int} {Q : Exit → Act → World → Prop} (x y : Operand) (ho : op.op = .store 23 x y) (hw : Region.wanted op (yielded ops a.tmps) = true) {u : List Int} (hx : a.eval x = .pointer (some ⟨b, 0, none⟩)) (hy : a.eval y = vecA u) (h : VRow w b v) (hu : u.length = 65)
  (k : wpList Try.prog ops Q rest (a.put op.dst undef) (w.setRow b (vecR u))) : wpList Try.prog ops Q (op :: rest) a w := wpList_vstore hw x y ho hx hy h hu k
theorem pack_str_same (S : ByteArray) : (S.toList == S.toList) = true ∧ (S.toList != S.toList) = false := ⟨by simp, by simp⟩
theorem pck_nn_bd {v : Ver.V} (h : Pck.NnV v) : Ver.Bd v := ⟨⟨by have := h.1.1; omega, h.1.2⟩, ⟨by have := h.2.1; omega, h.2.2⟩⟩
theorem pack_vec_facts (V : VecOk) (v : List Int) (hv : v.length = 65) (hb : ∀ n ∈ v, n ≤ 9223372036854775807) : ∃ (A : ByteArray) (ea : Int) (may : Bool) (S1 : ByteArray) (X1 : List Int) (g1 : Int), ((may = true ∧ A = S1 ∧ ea = 0) ∨ (may = false ∧ A = ⟨#[]⟩ ∧ ea = 2)) ∧ (may = decide (Vec.Plain v) ∧ A = mk (Pck.putVec v).1 ∧ ea = (Pck.putVec v).2 ∧ S1 = mk (Pck.vec v)) ∧ (∀ W : World, Calls Try.prog 12 #[.string A] W fun e w' => e = .returned (.tuple #[vecA X1, .int .i64 g1]) ∧ Below W.heap.size W w') ∧ (may = true → X1 = v ∧ g1 = 0) ∧ X1.length = 65 := by
 by_cases hok : Pck.OkVec v
 ·have hle := Pck.vec_le v
  have hp : Pck.putVec v = (Pck.vec v, 0) := Pck.put_good hok (by omega)
  have hg : Pck.getVec (Pck.vec v) = (v, 0) := Pck.get_back hok (Pck.takes_vec (Pck.okVec_plain.1 hok) hb) (by omega)
  refine ⟨mk (Pck.vec v), 0, true, mk (Pck.vec v), v, 0, Or.inl ⟨rfl, rfl, rfl⟩, ⟨(decide_eq_true (Pck.okVec_plain.1 hok)).symm, by rw [hp], by rw [hp], rfl⟩, fun W => ?_, fun _ => ⟨rfl, rfl⟩, hv⟩
  have := pck_GetVec V (Pck.vec v) (by omega) W
  rwa [hg] at this
 ·have hp : Pck.putVec v = ([], 2) := Pck.put_bad hok
  refine ⟨⟨#[]⟩, 2, false, mk (Pck.vec v), (Pck.getVec []).1, (Pck.getVec []).2, Or.inr ⟨rfl, rfl, rfl⟩, ⟨(decide_eq_false (fun h => hok (Pck.okVec_plain.2 h))).symm, by rw [hp]; rfl, by rw [hp], rfl⟩, fun W => pck_GetVec V [] (by simp) W, fun h => (by cases h), pck_getVec_len []⟩
theorem pack_items_facts (V : VersOk) (S : IsetOk) (l : List Ver.V) (hl : l.length ≤ 100) (hb : ∀ x ∈ l, Ver.Bd x) : ∃ (A : ByteArray) (ea : Int) (may : Bool) (S1 : ByteArray) (X1 : List Ver.V) (g1 : Int), ((may = true ∧ A = S1 ∧ ea = 0) ∨ (may = false ∧ A = ⟨#[]⟩ ∧ ea = 2)) ∧ (may = decide (Pck.OkItems l) ∧ A = mk (Pck.putItems l).1 ∧ ea = (Pck.putItems l).2 ∧ S1 = mk (Pck.lst Pck.verR l)) ∧ (∀ W : World, Calls Try.prog 13 #[.string A] W fun e w' => (∃ v, e = .returned (.tuple #[v, .int .i64 g1]) ∧ Vrs w' (NewIn W w') v X1) ∧ Below W.heap.size W w') ∧ (may = true → X1 = l ∧ g1 = 0) ∧ X1.length ≤ 65536 := by
 have hlen : ∀ s, (Pck.getItems s).1.length ≤ 65536 := fun s => by
  rcases Pck.get_ways2 (rd := Pck.rdVers) (ok := Pck.OkItems) (f := Pck.vers) (zero := []) s with ⟨h1, h2, h3, h4⟩ | h1
  ·rw [show Pck.getItems s = _ from h1]; have := Pck.rdVers_len s 0; simp only; omega
  ·rw [show Pck.getItems s = _ from h1]; simp
 by_cases hok : Pck.OkItems l
 ·have hle := Pck.vers_le l
  have hnn : ∀ x ∈ l, Pck.NnV x := fun x hx => pck_nn (hok.1 x hx) (hb x hx)
  have hp : Pck.putItems l = (Pck.vers l, 0) := Pck.put_good hok (by omega)
  have hg : Pck.getItems (Pck.vers l) = (l, 0) := Pck.get_back hok (Pck.takes_vers hnn (by omega)) (by omega)
  refine ⟨mk (Pck.vers l), 0, true, mk (Pck.lst Pck.verR l), l, 0, Or.inl ⟨rfl, by rw [show Pck.lst Pck.verR l = Pck.vers l from Pck.versR_is hnn], rfl⟩, ⟨(decide_eq_true hok).symm, by rw [hp], by rw [hp], rfl⟩, fun W => ?_, fun _ => ⟨rfl, rfl⟩, by omega⟩
  have := pck_GetItems V S (Pck.vers l) (by omega) W
  rwa [hg] at this
 ·have hp : Pck.putItems l = ([], 2) := Pck.put_bad hok
  refine ⟨⟨#[]⟩, 2, false, mk (Pck.lst Pck.verR l), (Pck.getItems []).1, (Pck.getItems []).2, Or.inr ⟨rfl, rfl, rfl⟩, ⟨(decide_eq_false hok).symm, by rw [hp]; rfl, by rw [hp], rfl⟩, fun W => pck_GetItems V S [] (by simp) W, fun h => (by cases h), hlen []⟩
theorem pack_vec_any (V : VecOk) (s : List UInt8) (hs : s.length ≤ 140737488355328) : ∃ (X2 : List Int) (g3 : Int), Pck.getVec s = (X2, g3) ∧ X2.length = 65 ∧ ((g3 = 0 ∧ (∀ W : World, Calls Try.prog 8 #[vecA X2] W fun e w' => e = .returned (.bool true) ∧ Below W.heap.size W w') ∧ ∀ (W : World) (F : Nat → Prop) (u : Value), Vrs W F u (Vec.ends X2) → Calls Try.prog 9 #[u] W fun e w' => e = .returned (.string (mk s)) ∧ Below W.heap.size W w') ∨ (g3 = 6 ∧ X2 = Vec.zeros)) := by
 rcases Pck.get_ways2 (rd := Pck.rdVec) (ok := Pck.OkVec) (f := Pck.vec) (zero := List.replicate 65 0) s with ⟨h1, h2, h3, h4⟩ | h1
 ·have hpl := Pck.rdVec_plain s 0
  have hnn := Pck.ends_nn (pck_vec_le s)
  refine ⟨_, _, h1, hpl.1, Or.inl ⟨rfl, fun W => ?_, fun W F u h => ?_⟩⟩
  ·have := ref_vplain W hpl.1
   rwa [decide_eq_true hpl] at this
  ·have := ref_pvers h (by have := Pck.ends_le (Pck.rdVec s 0).1; omega) (fun x hx => pck_nn_bd (hnn x hx))
   rwa [show Pck.lst Pck.verR (Vec.ends (Pck.rdVec s 0).1) = s from (Pck.versR_is hnn).trans h3] at this
 ·exact ⟨_, _, h1, Vec.zeros_len, Or.inr ⟨rfl, rfl⟩⟩
theorem pack_items_any (s : List UInt8) (hs : s.length ≤ 140737488355328) : ∃ (X2 : List Ver.V) (g3 : Int), Pck.getItems s = (X2, g3) ∧ ((g3 = 0 ∧ X2.length ≤ 65536 ∧ (∀ (W : World) (F : Nat → Prop) (v : Value), Vrs W F v X2 → Calls Try.prog 11 #[v] W fun e w' => e = .returned (.bool true) ∧ Below W.heap.size W w') ∧ ∀ (W : World) (F : Nat → Prop) (v : Value), Vrs W F v X2 → Calls Try.prog 9 #[v] W fun e w' => e = .returned (.string (mk s)) ∧ Below W.heap.size W w') ∨ (g3 = 6 ∧ X2 = [])) := by
 rcases Pck.get_ways2 (rd := Pck.rdVers) (ok := Pck.OkItems) (f := Pck.vers) (zero := []) s with ⟨h1, h2, h3, h4⟩ | h1
 ·have hl := Pck.rdVers_len s 0
  have hnn := Pck.rdVers_nn s 0
  refine ⟨_, _, h1, Or.inl ⟨rfl, by omega, fun W F v h => ?_, fun W F v h => ?_⟩⟩
  ·have := ref_pitems h (by omega)
   rwa [decide_eq_true h2] at this
  ·have := ref_pvers h (by omega) (fun x hx => pck_nn_bd (hnn x hx))
   rwa [show Pck.lst Pck.verR (Pck.rdVers s 0).1 = s from (Pck.versR_is hnn).trans h3] at this
 ·exact ⟨_, _, h1, Or.inr ⟨rfl, rfl⟩⟩
theorem pack_vecs_walk (V : VecOk) (VS : VersOk) (SS : IsetOk) {w : World} {F : Nat → Prop} {v : List Int} {u : Value} {l : List Ver.V} (s : List UInt8) (hv : v.length = 65) (hvb : ∀ n ∈ v, n ≤ 9223372036854775807) (hl : Vrs w F u l) (ll : l.length ≤ 9223372036854775807) (hlb : ∀ x ∈ l, Ver.Bd x) (hs : s.length ≤ 9223372036854775807) :
  Calls Try.prog 3 #[vecA v, u, .string (mk s)] w fun e w' => e = .returned (.bool true) ∧ Below w.heap.size w w' := by
 have hz := vecZero
 have AW := Lib.hid (fun W => pck_awake V W)
 obtain ⟨A, cap, rfl, hcap⟩ := hl.parts
 have H := Lib.hid hl
 have ll' : (l.length : Int) ≤ 9223372036854775807 := by omega
 have LS := mk_len s
 have hB0 : Below w.heap.size w (w.alloc (.cells (vecR v) 23)) := (Below.refl _ _).alloc (Nat.le_refl _) _
 have B0 := Lib.hid hB0
 have R0 := Lib.hid (VRow.made w hv)
 by_cases l1 : l.length ≤ 100
 ·have hx1 : ¬ (100 : Int) < (l.length : Int) := by omega
  by_cases l2 : s.length ≤ 2000
  ·have hx2 : ¬ (2000 : Int) < ((mk s).size : Int) := by omega
   have PV := Lib.hid (fun W => pck_PutVec V hv hvb W)
   have PI := Lib.hid (fun (W : World) (hW : Below w.heap.size w W) => pck_PutItems VS SS (Rws.below H.out hW) (by omega) hlb)
   have RP := Lib.hid (fun W => ref_vplain W hv)
   have RE := Lib.hid (fun W => ref_vends W hv)
   have RI := Lib.hid (fun (W : World) (hW : Below w.heap.size w W) => ref_pitems (Rws.below H.out hW) (by omega))
   have WL := Lib.hid (fun (W : World) (hW : Below w.heap.size w W) => ref_pvers (Rws.below H.out hW) (by omega) hlb)
   have WE := Lib.hid (fun (W : World) (G : Nat → Prop) (x : Value) (hx : Vrs W G x (Vec.ends v)) => ref_pvers hx (by have := Pck.ends_le v; omega) (fun x hx => pck_nn_bd (Pck.ends_nn hvb x hx)))
   rw [show Pck.lst Pck.verR (Vec.ends v) = Pck.vec v from Pck.versR_is (Pck.ends_nn hvb)] at WE
   have GS := Lib.hid (fun W => pck_GetVec V s (by omega) W)
   have HS := Lib.hid (fun W => pck_GetItems VS SS s (by omega) W)
   obtain ⟨A1, ea, may, S1, X1, g1, hA, hput, hget, hXu, hXl⟩ := pack_vec_facts V v hv hvb
   obtain ⟨p1, p2, p3, p4⟩ := hput
   obtain ⟨A2, eb, may2, S2, Y1, g2, hA2, hput2, hget2, hYu, hYl⟩ := pack_items_facts VS SS l l1 hlb
   obtain ⟨q1, q2, q3, q4⟩ := hput2
   rw [← p2, ← p3] at PV
   rw [← p1] at RP
   rw [← p4] at WE
   rw [← q2, ← q3] at PI
   rw [← q1] at RI
   rw [← q4] at WL
   have AN1 := Lib.hid (fun W => pck_answer A1 S1 ea may hA W)
   have AN2 := Lib.hid (fun W => pck_answer A2 S2 eb may2 hA2 W)
   have GU := Lib.hid hget
   have GM := Lib.hid hget2
   have EQ := Lib.hid (fun (W : World) (hW : Below w.heap.size w W) (G : Nat → Prop) (x : Value) (hx : Vrs W G x Y1) => ref_vsame hx (Rws.below H.out hW) (by omega) (by omega))
   obtain ⟨X2, g3, hX2, hX2l, hXs0⟩ := pack_vec_any V s (by omega)
   obtain ⟨Y2, g4, hY2, hXs⟩ := pack_items_any s (by omega)
   rw [hX2] at GS
   rw [hY2] at HS
   dsimp only at GS HS
   have FU0 : Hid (ea = 0 ∧ v = X1 ∧ g1 = 0 ∨ ea = 2) := Lib.hid (by rcases hA with ⟨h1, -, h3⟩ | ⟨-, -, h3⟩; exact Or.inl ⟨h3, (hXu h1).1.symm, (hXu h1).2⟩; exact Or.inr h3)
   have FM0 : Hid (eb = 0 ∧ l = Y1 ∧ g2 = 0 ∨ eb = 2) := Lib.hid (by rcases hA2 with ⟨h1, -, h3⟩ | ⟨-, -, h3⟩; exact Or.inl ⟨h3, (hYu h1).1.symm, (hYu h1).2⟩; exact Or.inr h3)
   have HVV := Lib.hid hv
   have HX1 := Lib.hid hXl
   have HX2 := Lib.hid hX2l
   generalize mk s = S at *
   have hS := pack_str_same S
   have hEv := fun W => vec_eq hv hv W
   rw [decide_eq_true rfl] at hEv
   have hEz := fun W => vec_eq Vec.zeros_len Vec.zeros_len W
   rw [decide_eq_true rfl] at hEz
   have RX := Lib.hid (fun W => ref_vends W hX2l)
   clear hA hA2 p1 p2 p3 p4 q1 q2 q3 q4 hget hget2 hXu hYu hX2 hY2 l1 l2 hl hv hvb hlb hs LS ll hB0 hXl hYl hX2l
   go_enter Try.func3, Try.ntmps3
   go_wp2_with (refine wpList_vloadD 29 (by with_reducible rfl) (by rfl) (.tmp 3) (by rfl) (by rfl) R0.out ?_)
   refine (PV.out _).mono ?_
   rintro e w1 ⟨rfl, b1⟩
   have B1 := Lib.hid (B0.out.trans (b1.mono B0.out.size))
   have R1 := Lib.hid (R0.out.below b1 R0.out.inHeap)
   clear b1
   go_wp2_with fail
   refine (PI.out _ B1.out).mono ?_
   rintro e w2 ⟨rfl, b2⟩
   have B2 := Lib.hid (B1.out.trans (b2.mono B1.out.size))
   have R2 := Lib.hid (R1.out.below b2 R1.out.inHeap)
   clear b2
   go_wp2_with fail
   refine wp_region_held_drew (S := (fun w' : World => InB w2 w')) (by kernel_rfl) ((InB.refl w2).drew) (fun hHeld => ?_)
   refine wpAnyH_td (i := 0) rfl ?_
   simp only [zz]
   refine wpAnyH_td (i := 1) rfl ?_
   simp only [zz]
   refine wpAnyH_tk (i := 2) (v := vecA v) rfl (Or.inl ⟨by rfl, (by intro w hSw; exact exec_vload (by rfl) (by rfl) (R2.out.inB hSw))⟩) (by assumption) ?_
   simp only [zz]
   refine wpAnyH_tk (i := 4) (v := vecA v) rfl (Or.inl ⟨by rfl, (by intro w hSw; exact exec_vload (by rfl) (by rfl) (R2.out.inB hSw))⟩) (by assumption) ?_
   simp only [zz]
   refine wpAnyH_ready (rs := [3]) (by kernel_rfl) (by simp) ?_
   refine AllReadyH.cons rfl (fun K hK => ?_) AllReadyH.nil
   go_simp
   go_at_call 8
   refine (RP.out _).mono ?_
   rintro e w31 ⟨rfl, h8⟩
   have hL := InB.trans hHeld h8
   refine hK.out _ _ hL (fun hHeld => ?_)
   clear h8 hL
   clear hK K
   refine wpAnyH_ready (rs := [5]) (by kernel_rfl) (by simp) ?_
   refine AllReadyH.cons rfl (fun K hK => ?_) AllReadyH.nil
   go_simp
   go_at_call 10
   refine (RE.out _).mono ?_
   rintro e w32 ⟨s5, rfl, h8⟩
   have hL := InB.trans hHeld h8.2
   have E5 := Lib.hid (h8.rows (fun _ _ => rfl))
   refine hK.out _ _ hL (fun hHeld => ?_)
   clear h8 hL
   clear hK K
   refine wpAnyH_ready (rs := [6]) (by kernel_rfl) (by simp) ?_
   refine AllReadyH.cons rfl (fun K hK => ?_) AllReadyH.nil
   go_simp
   go_at_call 9
   refine (WE.out _ _ _ E5.out).mono ?_
   rintro e w33 ⟨rfl, h8⟩
   have hL := InB.trans hHeld h8
   refine hK.out _ _ hL (fun hHeld => ?_)
   clear h8 hL
   clear hK K
   refine wpAnyH_ready (rs := [7]) (by kernel_rfl) (by simp) ?_
   refine AllReadyH.cons rfl (fun K hK => ?_) AllReadyH.nil
   go_simp
   go_at_call 7
   refine (AN1.out _).mono ?_
   rintro e w34 ⟨rfl, h8⟩
   have hL := InB.trans hHeld h8
   refine hK.out _ _ hL (fun hHeld => ?_)
   clear h8 hL
   clear hK K
   refine wpAnyH_td (i := 8) rfl ?_
   simp only [zz]
   refine wpAnyH_td (i := 9) rfl ?_
   simp only [zz]
   refine wpAnyH_td (i := 10) rfl ?_
   simp only [zz]
   refine wpAnyH_td (i := 11) rfl ?_
   simp only [zz]
   refine wpAnyH_td (i := 12) rfl ?_
   simp only [zz]
   refine wpAnyH_td (i := 14) rfl ?_
   simp only [zz]
   refine wpAnyH_ready (rs := [13]) (by kernel_rfl) (by simp) ?_
   refine AllReadyH.cons rfl (fun K hK => ?_) AllReadyH.nil
   go_simp
   go_at_call 11
   refine (RI.out _ (B2.out.trans (hHeld.below.mono B2.out.size))).mono ?_
   rintro e w35 ⟨rfl, h8⟩
   have hL := InB.trans hHeld h8
   refine hK.out _ _ hL (fun hHeld => ?_)
   clear h8 hL
   clear hK K
   refine wpAnyH_ready (rs := [15]) (by kernel_rfl) (by simp) ?_
   refine AllReadyH.cons rfl (fun K hK => ?_) AllReadyH.nil
   go_simp
   go_at_call 9
   refine (WL.out _ (B2.out.trans (hHeld.below.mono B2.out.size))).mono ?_
   rintro e w36 ⟨rfl, h8⟩
   have hL := InB.trans hHeld h8
   refine hK.out _ _ hL (fun hHeld => ?_)
   clear h8 hL
   clear hK K
   refine wpAnyH_ready (rs := [16]) (by kernel_rfl) (by simp) ?_
   refine AllReadyH.cons rfl (fun K hK => ?_) AllReadyH.nil
   go_simp
   go_at_call 7
   refine (AN2.out _).mono ?_
   rintro e w37 ⟨rfl, h8⟩
   have hL := InB.trans hHeld h8
   refine hK.out _ _ hL (fun hHeld => ?_)
   clear h8 hL
   clear hK K
   refine wpAnyH_td (i := 17) rfl ?_
   simp only [zz]
   refine wpAnyH_td (i := 18) rfl ?_
   simp only [zz]
   refine wpAnyH_done (by kernel_rfl) ?_ _
   have B3 := Lib.hid (B2.out.trans (hHeld.below.mono B2.out.size))
   have R3 := Lib.hid (R2.out.below hHeld.below R2.out.inHeap)
   clear hHeld
   go_wp2_with fail
   refine (GU.out _).mono ?_
   rintro e w4 ⟨rfl, b4⟩
   have B4 := Lib.hid (B3.out.trans (b4.mono B3.out.size))
   have R4 := Lib.hid (R3.out.below b4 R3.out.inHeap)
   have hlt : w.heap.size < w4.heap.size := R4.out.inHeap
   have Z4 := Lib.hid (VRow.made w4 Vec.zeros_len)
   have X4 := Lib.hid (Z4.out.set X1 HX1.out)
   have V4 := Lib.hid ((R4.out.alloc (.cells (vecR Vec.zeros) 23)).setElsewhere (c := w4.heap.size) (by omega) (vecR X1))
   have B5 : Hid (Below w.heap.size w ((w4.alloc (.cells (vecR Vec.zeros) 23)).setRow w4.heap.size (vecR X1))) := Lib.hid (below_kept (B4.out.alloc B4.out.size _) (Kept.setRowK _ _ _) (fun i e => by omega))
   clear b4 hlt
   rcases FU0.out with ⟨f1, f2, f3⟩ | f1
   ·subst f1 f2 f3
    go_wp2_with (first | refine wpList_vstoreS (.tmp 11) (.tmp 60) (by with_reducible rfl) (by rfl) (by rfl) (by rfl) Z4.out HX1.out ?_ | refine wpList_vloadD 65 (by with_reducible rfl) (by rfl) (.tmp 11) (by rfl) (by rfl) X4.out ?_ | refine wpList_vloadD 66 (by with_reducible rfl) (by rfl) (.tmp 3) (by rfl) (by rfl) V4.out ?_)
    refine (GM.out _).mono ?_
    rintro e w5 ⟨⟨u5, rfl, h5⟩, b5⟩
    have B6 := Lib.hid (B5.out.trans (b5.mono B5.out.size))
    have U5 := Lib.hid h5
    clear b5 h5
    rcases FM0.out with ⟨f1, f2, f3⟩ | f1
    ·have EQ5 := EQ.out _ B6.out _ _ U5.out
     rw [decide_eq_true f2.symm] at EQ5
     replace EQ5 := Lib.hid EQ5
     subst f1 f3
     clear f2
     obtain ⟨A5, c5, e5, -⟩ := U5.out.parts
     subst e5
     go_wp2_with fail
     refine EQ5.out.mono ?_
     rintro e w6 ⟨rfl, b6⟩
     have B7 := Lib.hid (B6.out.trans (b6.mono B6.out.size))
     clear b6
     go_wp2_with fail
     refine (GS.out _).mono ?_
     rintro e w11 ⟨rfl, b11⟩
     have B11 := Lib.hid (B7.out.trans (b11.mono B7.out.size))
     have Z11 := Lib.hid (VRow.made w11 Vec.zeros_len)
     have X11 := Lib.hid (Z11.out.set X2 HX2.out)
     have B12 : Hid (Below w.heap.size w ((w11.alloc (.cells (vecR Vec.zeros) 23)).setRow w11.heap.size (vecR X2))) := Lib.hid (below_kept (B11.out.alloc B11.out.size _) (Kept.setRowK _ _ _) (fun i e => by have := B11.out.size; omega))
     clear b11
     rcases hXs0 with ⟨k1, k2, k3⟩ | ⟨k1, k2⟩
     ·subst k1
      go_wp2_with (first | refine wpList_vstoreS (.tmp 15) (.tmp 93) (by with_reducible rfl) (by rfl) (by rfl) (by rfl) Z11.out HX2.out ?_ | refine wpList_vloadD 98 (by with_reducible rfl) (by rfl) (.tmp 15) (by rfl) (by rfl) X11.out ?_)
      refine (k2 _).mono ?_
      rintro e w12 ⟨rfl, b12⟩
      have X12 := Lib.hid (X11.out.below b12 X11.out.inHeap)
      have B13 := Lib.hid (B12.out.trans (b12.mono B12.out.size))
      clear b12
      go_wp2_with (refine wpList_vloadD 102 (by with_reducible rfl) (by rfl) (.tmp 15) (by rfl) (by rfl) X12.out ?_)
      refine (RX.out _).mono ?_
      rintro e w13 ⟨s13, rfl, h13⟩
      have B14 := Lib.hid (B13.out.trans (h13.2.mono B13.out.size))
      have U13 := Lib.hid (h13.rows (fun _ _ => rfl))
      clear h13
      go_wp2_with fail
      refine (k3 _ _ _ U13.out).mono ?_
      rintro e w14 ⟨rfl, b14⟩
      have B15 := Lib.hid (B14.out.trans (b14.mono B14.out.size))
      clear b14
      go_wp2_with fail
      refine (HS.out _).mono ?_
      rintro e w7 ⟨⟨v7, rfl, h7⟩, b7⟩
      have B7 := Lib.hid (B15.out.trans (b7.mono B15.out.size))
      have U7 := Lib.hid h7
      clear b7 h7
      go_wp2_with fail
      refine (AW.out _).mono ?_
      rintro e w8 ⟨rfl, b8⟩
      have B8 := Lib.hid (B7.out.trans (b8.mono B7.out.size))
      have U8 := Lib.hid (Rws.below U7.out b8)
      clear b8
      rcases hXs with ⟨g5, g8, g6, g7⟩ | ⟨g5, g6⟩
      ·subst g5
       obtain ⟨A8, c8, e8, -⟩ := U8.out.parts
       subst e8
       go_wp2_with fail
       refine (g6 _ _ _ U8.out).mono ?_
       rintro e w9 ⟨rfl, b9⟩
       have B9 := Lib.hid (B8.out.trans (b9.mono B8.out.size))
       have U9 := Lib.hid (Rws.below U8.out b9)
       clear b9
       go_wp2_with fail
       refine (g7 _ _ _ U9.out).mono ?_
       rintro e w10 ⟨rfl, b10⟩
       have B10 := Lib.hid (B9.out.trans (b10.mono B9.out.size))
       clear b10
       go_wp2_with fail
       go_ret
       exact ⟨rfl, B10.out⟩
      ·subst g5 g6
       obtain ⟨A8, c8, e8, -⟩ := U8.out.parts
       subst e8
       go_wp2_with fail
       go_ret
       exact ⟨rfl, B8.out⟩
     ·subst k1
      have hEz2 := fun W => vec_eq HX2.out Vec.zeros_len W
      rw [decide_eq_true k2] at hEz2
      clear k2 hEz hEv
      go_wp2_with (first | ((with_reducible refine wpList_vstoreS (.tmp 15) (.tmp 93) ?_ ?_ ?_ ?_ Z11.out HX2.out ?_); (with_reducible rfl); rfl; rfl; rfl) | ((with_reducible refine wpList_vloadD 116 ?_ ?_ (.tmp 15) ?_ ?_ X11.out ?_); (with_reducible rfl); rfl; rfl; rfl))
      refine (HS.out _).mono ?_
      rintro e w7 ⟨⟨v7, rfl, h7⟩, b7⟩
      have B7 := Lib.hid (B12.out.trans (b7.mono B12.out.size))
      have U7 := Lib.hid h7
      clear b7 h7
      go_wp2_with fail
      refine (AW.out _).mono ?_
      rintro e w8 ⟨rfl, b8⟩
      have B8 := Lib.hid (B7.out.trans (b8.mono B7.out.size))
      have U8 := Lib.hid (Rws.below U7.out b8)
      clear b8
      rcases hXs with ⟨g5, g8, g6, g7⟩ | ⟨g5, g6⟩
      ·subst g5
       obtain ⟨A8, c8, e8, -⟩ := U8.out.parts
       subst e8
       go_wp2_with fail
       refine (g6 _ _ _ U8.out).mono ?_
       rintro e w9 ⟨rfl, b9⟩
       have B9 := Lib.hid (B8.out.trans (b9.mono B8.out.size))
       have U9 := Lib.hid (Rws.below U8.out b9)
       clear b9
       go_wp2_with fail
       refine (g7 _ _ _ U9.out).mono ?_
       rintro e w10 ⟨rfl, b10⟩
       have B10 := Lib.hid (B9.out.trans (b10.mono B9.out.size))
       clear b10
       go_wp2_with fail
       go_ret
       exact ⟨rfl, B10.out⟩
      ·subst g5 g6
       obtain ⟨A8, c8, e8, -⟩ := U8.out.parts
       subst e8
       go_wp2_with fail
       go_ret
       exact ⟨rfl, B8.out⟩
    ·have hne2 : (eb == 0) = false := by rw [f1]; rfl
     clear f1
     go_wp2_with fail
     refine (GS.out _).mono ?_
     rintro e w11 ⟨rfl, b11⟩
     have B11 := Lib.hid (B6.out.trans (b11.mono B6.out.size))
     have Z11 := Lib.hid (VRow.made w11 Vec.zeros_len)
     have X11 := Lib.hid (Z11.out.set X2 HX2.out)
     have B12 : Hid (Below w.heap.size w ((w11.alloc (.cells (vecR Vec.zeros) 23)).setRow w11.heap.size (vecR X2))) := Lib.hid (below_kept (B11.out.alloc B11.out.size _) (Kept.setRowK _ _ _) (fun i e => by have := B11.out.size; omega))
     clear b11
     rcases hXs0 with ⟨k1, k2, k3⟩ | ⟨k1, k2⟩
     ·subst k1
      go_wp2_with (first | refine wpList_vstoreS (.tmp 15) (.tmp 93) (by with_reducible rfl) (by rfl) (by rfl) (by rfl) Z11.out HX2.out ?_ | refine wpList_vloadD 98 (by with_reducible rfl) (by rfl) (.tmp 15) (by rfl) (by rfl) X11.out ?_)
      refine (k2 _).mono ?_
      rintro e w12 ⟨rfl, b12⟩
      have X12 := Lib.hid (X11.out.below b12 X11.out.inHeap)
      have B13 := Lib.hid (B12.out.trans (b12.mono B12.out.size))
      clear b12
      go_wp2_with (refine wpList_vloadD 102 (by with_reducible rfl) (by rfl) (.tmp 15) (by rfl) (by rfl) X12.out ?_)
      refine (RX.out _).mono ?_
      rintro e w13 ⟨s13, rfl, h13⟩
      have B14 := Lib.hid (B13.out.trans (h13.2.mono B13.out.size))
      have U13 := Lib.hid (h13.rows (fun _ _ => rfl))
      clear h13
      go_wp2_with fail
      refine (k3 _ _ _ U13.out).mono ?_
      rintro e w14 ⟨rfl, b14⟩
      have B15 := Lib.hid (B14.out.trans (b14.mono B14.out.size))
      clear b14
      go_wp2_with fail
      refine (HS.out _).mono ?_
      rintro e w7 ⟨⟨v7, rfl, h7⟩, b7⟩
      have B7 := Lib.hid (B15.out.trans (b7.mono B15.out.size))
      have U7 := Lib.hid h7
      clear b7 h7
      go_wp2_with fail
      refine (AW.out _).mono ?_
      rintro e w8 ⟨rfl, b8⟩
      have B8 := Lib.hid (B7.out.trans (b8.mono B7.out.size))
      have U8 := Lib.hid (Rws.below U7.out b8)
      clear b8
      rcases hXs with ⟨g5, g8, g6, g7⟩ | ⟨g5, g6⟩
      ·subst g5
       obtain ⟨A8, c8, e8, -⟩ := U8.out.parts
       subst e8
       go_wp2_with fail
       refine (g6 _ _ _ U8.out).mono ?_
       rintro e w9 ⟨rfl, b9⟩
       have B9 := Lib.hid (B8.out.trans (b9.mono B8.out.size))
       have U9 := Lib.hid (Rws.below U8.out b9)
       clear b9
       go_wp2_with fail
       refine (g7 _ _ _ U9.out).mono ?_
       rintro e w10 ⟨rfl, b10⟩
       have B10 := Lib.hid (B9.out.trans (b10.mono B9.out.size))
       clear b10
       go_wp2_with fail
       go_ret
       exact ⟨rfl, B10.out⟩
      ·subst g5 g6
       obtain ⟨A8, c8, e8, -⟩ := U8.out.parts
       subst e8
       go_wp2_with fail
       go_ret
       exact ⟨rfl, B8.out⟩
     ·subst k1
      have hEz2 := fun W => vec_eq HX2.out Vec.zeros_len W
      rw [decide_eq_true k2] at hEz2
      clear k2 hEz hEv
      go_wp2_with (first | ((with_reducible refine wpList_vstoreS (.tmp 15) (.tmp 93) ?_ ?_ ?_ ?_ Z11.out HX2.out ?_); (with_reducible rfl); rfl; rfl; rfl) | ((with_reducible refine wpList_vloadD 116 ?_ ?_ (.tmp 15) ?_ ?_ X11.out ?_); (with_reducible rfl); rfl; rfl; rfl))
      refine (HS.out _).mono ?_
      rintro e w7 ⟨⟨v7, rfl, h7⟩, b7⟩
      have B7 := Lib.hid (B12.out.trans (b7.mono B12.out.size))
      have U7 := Lib.hid h7
      clear b7 h7
      go_wp2_with fail
      refine (AW.out _).mono ?_
      rintro e w8 ⟨rfl, b8⟩
      have B8 := Lib.hid (B7.out.trans (b8.mono B7.out.size))
      have U8 := Lib.hid (Rws.below U7.out b8)
      clear b8
      rcases hXs with ⟨g5, g8, g6, g7⟩ | ⟨g5, g6⟩
      ·subst g5
       obtain ⟨A8, c8, e8, -⟩ := U8.out.parts
       subst e8
       go_wp2_with fail
       refine (g6 _ _ _ U8.out).mono ?_
       rintro e w9 ⟨rfl, b9⟩
       have B9 := Lib.hid (B8.out.trans (b9.mono B8.out.size))
       have U9 := Lib.hid (Rws.below U8.out b9)
       clear b9
       go_wp2_with fail
       refine (g7 _ _ _ U9.out).mono ?_
       rintro e w10 ⟨rfl, b10⟩
       have B10 := Lib.hid (B9.out.trans (b10.mono B9.out.size))
       clear b10
       go_wp2_with fail
       go_ret
       exact ⟨rfl, B10.out⟩
      ·subst g5 g6
       obtain ⟨A8, c8, e8, -⟩ := U8.out.parts
       subst e8
       go_wp2_with fail
       go_ret
       exact ⟨rfl, B8.out⟩
   ·have hne : (ea == 0) = false := by rw [f1]; rfl
    clear f1
    go_wp2_with (refine wpList_vstoreS (.tmp 11) (.tmp 60) (by with_reducible rfl) (by rfl) (by rfl) (by rfl) Z4.out HX1.out ?_)
    refine (GM.out _).mono ?_
    rintro e w5 ⟨⟨u5, rfl, h5⟩, b5⟩
    have B6 := Lib.hid (B5.out.trans (b5.mono B5.out.size))
    have U5 := Lib.hid h5
    clear b5 h5
    rcases FM0.out with ⟨f1, f2, f3⟩ | f1
    ·have EQ5 := EQ.out _ B6.out _ _ U5.out
     rw [decide_eq_true f2.symm] at EQ5
     replace EQ5 := Lib.hid EQ5
     subst f1 f3
     clear f2
     obtain ⟨A5, c5, e5, -⟩ := U5.out.parts
     subst e5
     go_wp2_with fail
     refine EQ5.out.mono ?_
     rintro e w6 ⟨rfl, b6⟩
     have B7 := Lib.hid (B6.out.trans (b6.mono B6.out.size))
     clear b6
     go_wp2_with fail
     refine (GS.out _).mono ?_
     rintro e w11 ⟨rfl, b11⟩
     have B11 := Lib.hid (B7.out.trans (b11.mono B7.out.size))
     have Z11 := Lib.hid (VRow.made w11 Vec.zeros_len)
     have X11 := Lib.hid (Z11.out.set X2 HX2.out)
     have B12 : Hid (Below w.heap.size w ((w11.alloc (.cells (vecR Vec.zeros) 23)).setRow w11.heap.size (vecR X2))) := Lib.hid (below_kept (B11.out.alloc B11.out.size _) (Kept.setRowK _ _ _) (fun i e => by have := B11.out.size; omega))
     clear b11
     rcases hXs0 with ⟨k1, k2, k3⟩ | ⟨k1, k2⟩
     ·subst k1
      go_wp2_with (first | refine wpList_vstoreS (.tmp 15) (.tmp 93) (by with_reducible rfl) (by rfl) (by rfl) (by rfl) Z11.out HX2.out ?_ | refine wpList_vloadD 98 (by with_reducible rfl) (by rfl) (.tmp 15) (by rfl) (by rfl) X11.out ?_)
      refine (k2 _).mono ?_
      rintro e w12 ⟨rfl, b12⟩
      have X12 := Lib.hid (X11.out.below b12 X11.out.inHeap)
      have B13 := Lib.hid (B12.out.trans (b12.mono B12.out.size))
      clear b12
      go_wp2_with (refine wpList_vloadD 102 (by with_reducible rfl) (by rfl) (.tmp 15) (by rfl) (by rfl) X12.out ?_)
      refine (RX.out _).mono ?_
      rintro e w13 ⟨s13, rfl, h13⟩
      have B14 := Lib.hid (B13.out.trans (h13.2.mono B13.out.size))
      have U13 := Lib.hid (h13.rows (fun _ _ => rfl))
      clear h13
      go_wp2_with fail
      refine (k3 _ _ _ U13.out).mono ?_
      rintro e w14 ⟨rfl, b14⟩
      have B15 := Lib.hid (B14.out.trans (b14.mono B14.out.size))
      clear b14
      go_wp2_with fail
      refine (HS.out _).mono ?_
      rintro e w7 ⟨⟨v7, rfl, h7⟩, b7⟩
      have B7 := Lib.hid (B15.out.trans (b7.mono B15.out.size))
      have U7 := Lib.hid h7
      clear b7 h7
      go_wp2_with fail
      refine (AW.out _).mono ?_
      rintro e w8 ⟨rfl, b8⟩
      have B8 := Lib.hid (B7.out.trans (b8.mono B7.out.size))
      have U8 := Lib.hid (Rws.below U7.out b8)
      clear b8
      rcases hXs with ⟨g5, g8, g6, g7⟩ | ⟨g5, g6⟩
      ·subst g5
       obtain ⟨A8, c8, e8, -⟩ := U8.out.parts
       subst e8
       go_wp2_with fail
       refine (g6 _ _ _ U8.out).mono ?_
       rintro e w9 ⟨rfl, b9⟩
       have B9 := Lib.hid (B8.out.trans (b9.mono B8.out.size))
       have U9 := Lib.hid (Rws.below U8.out b9)
       clear b9
       go_wp2_with fail
       refine (g7 _ _ _ U9.out).mono ?_
       rintro e w10 ⟨rfl, b10⟩
       have B10 := Lib.hid (B9.out.trans (b10.mono B9.out.size))
       clear b10
       go_wp2_with fail
       go_ret
       exact ⟨rfl, B10.out⟩
      ·subst g5 g6
       obtain ⟨A8, c8, e8, -⟩ := U8.out.parts
       subst e8
       go_wp2_with fail
       go_ret
       exact ⟨rfl, B8.out⟩
     ·subst k1
      have hEz2 := fun W => vec_eq HX2.out Vec.zeros_len W
      rw [decide_eq_true k2] at hEz2
      clear k2 hEz hEv
      go_wp2_with (first | ((with_reducible refine wpList_vstoreS (.tmp 15) (.tmp 93) ?_ ?_ ?_ ?_ Z11.out HX2.out ?_); (with_reducible rfl); rfl; rfl; rfl) | ((with_reducible refine wpList_vloadD 116 ?_ ?_ (.tmp 15) ?_ ?_ X11.out ?_); (with_reducible rfl); rfl; rfl; rfl))
      refine (HS.out _).mono ?_
      rintro e w7 ⟨⟨v7, rfl, h7⟩, b7⟩
      have B7 := Lib.hid (B12.out.trans (b7.mono B12.out.size))
      have U7 := Lib.hid h7
      clear b7 h7
      go_wp2_with fail
      refine (AW.out _).mono ?_
      rintro e w8 ⟨rfl, b8⟩
      have B8 := Lib.hid (B7.out.trans (b8.mono B7.out.size))
      have U8 := Lib.hid (Rws.below U7.out b8)
      clear b8
      rcases hXs with ⟨g5, g8, g6, g7⟩ | ⟨g5, g6⟩
      ·subst g5
       obtain ⟨A8, c8, e8, -⟩ := U8.out.parts
       subst e8
       go_wp2_with fail
       refine (g6 _ _ _ U8.out).mono ?_
       rintro e w9 ⟨rfl, b9⟩
       have B9 := Lib.hid (B8.out.trans (b9.mono B8.out.size))
       have U9 := Lib.hid (Rws.below U8.out b9)
       clear b9
       go_wp2_with fail
       refine (g7 _ _ _ U9.out).mono ?_
       rintro e w10 ⟨rfl, b10⟩
       have B10 := Lib.hid (B9.out.trans (b10.mono B9.out.size))
       clear b10
       go_wp2_with fail
       go_ret
       exact ⟨rfl, B10.out⟩
      ·subst g5 g6
       obtain ⟨A8, c8, e8, -⟩ := U8.out.parts
       subst e8
       go_wp2_with fail
       go_ret
       exact ⟨rfl, B8.out⟩
    ·have hne2 : (eb == 0) = false := by rw [f1]; rfl
     clear f1
     go_wp2_with fail
     refine (GS.out _).mono ?_
     rintro e w11 ⟨rfl, b11⟩
     have B11 := Lib.hid (B6.out.trans (b11.mono B6.out.size))
     have Z11 := Lib.hid (VRow.made w11 Vec.zeros_len)
     have X11 := Lib.hid (Z11.out.set X2 HX2.out)
     have B12 : Hid (Below w.heap.size w ((w11.alloc (.cells (vecR Vec.zeros) 23)).setRow w11.heap.size (vecR X2))) := Lib.hid (below_kept (B11.out.alloc B11.out.size _) (Kept.setRowK _ _ _) (fun i e => by have := B11.out.size; omega))
     clear b11
     rcases hXs0 with ⟨k1, k2, k3⟩ | ⟨k1, k2⟩
     ·subst k1
      go_wp2_with (first | refine wpList_vstoreS (.tmp 15) (.tmp 93) (by with_reducible rfl) (by rfl) (by rfl) (by rfl) Z11.out HX2.out ?_ | refine wpList_vloadD 98 (by with_reducible rfl) (by rfl) (.tmp 15) (by rfl) (by rfl) X11.out ?_)
      refine (k2 _).mono ?_
      rintro e w12 ⟨rfl, b12⟩
      have X12 := Lib.hid (X11.out.below b12 X11.out.inHeap)
      have B13 := Lib.hid (B12.out.trans (b12.mono B12.out.size))
      clear b12
      go_wp2_with (refine wpList_vloadD 102 (by with_reducible rfl) (by rfl) (.tmp 15) (by rfl) (by rfl) X12.out ?_)
      refine (RX.out _).mono ?_
      rintro e w13 ⟨s13, rfl, h13⟩
      have B14 := Lib.hid (B13.out.trans (h13.2.mono B13.out.size))
      have U13 := Lib.hid (h13.rows (fun _ _ => rfl))
      clear h13
      go_wp2_with fail
      refine (k3 _ _ _ U13.out).mono ?_
      rintro e w14 ⟨rfl, b14⟩
      have B15 := Lib.hid (B14.out.trans (b14.mono B14.out.size))
      clear b14
      go_wp2_with fail
      refine (HS.out _).mono ?_
      rintro e w7 ⟨⟨v7, rfl, h7⟩, b7⟩
      have B7 := Lib.hid (B15.out.trans (b7.mono B15.out.size))
      have U7 := Lib.hid h7
      clear b7 h7
      go_wp2_with fail
      refine (AW.out _).mono ?_
      rintro e w8 ⟨rfl, b8⟩
      have B8 := Lib.hid (B7.out.trans (b8.mono B7.out.size))
      have U8 := Lib.hid (Rws.below U7.out b8)
      clear b8
      rcases hXs with ⟨g5, g8, g6, g7⟩ | ⟨g5, g6⟩
      ·subst g5
       obtain ⟨A8, c8, e8, -⟩ := U8.out.parts
       subst e8
       go_wp2_with fail
       refine (g6 _ _ _ U8.out).mono ?_
       rintro e w9 ⟨rfl, b9⟩
       have B9 := Lib.hid (B8.out.trans (b9.mono B8.out.size))
       have U9 := Lib.hid (Rws.below U8.out b9)
       clear b9
       go_wp2_with fail
       refine (g7 _ _ _ U9.out).mono ?_
       rintro e w10 ⟨rfl, b10⟩
       have B10 := Lib.hid (B9.out.trans (b10.mono B9.out.size))
       clear b10
       go_wp2_with fail
       go_ret
       exact ⟨rfl, B10.out⟩
      ·subst g5 g6
       obtain ⟨A8, c8, e8, -⟩ := U8.out.parts
       subst e8
       go_wp2_with fail
       go_ret
       exact ⟨rfl, B8.out⟩
     ·subst k1
      have hEz2 := fun W => vec_eq HX2.out Vec.zeros_len W
      rw [decide_eq_true k2] at hEz2
      clear k2 hEz hEv
      go_wp2_with (first | ((with_reducible refine wpList_vstoreS (.tmp 15) (.tmp 93) ?_ ?_ ?_ ?_ Z11.out HX2.out ?_); (with_reducible rfl); rfl; rfl; rfl) | ((with_reducible refine wpList_vloadD 116 ?_ ?_ (.tmp 15) ?_ ?_ X11.out ?_); (with_reducible rfl); rfl; rfl; rfl))
      refine (HS.out _).mono ?_
      rintro e w7 ⟨⟨v7, rfl, h7⟩, b7⟩
      have B7 := Lib.hid (B12.out.trans (b7.mono B12.out.size))
      have U7 := Lib.hid h7
      clear b7 h7
      go_wp2_with fail
      refine (AW.out _).mono ?_
      rintro e w8 ⟨rfl, b8⟩
      have B8 := Lib.hid (B7.out.trans (b8.mono B7.out.size))
      have U8 := Lib.hid (Rws.below U7.out b8)
      clear b8
      rcases hXs with ⟨g5, g8, g6, g7⟩ | ⟨g5, g6⟩
      ·subst g5
       obtain ⟨A8, c8, e8, -⟩ := U8.out.parts
       subst e8
       go_wp2_with fail
       refine (g6 _ _ _ U8.out).mono ?_
       rintro e w9 ⟨rfl, b9⟩
       have B9 := Lib.hid (B8.out.trans (b9.mono B8.out.size))
       have U9 := Lib.hid (Rws.below U8.out b9)
       clear b9
       go_wp2_with fail
       refine (g7 _ _ _ U9.out).mono ?_
       rintro e w10 ⟨rfl, b10⟩
       have B10 := Lib.hid (B9.out.trans (b10.mono B9.out.size))
       clear b10
       go_wp2_with fail
       go_ret
       exact ⟨rfl, B10.out⟩
      ·subst g5 g6
       obtain ⟨A8, c8, e8, -⟩ := U8.out.parts
       subst e8
       go_wp2_with fail
       go_ret
       exact ⟨rfl, B8.out⟩
  ·have hx2 : (2000 : Int) < ((mk s).size : Int) := by omega
   clear l1 l2 hl hv hvb hlb hs LS ll hB0
   generalize mk s = S at *
   go_enter Try.func3, Try.ntmps3
   go_wp2_with fail
   refine (AW.out _).mono ?_
   rintro e w2 ⟨rfl, b2⟩
   have B2 := Lib.hid (B0.out.trans (b2.mono B0.out.size))
   clear b2
   go_wp2_with fail
   go_ret
   exact ⟨rfl, B2.out⟩
 ·have hx1 : (100 : Int) < (l.length : Int) := by omega
  clear l1 hl hv hvb hlb hs LS ll hB0
  generalize mk s = S at *
  go_enter Try.func3, Try.ntmps3
  go_wp2_with fail
  refine (AW.out _).mono ?_
  rintro e w2 ⟨rfl, b2⟩
  have B2 := Lib.hid (B0.out.trans (b2.mono B0.out.size))
  clear b2
  go_wp2_with fail
  go_ret
  exact ⟨rfl, B2.out⟩
end Go.Proofs.Ytpafpegcodempaa
