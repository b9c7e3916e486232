import Derived.Test.YtpafpegcodempaaGreatCom12
import Derived.Test.YtpafpegcodempaaGreatCom21
import Derived.Test.YtpafpegcodempaaGreatCom23
import Derived.Test.YtpafpegcodempaaGreatCom24
import Derived.Test.YtpafpegcodempaaGreatCom26
import Derived.Test.YtpafpegcodempaaGreatCom5
import Derived.Test.YtpafpegcodempaaGreatCom22
import Derived.Test.YtpafpegcodempaaGreatCom11
import Derived.Test.YtpafpegcodempaaGreatCom8
import Derived.Test.YtpafpegcodempaaGreatCom6
import Derived.Shelf.SlSortCmp.QuietGrown
set_option maxRecDepth 100000
set_option linter.all false
set_option maxHeartbeats 12800000
namespace Go.Proofs.YtpafpegcodempaaGreat
open Go.RowKit Go.Sort
theorem pck_smC {c : Flt.Cl} (h : Flt.Right c) : Pck.SmC c := by
 have h1 := Pck.right_pre h
 obtain ⟨-, h2, h3, h4⟩ := h
 exact ⟨by omega, by omega, by unfold Go.Proofs.YtpafpegcodempaaGreat.Bd Flt.rg; simp only; omega⟩
theorem kn_bdK {W : World} {a b : Value} {rs : List RFr} {m : List Know.It} (h : KnIn W a b rs m) : Pck.BdK (Know.cutK ⟨rs.map (·.x), m⟩) ∧ ∀ x ∈ (Know.cutK ⟨rs.map (·.x), m⟩).frags, Pck.SmFr x := by
 have hc := kn_cut h
 have hf : ∀ x ∈ (Know.cutK ⟨rs.map (·.x), m⟩).frags, Pck.SmFr x := fun x hx => by
  have h1 := hc.fl x hx
  have h2 := hc.sane x hx
  have h3 := hc.no x hx
  obtain ⟨y, hy, e⟩ := List.mem_map.1 hx
  obtain ⟨r, hr, rfl⟩ := List.mem_map.1 (List.mem_of_mem_take hy)
  have hin := h.ins r hr
  have hlen := hc.len x hx
  subst e
  exact ⟨⟨by omega, fun c hc => (pck_smC (h2 c hc)).2, hlen, hin.vb, by omega, fun v hv => hin.nb v (List.mem_of_mem_take hv)⟩, fun c hc => pck_smC (h2 c hc)⟩
 refine ⟨⟨by have := hc.fr; omega, fun x hx => (hf x hx).1, by have := hc.it; omega, fun i hi => ⟨hc.bdI i hi, hc.lenI i hi, hc.bd i hi⟩⟩, hf⟩
theorem pack_know_facts (V : VecOk) (VS : VersOk) (S : IsetOk) (FO : FilterOk) {k : Know.K} (hc : Know.Cut k) (hb : Pck.BdK k) : ∃ (A : ByteArray) (ea : Int) (may : Bool) (S1 : ByteArray) (X1 : Know.K) (g1 : Int), ((may = true ∧ A = S1 ∧ ea = 0) ∨ (may = false ∧ A = ⟨#[]⟩ ∧ ea = 2)) ∧ (may = decide (Pck.OkKnow k) ∧ A = mk (Pck.putKnow k).1 ∧ ea = (Pck.putKnow k).2 ∧ S1 = mk (Pck.knowR k)) ∧ (∀ W : World, Calls Tryz.prog 29 #[.string A] W fun e w' => (∃ v, e = .returned (.tuple #[v, .int .i64 g1]) ∧ Kns w' (NewIn W w') v X1) ∧ Below W.heap.size W w') ∧ (may = true → X1 = k ∧ g1 = 0) := by
 by_cases hok : Pck.OkKnow k
 ·have hle := Pck.know_le hok hc.fr hc.no hc.it
  have hp : Pck.putKnow k = (Pck.know k, 0) := Pck.put_good hok (by omega)
  have hg : Pck.getKnow (Pck.know k) = (k, 0) := Pck.get_back hok (Pck.takes_know hok hb) (by omega)
  refine ⟨mk (Pck.know k), 0, true, mk (Pck.knowR k), k, 0, Or.inl ⟨rfl, by rw [Pck.knowR_is hok hb], rfl⟩, ⟨(decide_eq_true hok).symm, by rw [hp], by rw [hp], rfl⟩, fun W => ?_, fun _ => ⟨rfl, rfl⟩⟩
  have := pck_GetKnow V VS S FO (Pck.know k) (by omega) W
  rwa [hg] at this
 ·have hp : Pck.putKnow k = ([], 2) := Pck.put_bad hok
  exact ⟨⟨#[]⟩, 2, false, mk (Pck.knowR k), (Pck.getKnow []).1, (Pck.getKnow []).2, Or.inr ⟨rfl, rfl, rfl⟩, ⟨(decide_eq_false hok).symm, by rw [hp]; rfl, by rw [hp], rfl⟩, fun W => pck_GetKnow V VS S FO [] (by simp) W, fun h => (by cases h)⟩
theorem pack_know_any (s : List UInt8) : ∃ (X2 : Know.K) (g3 : Int), Pck.getKnow s = (X2, g3) ∧ ((g3 = 0 ∧ (∀ (W : World) (F : Nat → Prop) (v : Value), Kns W F v X2 → Calls Tryz.prog 27 #[v] W fun e w' => e = .returned (.bool true) ∧ Below W.heap.size W w') ∧ ∀ (W : World) (F : Nat → Prop) (v : Value), Kns W F v X2 → Calls Tryz.prog 28 #[v] W fun e w' => e = .returned (.string (mk s)) ∧ Below W.heap.size W w') ∨ (g3 = 6 ∧ X2 = ⟨[], []⟩)) := by
 rcases Pck.get_ways2 (rd := Pck.rdKnow) (ok := Pck.OkKnow) (f := Pck.know) (zero := ⟨[], []⟩) s with ⟨h1, h2, h3, h4⟩ | h1
 ·have hb := Pck.rdKnow_bd (e := 0) h4
  have hsm : ∀ x ∈ (Pck.rdKnow s 0).1.frags, Pck.SmFr x := fun x hx => ⟨hb.fb x hx, fun c hc => pck_smC ((h2.2.1 x hx).1.2 c hc)⟩
  refine ⟨_, _, h1, Or.inl ⟨rfl, fun W F v h => ?_, fun W F v h => ?_⟩⟩
  ·have := ref_pright h hb (fun x hx c hc => by have := ((hsm x hx).2 c hc).1; omega)
   rwa [decide_eq_true h2] at this
  ·have := ref_pknow h hb hsm
   rwa [Pck.knowR_is h2 hb, h3] at this
 ·exact ⟨_, _, h1, Or.inr ⟨rfl, rfl⟩⟩
theorem pack_str_sameK (S : ByteArray) : (S.toList == S.toList) = true ∧ (S.toList != S.toList) = false := ⟨by simp, by simp⟩
theorem pack_knows_walk (V : VecOk) (VS : VersOk) (S : IsetOk) (FO : FilterOk) {w : World} {a b : Value} {rs : List RFr} {m : List Know.It} (s : List UInt8) (hk : KnIn w a b rs m) (hs : s.length ≤ 9223372036854775807) :
  Calls Tryz.prog 7 #[.agg #[a, b], .string (mk s)] w fun e w' => e = .returned (.bool true) ∧ Below w.heap.size w w' := by
 have mixed : Tryz.prog.follows .mixedOrders = true := by kernel_rfl
 have hz := knZero
 have Hfu : Hid (∃ d, Tryz.prog.underlying 28 = some d ∧ d.isRow = true) := Lib.hid ⟨_, Tryz.underlying28, rfl⟩
 have Hsz : Hid ((Tryz.prog.info? 28).map (·.size) = some 2) := Lib.hid (by kernel_rfl)
 have cut := kn_cut hk
 have bdk := kn_bdK hk
 obtain ⟨A, ca, rfl, -⟩ := hk.rows.parts
 obtain ⟨B, cb, rfl, -⟩ := hk.its.parts
 have AW := Lib.hid (fun W => pck_awake V W)
 generalize hkk : Know.cutK ⟨rs.map (·.x), m⟩ = k at *
 obtain ⟨W0, hW0⟩ : ∃ W0, W0 = w.alloc (.cells #[.slice A rs.length ca, .slice B m.length cb] 28) := ⟨_, rfl⟩
 have hb0 : Below w.heap.size w W0 := by rw [hW0]; exact (Below.refl _ _).alloc (Nat.le_refl _) _
 have r0 : Row W0 w.heap.size 28 #[.slice A rs.length ca, .slice B m.length cb] := by rw [hW0]; exact Row.made w _ _
 have SAN := Lib.hid (law15_Sane (hk.below hb0))
 rw [hkk] at SAN
 have R0 := Lib.hid r0
 have HB0 := Lib.hid hb0
 have HS0 : Hid (w.heap.size < W0.heap.size) := Lib.hid r0.inHeap
 have c0 := r0.at 0
 have c1 := r0.at 1
 simp only [List.getElem?_toArray, List.getElem?_cons_zero, List.getElem?_cons_succ] at c0 c1
 have LS := mk_len s
 obtain ⟨A1b, ea, may, S1, X1, g1, hA, hput, hget, hXu⟩ := pack_know_facts V VS S FO cut bdk.1
 obtain ⟨p1, p2, p3, p4⟩ := hput
 have PK := Lib.hid (fun (W : World) (F : Nat → Prop) (v : Value) (h : Kns W F v k) => pck_PutKnow V VS S FO h bdk.1)
 have RIG := Lib.hid (fun (W : World) (F : Nat → Prop) (v : Value) (h : Kns W F v k) => ref_pright h bdk.1 (fun x hx c hc => by have := ((bdk.2 x hx).2 c hc).1; omega))
 have RKN := Lib.hid (fun (W : World) (F : Nat → Prop) (v : Value) (h : Kns W F v k) => ref_pknow h bdk.1 bdk.2)
 rw [← p2, ← p3] at PK
 rw [← p1] at RIG
 rw [← p4] at RKN
 have AN1 := Lib.hid (fun W => pck_answer A1b S1 ea may hA W)
 have GU := Lib.hid hget
 have EQ := Lib.hid (fun (W : World) (F G : Nat → Prop) (u v : Value) (h1 : Kns W F u k) (h2 : Kns W G v k) => ref_ksame h1 h2 (by have := cut.fr; omega) (by have := cut.it; omega) (fun x hx => ⟨by have := cut.fl x hx; omega, fun c hc => by have := ((bdk.2 x hx).2 c hc).1; omega, by have := cut.no x hx; omega⟩))
 have GS := Lib.hid (fun (hl : s.length ≤ 3000) W => pck_GetKnow V VS S FO s (by omega) W)
 obtain ⟨X2, g3, hX2, hXs⟩ := pack_know_any s
 rw [hX2] at GS
 dsimp only at GS
 have FU0 : Hid (ea = 0 ∧ k = X1 ∧ g1 = 0 ∨ ea = 2) := Lib.hid (by rcases hA with ⟨h1, -, h3⟩ | ⟨-, -, h3⟩; exact Or.inl ⟨h3, (hXu h1).1.symm, (hXu h1).2⟩; exact Or.inr h3)
 clear hk hb0 r0 hkk hA p1 p2 p3 p4 hget hXu hX2 cut bdk
 go_enter Tryz.func7, Tryz.ntmps7
 go_wp2_with fail
 rw [← hW0]
 clear hW0
 go_wp2_with fail
 refine (SAN.out).mono ?_
 rintro e w1 ⟨v1, rfl, hk1, hb1⟩
 obtain ⟨A1, m1, cp1, B1, n1, cp2, rfl⟩ := hk1.parts
 have q0 : Row w1 w.heap.size 28 #[.slice A rs.length ca, .slice B m.length cb] := R0.out.below hb1 R0.out.inHeap
 have T1 := Lib.hid q0.there2
 have K2 := kn_kept hk1 q0 HS0.out (.slice A1 m1 cp1) (.slice B1 n1 cp2)
 have Q2 := Row.put2 q0 (.slice A1 m1 cp1) (.slice B1 n1 cp2)
 have B2 := put2_below (HB0.out.trans (hb1.mono HB0.out.size)) (HB0.out.trans (hb1.mono HB0.out.size)).size (b := w.heap.size) (Nat.le_refl _) (.slice A1 m1 cp1) (.slice B1 n1 cp2)
 clear hb1 q0 hk1 c0 c1 SAN
 have KN2 : Hid (Kns (w1.setCells w.heap.size 0 [.slice A1 m1 cp1, .slice B1 n1 cp2]) AnyB (.agg #[.slice A1 m1 cp1, .slice B1 n1 cp2]) k) := Lib.hid K2.kns
 have Q2h := Lib.hid Q2
 have B2h := Lib.hid B2
 clear K2 Q2 B2 R0 HB0 HS0
 by_cases l2 : s.length ≤ 3000
 ·have hx2 : ¬ (3000 : Int) < ((mk s).size : Int) := by omega
  have RI := Lib.hid (fun (W : World) (h : Below (w1.setCells w.heap.size 0 [.slice A1 m1 cp1, .slice B1 n1 cp2]).heap.size (w1.setCells w.heap.size 0 [.slice A1 m1 cp1, .slice B1 n1 cp2]) W) => RIG.out W _ _ (KN2.out.below h))
  have RK := Lib.hid (fun (W : World) (h : Below (w1.setCells w.heap.size 0 [.slice A1 m1 cp1, .slice B1 n1 cp2]).heap.size (w1.setCells w.heap.size 0 [.slice A1 m1 cp1, .slice B1 n1 cp2]) W) => RKN.out W _ _ (KN2.out.below h))
  replace GS := Lib.hid (GS.out l2)
  clear RIG RKN l2 hs LS
  generalize mk s = S at *
  have hS := pack_str_sameK S
  go_wp2_with (first | refine wpList_mstore (by rfl) (.tmp 2) (.tmp 12) (by rfl) (by rfl) (by rfl) T1.out (knSize _ _) (two_one rfl rfl) ?_ | refine wpList_mload (cs := [.slice A1 m1 cp1, .slice B1 n1 cp2]) (by rfl) (.tmp 2) (by rfl) (by rfl) (row_liesK (cs := [.slice A1 m1 cp1, .slice B1 n1 cp2]) Q2h.out Hfu.out Hsz.out) ?_)
  generalize w1.setCells w.heap.size 0 [.slice A1 m1 cp1, .slice B1 n1 cp2] = W2 at *
  clear T1
  refine (PK.out _ _ _ KN2.out).mono ?_
  rintro e w4 ⟨rfl, b4⟩
  have Q4 := Lib.hid (Q2h.out.below b4 Q2h.out.inHeap)
  have B4 := Lib.hid b4
  clear b4
  go_wp2_with fail
  refine wp_region_held_drew (S := (fun w' : World => InB w4 w')) (by kernel_rfl) ((InB.refl w4).drew) (fun hHeld => ?_)
  refine wpAnyH_td (i := 0) rfl ?_
  simp only [zz]
  refine wpAnyH_td (i := 1) rfl ?_
  simp only [zz]
  refine wpAnyH_tk (i := 2) (v := .agg #[.slice A1 m1 cp1, .slice B1 n1 cp2]) rfl (Or.inl ⟨by rfl, (by intro w hSw; exact exec_mload (by rfl) (by rfl) (row_liesK (cs := [.slice A1 m1 cp1, .slice B1 n1 cp2]) (Q4.out.below hSw.below Q4.out.inHeap) Hfu.out Hsz.out))⟩) (by assumption) ?_
  simp only [zz]
  refine wpAnyH_tk (i := 4) (v := .agg #[.slice A1 m1 cp1, .slice B1 n1 cp2]) rfl (Or.inl ⟨by rfl, (by intro w hSw; exact exec_mload (by rfl) (by rfl) (row_liesK (cs := [.slice A1 m1 cp1, .slice B1 n1 cp2]) (Q4.out.below hSw.below Q4.out.inHeap) Hfu.out Hsz.out))⟩) (by assumption) ?_
  simp only [zz]
  refine wpAnyH_ready (rs := [3]) (by kernel_rfl) (by simp) ?_
  refine AllReadyH.cons rfl (fun K hK => ?_) AllReadyH.nil
  go_simp
  go_at_call 27
  refine (RI.out _ (B4.out.trans (hHeld.below.mono B4.out.size))).mono ?_
  rintro e w31 ⟨rfl, h8⟩
  have hL := InB.trans hHeld h8
  refine hK.out _ _ hL (fun hHeld => ?_)
  clear h8 hL
  clear hK K
  refine wpAnyH_ready (rs := [5]) (by kernel_rfl) (by simp) ?_
  refine AllReadyH.cons rfl (fun K hK => ?_) AllReadyH.nil
  go_simp
  go_at_call 28
  refine (RK.out _ (B4.out.trans (hHeld.below.mono B4.out.size))).mono ?_
  rintro e w32 ⟨rfl, h8⟩
  have hL := InB.trans hHeld h8
  refine hK.out _ _ hL (fun hHeld => ?_)
  clear h8 hL
  clear hK K
  refine wpAnyH_ready (rs := [6]) (by kernel_rfl) (by simp) ?_
  refine AllReadyH.cons rfl (fun K hK => ?_) AllReadyH.nil
  go_simp
  go_at_call 26
  refine (AN1.out _).mono ?_
  rintro e w33 ⟨rfl, h8⟩
  have hL := InB.trans hHeld h8
  refine hK.out _ _ hL (fun hHeld => ?_)
  clear h8 hL
  clear hK K
  refine wpAnyH_td (i := 7) rfl ?_
  simp only [zz]
  refine wpAnyH_done (by kernel_rfl) ?_ _
  have B5 := Lib.hid (B4.out.trans (hHeld.below.mono B4.out.size))
  have Q5 := Lib.hid (Q4.out.below hHeld.below Q4.out.inHeap)
  clear hHeld
  go_wp2_with fail
  refine (GU.out _).mono ?_
  rintro e w6 ⟨⟨v6, rfl, h6⟩, b6⟩
  obtain ⟨u1, u2, rfl, hf6, hi6⟩ := h6
  obtain ⟨A6, c6, e1, -⟩ := hf6.parts
  obtain ⟨B6, d6, e2, -⟩ := hi6.1.parts
  subst e1 e2
  have hB6 : Below w6.heap.size w6 (w6.alloc (.cells #[.slice A6 X1.frags.length c6, .slice B6 X1.items.length d6] 28)) := (Below.refl _ _).alloc (Nat.le_refl _) _
  have R6 := Lib.hid (Row.made w6 28 #[.slice A6 X1.frags.length c6, .slice B6 X1.items.length d6])
  have KX : Hid (Kns (w6.alloc (.cells #[.slice A6 X1.frags.length c6, .slice B6 X1.items.length d6] 28)) AnyB (.agg #[.slice A6 X1.frags.length c6, .slice B6 X1.items.length d6]) X1) := Lib.hid ⟨_, _, rfl, (hf6.below hB6).any, (hi6.below hB6).any⟩
  have B6a := Lib.hid (B5.out.trans ((b6.trans (hB6.mono b6.size)).mono B5.out.size))
  have Q6 := Lib.hid (Q5.out.below (b6.trans (hB6.mono b6.size)) Q5.out.inHeap)
  have B6b := Lib.hid (B2h.out.trans (B6a.out.mono B2h.out.size))
  clear b6 hf6 hi6 hB6
  rcases FU0.out with ⟨f1, f2, f3⟩ | f1
  ·subst f1 f2 f3
   go_wp2_with (first | refine wpList_mload (cs := [.slice A6 k.frags.length c6, .slice B6 k.items.length d6]) (by rfl) (.tmp 7) (by rfl) (by rfl) (row_liesK (cs := [.slice A6 k.frags.length c6, .slice B6 k.items.length d6]) R6.out Hfu.out Hsz.out) ?_ | refine wpList_mload (cs := [.slice A1 m1 cp1, .slice B1 n1 cp2]) (by rfl) (.tmp 2) (by rfl) (by rfl) (row_liesK (cs := [.slice A1 m1 cp1, .slice B1 n1 cp2]) Q6.out Hfu.out Hsz.out) ?_)
   refine (EQ.out _ _ _ _ _ KX.out (KN2.out.below B6a.out)).mono ?_
   rintro e w8 ⟨rfl, b8⟩
   have B8c := Lib.hid (B6b.out.trans (b8.mono B6b.out.size))
   clear b8
   go_wp2_with fail
   refine (GS.out _).mono ?_
   rintro e w7 ⟨⟨v7, rfl, h7⟩, b7⟩
   obtain ⟨u1, u2, rfl, hf7, hi7⟩ := h7
   obtain ⟨A8, c8, e1, -⟩ := hf7.parts
   obtain ⟨B8, d8, e2, -⟩ := hi7.1.parts
   subst e1 e2
   have hB8 : Below w7.heap.size w7 (w7.alloc (.cells #[.slice A8 X2.frags.length c8, .slice B8 X2.items.length d8] 28)) := (Below.refl _ _).alloc (Nat.le_refl _) _
   have R8 := Lib.hid (Row.made w7 28 #[.slice A8 X2.frags.length c8, .slice B8 X2.items.length d8])
   have KY : Hid (Kns (w7.alloc (.cells #[.slice A8 X2.frags.length c8, .slice B8 X2.items.length d8] 28)) AnyB (.agg #[.slice A8 X2.frags.length c8, .slice B8 X2.items.length d8]) X2) := Lib.hid ⟨_, _, rfl, (hf7.below hB8).any, (hi7.below hB8).any⟩
   have B8b := Lib.hid (B8c.out.trans ((b7.trans (hB8.mono b7.size)).mono B8c.out.size))
   clear b7 hf7 hi7 hB8
   rcases hXs with ⟨g5, g6, g7⟩ | ⟨g5, g6⟩
   ·subst g5
    go_wp2_with fail
    refine (AW.out _).mono ?_
    rintro e w9 ⟨rfl, b9⟩
    have R9 := Lib.hid (R8.out.below b9 R8.out.inHeap)
    have K9 : Hid (Kns w9 AnyB (.agg #[.slice A8 X2.frags.length c8, .slice B8 X2.items.length d8]) X2) := Lib.hid (KY.out.below b9)
    have B9 := Lib.hid (B8b.out.trans (b9.mono B8b.out.size))
    clear b9
    go_wp2_with (refine wpList_mload (cs := [.slice A8 X2.frags.length c8, .slice B8 X2.items.length d8]) (by rfl) (.tmp 9) (by rfl) (by rfl) (row_liesK (cs := [.slice A8 X2.frags.length c8, .slice B8 X2.items.length d8]) R9.out Hfu.out Hsz.out) ?_)
    refine (g6 _ _ _ K9.out).mono ?_
    rintro e w10 ⟨rfl, b10⟩
    have R10 := Lib.hid (R9.out.below b10 R9.out.inHeap)
    have K10 : Hid (Kns w10 AnyB (.agg #[.slice A8 X2.frags.length c8, .slice B8 X2.items.length d8]) X2) := Lib.hid (K9.out.below b10)
    have B10 := Lib.hid (B9.out.trans (b10.mono B9.out.size))
    clear b10
    go_wp2_with (refine wpList_mload (cs := [.slice A8 X2.frags.length c8, .slice B8 X2.items.length d8]) (by rfl) (.tmp 9) (by rfl) (by rfl) (row_liesK (cs := [.slice A8 X2.frags.length c8, .slice B8 X2.items.length d8]) R10.out Hfu.out Hsz.out) ?_)
    refine (g7 _ _ _ K10.out).mono ?_
    rintro e w11 ⟨rfl, b11⟩
    have B11 := Lib.hid (B10.out.trans (b11.mono B10.out.size))
    clear b11
    go_wp2_with fail
    go_ret
    exact ⟨rfl, B11.out⟩
   ·subst g5 g6
    go_wp2_with fail
    refine (AW.out _).mono ?_
    rintro e w9 ⟨rfl, b9⟩
    have R9 := R8.out.below b9 R8.out.inHeap
    have r0 := R9.at 0
    have r1 := R9.at 1
    simp only [List.getElem?_toArray, List.getElem?_cons_zero, List.getElem?_cons_succ] at r0 r1
    have B9 := Lib.hid (B8b.out.trans (b9.mono B8b.out.size))
    clear b9 R9
    go_wp2_with fail
    go_ret
    exact ⟨rfl, B9.out⟩
  ·have hne : (ea == 0) = false := by rw [f1]; rfl
   clear f1
   go_wp2_with fail
   refine (GS.out _).mono ?_
   rintro e w7 ⟨⟨v7, rfl, h7⟩, b7⟩
   obtain ⟨u1, u2, rfl, hf7, hi7⟩ := h7
   obtain ⟨A8, c8, e1, -⟩ := hf7.parts
   obtain ⟨B8, d8, e2, -⟩ := hi7.1.parts
   subst e1 e2
   have hB8 : Below w7.heap.size w7 (w7.alloc (.cells #[.slice A8 X2.frags.length c8, .slice B8 X2.items.length d8] 28)) := (Below.refl _ _).alloc (Nat.le_refl _) _
   have R8 := Lib.hid (Row.made w7 28 #[.slice A8 X2.frags.length c8, .slice B8 X2.items.length d8])
   have KY : Hid (Kns (w7.alloc (.cells #[.slice A8 X2.frags.length c8, .slice B8 X2.items.length d8] 28)) AnyB (.agg #[.slice A8 X2.frags.length c8, .slice B8 X2.items.length d8]) X2) := Lib.hid ⟨_, _, rfl, (hf7.below hB8).any, (hi7.below hB8).any⟩
   have B8b := Lib.hid (B6b.out.trans ((b7.trans (hB8.mono b7.size)).mono B6b.out.size))
   clear b7 hf7 hi7 hB8
   rcases hXs with ⟨g5, g6, g7⟩ | ⟨g5, g6⟩
   ·subst g5
    go_wp2_with fail
    refine (AW.out _).mono ?_
    rintro e w9 ⟨rfl, b9⟩
    have R9 := Lib.hid (R8.out.below b9 R8.out.inHeap)
    have K9 : Hid (Kns w9 AnyB (.agg #[.slice A8 X2.frags.length c8, .slice B8 X2.items.length d8]) X2) := Lib.hid (KY.out.below b9)
    have B9 := Lib.hid (B8b.out.trans (b9.mono B8b.out.size))
    clear b9
    go_wp2_with (refine wpList_mload (cs := [.slice A8 X2.frags.length c8, .slice B8 X2.items.length d8]) (by rfl) (.tmp 9) (by rfl) (by rfl) (row_liesK (cs := [.slice A8 X2.frags.length c8, .slice B8 X2.items.length d8]) R9.out Hfu.out Hsz.out) ?_)
    refine (g6 _ _ _ K9.out).mono ?_
    rintro e w10 ⟨rfl, b10⟩
    have R10 := Lib.hid (R9.out.below b10 R9.out.inHeap)
    have K10 : Hid (Kns w10 AnyB (.agg #[.slice A8 X2.frags.length c8, .slice B8 X2.items.length d8]) X2) := Lib.hid (K9.out.below b10)
    have B10 := Lib.hid (B9.out.trans (b10.mono B9.out.size))
    clear b10
    go_wp2_with (refine wpList_mload (cs := [.slice A8 X2.frags.length c8, .slice B8 X2.items.length d8]) (by rfl) (.tmp 9) (by rfl) (by rfl) (row_liesK (cs := [.slice A8 X2.frags.length c8, .slice B8 X2.items.length d8]) R10.out Hfu.out Hsz.out) ?_)
    refine (g7 _ _ _ K10.out).mono ?_
    rintro e w11 ⟨rfl, b11⟩
    have B11 := Lib.hid (B10.out.trans (b11.mono B10.out.size))
    clear b11
    go_wp2_with fail
    go_ret
    exact ⟨rfl, B11.out⟩
   ·subst g5 g6
    go_wp2_with fail
    refine (AW.out _).mono ?_
    rintro e w9 ⟨rfl, b9⟩
    have R9 := R8.out.below b9 R8.out.inHeap
    have r0 := R9.at 0
    have r1 := R9.at 1
    simp only [List.getElem?_toArray, List.getElem?_cons_zero, List.getElem?_cons_succ] at r0 r1
    have B9 := Lib.hid (B8b.out.trans (b9.mono B8b.out.size))
    clear b9 R9
    go_wp2_with fail
    go_ret
    exact ⟨rfl, B9.out⟩
 ·have hx2 : (3000 : Int) < ((mk s).size : Int) := by omega
  clear l2 hs LS
  generalize mk s = S at *
  go_wp2_with (refine wpList_mstore (by rfl) (.tmp 2) (.tmp 12) (by rfl) (by rfl) (by rfl) T1.out (knSize _ _) (two_one rfl rfl) ?_)
  generalize w1.setCells w.heap.size 0 [.slice A1 m1 cp1, .slice B1 n1 cp2] = W2 at *
  refine (AW.out _).mono ?_
  rintro e w3 ⟨rfl, b3⟩
  have B3 := Lib.hid (B2h.out.trans (b3.mono B2h.out.size))
  clear b3
  go_wp2_with fail
  go_ret
  exact ⟨rfl, B3.out⟩
open Go.RowKit Go.Sort
theorem vec_covers (w : World) {a b : List Int} (ha : a.length = 65) (hb : b.length = 65) : Calls Tryz.prog 343 #[vecA a, vecA b] w fun e w' => e = .returned (.bool (decide (Vec.Covers a b))) ∧ Laid w w' := by
 have JO := Lib.hid (fun W => vec_join W ha hb)
 have CL := Lib.hid (fun W => vec_clean W ha)
 have hE := fun W => vec_eq (x := Vec.join a b) (y := Vec.clean a) (Vec.make_len _) (Vec.clean_len a) W
 have e : decide (Vec.join a b = Vec.clean a) = decide (Vec.Covers a b) := by rw [decide_eq_decide]; exact Vec.covers_join a b
 rw [e] at hE
 have r0 : VRow ((w.alloc (.cells (vecR a) 32)).alloc (.cells (vecR b) 32)) w.heap.size a := (VRow.made w ha).alloc _
 have r1 : VRow ((w.alloc (.cells (vecR a) 32)).alloc (.cells (vecR b) 32)) (w.heap.size + 1) b := by
  have := VRow.made (w.alloc (.cells (vecR a) 32)) hb
  rwa [World.size_alloc] at this
 have hL : Laid w ((w.alloc (.cells (vecR a) 32)).alloc (.cells (vecR b) 32)) := (Laid.new w _).alloc _
 have R0 := Lib.hid r0
 have R1 := Lib.hid r1
 have HL := Lib.hid hL
 clear r0 r1 hL ha hb e
 generalize decide (Vec.Covers a b) = r at *
 go_enter Tryz.func343, Tryz.ntmps343
 go_wp2_with fail
 generalize (w.alloc (.cells (vecR a) 32)).alloc (.cells (vecR b) 32) = W0 at *
 refine wp_region_held_drew (S := (fun w' : World => Laid W0 w')) (by kernel_rfl) ((Laid.refl W0).drew) (fun hHeld => ?_)
 refine wpAnyH_tk (i := 0) (v := vecA a) rfl (Or.inl ⟨by rfl, (by intro w hSw; exact exec_vload (by rfl) (by rfl) (R0.out.below (Laid.below hSw) R0.out.inHeap))⟩) (by assumption) ?_
 simp only [zz]
 refine wpAnyH_tk (i := 1) (v := vecA b) rfl (Or.inl ⟨by rfl, (by intro w hSw; exact exec_vload (by rfl) (by rfl) (R1.out.below (Laid.below hSw) R1.out.inHeap))⟩) (by assumption) ?_
 simp only [zz]
 refine wpAnyH_tk (i := 3) (v := vecA a) rfl (Or.inl ⟨by rfl, (by intro w hSw; exact exec_vload (by rfl) (by rfl) (R0.out.below (Laid.below hSw) R0.out.inHeap))⟩) (by assumption) ?_
 simp only [zz]
 refine wpAnyH_ready (rs := [2]) (by kernel_rfl) (by simp) ?_
 refine AllReadyH.cons rfl (fun K hK => ?_) AllReadyH.nil
 go_simp
 go_at_call 284
 refine (JO.out _).mono ?_
 rintro e w8 ⟨rfl, h8⟩
 have hL := Laid.trans hHeld h8
 refine hK.out _ _ hL (fun hHeld => ?_)
 clear h8 hL
 clear hK K
 refine wpAnyH_ready (rs := [4]) (by kernel_rfl) (by simp) ?_
 refine AllReadyH.cons rfl (fun K hK => ?_) AllReadyH.nil
 go_simp
 go_at_call 266
 refine (CL.out _).mono ?_
 rintro e w9 ⟨rfl, h8⟩
 have hL := Laid.trans hHeld h8
 have F2 : Hid (Laid W0 w9) := Lib.hid hL
 refine hK.out _ _ hL (fun hHeld => ?_)
 clear h8 hL
 clear hK K
 refine wpAnyH_td (i := 5) rfl ?_
 simp only [zz]
 refine wpAnyH_td (i := 6) rfl ?_
 simp only [zz]
 refine wpAnyH_done (by kernel_rfl) ?_ _
 go_wp2_with fail
 go_ret
 exact ⟨rfl, HL.out.trans F2.out⟩
theorem vec_has (w : World) {v : List Int} (x : Ver.V) (hv : v.length = 65) (hx : Ver.Bd x) : Calls Tryz.prog 100 #[vecA v, verA x] w fun e w' => e = .returned (.bool (decide (Vec.Has v x))) ∧ Laid w w' := by
 have mixed : Tryz.prog.follows .mixedOrders = true := by kernel_rfl
 have CH : Hid (∀ W, Calls Tryz.prog 191 #[verA x] W fun e w' => e = .returned (.int .i64 (Ver.checkV x)) ∧ ∃ q os, w' = grow (W.drewN q) os) := Lib.hid (fun W => ver_check W x hx)
 have r0 : VRow ((w.alloc (.cells (vecR v) 32)).alloc (.cells #[.int .i64 x.by_, .int .i64 x.n] 51)) w.heap.size v := (VRow.made w hv).alloc _
 have r1 : Row ((w.alloc (.cells (vecR v) 32)).alloc (.cells #[.int .i64 x.by_, .int .i64 x.n] 51)) (w.heap.size + 1) 51 #[.int .i64 x.by_, .int .i64 x.n] := by
  have := Row.made (w.alloc (.cells (vecR v) 32)) 51 #[.int .i64 x.by_, .int .i64 x.n]
  rwa [World.size_alloc] at this
 have hL : Laid w ((w.alloc (.cells (vecR v) 32)).alloc (.cells #[.int .i64 x.by_, .int .i64 x.n] 51)) := (Laid.new w _).alloc _
 have HL := Lib.hid hL
 have q0 := r1.at 0
 have q1 := r1.at 1
 simp only [List.getElem?_toArray, List.getElem?_cons_zero, List.getElem?_cons_succ] at q0 q1
 have c0 := cells_grown q0
 have c1 := cells_grown q1
 by_cases hr : Ver.Right x
 ·have e : Ver.checkV x = 0 := if_pos hr
  rw [e] at CH
  obtain ⟨k, hk, hk2⟩ : ∃ k : Nat, x.by_ = (k : Int) ∧ 1 ≤ k ∧ k ≤ 64 := by
   unfold Ver.Right at hr
   exact ⟨x.by_.toNat, by omega, by omega⟩
  obtain ⟨n, hn⟩ : ∃ n, v[k]? = some n := ⟨_, List.getElem?_eq_getElem (by omega)⟩
  have hhas : Vec.Has v x ↔ x.n ≤ n := by
   rw [Vec.has_at, hk, Int.toNat_natCast]
   unfold Vec.at_
   rw [if_pos (by omega), hn]
   show Ver.Right x ∧ x.n ≤ max n 0 ↔ x.n ≤ n
   unfold Ver.Right at hr ⊢
   omega
  have cv := cells_grown (r0.at hn)
  have had := vec_addr (k := k) (by omega) w.heap.size
  obtain ⟨x1, x2⟩ := x
  simp only at hk CH hhas c0 c1 HL
  subst hk
  have hk0 : (0 : Int) ≤ (k : Int) := by omega
  have hk1 : (k : Int) < 65 := by omega
  have E : Hid (decide (Vec.Has v ⟨(k : Int), x2⟩) = decide (x2 ≤ n)) := Lib.hid (decide_eq_decide.2 hhas)
  clear hhas hn hk2 hr e r0 r1 hL q0 q1 hx hv
  go_enter Tryz.func100, Tryz.ntmps100
  go_wp2_with fail
  generalize (w.alloc (.cells (vecR v) 32)).alloc (.cells #[.int .i64 (k : Int), .int .i64 x2] 51) = W0 at *
  go_quiet_grown (first | (go_at_call 191; with_reducible refine Calls.grown_of (CH.out _)))
  go_wp2_with fail
  go_ret
  exact ⟨by rw [E.out]; rfl, HL.out.grown nq osq⟩
 ·have e : Ver.checkV x = 2 := if_neg hr
  rw [e] at CH
  have E : Hid (decide (Vec.Has v x) = false) := Lib.hid (decide_eq_false (fun h => hr h.1))
  obtain ⟨x1, x2⟩ := x
  simp only at CH E c0 c1 HL
  clear hr e r0 r1 hL q0 q1 hx hv
  go_enter Tryz.func100, Tryz.ntmps100
  go_wp2_with fail
  generalize (w.alloc (.cells (vecR v) 32)).alloc (.cells #[.int .i64 x1, .int .i64 x2] 51) = W0 at *
  go_quiet_grown (first | (go_at_call 191; with_reducible refine Calls.grown_of (CH.out _)))
  go_wp2_with fail
  go_ret
  exact ⟨by rw [E.out]; rfl, HL.out.grown nq osq⟩
theorem vec_ends (w : World) {v : List Int} (hv : v.length = 65) : Calls Tryz.prog 267 #[vecA v] w fun e w' => ∃ s, e = .returned s ∧ RowsOwn 51 2 verV w (Vec.ends v) s w' := by
 obtain ⟨i0, hi0, hz0, hz1, hz2⟩ := ver_parts verInfo
 have CL := Lib.hid (fun W => vec_clean W hv)
 have R0 := Lib.hid (VRow.made w hv)
 have HL := Lib.hid (Laid.new w (.cells (vecR v) 32))
 clear hv
 go_enter Tryz.func267, Tryz.ntmps267
 go_wp2_with (refine wpList_vload (by rfl) _ (by rfl) (by rfl) R0.out ?_)
 refine (CL.out _).mono ?_
 rintro e w1 ⟨rfl, h1⟩
 have H1 := Lib.hid (Laid.trans HL.out h1).below
 clear h1
 go_wp2_with fail
 go_loopw [3, 8] (fun sv i wr => ∃ k : Nat, k ≤ 65 ∧ i = .int .i64 (k : Int) ∧ RowsOwn 51 2 verV w (Vec.endsK v k) sv wr) (fun _ i _ => 65 - (intOf i).toNat)
 case atStart => exact ⟨0, Nat.zero_le _, rfl, RowsOwn.first H1.out⟩
 case round =>
  obtain ⟨k, hk, rfl, hr⟩ := hrel
  by_cases hlt : k < 65
  ·have hix := vec_index hlt (Vec.clean_get v hlt)
   have hk0 : (0 : Int) ≤ (k : Int) := by omega
   have hk1 : (k : Int) < 65 := by omega
   have Hk := Lib.hid hk
   by_cases hp : 0 < Vec.at_ v k
   ·have HE := Lib.hid (Vec.endsK_more v k hp)
    have Hlen := Lib.hid (Vec.endsK_len v k)
    generalize Vec.at_ v k = n at *
    have HR := Lib.hid hr
    have hown := hr.1.alloc (.cells #[.int .i64 (k : Int), .int .i64 n] 51)
    have Hmd := Lib.hid (ver_made wr 51 ⟨(k : Int), n⟩)
    have hsz : w.heap.size ≤ wr.heap.size := hr.2.size
    clear hr hk
    go_wp2_with (at_builtin; refine wp_joins (f := verV) (k := 2) rfl _ _ 33 rfl w.heap.size 51 i0 (.agg #[.int .i64 0, .int .i64 0]) 16 Tryz.underlying33 hi0 hz0 hz1 hz2 rfl (by decide) rfl rfl hown Hmd.out (fun _ _ => rfl) (fun x _ => ver_one x) ?c1 ?c2 ?c3 ?_; (case c1 => (have e1 := Hlen.out; have e2 := Hk.out; rw [show ([(⟨(k : Int), n⟩ : Ver.V)]).length = 1 from rfl]; unfold maxLen; omega)); (case c2 => (have e1 := Hlen.out; have e2 := Hk.out; rw [show ([(⟨(k : Int), n⟩ : Ver.V)]).length = 1 from rfl]; omega)); (case c3 => (simp; omega)); intro v2 w2 own2 hg2 _; have F2 := Lib.hid (HR.out.more (x := (⟨(k : Int), n⟩ : Ver.V)) (v' := v2) (by simpa [verV] using own2) hg2); clear own2 hg2)
    rw [← HE.out] at F2
    exact ⟨⟨k + 1, by omega, rfl, F2.out⟩, by show 65 - ((k : Int) + 1).toNat < 65 - (k : Int).toNat; omega⟩
   ·have hp' : Vec.at_ v k ≤ 0 := by omega
    rw [← Vec.endsK_same v k hp] at hr
    have HR := Lib.hid hr
    generalize Vec.at_ v k = n at *
    clear hr
    go_wp2_with fail
    exact ⟨⟨k + 1, by omega, rfl, HR.out⟩, by show 65 - ((k : Int) + 1).toNat < 65 - (k : Int).toNat; omega⟩
  ·obtain rfl : k = 65 := by omega
   have HR := Lib.hid hr
   clear hr
   go_wp2_with fail
   go_ret
   exact ⟨_, rfl, HR.out⟩
theorem vec_ok : VecOk where
 clean := fun hv => vec_clean _ hv
 has := fun x hv hx => vec_has _ x hv hx
 ofl := fun h hl hb => vec_of h hl hb
 join := fun ha hb => vec_join _ ha hb
 covers := fun ha hb => vec_covers _ ha hb
 ends := fun hv => (vec_ends _ hv).mono (fun e w' h => by obtain ⟨s, e1, h⟩ := h; exact ⟨s, e1, h.rows (fun _ _ => rfl), h.2⟩)
open Go.RowKit Go.Sort
instance : Inhabited Ver.V := ⟨⟨0, 0⟩⟩
theorem set_vers : ∀ (l : List Ver.V) (i : Nat) (u : Ver.V), ((l.flatMap verV).set (i * 2) (.int .i64 u.by_)).set (i * 2 + 1) (.int .i64 u.n) = (l.set i u).flatMap verV
 | [], i, u => by simp
 | y :: l, 0, u => by simp [verV]
 | y :: l, i + 1, u => by
  have e : (i + 1) * 2 = i * 2 + 2 := by omega
  rw [e]
  have := set_vers l i u
  simp only [List.flatMap_cons, verV, List.cons_append, List.nil_append, List.set_cons_succ] at this ⊢
  rw [this]
theorem RowsOwn.putAt {w W : World} {l : List Ver.V} {g cap : Nat} (h : RowsOwn 51 2 verV w l (.slice (some ⟨g, 0, none⟩) l.length cap) W) (i : Nat) (u : Ver.V) :
  RowsOwn 51 2 verV w (l.set i u) (.slice (some ⟨g, 0, none⟩) l.length cap) ((W.setCell ⟨g, i * 2, none⟩ (.int .i64 u.by_)).setCell ⟨g, i * 2 + 1, none⟩ (.int .i64 u.n)) := by
 obtain ⟨h1, h2⟩ := h.1.stored (i * 2) (.int .i64 u.by_)
 obtain ⟨h3, h4⟩ := h1.stored (i * 2 + 1) (.int .i64 u.n)
 rw [set_vers] at h3
 refine ⟨by rw [List.length_set]; exact h3, h.2.grown (gb_trans h2 h4) h.2.size (fun k hk => ?_)⟩
 injection hk with hk
 rw [← hk]
 exact (h.1.lt g rfl).1
theorem zero_ver (w : World) : (zeroValue 51).run Tryz.prog w = .ok (.agg #[.int .i64 0, .int .i64 0]) w := by
 obtain ⟨i0, hi0, hz0, -, -⟩ := ver_parts verInfo
 simp [zeroValue, typeInfo, hi0, hz0]
theorem RowsOwn.cleared {w W : World} {l : List Ver.V} {g cap m n : Nat} (h : RowsOwn 51 2 verV w l (.slice (some ⟨g, 0, none⟩) n cap) W) (hn : l.length = n) (hm : m < n) (c : Nat) :
  ∃ w', (∀ ty, (Builtin.clear_ #[33] ty #[.slice (some ⟨g, m * 2, none⟩) (n - m) c]).run Tryz.prog W = .ok (.tuple #[]) w') ∧ RowsOwn 51 2 verV w (l.take m) (.slice (some ⟨g, 0, none⟩) m cap) w' := by
 subst hn
 obtain ⟨w', r1, r2, r3⟩ := own_clear (P := Tryz.prog) h.1 hm Tryz.underlying33 zero_ver rfl (by decide) c
 refine ⟨w', r1, ?_, h.2.grown r3 h.2.size (fun k hk => ?_)⟩
 ·have e : (l.flatMap verV).take (m * 2) = (l.take m).flatMap verV := by
   have hs : l.flatMap verV = (l.take m).flatMap verV ++ (l.drop m).flatMap verV := by rw [← List.flatMap_append, List.take_append_drop]
   rw [hs, List.take_left' (by rw [rows_len (k := 2) (f := verV) _ (fun _ _ => rfl), List.length_take]; omega)]
  rw [e] at r2
  have hl : (l.take m).length = m := by rw [List.length_take]; omega
  rw [hl]
  exact r2
 ·injection hk with hk
  rw [← hk]
  exact (h.1.lt g rfl).1
theorem compact_done {l dk : List Ver.V} {m kk : Nat} (hm : m = l.length) (hd : dk.length = l.length) (h : Lib.CompInv l.toArray m kk dk.toArray) : dk.take kk = Lib.compact l := by
 subst hm
 have hk := h.lt
 have hlen : (Lib.compact l).length = kk := h.len
 apply List.ext_getElem?
 intro j
 by_cases hj : j < kk
 ·rw [List.getElem?_take_of_lt hj]
  have := h.low j hj
  show dk[j]? = (Lib.compactUpTo l.toArray l.length)[j]?
  rw [this, ← getI_to dk.toArray (by simp; omega)]
 ·rw [List.getElem?_take_eq_none (by omega), List.getElem?_eq_none (by omega)]
theorem compact_few (l : List Ver.V) (h : l.length < 2) : Lib.compact l = l := Lib.compact_all l (fun j hj => Lib.keeps_lt_one _ j (by omega))
theorem ver_compact {w wr : World} {v : Value} {l : List Ver.V} (h : RowsOwn 51 2 verV w l v wr) (hl : l.length ≤ 1000000) :
  Calls Tryz.prog 384 #[v] wr fun e w' => ∃ v', e = .returned v' ∧ RowsOwn 51 2 verV w (Lib.compact l) v' w' := by
 by_cases h2 : l.length < 2
 ·have hfin := Lib.hid (compact_few l h2)
  obtain ⟨A, cap, rfl, hcap⟩ := (h.rows (fun _ _ => rfl)).parts
  have H := Lib.hid h
  have h2' : (l.length : Int) < 2 := by omega
  clear h
  go_enter Tryz.func384, Tryz.ntmps384
  go_wp2_with fail
  go_ret
  exact ⟨_, rfl, by rw [hfin.out]; exact H.out⟩
 ·obtain ⟨g, cap, rfl, hg0, hgl⟩ := h.1.form (by omega)
  have hcap : l.length ≤ cap := by
   obtain ⟨A, c, e, hc⟩ := (h.rows (fun _ _ => rfl)).parts
   injection e with e1 e2 e3
   omega
  have h2' : ¬ (l.length : Int) < 2 := by omega
  have hl' : (l.length : Int) ≤ 1000000 := by omega
  have hcap' : (l.length : Int) ≤ (cap : Int) := by omega
  have hwhole : Hid (Lib.compact l = Lib.compactUpTo l.toArray l.length) := Lib.hid rfl
  have H := Lib.hid h
  clear h
  go_enter Tryz.func384, Tryz.ntmps384
  go_wp2_with fail
  go_loopw [3] (fun i W => ∃ k : Nat, 1 ≤ k ∧ k ≤ l.length ∧ i = .int .i64 (k : Int) ∧ Hid (∀ j, j < k → Lib.keeps l.toArray j = true) ∧ Hid (RowsOwn 51 2 verV w l (.slice (some ⟨g, 0, none⟩) l.length cap) W)) (fun i _ => l.length - (intOf i).toNat)
  case atStart => exact ⟨1, Nat.le_refl _, by omega, by go_num, Lib.hid (Lib.keeps_lt_one _), H⟩
  case round =>
   obtain ⟨k, hk1, hk, rfl, hall, hown⟩ := hrel
   by_cases hlt : k < l.length
   ·obtain ⟨x, hx⟩ : ∃ x, l[k]? = some x := ⟨_, List.getElem?_eq_getElem hlt⟩
    obtain ⟨y, hy⟩ : ∃ y, l[k - 1]? = some y := ⟨_, List.getElem?_eq_getElem (by omega)⟩
    obtain ⟨c0, c1⟩ := Vrs.at (hown.out.rows (fun _ _ => rfl)) hx
    obtain ⟨d0, d1⟩ := Vrs.at (hown.out.rows (fun _ _ => rfl)) hy
    rw [Nat.zero_add] at c0 c1 d0 d1
    have hn1 : (k : Int) < (l.length : Int) := by omega
    have hk1' : (1 : Int) ≤ (k : Int) := by omega
    have KX : Hid (l.toArray[k]! = x ∧ l.toArray[k - 1]! = y) := Lib.hid ⟨getI_of hx, getI_of hy⟩
    by_cases hxy : x = y
    ·subst hxy
     have hneg : Hid (Lib.keeps l.toArray k = false) := Lib.hid (Lib.keeps_neg (by omega) (by rw [KX.out.1, KX.out.2]))
     have hst := Lib.hid (Lib.CompInv.start hall.out hneg.out)
     obtain ⟨x1, x2⟩ := x
     simp only at c0 c1 d0 d1
     clear hx hy hall hneg
     go_wp2_with fail
     go_quiet (fail)
     have hown2 : Hid (RowsOwn 51 2 verV w l (.slice (some ⟨g, 0, none⟩) l.length cap) (wr.drewN nq)) := Lib.hid (hown.out.below (ver_drews _ _))
     generalize wr.drewN nq = W at *
     clear c0 c1 d0 d1 hown
     go_wp2_with fail
     go_loopw [3, 5] (fun s3 s5 W2 => ∃ (kk k2 : Nat) (dk : List Ver.V), s3 = .int .i64 (kk : Int) ∧ s5 = .int .i64 (k2 : Int) ∧ 1 ≤ k2 ∧ k + k2 ≤ l.length ∧ kk < k + k2 ∧ dk.length = l.length ∧ Hid (Lib.CompInv l.toArray (k + k2) kk dk.toArray) ∧ Hid (RowsOwn 51 2 verV w dk (.slice (some ⟨g, 0, none⟩) dk.length cap) W2)) (fun _ s5 _ => l.length - (intOf s5).toNat)
     case atStart => exact ⟨k, 1, l, rfl, by go_num, Nat.le_refl _, by omega, by omega, rfl, hst, hown2⟩
     case round =>
      obtain ⟨kk, k2, dk, rfl, rfl, h1, hle, hkk, hdl, hI, hrow⟩ := hrel
      have hk2' : (1 : Int) ≤ (k2 : Int) := by omega
      by_cases hlt2 : k + k2 < l.length
      ·obtain ⟨x, hx⟩ : ∃ x, dk[k + k2]? = some x := ⟨_, List.getElem?_eq_getElem (by omega)⟩
       obtain ⟨y, hy⟩ : ∃ y, dk[k + k2 - 1]? = some y := ⟨_, List.getElem?_eq_getElem (by omega)⟩
       obtain ⟨z, hz⟩ : ∃ z, dk[kk]? = some z := ⟨_, List.getElem?_eq_getElem (by omega)⟩
       have CL : Hid (∀ U : World, Hid (RowsOwn 51 2 verV w dk (.slice (some ⟨g, 0, none⟩) dk.length cap) U) → (U.cell? ⟨g, k * 2 + k2 * 2, none⟩ = some (.int .i64 x.by_) ∧ U.cell? ⟨g, k * 2 + k2 * 2 + 1, none⟩ = some (.int .i64 x.n)) ∧ U.cell? ⟨g, k * 2 + (k2 - 1) * 2, none⟩ = some (.int .i64 y.by_) ∧ U.cell? ⟨g, k * 2 + (k2 - 1) * 2 + 1, none⟩ = some (.int .i64 y.n)) := Lib.hid (fun U hU => by
        have a := Vrs.at (hU.out.rows (fun _ _ => rfl)) hx
        have b := Vrs.at (hU.out.rows (fun _ _ => rfl)) hy
        rw [Nat.zero_add] at a b
        rw [show (k + k2) * 2 = k * 2 + k2 * 2 by omega] at a
        rw [show (k + k2 - 1) * 2 = k * 2 + (k2 - 1) * 2 by omega] at b
        exact ⟨a, b⟩)
       have CZ : Hid (∀ U : World, Hid (RowsOwn 51 2 verV w dk (.slice (some ⟨g, 0, none⟩) dk.length cap) U) → (U.cell? ⟨g, kk * 2, none⟩ = some (.int .i64 z.by_) ∧ U.cell? ⟨g, kk * 2 + 1, none⟩ = some (.int .i64 z.n)) ∧ U.frozen? ⟨g, kk * 2, none⟩ = false ∧ U.frozen? ⟨g, kk * 2 + 1, none⟩ = false) := Lib.hid (fun U hU => by
        have a := Vrs.at (hU.out.rows (fun _ _ => rfl)) hz
        rw [Nat.zero_add] at a
        exact ⟨a, hU.out.1.frozenAt _, hU.out.1.frozenAt _⟩)
       have KX : Hid (l.toArray[k + k2]! = x ∧ l.toArray[k + k2 - 1]! = y) := Lib.hid ⟨(hI.out.high _ (by omega)).symm.trans (getI_of hx), (hI.out.high _ (by omega)).symm.trans (getI_of hy)⟩
       obtain ⟨⟨c0, c1⟩, d0, d1⟩ := CL.out _ hrow
       have hn1 : (k2 : Int) < (l.length : Int) - (k : Int) := by omega
       have hn2 : (k2 : Int) - 1 < (l.length : Int) - (k : Int) := by omega
       have hkl : (kk : Int) < (l.length : Int) := by omega
       have hkk0 : (0 : Int) ≤ (kk : Int) := by omega
       clear hx hy hz
       by_cases hxy : x = y
       ·subst hxy
        have hneg : Hid (Lib.keeps l.toArray (k + k2) = false) := Lib.hid (Lib.keeps_neg (by omega) (by rw [KX.out.1, KX.out.2]))
        have hnext : Hid (Lib.CompInv l.toArray (k + (k2 + 1)) kk dk.toArray) := Lib.hid (hI.out.skip hneg.out)
        obtain ⟨x1, x2⟩ := x
        simp only at c0 c1 d0 d1
        clear hneg
        go_wp2_with fail
        go_quiet (fail)
        have hrow2 : Hid (RowsOwn 51 2 verV w dk (.slice (some ⟨g, 0, none⟩) dk.length cap) (wr.drewN nq)) := Lib.hid (hrow.out.below (ver_drews _ _))
        go_wp2_with fail
        exact ⟨⟨kk, k2 + 1, dk, rfl, by go_num, by omega, by omega, by omega, hdl, hnext, hrow2⟩, by show l.length - ((k2 : Int) + 1).toNat < l.length - (k2 : Int).toNat; omega⟩
       ·have hpos : Hid (Lib.keeps l.toArray (k + k2) = true) := Lib.hid (Lib.keeps_pos (by rw [KX.out.1, KX.out.2]; exact hxy))
        have hnext : Hid (Lib.CompInv l.toArray (k + (k2 + 1)) (kk + 1) (dk.set kk x).toArray) := Lib.hid (by
         have := hI.out.keep (by simpa using hlt2) hpos.out
         rw [KX.out.1, List.setIfInBounds_toArray] at this
         exact this)
        have hset : Hid (∀ U, RowsOwn 51 2 verV w dk (.slice (some ⟨g, 0, none⟩) dk.length cap) U → Hid (RowsOwn 51 2 verV w (dk.set kk x) (.slice (some ⟨g, 0, none⟩) (dk.set kk x).length cap) ((U.setCell ⟨g, kk * 2, none⟩ (.int .i64 x.by_)).setCell ⟨g, kk * 2 + 1, none⟩ (.int .i64 x.n)))) := Lib.hid (fun U hU => Lib.hid (by rw [List.length_set]; exact hU.putAt kk x))
        obtain ⟨x1, x2⟩ := x
        obtain ⟨y1, y2⟩ := y
        obtain ⟨z1, z2⟩ := z
        simp only at c0 c1 d0 d1
        have hxy' : x1 = y1 → ¬ x2 = y2 := fun h k => hxy (by rw [h, k])
        clear hpos hxy KX
        by_cases h1' : x1 = y1
        ·have h2' := hxy' h1'
         subst h1'
         clear hxy'
         go_wp2_with fail
         go_quiet (fail)
         have hrow2 : Hid (RowsOwn 51 2 verV w dk (.slice (some ⟨g, 0, none⟩) dk.length cap) (wr.drewN nq)) := Lib.hid (hrow.out.below (ver_drews _ _))
         generalize wr.drewN nq = W at *
         clear c0 c1 d0 d1
         obtain ⟨⟨c0, c1⟩, -, -⟩ := CL.out _ hrow2
         obtain ⟨⟨e0, e1⟩, f0, f1⟩ := CZ.out _ hrow2
         have HS := hset.out _ hrow2.out
         have e1' : ∀ u, (W.setCell ⟨g, kk * 2, none⟩ u).cell? ⟨g, kk * 2 + 1, none⟩ = some (.int .i64 z2) := fun u => (World.cell?_setCell_other _ _ _ _ (by simp)).trans e1
         have f1' : ∀ u, (W.setCell ⟨g, kk * 2, none⟩ u).frozen? ⟨g, kk * 2 + 1, none⟩ = false := fun u => (World.frozen?_setCell _ _ _ _).trans f1
         go_wp2_with fail
         exact ⟨⟨kk + 1, k2 + 1, _, by go_num, by go_num, by omega, by omega, by omega, by rw [List.length_set]; exact hdl, hnext, HS⟩, by show l.length - ((k2 : Int) + 1).toNat < l.length - (k2 : Int).toNat; omega⟩
        ·clear hxy'
         go_wp2_with fail
         go_quiet (fail)
         have hrow2 : Hid (RowsOwn 51 2 verV w dk (.slice (some ⟨g, 0, none⟩) dk.length cap) (wr.drewN nq)) := Lib.hid (hrow.out.below (ver_drews _ _))
         generalize wr.drewN nq = W at *
         clear c0 c1 d0 d1
         obtain ⟨⟨c0, c1⟩, -, -⟩ := CL.out _ hrow2
         obtain ⟨⟨e0, e1⟩, f0, f1⟩ := CZ.out _ hrow2
         have HS := hset.out _ hrow2.out
         have e1' : ∀ u, (W.setCell ⟨g, kk * 2, none⟩ u).cell? ⟨g, kk * 2 + 1, none⟩ = some (.int .i64 z2) := fun u => (World.cell?_setCell_other _ _ _ _ (by simp)).trans e1
         have f1' : ∀ u, (W.setCell ⟨g, kk * 2, none⟩ u).frozen? ⟨g, kk * 2 + 1, none⟩ = false := fun u => (World.frozen?_setCell _ _ _ _).trans f1
         go_wp2_with fail
         exact ⟨⟨kk + 1, k2 + 1, _, by go_num, by go_num, by omega, by omega, by omega, by rw [List.length_set]; exact hdl, hnext, HS⟩, by show l.length - ((k2 : Int) + 1).toNat < l.length - (k2 : Int).toNat; omega⟩
      ·have hend : k + k2 = l.length := by omega
       have hm : kk < l.length := by omega
       obtain ⟨W', hcl, hout⟩ := RowsOwn.cleared (n := l.length) (m := kk) (by have := hrow.out; rwa [hdl] at this) hdl hm (cap - kk)
       have hfin : Hid (dk.take kk = Lib.compact l) := Lib.hid (compact_done hend hdl hI.out)
       have HO := Lib.hid hout
       have hkl : (kk : Int) < (l.length : Int) := by omega
       have hkk0 : (0 : Int) ≤ (kk : Int) := by omega
       have hkc : (kk : Int) ≤ (cap : Int) := by omega
       clear hout
       go_wp2_with fail
       go_ret
       exact ⟨_, rfl, by rw [← hfin.out]; exact HO.out⟩
    ·have hpos : Hid (∀ j, j < k + 1 → Lib.keeps l.toArray j = true) := Lib.hid (fun j hj => by
      by_cases e : j = k
      ·subst e
       exact Lib.keeps_pos (by rw [KX.out.1, KX.out.2]; exact hxy)
      ·exact hall.out j (by omega))
     obtain ⟨x1, x2⟩ := x
     obtain ⟨y1, y2⟩ := y
     simp only at c0 c1 d0 d1
     have hxy' : x1 = y1 → ¬ x2 = y2 := fun h k => hxy (by rw [h, k])
     clear hx hy hall hxy KX
     by_cases h1 : x1 = y1
     ·have h2 := hxy' h1
      subst h1
      clear hxy'
      go_wp2_with fail
      go_quiet (fail)
      go_wp2_with fail
      exact ⟨⟨k + 1, by omega, by omega, by go_num, hpos, Lib.hid (hown.out.below (ver_drews _ _))⟩, by show l.length - ((k : Int) + 1).toNat < l.length - (k : Int).toNat; omega⟩
     ·clear hxy'
      go_wp2_with fail
      go_quiet (fail)
      go_wp2_with fail
      exact ⟨⟨k + 1, by omega, by omega, by go_num, hpos, Lib.hid (hown.out.below (ver_drews _ _))⟩, by show l.length - ((k : Int) + 1).toNat < l.length - (k : Int).toNat; omega⟩
   ·obtain rfl : k = l.length := by omega
    have hfin : Hid (Lib.compact l = l) := Lib.hid (Lib.compact_all l hall.out)
    clear hall
    go_wp2_with fail
    go_ret
    exact ⟨_, rfl, by rw [hfin.out]; exact hown.out⟩
end Go.Proofs.YtpafpegcodempaaGreat
