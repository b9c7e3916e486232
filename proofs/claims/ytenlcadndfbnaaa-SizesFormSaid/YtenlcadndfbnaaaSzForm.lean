/- SizesForm out of the contracts. -/
import Derived.Test.YtenlcadndfbnaaaSzTwo
namespace Go.Proofs.Ytenlcadndfbnaaa
open Go.RowKit

set_option maxRecDepth 100000 in
theorem wide_take {l : List Sz.Rg} {n : Nat} {x : Sz.Rg} (hx : l[n]? = some x) : Sz.wide (l.take (n + 1)) = Sz.wide (l.take n) + (x.2 - x.1 + 1) := by
  obtain ⟨hl, he⟩ := List.getElem?_eq_some_iff.1 hx
  rw [List.take_succ_eq_append_getElem hl, he]
  unfold Sz.wide
  simp
set_option maxRecDepth 100000 in
theorem wide_bd : ∀ {l : List Sz.Rg}, (∀ r ∈ l, 0 ≤ r.1 ∧ r.1 ≤ r.2 ∧ r.2 ≤ 200) → 0 ≤ Sz.wide l ∧ Sz.wide l ≤ 201 * (l.length : Int)
  | [], _ => by simp [Sz.wide]
  | r :: l, h => by
    have h1 := h r (List.mem_cons_self ..)
    have h2 := wide_bd (fun x hx => h x (List.mem_cons_of_mem _ hx))
    have e : Sz.wide (r :: l) = (r.2 - r.1 + 1) + Sz.wide l := by unfold Sz.wide; rw [List.map_cons, List.sum_cons]
    rw [e, List.length_cons]
    omega
set_option maxRecDepth 100000 in
theorem norm_in (l : List Sz.Rg) : ∀ r ∈ Sz.norm l, 0 ≤ r.1 ∧ r.1 ≤ r.2 ∧ r.2 ≤ 200 := fun r hr => Sz.formR_bd (Sz.of l) 0 none (by rw [Sz.of_len]; omega) (fun lo h => by cases h) r hr

set_option maxRecDepth 100000 in
set_option maxHeartbeats 6400000 in
theorem sform_walk (H : SizesOk) {w : World} {u : Value} {a : List Sz.Rg} (N : Int) (ha : Rgs w (fun i => i < w.heap.size) u a) (la : a.length ≤ 9223372036854775807) (ba : ∀ r ∈ a, Bd r) (n0 : -9223372036854775808 ≤ N) (n1 : N ≤ 9223372036854775807) :
    Calls Try.prog 3 #[u, .int .i64 N] w fun e w' => e = .returned (.bool true) ∧ Below w.heap.size w w' := by
  have AW := Lib.hid (fun W => sz_awake H W)
  have FA := Lib.hid (few_any ha la)
  have ba := bd_take ba 30
  have la := len_take a
  clear ha
  generalize a.take 30 = a at *
  go_enter Try.func3, Try.ntmps3
  go_wp2_with fail
  refine (FA.out).mono ?_
  rintro e w' ⟨u, rfl, ha, rfl⟩
  have NO := Lib.hid (H.norm ha (by omega) ba)
  have OF := Lib.hid (fun (W : World) (hW : Below w.heap.size w W) => ref_of (ha.below hW) (by omega))
  have FO : Hid (∀ (W A : World) (x : Value), RowsOwn 4 1 boolV W (Sz.of a) x A → Calls Try.prog 8 #[x] A fun e w' => ∃ v', e = .returned v' ∧ RowsOwn 29 2 rgV A (Sz.norm a) v' w') := Lib.hid (fun W A x hx => ref_form (hx.rows (fun _ _ => rfl)) (by rw [Sz.of_len]; omega))
  have HO := Lib.hid (fun (W : World) (hW : Below w.heap.size w W) => H.holds N (ha.below hW) (by omega) ba n0 n1)
  have RH := Lib.hid (fun (W : World) (hW : Below w.heap.size w W) => ref_holds (ha.below hW) (by omega) N)
  have MA := Lib.hid (fun (W : World) (hW : Below w.heap.size w W) => H.many (ha.below hW) (by omega) ba)
  have B0 := Below.refl w.heap.size w
  clear FA ha
  go_wp2_with fail
  refine (NO.out).mono ?_
  rintro e w1 ⟨x, rfl, rx, k⟩
  have B1 := sz_step B0 k
  have RX := Lib.hid rx
  clear k B0 rx
  go_wp2_with fail
  refine (OF.out _ B1).mono ?_
  rintro e w2 ⟨o, rfl, so⟩
  have B2 := sz_step B1 so.2
  go_wp2_with fail
  refine (FO.out _ _ _ so).mono ?_
  rintro e w3 ⟨y, rfl, sy⟩
  have B3 := Lib.hid (sz_step B2 sy.2)
  have hxy : Below w1.heap.size w1 w3 := sz_step so.2 sy.2
  have HXY := Lib.hid hxy
  have RY := Lib.hid (sy.rows (fun r _ => rg_len r))
  clear so B1 B2 sy hxy
  obtain ⟨Y, cy, rfl, hcy⟩ := RY.out.parts
  have hl := (norm_bd a).2
  have hl0 : ((Sz.norm a).length : Int) ≤ 202 := by omega
  have HNL := Lib.hid hl
  clear hl
  go_wp2_with fail
  go_loopw [7, 8] (fun m i wr => ∃ n : Nat, n ≤ (Sz.norm a).length ∧ i = .int .i64 (n : Int) ∧ m = .int .i64 (Sz.wide ((Sz.norm a).take n)) ∧ Below w3.heap.size w3 wr) (fun _ i _ => (Sz.norm a).length - (intOf i).toNat)
  case atStart => exact ⟨0, Nat.zero_le _, rfl, rfl, Below.refl _ _⟩
  case round =>
    obtain ⟨n, hn, rfl, rfl, hbel⟩ := hrel
    by_cases hlt : n < (Sz.norm a).length
    · obtain ⟨b, o, cap', e, -, -, hb⟩ := RY.out.block (by omega)
      injection e with e1 e2 e3
      subst e1 e3
      clear e2
      obtain ⟨z, hz⟩ : ∃ z, (Sz.norm a)[n]? = some z := ⟨_, List.getElem?_eq_getElem hlt⟩
      obtain ⟨c0, c1⟩ := Rgs.at (RY.out.below hbel) hz
      have hin := norm_in a z (List.mem_of_getElem? hz)
      have hst := Lib.hid (wide_take hz)
      have hw1 := wide_bd (l := (Sz.norm a).take n) (fun r hr => norm_in a r (List.mem_of_mem_take hr))
      have hlen : (((Sz.norm a).take n).length : Int) ≤ 202 := by rw [List.length_take]; have := HNL.out; omega
      have m0 : 0 ≤ Sz.wide ((Sz.norm a).take n) := hw1.1
      have m1 : Sz.wide ((Sz.norm a).take n) ≤ 40602 := by omega
      have hn0 : (0 : Int) ≤ (n : Int) := by omega
      have hn1 : (n : Int) < ((Sz.norm a).length : Int) := by omega
      have Hbel := Lib.hid hbel
      clear hbel hz hw1 hlen
      obtain ⟨z1, z2⟩ := z
      obtain ⟨q0, q1, q2⟩ := hin
      simp only at c0 c1 hst q0 q1 q2
      have hst2 : Hid (Sz.wide ((Sz.norm a).take n) + (z2 - z1 + 1) = Sz.wide ((Sz.norm a).take (n + 1))) := Lib.hid hst.out.symm
      clear hst
      generalize Sz.wide ((Sz.norm a).take n) = m at *
      go_wp2_with fail
      go_quiet (fail)
      go_wp2_with fail
      refine ⟨⟨n + 1, by omega, rfl, by rw [← hst2.out], Hbel.out.trans ((below_drews' wr nq).mono Hbel.out.size)⟩, ?_⟩
      show (Sz.norm a).length - ((n : Int) + 1).toNat < (Sz.norm a).length - (n : Int).toNat
      omega
    · obtain rfl : n = (Sz.norm a).length := by omega
      rw [List.take_length, Sz.form_wide]
      have B4 := sz_step B3.out hbel
      have K4 := sz_step HXY.out hbel
      have ry := RY.out.below hbel
      clear hbel
      obtain ⟨h, hh⟩ : ∃ h, h = Sz.holds a N := ⟨_, rfl⟩
      rw [← hh] at HO RH
      have HH := Lib.hid hh
      generalize (Sz.many a : Int) = m at *
      clear hh
      go_wp2_with fail
      refine (AW.out _).mono ?_
      rintro e w5 ⟨rfl, k⟩
      have B5 := sz_step B4 k
      have K5 := sz_step K4 k
      have ry5 := ry.below k
      clear k B4 K4 ry
      have hnl := HNL.out
      have SM : Hid (∀ (F G : Nat → Prop) (W : World) (p q : Value), Rgs W F p (Sz.norm a) → Rgs W G q (Sz.norm a) → Calls Try.prog 11 #[p, q] W fun e w' => e = .returned (.bool true) ∧ Below W.heap.size W w') := Lib.hid (fun F G W p q hp hq => by
        have := ref_same hp hq (by omega) (by omega)
        rw [decide_eq_true (rfl : Sz.norm a = Sz.norm a)] at this
        exact this)
      have HX : Hid (∀ W, Below w1.heap.size w1 W → Calls Try.prog 12 #[x, .int .i64 N] W fun e w' => e = .returned (.bool h) ∧ Below W.heap.size W w') := Lib.hid (fun W hW => by
        have := H.holds N (RX.out.below hW) (by omega) (norm_bd a).1 n0 n1
        rw [Sz.norm_holds, ← HH.out] at this
        exact this)
      have NX : Hid (∀ W, Below w1.heap.size w1 W → Calls Try.prog 7 #[x] W fun e w' => ∃ v', e = .returned v' ∧ Rgs w' (NewIn W w') v' (Sz.norm a) ∧ Below W.heap.size W w') := Lib.hid (fun W hW => by
        have := H.norm (RX.out.below hW) (by omega) (norm_bd a).1
        rw [Sz.norm_norm] at this
        exact this)
      clear hnl HH
      go_wp2_with fail
      refine (SM.out _ _ _ _ _ (RX.out.below K5) ry5).mono ?_
      rintro e w6 ⟨rfl, k⟩
      have B6 := sz_step B5 k
      have K6 := sz_step K5 k
      clear k B5 K5 ry5
      go_wp2_with fail
      refine (HO.out _ B6).mono ?_
      rintro e w7 ⟨rfl, k⟩
      have B7 := sz_step B6 k
      have K7 := sz_step K6 k
      clear k B6 K6
      go_wp2_with fail
      refine (RH.out _ B7).mono ?_
      rintro e w8 ⟨rfl, k⟩
      have B8 := sz_step B7 k
      have K8 := sz_step K7 k
      clear k B7 K7
      go_wp2_with fail
      refine (HX.out _ K8).mono ?_
      rintro e w9 ⟨rfl, k⟩
      have B9 := sz_step B8 k
      have K9 := sz_step K8 k
      clear k B8 K8
      go_wp2_with fail
      refine (RH.out _ B9).mono ?_
      rintro e w10 ⟨rfl, k⟩
      have B10 := sz_step B9 k
      have K10 := sz_step K9 k
      clear k B9 K9
      go_wp2_with fail
      refine (MA.out _ B10).mono ?_
      rintro e w11 ⟨rfl, k⟩
      have B11 := sz_step B10 k
      have K11 := sz_step K10 k
      clear k B10 K10
      go_wp2_with fail
      refine (NX.out _ K11).mono ?_
      rintro e w12 ⟨y2, rfl, r2, k⟩
      have B12 := sz_step B11 k
      have K12 := sz_step K11 k
      clear k B11 K11
      go_wp2_with fail
      refine (SM.out _ _ _ _ _ r2 (RX.out.below K12)).mono ?_
      rintro e w13 ⟨rfl, k⟩
      have B13 := sz_step B12 k
      clear k B12 K12
      go_wp2_with fail
      go_ret
      exact ⟨rfl, B13⟩
end Go.Proofs.Ytenlcadndfbnaaa
