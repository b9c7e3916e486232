/- The landed store's values: changes are applied in their order; to a copy of them. -/
import Derived.Test.YtbfjageaheijbaaGreatCom29
import Derived.Test.YtbfjageaheijbaaGreatCom19
import Derived.Test.YtbfjageaheijbaaGreatCom27
set_option linter.unusedSimpArgs false
set_option linter.unusedVariables false
namespace Go.Proofs.YtbfjageaheijbaaGreat
open Go.RowKit

set_option maxRecDepth 100000 in
theorem get_drop (l : List Sto.Pr) (k : Sto.Key) : Sto.get (Sto.drop l k) k = none := by
  unfold Sto.get
  rw [Option.map_eq_none_iff, List.find?_eq_none]
  intro p hp
  have := Sto.drop_ne hp
  simpa using this

set_option maxRecDepth 100000 in
theorem put_drop (l : List Sto.Pr) (k : Sto.Key) (v : List UInt8) : Sto.put (Sto.drop l k) k v = Sto.put l k v := by
  unfold Sto.put
  rw [drop_none (get_drop l k)]

set_option maxRecDepth 100000 in
theorem kept_two {w w1 w2 : World} {F : Nat → Prop} (h : Kept F w w1) (k : Kept F w1 w2) : Kept F w w2 := h.trans k (fun _ _ h => h)

section
variable {w w' : World} {b bm : Nat} {l : List Sto.Pr} {G : Nat → Prop}

set_option maxRecDepth 100000 in
theorem sto_remove (h : ValsAt w b bm l) (hs : Sto.Sorted l) (hf : Sto.Fit l) (hn : l.length ≤ 100000000) {K : List UInt8} (hK : K.length ≤ 1000) :
    Calls Tryz.prog 62 #[.pointer (some ⟨b, 0, none⟩), .string (mk K)] w fun e w' => e = .returned (.tuple #[]) ∧ ValsAt w' b bm (Sto.drop l K) ∧ Kept (fun i => i = b ∨ i = bm) w w' := by
  cases hg : Sto.get l K with
  | none => exact sto_remove_none h hK hg
  | some v => exact sto_remove_some h hs hf hn hK hg

set_option maxRecDepth 100000 in
set_option maxHeartbeats 3200000 in
theorem sto_do {cv : Value} {cs : List Sto.Ch} (h : ValsAt w b bm l) (hs : Sto.Sorted l) (hf : Sto.Fit l) (hc : Changes w G cv cs) (hG : ∀ k, G k → ¬ (k = b ∨ k = bm)) (hm : ∀ c ∈ cs, Sto.May c) (hn : l.length + cs.length ≤ 100000000) :
    Calls Tryz.prog 35 #[.pointer (some ⟨b, 0, none⟩), cv] w fun e w' => e = .returned (.tuple #[]) ∧ ValsAt w' b bm (Sto.after l cs) ∧ Kept (fun i => i = b ∨ i = bm) w w' := by
  obtain ⟨A, cap, rfl, hcap⟩ := hc.slice
  have hL : (cs.length : Int) ≤ 100000000 := by omega
  have Hc := Lib.hid (fun (w' : World) (hk : Kept (fun i => i = b ∨ i = bm) w w') => hc.kept hk hG)
  have Hshape := Lib.hid (fun (hp : 0 < cs.length) => hc.shape hp)
  have Hs := Lib.hid (fun k => Sto.after_sorted hs (cs.take k))
  have Hf := Lib.hid (fun k => Sto.after_fit hf (fun c hc => hm c (List.mem_of_mem_take hc)) (cs := cs.take k))
  have Hn := Lib.hid (fun k => (show (Sto.after l (cs.take k)).length ≤ 100000000 by
    have h1 := Sto.after_len l (cs.take k)
    have h2 : (cs.take k).length ≤ cs.length := by rw [List.length_take]; omega
    omega))
  have Hm := Lib.hid hm
  have hstart : Hid (ValsAt w b bm (Sto.after l (cs.take 0)) ∧ Kept (fun i => i = b ∨ i = bm) w w) := Lib.hid ⟨h, Kept.refl _ _⟩
  clear h hs hf hc hm hn hcap hG
  go_enter Tryz.func35, Tryz.ntmps35
  go_wp2_with fail
  go_loopw [8] (fun i wr => ∃ k : Nat, k ≤ cs.length ∧ i = .int .i64 k ∧ ValsAt wr b bm (Sto.after l (cs.take k)) ∧ Kept (fun i => i = b ∨ i = bm) w wr) (fun i _ => cs.length - (intOf i).toNat)
  case atStart => exact ⟨0, Nat.zero_le _, rfl, hstart.out⟩
  case round =>
    obtain ⟨k, hk, rfl, hv, hkp⟩ := hrel
    by_cases hlt2 : k < cs.length
    · obtain ⟨c, hc⟩ : ∃ c, cs[k]? = some c := ⟨cs[k], List.getElem?_eq_getElem hlt2⟩
      obtain ⟨gb, go, cp', e, -, -, -⟩ := Hshape.out (by omega)
      injection e with e1 e2 e3
      subst e1 e3
      obtain ⟨c0, c1, c2⟩ := Changes.at (Hc.out wr hkp) hc
      have hmc := Hm.out c (List.mem_of_getElem? hc)
      have hstep := Sto.after_take l cs k c hc
      have hvx := hv.below ((Below.refl wr.heap.size wr).alloc (Nat.le_refl _) (.cells #[.string (mk c.key), .string (mk c.val), .bool c.gone] 52)) hv.lt.1 hv.lt.2
      have HRm := Lib.hid (sto_remove hvx (Hs.out k) (Hf.out k) (Hn.out k) (K := c.key) (by have := hmc.2.1; omega))
      have hbox := Row.made wr 52 #[.string (mk c.key), .string (mk c.val), .bool c.gone]
      have hbl := hv.lt
      have HBx := Lib.hid (fun (w1 : World) (hk1 : Kept (fun i => i = b ∨ i = bm) (wr.alloc (.cells #[.string (mk c.key), .string (mk c.val), .bool c.gone] 52)) w1) => hbox.kept hk1 (fun e => by omega))
      have HK0 := Lib.hid (hkp.alloc (.cells #[.string (mk c.key), .string (mk c.val), .bool c.gone] 52))
      have HAdd := Lib.hid (fun (W : World) (hV : ValsAt W b bm (Sto.drop (Sto.after l (cs.take k)) c.key)) (hg : c.gone = false) => sto_add hV (fun p hp => Hf.out k p (List.mem_filter.1 hp).1) (Nat.le_trans (Sto.drop_len _ _) (Hn.out k)) (K := c.key) (v := c.val) (by have := hmc; rwa [show c = ⟨c.key, c.val, false⟩ by rw [← hg]] at this) (get_drop _ _))
      have Hstep := Lib.hid hstep
      clear hv hkp hc hmc hstep hvx hbox hbl
      obtain ⟨key, val, gone⟩ := c
      have hstep2 : Sto.after l (cs.take (k + 1)) = if gone then Sto.drop (Sto.after l (cs.take k)) key else Sto.put (Sto.after l (cs.take k)) key val := Hstep.out
      clear Hstep
      have Hstep := Lib.hid hstep2
      clear hstep2
      simp only at *
      cases gone
      · have HAdd2 := Lib.hid (fun (W : World) (hV : ValsAt W b bm (Sto.drop (Sto.after l (cs.take k)) key)) => put_drop _ _ _ ▸ HAdd.out W hV rfl)
        unfold chA at HAdd2
        clear HAdd
        go_wp2_with (first
          | (go_at_call 62; refine HRm.out.mono ?_; rintro e w1 ⟨rfl, hv1, hk1⟩; have hb1 := HBx.out w1 hk1; have d0 := hb1.at 0; have d1 := hb1.at 1; have d2 := hb1.at 2; have HK1 := Lib.hid (kept_two HK0.out hk1); have HV1 := Lib.hid hv1; clear hk1 hv1 hb1)
          | (go_at_call 63; refine (HAdd2.out _ HV1.out).mono ?_; rintro e w2 ⟨rfl, hv2, hk2⟩; have HK2 := Lib.hid (kept_two HK1.out hk2); have HV2 := Lib.hid hv2; clear hk2 hv2))
        go_roundw
        case rel => exact ⟨k + 1, by omega, by go_num, by have e := Hstep.out; simp only [Bool.false_eq_true, if_false] at e; rw [e]; exact HV2.out, HK2.out⟩
        case measure => simp [intOf]; omega
      · go_wp2_with (go_at_call 62; refine HRm.out.mono ?_; rintro e w1 ⟨rfl, hv1, hk1⟩; have hb1 := HBx.out w1 hk1; have d0 := hb1.at 0; have d1 := hb1.at 1; have d2 := hb1.at 2; have HK1 := Lib.hid (kept_two HK0.out hk1); have HV1 := Lib.hid hv1; clear hk1 hv1 hb1)
        go_roundw
        case rel => exact ⟨k + 1, by omega, by go_num, by have e := Hstep.out; simp only [if_true] at e; rw [e]; exact HV1.out, HK1.out⟩
        case measure => simp [intOf]; omega
    · obtain rfl : k = cs.length := by omega
      have HV := Lib.hid hv
      have HK := Lib.hid hkp
      rw [List.take_length] at HV
      clear hv hkp
      go_wp2_with fail
      exact Go.Great.bodyPost_end0 rfl rfl ⟨rfl, HV.out, HK.out⟩
end
end Go.Proofs.YtbfjageaheijbaaGreat
/- The landed store's values behind changes: a copy of them, changed. -/
set_option linter.unusedSimpArgs false
set_option linter.unusedVariables false
namespace Go.Proofs.YtbfjageaheijbaaGreat
open Go.RowKit

section
variable {w w' : World} {b bm : Nat} {l : List Sto.Pr} {G : Nat → Prop}

set_option maxRecDepth 100000 in
set_option maxHeartbeats 3200000 in
theorem sto_vbehind {cv : Value} {cs : List Sto.Ch} (h : MapAt w bm l) (hs : Sto.Sorted l) (hf : Sto.Fit l) (hc : Changes w G cv cs) (hm : ∀ c ∈ cs, Sto.May c) (hn : l.length + cs.length ≤ 100000000) :
    Calls Tryz.prog 65 #[vA bm l, cv] w fun e w' => ∃ bm', e = .returned (vA bm' (Sto.after l cs)) ∧ MapAt w' bm' (Sto.after l cs) ∧ w.heap.size ≤ bm' ∧ Below w.heap.size w w' := by
  have hml := h.lt
  have hc2 := hc.lt
  obtain ⟨A, cap, rfl, hcap⟩ := hc.slice
  have hb0 : Below w.heap.size w ((w.alloc (.cells (vcells bm l) 76)).alloc (.cells #[.map none, .int .i64 0, .int .i64 0] 76)) := ((Below.refl _ _).alloc (Nat.le_refl _) _).alloc (by simp) _
  have hbox : Row ((w.alloc (.cells (vcells bm l) 76)).alloc (.cells #[.map none, .int .i64 0, .int .i64 0] 76)) w.heap.size 76 (vcells bm l) := (Row.made w _ _).behindNew _
  have hres : Row ((w.alloc (.cells (vcells bm l) 76)).alloc (.cells #[.map none, .int .i64 0, .int .i64 0] 76)) (w.heap.size + 1) 76 #[.map none, .int .i64 0, .int .i64 0] := by
    have := Row.made (w.alloc (.cells (vcells bm l) 76)) 76 #[.map none, .int .i64 0, .int .i64 0]
    simpa using this
  have hz : ((w.alloc (.cells (vcells bm l) 76)).alloc (.cells #[.map none, .int .i64 0, .int .i64 0] 76)).heap.size = w.heap.size + 2 := by simp
  have hma := h.below hb0 hml
  have hcl := map_clone hma
  have HC := Lib.hid (fun (W : World) (hk : Below w.heap.size w W) => hc2.below hk)
  have HDo := Lib.hid (fun (W : World) (B M : Nat) (hv : ValsAt W B M l) (hB : w.heap.size ≤ B) (hM : w.heap.size ≤ M) (hk : Below w.heap.size w W) => sto_do hv hs hf (HC.out W hk) (fun k hk => by have := hk.2; omega) hm hn)
  clear h hs hf hc hc2 hm hn hcap hma
  unfold vA
  unfold vcells at *
  go_enter Tryz.func65, Tryz.ntmps65
  go_wp2_with fail
  generalize (w.alloc (.cells #[.map (some bm), .int .i64 (Sto.bytes l : Int), .int .i64 (Sto.whole l : Int)] 76)).alloc (.cells #[.map none, .int .i64 0, .int .i64 0] 76) = W0 at *
  refine hcl.mono ?_
  rintro e w1 ⟨rfl, hm1, hb1, hz1⟩
  have hB1 := hb0.trans (hb1.mono (by omega))
  have hbox1 := hbox.below hb1 (by omega)
  have hres1 := hres.below hb1 (by omega)
  have f0 := hbox1.free 0
  have q0 : w1.cell? ⟨w.heap.size, 0, none⟩ = some (.map (some bm)) := hbox1.at 0
  rw [hz] at hm1
  have hbox2 := hbox1.stored 0 (.map (some (w.heap.size + 2)))
  have hres2 := hres1.storedElsewhere (p := ⟨w.heap.size, 0, none⟩) (by show w.heap.size ≠ w.heap.size + 1; omega) (.map (some (w.heap.size + 2)))
  have hm2 : MapAt (w1.setCell ⟨w.heap.size, 0, none⟩ (.map (some (w.heap.size + 2)))) (w.heap.size + 2) l := hm1.grown (gb_store (gb_refl w1 (some w.heap.size)) 0 (.map (some (w.heap.size + 2)))) (by intro e; injection e with e; omega)
  have hB2 := below_store hB1 (p := ⟨w.heap.size, 0, none⟩) (Nat.le_refl _) (.map (some (w.heap.size + 2)))
  have hdo := HDo.out (w1.setCell ⟨w.heap.size, 0, none⟩ (.map (some (w.heap.size + 2)))) w.heap.size (w.heap.size + 2) ⟨hbox2, hm2⟩ (Nat.le_refl _) (by omega) hB2
  have Hdo := Lib.hid hdo
  have HB2 := Lib.hid hB2
  have Hres2 := Lib.hid hres2
  clear hbox hbox1 hres hres1 hbox2 hres2 hm1 hm2 hB1 hB2 hb0 hb1 hdo hcl HDo HC hml
  go_wp2_with fail
  refine Hdo.out.mono ?_
  rintro e w3 ⟨rfl, hv3, hk3⟩
  have hres3 := Hres2.out.kept hk3 (fun e => by omega)
  have hB3 := HB2.out.trans (hk3.below (B := w.heap.size) HB2.out.size (fun i hi => by omega))
  have c0 : w3.cell? ⟨w.heap.size, 0, none⟩ = some (.map (some (w.heap.size + 2))) := hv3.row.at 0
  have c1 : w3.cell? ⟨w.heap.size, 1, none⟩ = some (.int .i64 (Sto.bytes (Sto.after l cs) : Int)) := hv3.row.at 1
  have c2 : w3.cell? ⟨w.heap.size, 2, none⟩ = some (.int .i64 (Sto.whole (Sto.after l cs) : Int)) := hv3.row.at 2
  have g0 := hres3.free 0
  have g1 := hres3.free 1
  have g2 := hres3.free 2
  have p0 : w3.cell? ⟨w.heap.size + 1, 0, none⟩ = some (.map none) := hres3.at 0
  have p1 : w3.cell? ⟨w.heap.size + 1, 1, none⟩ = some (.int .i64 0) := hres3.at 1
  have p2 : w3.cell? ⟨w.heap.size + 1, 2, none⟩ = some (.int .i64 0) := hres3.at 2
  have hfinal : ∀ x y z : Value, MapAt (((w3.setCell ⟨w.heap.size + 1, 0, none⟩ x).setCell ⟨w.heap.size + 1, 1, none⟩ y).setCell ⟨w.heap.size + 1, 2, none⟩ z) (w.heap.size + 2) (Sto.after l cs) ∧ Below w.heap.size w (((w3.setCell ⟨w.heap.size + 1, 0, none⟩ x).setCell ⟨w.heap.size + 1, 1, none⟩ y).setCell ⟨w.heap.size + 1, 2, none⟩ z) := fun x y z =>
    ⟨hv3.map.grown (gb_store (gb_store (gb_store (gb_refl w3 (some (w.heap.size + 1))) 0 x) 1 y) 2 z) (by intro e; injection e with e; omega), below_store (below_store (below_store hB3 (p := ⟨w.heap.size + 1, 0, none⟩) (by show w.heap.size ≤ w.heap.size + 1; omega) x) (p := ⟨w.heap.size + 1, 1, none⟩) (by show w.heap.size ≤ w.heap.size + 1; omega) y) (p := ⟨w.heap.size + 1, 2, none⟩) (by show w.heap.size ≤ w.heap.size + 1; omega) z⟩
  have hr9 := ((hres3.stored 0 (.map (some (w.heap.size + 2)))).stored 1 (.int .i64 (Sto.bytes (Sto.after l cs) : Int))).stored 2 (.int .i64 (Sto.whole (Sto.after l cs) : Int))
  have x0 := hr9.at 0
  have x1 := hr9.at 1
  have x2 := hr9.at 2
  simp only [List.setIfInBounds_toArray, List.set_cons_zero, List.set_cons_succ, List.getElem?_toArray, List.getElem?_cons_zero, List.getElem?_cons_succ] at x0 x1 x2
  have Hfinal := Lib.hid hfinal
  clear hv3 hres3 hr9 hk3 hB3 hfinal
  go_wp2_with fail
  refine bodyPost_ret (v := .agg #[.map (some (w.heap.size + 2)), .int .i64 (Sto.bytes (Sto.after l cs) : Int), .int .i64 (Sto.whole (Sto.after l cs) : Int)]) (by simp [results, Tryz.results65, go_sem, x0, x1, x2]) rfl ⟨w.heap.size + 2, rfl, (Hfinal.out _ _ _).1, by omega, (Hfinal.out _ _ _).2⟩
end
end Go.Proofs.YtbfjageaheijbaaGreat
/- The landed store: what a journal that is rewritten has. -/
set_option linter.unusedSimpArgs false
set_option linter.unusedVariables false
namespace Go.Proofs.YtbfjageaheijbaaGreat
open Go.RowKit

set_option maxRecDepth 100000 in
theorem sto_recorder (bm : Nat) (l : List Sto.Pr) (w : World) :
    Calls Tryz.prog 98 #[vA bm l] w fun e w' => e = .returned (.func (.func 118) #[] #[.pointer (some ⟨w.heap.size, 0, none⟩)]) ∧ w.alloc (.cells (vcells bm l) 76) = w' := by
  unfold vA vcells
  go_enter Tryz.func98, Tryz.ntmps98
  go_wp2_with fail
  go_ret
  exact ⟨rfl, rfl⟩

set_option maxRecDepth 100000 in
theorem may_of (l : List Sto.Pr) (hf : Sto.Fit l) {k v : List UInt8} (h : Sto.get l k = some v) : Sto.May ⟨k, v, false⟩ := by
  have hm := Sto.get_some h
  have := hf (k, v) hm
  exact ⟨this.1, this.2.1, this.2.2, fun e => by cases e⟩

set_option maxRecDepth 100000 in
set_option maxHeartbeats 1600000 in
theorem sto_recorded {w : World} {b bm : Nat} {l : List Sto.Pr} (h : ValsAt w b bm l) (hf : Sto.Fit l) {K v : List UInt8} (hg : Sto.get l K = some v) :
    Calls Tryz.prog 118 #[.string (mk K), .pointer (some ⟨b, 0, none⟩)] w fun e w' => e = .returned (.string (mk (Sto.single (K, v)))) ∧ Below w.heap.size w w' := by
  have hm := may_of l hf hg
  have hlook := h.map.look1 (k := mk K) (by rw [mk_len]; have := hm.2.1; simp only at this; omega) (by rw [mk_data]; exact hg)
  rw [mk_data] at hlook
  have q0 : w.cell? ⟨b, 0, none⟩ = some (.map (some bm)) := h.row.at 0
  have HA := Lib.hid (sto_alone ⟨K, v, false⟩ hm)
  unfold elemV at hlook
  unfold chA at HA
  simp only at hlook HA
  have hfield : ∀ w : World, (Instr.field 110 (.agg #[.string (mk v), .int .i64 (laidOf (K, v) : Int)]) 0).run Tryz.prog w = .ok (.string (mk v)) w := fun _ => by kernel_rfl
  clear h hm hg hf
  go_enter Tryz.func118, Tryz.ntmps118
  go_wp2_with (go_at_call 92; refine (HA.out _).mono ?_; rintro e w1 ⟨rfl, hb1⟩)
  go_ret
  exact ⟨rfl, hb1⟩

set_option maxRecDepth 100000 in
theorem singles_take (l : List Sto.Pr) (k : Nat) (p : Sto.Pr) (h : l[k]? = some p) : Sto.singles (l.take (k + 1)) = Sto.singles (l.take k) ++ [Sto.single p] := by
  obtain ⟨hl, he⟩ := List.getElem?_eq_some_iff.1 h
  rw [List.take_succ_eq_append_getElem hl, he]
  simp [Sto.singles]

/-- While the records are laid one behind the other. -/
structure RcAt (w : World) (l : List Sto.Pr) (k : Nat) (v : Value) (wr : World) : Prop where
  own : wr.ownsRow w.heap.size 9 1 v k (texts (Sto.singles (l.take k)))
  bel : Below w.heap.size w wr

set_option maxRecDepth 100000 in
set_option maxHeartbeats 3200000 in
theorem sto_records {w : World} {bm : Nat} {l : List Sto.Pr} (h : MapAt w bm l) (hs : Sto.Sorted l) (hf : Sto.Fit l) (hn : l.length ≤ 100000000) :
    Calls Tryz.prog 69 #[vA bm l] w fun e w' => ∃ v, e = .returned v ∧ Cells w' (NewIn w w') v (texts (Sto.singles l)) ∧ Below w.heap.size w w' := by
  obtain ⟨i0, hi, hz0, hz1, hz2⟩ := info_parts strInfoK
  have hml := h.lt
  have hb0 : Below w.heap.size w (w.alloc (.cells (vcells bm l) 76)) := (Below.refl _ _).alloc (Nat.le_refl _) _
  have hz : (w.alloc (.cells (vcells bm l) 76)).heap.size = w.heap.size + 1 := by simp
  have hm0 := h.below hb0 hml
  have hR := sto_recorder bm l (w.alloc (.cells (vcells bm l) 76))
  have hb1 := hb0.alloc hb0.size (.cells (vcells bm l) 76)
  have hrow1 := Row.made (w.alloc (.cells (vcells bm l) 76)) 76 (vcells bm l)
  have hm1 := h.below hb1 hml
  have hK := sto_vkeys hm1 hs hf hn ⟨#[]⟩
  rw [hz] at hR hrow1
  have hkeys : Sto.keys l (⟨#[]⟩ : ByteArray).data.toList = l.map (·.1) := Sto.keys_all l
  rw [hkeys] at hK
  have Hs := Lib.hid hs
  have Hf := Lib.hid hf
  have hL : (l.length : Int) ≤ 100000000 := by omega
  have HR := Lib.hid hR
  have HK := Lib.hid hK
  have HV1 := Lib.hid (⟨hrow1, hm1⟩ : ValsAt _ (w.heap.size + 1) bm l)
  have Hb1 := Lib.hid hb1
  clear h hs hf hR hK hm1 hm0 hrow1 hb0 hb1 hkeys
  unfold vA at *
  unfold vcells at *
  go_enter Tryz.func69, Tryz.ntmps69
  go_wp2_with fail
  refine HR.out.mono ?_
  rintro e w1 ⟨rfl, hw1⟩
  rw [hw1] at HK HV1 Hb1
  have c0 := HV1.out
  have hbx : w1.cell? ⟨w.heap.size, 0, none⟩ = some (.map (some bm)) ∧ w1.cell? ⟨w.heap.size, 1, none⟩ = some (.int .i64 (Sto.bytes l : Int)) ∧ w1.cell? ⟨w.heap.size, 2, none⟩ = some (.int .i64 (Sto.whole l : Int)) := by
    have h1 := (Row.made w 76 #[.map (some bm), .int .i64 (Sto.bytes l : Int), .int .i64 (Sto.whole l : Int)]).behindNew (.cells #[.map (some bm), .int .i64 (Sto.bytes l : Int), .int .i64 (Sto.whole l : Int)] 76)
    rw [hw1] at h1
    exact ⟨h1.at 0, h1.at 1, h1.at 2⟩
  obtain ⟨x0, x1, x2⟩ := hbx
  have hs1 : w1.heap.size = w.heap.size + 2 := by rw [← hw1]; simp
  clear c0 hw1
  go_wp2_with fail
  refine HK.out.mono ?_
  rintro e w2 ⟨kv, rfl, hkc, hb2⟩
  have hlt2 := hb2.size
  obtain ⟨A, cap, hkv, hcap, hat⟩ := hkc
  rw [texts_len, List.length_map] at hkv hcap hat
  subst hkv
  have hV2 := HV1.out.below hb2 (by omega) (by omega)
  have hB2 := Hb1.out.trans (hb2.mono (by omega))
  have Hat := Lib.hid hat
  have HV2 := Lib.hid hV2
  have HB2 := Lib.hid hB2
  have Hs2 := Lib.hid (show w.heap.size + 2 ≤ w2.heap.size by omega)
  clear hat hV2 hB2 hb2 x0 x1 x2
  go_wp2_with fail
  go_loopw [4, 12] (fun v i wr => ∃ k : Nat, k ≤ l.length ∧ i = .int .i64 k ∧ RcAt w2 l k v wr) (fun _ i _ => l.length - (intOf i).toNat)
  case atStart => exact ⟨0, Nat.zero_le _, rfl, World.ownsRow_nil _ _ _ _, Below.refl _ _⟩
  case round =>
    obtain ⟨k, hk, rfl, hrc⟩ := hrel
    by_cases hlt : k < l.length
    · obtain ⟨p, hp⟩ : ∃ p, l[k]? = some p := ⟨l[k], List.getElem?_eq_getElem hlt⟩
      obtain ⟨gb, go, e, hin, hgl, hcc⟩ := Hat.out (by omega)
      subst e
      have hcell : wr.cell? ⟨gb, go + k, none⟩ = some (.string (mk p.1)) := (hrc.bel.cell (p := ⟨gb, go + k, none⟩) hgl).trans (hcc k _ (by unfold texts; rw [List.getElem?_map, List.getElem?_map, hp]; rfl))
      have hV := HV2.out.below hrc.bel (by have := Hs2.out; omega) (by have := Hs2.out; omega)
      have hg := Sto.get_mem Hs.out (List.mem_of_getElem? hp)
      have HD := Lib.hid (sto_recorded hV Hf.out (K := p.1) (v := p.2) hg)
      have hone := hrc.own
      have hmore : Hid (∀ w4 w3 v', Below wr.heap.size wr w4 → (w4.alloc (.cells #[.string (mk (Sto.single p))] 9)).grownBy w3 u4.ownBlock → w3.ownsRow w2.heap.size 9 1 v' (k + 1) (texts (Sto.singles (l.take k)) ++ [.string (mk (Sto.single p))]) → RcAt w2 l (k + 1) v' w3) := Lib.hid (by
        intro w4 w3 v' hb hg ho
        refine ⟨?_, ?_⟩
        · rw [singles_take l k p hp]
          have e2 : texts (Sto.singles (l.take k) ++ [Sto.single p]) = texts (Sto.singles (l.take k)) ++ [.string (mk (Sto.single p))] := by unfold texts; rw [List.map_append]; rfl
          rw [e2]
          exact ho
        · have h4 := hrc.bel.trans (hb.mono hrc.bel.size)
          exact (h4.alloc h4.size _).grown hg (by have := h4.size; simp; omega) (fun j hj => (hrc.own.lt j hj).1))
      have hz4 := hrc.bel.size
      have Hrc := Lib.hid hrc
      have hc1 : ∀ {w1 : World} i u, [Value.string (mk (Sto.single p))][i]? = some u → (w1.alloc (.cells #[.string (mk (Sto.single p))] 9)).cell? ((⟨w1.heap.size, 0, none⟩ : Addr).add i) = some u := by
        intro w1 i u hi
        match i, hi with
        | 0, hi => simp at hi; subst hi; simp [Addr.add]
      clear hrc hV hg hp hcc hin hgl
      go_wp2_with (first
        | (go_at_call 118; refine HD.out.mono ?_; rintro e w4 ⟨rfl, hb4⟩; have hown4 := own_below hone hb4; have hz5 := hb4.size)
        | (at_builtin; refine wpList_append_own _ rfl _ _ 55 rfl w2.heap.size 9 i0 (.string ⟨#[]⟩) 1 16 Tryz.underlying55 hi hz0 hz1 hz2 rfl (by decide) _ _ _ rfl (hown4.alloc _) ⟨_, 0, none⟩ 1 1 [.string (mk (Sto.single p))] rfl rfl hc1 ?c2 ?c3 ?c4 ?c5 ?_; (case c2 => (intro u hu; simp at hu; subst hu; rfl)); (case c3 => (unfold maxLen; omega)); (case c4 => omega); (case c5 => (simp; omega)); intro v' w3 hown' hgrow' _; have Hmore := Lib.hid (hmore.out w4 w3 v' hb4 hgrow' hown'); clear hown' hgrow' hown4 hb4))
      go_roundw
      case rel => exact ⟨k + 1, by omega, by go_num, Hmore.out⟩
      case measure => simp [intOf]; omega
    · obtain rfl : k = l.length := by omega
      have hc := hrc.own
      rw [List.take_length] at hc
      have hcl := Cells.ofOwn (F := NewIn w wr) (by have e : (texts (Sto.singles l)).length = l.length := (by simp [texts, Sto.singles]); exact hc) (fun b h1 h2 h3 => ⟨by have := Hs2.out; omega, h3⟩)
      have HC := Lib.hid hcl
      have HB := Lib.hid (HB2.out.trans (hrc.bel.mono (by have := Hs2.out; omega)))
      clear hc hcl hrc
      go_wp2_with fail
      go_ret
      exact ⟨_, rfl, HC.out, HB.out⟩
end Go.Proofs.YtbfjageaheijbaaGreat
/- A disk beside blocks that are not its own (Z), through a call's own worlds. -/
namespace Go.Proofs.YtbfjageaheijbaaGreat
open Go.RowKit Dsk Jnl

/-- Since world w the disk has grown; no block of Z is its own. -/
structure Has (w : World) (F Z : Nat → Prop) (dv : Value) (d : D) (wr : World) : Prop where
  out : ∃ G, AtL wr G dv d ∧ (∀ i, G i → Grow F w wr i) ∧ ∀ i, G i → ¬ Z i
  kept : Kept F w wr
  zlt : ∀ i, Z i → i < wr.heap.size

section
variable {w wr w' : World} {F Z Z' : Nat → Prop} {dv : Value} {d d' : D}

set_option maxRecDepth 100000 in
theorem Has.start (h : AtL w F dv d) (hZ : ∀ i, F i → ¬ Z i) (hz : ∀ i, Z i → i < w.heap.size) : Has w F Z dv d w := ⟨⟨F, h, fun _ hi => Or.inl hi, hZ⟩, Kept.refl _ _, hz⟩

set_option maxRecDepth 100000 in
/-- New blocks may be Z's. -/
theorem Has.more (h : Has w F Z dv d wr) (k : Below wr.heap.size wr w') (hZ : ∀ i, Z' i → Z i ∨ (wr.heap.size ≤ i ∧ i < w'.heap.size)) : Has w F Z' dv d w' := by
  obtain ⟨⟨G, h1, h2, h3⟩, h4, h5⟩ := h
  refine ⟨⟨G, atl_below h1 k, fun i hi => Grow.within (h2 i hi) k.size, fun i hi hz => ?_⟩, h4.trans (Kept.ofBelow k (fun _ => False)) (fun _ _ h => h.elim), fun i hi => ?_⟩
  · rcases hZ i hz with hz | hz
    · exact h3 i hi hz
    · have := h1.2 i hi; omega
  · rcases hZ i hi with hz | hz
    · exact Nat.lt_of_lt_of_le (h5 i hz) k.size
    · exact hz.2

set_option maxRecDepth 100000 in
theorem Has.below (h : Has w F Z dv d wr) (k : Below wr.heap.size wr w') : Has w F Z dv d w' := h.more k (fun _ hi => Or.inl hi)

set_option maxRecDepth 100000 in
theorem Has.less (h : Has w F Z dv d wr) (hZ : ∀ i, Z' i → Z i) : Has w F Z' dv d wr := h.more (Below.refl _ _) (fun i hi => Or.inl (hZ i hi))

set_option maxRecDepth 100000 in
/-- Blocks of Z are written that came to be since w; and new ones. -/
theorem Has.wrote (h : Has w F Z dv d wr) (k : Kept Z wr w') (hZ : ∀ i, Z i → w.heap.size ≤ i) : Has w F Z dv d w' := by
  obtain ⟨⟨G, h1, h2, h3⟩, h4, h5⟩ := h
  exact ⟨⟨G, atl_kept h1 k h3, fun i hi => Grow.within (h2 i hi) k.size, h3⟩, h4.trans k (fun i hi hz => by have := hZ i hz; omega), fun i hi => Nat.lt_of_lt_of_le (h5 i hi) k.size⟩

set_option maxRecDepth 100000 in
/-- Some blocks of Z are written. -/
theorem Has.wroteIn {Y : Nat → Prop} (h : Has w F Z dv d wr) (k : Kept Y wr w') (hY : ∀ i, Y i → Z i ∧ w.heap.size ≤ i) : Has w F Z dv d w' := by
  obtain ⟨⟨G, h1, h2, h3⟩, h4, h5⟩ := h
  exact ⟨⟨G, atl_kept h1 k (fun i hi hy => h3 i hi (hY i hy).1), fun i hi => Grow.within (h2 i hi) k.size, h3⟩, h4.trans k (fun i hi hz => by have := (hY i hz).2; omega), fun i hi => Nat.lt_of_lt_of_le (h5 i hi) k.size⟩

set_option maxRecDepth 100000 in
/-- Blocks of Z are written, and new ones may be Z's. -/
theorem Has.wroteMore (h : Has w F Z dv d wr) (k : Kept Z wr w') (hZ : ∀ i, Z i → w.heap.size ≤ i) (hZ' : ∀ i, Z' i → Z i ∨ (wr.heap.size ≤ i ∧ i < w'.heap.size)) : Has w F Z' dv d w' := by
  obtain ⟨⟨G, h1, h2, h3⟩, h4, h5⟩ := h
  refine ⟨⟨G, atl_kept h1 k h3, fun i hi => Grow.within (h2 i hi) k.size, fun i hi hz => ?_⟩, h4.trans k (fun i hi hz => by have := hZ i hz; omega), fun i hi => ?_⟩
  · rcases hZ' i hz with hz | hz
    · exact h3 i hi hz
    · have := h1.2 i hi; omega
  · rcases hZ' i hi with hz | hz
    · exact Nat.lt_of_lt_of_le (h5 i hz) k.size
    · exact hz.2

set_option maxRecDepth 100000 in
theorem Has.call (h : Has w F Z dv d wr) {fn : Nat} {args : Array Value} {Q : Ending → Prop} (hc : ∀ G, AtL wr G dv d → Calls Tryz.prog fn args wr fun e w' => Q e ∧ Doing AtL wr G dv d' w') :
    Calls Tryz.prog fn args wr fun e w' => Q e ∧ Has w F Z dv d' w' ∧ ∀ i, Z i → w'.heap[i]? = wr.heap[i]? := by
  obtain ⟨⟨G, h1, h2, h3⟩, h4, h5⟩ := h
  refine (hc G h1).mono ?_
  rintro e w' ⟨hq, k1, k2⟩
  refine ⟨hq, ⟨⟨Grow G wr w', k1, fun i hi => ?_, fun i hi hz => ?_⟩, h4.trans k2 (fun i hi hg => ?_), fun i hi => Nat.lt_of_lt_of_le (h5 i hi) k2.size⟩, fun i hi => k2.block i (h5 i hi) (fun hg => h3 i hg hi)⟩
  · rcases hi with hi | hi
    · exact Grow.within (h2 i hi) k2.size
    · exact Or.inr ⟨by have := h4.size; omega, hi.2⟩
  · rcases hi with hi | hi
    · exact h3 i hi hz
    · have := h5 i hz; omega
  · rcases h2 i hg with hg | hg
    · exact hg
    · omega

set_option maxRecDepth 100000 in
/-- What only looks at it. -/
theorem Has.look (h : Has w F Z dv d wr) {fn : Nat} {args : Array Value} {R : Ending → World → Prop} (hc : ∀ G, AtL wr G dv d → Calls Tryz.prog fn args wr R) : Calls Tryz.prog fn args wr R := by
  obtain ⟨⟨G, h1, -, -⟩, -, -⟩ := h
  exact hc G h1

set_option maxRecDepth 100000 in
theorem Has.doing (h : Has w F Z dv d wr) (hF : ∀ i, F i → i < w.heap.size) : Doing AtL w F dv d wr := by
  obtain ⟨⟨G, h1, h2, h3⟩, h4, h5⟩ := h
  exact ⟨atl_mono h1 h2 (fun i hi => Grow.lt hi hF h4.size), h4⟩

set_option maxRecDepth 100000 in
theorem Has.read {N n k : Nat} (h : Has w F Z dv d wr) (hf : d.Fine N) (hN : N ≤ 100000) (hn : d.S.length = n) (hk : k < n) (hd : d.down = false) :
    Calls Tryz.prog 76 #[dv, .int .i64 (k : Int)] wr fun e w' => e = .returned (.tuple #[.string (Jnl.now d k), .int .i64 0]) ∧ Has w F Z dv d w' ∧ ∀ i, Z i → w'.heap[i]? = wr.heap[i]? := by
  have hr : d.read (k : Int) = (Jnl.now d k, 0) := by
    unfold D.read
    rw [if_neg (by rw [hd]; simp), if_neg (by omega), Int.toNat_natCast]; rfl
  have hlen := hf.len
  refine h.call (Q := fun e => e = .returned (.tuple #[.string (Jnl.now d k), .int .i64 0])) (fun G hG => ?_)
  have := atl_read hG hf hN (k : Int) (by omega) (by omega)
  rw [hr] at this
  exact this
end

set_option maxRecDepth 100000 in
theorem own_same {w w' : World} {base t size n : Nat} {v : Value} {xs : List Value} (h : w.ownsRow base t size v n xs) (k : ∀ i, v.ownBlock = some i → w'.heap[i]? = w.heap[i]?) : w'.ownsRow base t size v n xs := by
  refine ⟨h.1, ?_⟩
  rcases h.2 with h2 | ⟨g, cap, cur, hv, hb, hg, r⟩
  · exact Or.inl h2
  · exact Or.inr ⟨g, cap, cur, hv, hb, (k g (by rw [hv]; rfl)).trans hg, r⟩

set_option maxRecDepth 100000 in
theorem row_same {w w' : World} {b : Nat} {t : TypeId} {cs : Array Value} {Z : Nat → Prop} (h : Row w b t cs) (k : ∀ i, Z i → w'.heap[i]? = w.heap[i]?) (hz : Z b) : Row w' b t cs := (k b hz).trans h
end Go.Proofs.YtbfjageaheijbaaGreat
