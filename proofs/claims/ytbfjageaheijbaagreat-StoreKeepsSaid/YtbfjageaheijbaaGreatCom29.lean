/- The landed store's values: one is added. -/
import Derived.Test.YtbfjageaheijbaaGreatCom18
import Derived.Test.YtbfjageaheijbaaGreatCom28
set_option linter.unusedSimpArgs false
set_option linter.unusedVariables false
namespace Go.Proofs.YtbfjageaheijbaaGreat
open Go.RowKit

set_option maxRecDepth 100000 in
theorem size_one {w : World} {g : Nat} {T : List UInt8} (h : Row w g 9 #[.string (mk T)]) (hT : T.length ≤ 60000) :
    Calls Tryz.prog 91 #[.slice (some ⟨g, 0, none⟩) 1 1] w fun e w' => e = .returned (.int .i64 ((Frm.one T).length : Int)) ∧ Below w.heap.size w w' := by
  have hc : Cells w (fun _ => True) (.slice (some ⟨g, 0, none⟩) 1 1) (texts [T]) := by
    refine ⟨_, _, rfl, Nat.le_refl _, fun _ => ⟨g, 0, rfl, trivial, h.inHeap, fun i u hu => ?_⟩⟩
    rw [h.at, Nat.zero_add]
    match i, hu with
    | 0, hu => simpa [texts] using hu
  have h1 := Frm.one_len T
  have h3 := Leb.enc_len T.length
  have e : Frm.all [T] = Frm.one T := by simp [Frm.all]
  refine (size_any hc (by simp) (fun t ht => by rw [List.mem_singleton.1 ht]; omega)).mono ?_
  rintro e' w' ⟨rfl, hb⟩
  rw [e, if_pos (by omega)]
  exact ⟨rfl, hb⟩

section
variable {w w' : World} {b bm : Nat} {l : List Sto.Pr} {G : Nat → Prop}

set_option maxRecDepth 100000 in
set_option maxHeartbeats 6400000 in
theorem sto_add (h : ValsAt w b bm l) (hf : Sto.Fit l) (hn : l.length ≤ 100000000) {K v : List UInt8} (hm : Sto.May ⟨K, v, false⟩) (hg : Sto.get l K = none) :
    Calls Tryz.prog 63 #[.pointer (some ⟨b, 0, none⟩), chA ⟨K, v, false⟩] w fun e w' => e = .returned (.tuple #[]) ∧ ValsAt w' b bm (Sto.put l K v) ∧ Kept (fun i => i = b ∨ i = bm) w w' := by
  have hp := put_perm l K v
  rw [drop_none hg] at hp
  have hb1 := bytes_perm hp
  have hw1 := whole_perm hp
  rw [bytes_cons] at hb1
  rw [whole_cons] at hw1
  have hb2 := Sto.bytes_le hf
  have hw2 := whole_cap hf
  have hlo := laid_le (p := (K, v)) ⟨hm.1, hm.2.1, hm.2.2.1⟩
  obtain ⟨hbl, hml⟩ := h.lt
  have hne := h.ne
  have hK : K.length ≤ 32 := hm.2.1
  have hv : v.length ≤ 4096 := hm.2.2.1
  have e1 : IntKind.i64.wrap (((mk K).size : Int) + ((mk v).size : Int)) = ((K.length + v.length : Nat) : Int) := by rw [mk_len, mk_len, IntWalk.i64_in _ ⟨by omega, by omega⟩]; push_cast; rfl
  have e2 : IntKind.i64.wrap ((Sto.bytes l : Int) + ((K.length + v.length : Nat) : Int)) = (Sto.bytes (Sto.put l K v) : Int) := by rw [IntWalk.i64_in _ ⟨by omega, by omega⟩]; omega
  have e3 : IntKind.i64.wrap ((Sto.whole l : Int) + (laidOf (K, v) : Int)) = (Sto.whole (Sto.put l K v) : Int) := by rw [IntWalk.i64_in _ ⟨by omega, by omega⟩]; omega
  have HAl := Lib.hid (sto_alone ⟨K, v, false⟩ hm)
  have HC1 := Lib.hid (fun W => clone_any (mk K) W (by rw [mk_len]; omega))
  have HC2 := Lib.hid (fun W => clone_any (mk v) W (by rw [mk_len]; omega))
  have HSz := Lib.hid (fun (W : World) (g : Nat) (hr : Row W g 9 #[.string (mk (Sto.enc1 ⟨K, v, false⟩))]) => size_one hr (by have := Sto.enc1_len hm; omega))
  have HV0 := Lib.hid (fun (W : World) (hb : Below w.heap.size w W) => h.below hb hbl hml)
  have HPut := Lib.hid (fun (W : World) (hM : MapAt W bm l) => hM.put (by omega) (str_key (K := K) (by omega)) v)
  have hL : (laidOf (K, v) : Int) = ((Frm.one (Sto.enc1 ⟨K, v, false⟩)).length : Int) := rfl
  have hfin : Hid (∀ W, Row W b 76 #[.map (some bm), .int .i64 (Sto.bytes (Sto.put l K v) : Int), .int .i64 (Sto.whole (Sto.put l K v) : Int)] → MapAt W bm (Sto.put l K v) → Kept (fun i => i = b ∨ i = bm) w W → ValsAt W b bm (Sto.put l K v) ∧ Kept (fun i => i = b ∨ i = bm) w W) := Lib.hid (fun W h1 h2 h3 => ⟨⟨h1, h2⟩, h3⟩)
  unfold chA at HAl ⊢
  rw [← hL] at HSz
  unfold elemV at HPut
  simp only [mk_data] at HPut
  clear h hf hn hm hg hp hb1 hw1 hb2 hw2 hlo hK hv hL
  have hV1 : ∀ (W : World), Below w.heap.size w W → Row W b 76 #[.map (some bm), .int .i64 (Sto.bytes l : Int), .int .i64 (Sto.whole l : Int)] ∧ MapAt W bm l := fun W hb => ⟨(HV0.out W hb).row, (HV0.out W hb).map⟩
  have HV := Lib.hid hV1
  clear hV1 HV0
  generalize ((K.length + v.length : Nat) : Int) = A at *
  generalize (Sto.bytes l : Int) = B at *
  generalize (Sto.whole l : Int) = C at *
  generalize (Sto.bytes (Sto.put l K v) : Int) = B' at *
  generalize (Sto.whole (Sto.put l K v) : Int) = C' at *
  generalize (laidOf (K, v) : Int) = L at *
  generalize mk (Sto.enc1 ⟨K, v, false⟩) = T at *
  go_enter Tryz.func63, Tryz.ntmps63
  go_wp2_with fail
  have hbox := Row.made w 52 #[.string (mk K), .string (mk v), .bool false]
  have hb0 : Below w.heap.size w (w.alloc (.cells #[.string (mk K), .string (mk v), .bool false] 52)) := (Below.refl _ _).alloc (Nat.le_refl _) _
  have hz0 : (w.alloc (.cells #[.string (mk K), .string (mk v), .bool false] 52)).heap.size = w.heap.size + 1 := by simp
  generalize w.alloc (.cells #[.string (mk K), .string (mk v), .bool false] 52) = W0 at *
  have Hbox := Lib.hid hbox
  have Hb0 := Lib.hid hb0
  clear hbox hb0
  rename_i KK hKK
  have tail : ∀ (g q : Nat) (wS : World), W0.heap.size ≤ q → Below W0.heap.size W0 wS → Row wS q 110 #[.string (mk v), .int .i64 L] → KK ⟨#[.pointer (some ⟨b, 0, none⟩), .agg #[.string (mk K), .string (mk v), .bool false], undef, .pointer (some ⟨w.heap.size, 0, none⟩), .string (mk K), .pointer (some ⟨q, 0, none⟩), .pointer (some ⟨w.heap.size, 0, none⟩), .string (mk K), .string (mk K), .pointer (some ⟨w.heap.size, 1, none⟩), .string (mk v), .string (mk v), .agg #[.string (mk K), .string (mk v), .bool false], .string T, .slice (some ⟨g, 0, none⟩) 1 1, .int .i64 L, .agg #[.string (mk v), .int .i64 L], undef, undef, undef, undef, undef, undef, undef, undef, undef, undef, undef, undef, undef, undef, undef, undef, undef, undef, undef, undef, undef, undef, undef, undef, undef, undef, undef, undef], []⟩ wS := by
    intro g q wS hqs hHeld hrow
    refine hKK _ _ ?_
    have HS := Lib.hid hHeld
    have HX := Lib.hid hrow
    have Hqs := Lib.hid hqs
    clear hHeld hrow
    go_wp2_with fail
    have hbs := Hb0.out.trans (HS.out.mono Hb0.out.size)
    obtain ⟨hr0, hm0⟩ := HV.out wS hbs
    have HK0 := Lib.hid (Kept.ofBelow (F := fun i => i = b ∨ i = bm) hbs)
    have HR := Lib.hid hr0
    have HM := Lib.hid hm0
    have hqb : q ≠ b := by have := Hqs.out; omega
    have hqm : q ≠ bm := by have := Hqs.out; omega
    clear hbs hr0 hm0
    refine wp_region_held_drew (S := (fun w' : World => Row w' b 76 #[.map (some bm), .int .i64 B, .int .i64 C] ∧ Row w' q 110 #[.string (mk v), .int .i64 L])) (by kernel_rfl) (⟨HR.out, HX.out⟩) (fun hHeld => ?_)
    refine wpAnyH_take (i := 0) (v := ?_) rfl (by kernel_rfl) (by kernel_rfl) (by kernel_rfl) (fun _ _ _ h => h) (Or.inl ⟨by rfl, (by intro w hSw; go_simp; try with_reducible rfl)⟩) (by assumption) ?_
    simp only [Act.put, List.getElem_toArray, List.getElem_cons_zero, List.getElem_cons_succ, List.setIfInBounds_toArray, List.set_cons_zero, List.set_cons_succ]
    refine wpAnyH_take (i := 1) (v := ?_) rfl (by kernel_rfl) (by kernel_rfl) (by kernel_rfl) (fun _ _ _ h => h) (Or.inl ⟨by rfl, (by intro w hSw; go_simp; try with_reducible rfl)⟩) (by assumption) ?_
    simp only [Act.put, List.getElem_toArray, List.getElem_cons_zero, List.getElem_cons_succ, List.setIfInBounds_toArray, List.set_cons_zero, List.set_cons_succ]
    refine wpAnyH_take (i := 2) (v := ?_) rfl (by kernel_rfl) (by kernel_rfl) (by kernel_rfl) (fun _ _ _ h => h) (Or.inl ⟨by rfl, (by intro w hSw; go_simp; try with_reducible rfl)⟩) (by assumption) ?_
    simp only [Act.put, List.getElem_toArray, List.getElem_cons_zero, List.getElem_cons_succ, List.setIfInBounds_toArray, List.set_cons_zero, List.set_cons_succ]
    refine wpAnyH_take (i := 3) (v := ?_) rfl (by kernel_rfl) (by kernel_rfl) (by kernel_rfl) (fun _ _ _ h => h) (Or.inl ⟨by rfl, (by intro w hSw; have c0 := hSw.1.at 0; go_simp; try with_reducible rfl)⟩) (by assumption) ?_
    simp only [Act.put, List.getElem_toArray, List.getElem_cons_zero, List.getElem_cons_succ, List.setIfInBounds_toArray, List.set_cons_zero, List.set_cons_succ]
    refine wpAnyH_take (i := 4) (v := ?_) rfl (by kernel_rfl) (by kernel_rfl) (by kernel_rfl) (fun _ _ _ h => h) (Or.inl ⟨by rfl, (by intro w hSw; go_simp; try with_reducible rfl)⟩) (by assumption) ?_
    simp only [Act.put, List.getElem_toArray, List.getElem_cons_zero, List.getElem_cons_succ, List.setIfInBounds_toArray, List.set_cons_zero, List.set_cons_succ]
    refine wpAnyH_take (i := 5) (v := ?_) rfl (by kernel_rfl) (by kernel_rfl) (by kernel_rfl) (fun _ _ _ h => h) (Or.inl ⟨by rfl, (by intro w hSw; have d0 := hSw.2.at 0; have d1 := hSw.2.at 1; go_simp; try with_reducible rfl)⟩) (by assumption) ?_
    simp only [Act.put, List.getElem_toArray, List.getElem_cons_zero, List.getElem_cons_succ, List.setIfInBounds_toArray, List.set_cons_zero, List.set_cons_succ]
    refine wpAnyH_ready (rs := [6]) (by kernel_rfl) (by simp) ?_
    refine AllReadyH.cons rfl (fun K hK => ?_) AllReadyH.nil
    obtain ⟨w6, hup, hm6, hg6⟩ := HPut.out wS.drew HM.out
    have hr6 := Row.grown (Row.behindDraw HR.out) hg6 (by intro e; injection e with e; exact hne e.symm)
    have hx6 := Row.grown (Row.behindDraw HX.out) hg6 (by intro e; injection e with e; exact hqm e.symm)
    have HK6 := Lib.hid (HK0.out.drew.trans (Kept.ofGrown (F := fun i => i = b ∨ i = bm) hg6 (fun i e => by injection e with e; exact Or.inr e.symm)) (fun _ _ h => h))
    have HM6 := Lib.hid hm6
    have HR6 := Lib.hid hr6
    have HX6 := Lib.hid hx6
    clear hm6 hg6
    go_simp
    refine hK.out _ _ ⟨hr6, hx6⟩ (fun hHeld => ?_)
    clear hr6 hx6
    clear hK K
    refine wpAnyH_done (by kernel_rfl) ?_ _
    clear hHeld
    go_wp2_with fail
    refine wp_region_tail (n := 11) (S := (fun w' : World => Row w' b 76 #[.map (some bm), .int .i64 B, .int .i64 C] ∧ Row w' q 110 #[.string (mk v), .int .i64 L])) (by kernel_rfl) (by kernel_rfl) (by rfl) (⟨HR6.out, HX6.out⟩) (fun hHeld => ?_)
    refine wpAnyH_take (i := 0) (v := ?_) rfl (by kernel_rfl) (by kernel_rfl) (by kernel_rfl) (fun _ _ _ h => h) (Or.inl ⟨by rfl, (by intro w hSw; go_simp; try with_reducible rfl)⟩) (by assumption) ?_
    simp only [Act.put, List.getElem_toArray, List.getElem_cons_zero, List.getElem_cons_succ, List.setIfInBounds_toArray, List.set_cons_zero, List.set_cons_succ]
    refine wpAnyH_take (i := 1) (v := ?_) rfl (by kernel_rfl) (by kernel_rfl) (by kernel_rfl) (fun _ _ _ h => h) (Or.inl ⟨by rfl, (by intro w hSw; go_simp; try with_reducible rfl)⟩) (by assumption) ?_
    simp only [Act.put, List.getElem_toArray, List.getElem_cons_zero, List.getElem_cons_succ, List.setIfInBounds_toArray, List.set_cons_zero, List.set_cons_succ]
    refine wpAnyH_take (i := 2) (v := ?_) rfl (by kernel_rfl) (by kernel_rfl) (by kernel_rfl) (fun _ _ _ h => h) (Or.inl ⟨by rfl, (by intro w hSw; go_simp; try with_reducible rfl)⟩) (by assumption) ?_
    simp only [Act.put, List.getElem_toArray, List.getElem_cons_zero, List.getElem_cons_succ, List.setIfInBounds_toArray, List.set_cons_zero, List.set_cons_succ]
    refine wpAnyH_take (i := 3) (v := ?_) rfl (by kernel_rfl) (by kernel_rfl) (by kernel_rfl) (fun _ _ _ h => h) (Or.inl ⟨by rfl, (by intro w hSw; have c1 := hSw.1.at 1; go_simp; try with_reducible rfl)⟩) (by assumption) ?_
    simp only [Act.put, List.getElem_toArray, List.getElem_cons_zero, List.getElem_cons_succ, List.setIfInBounds_toArray, List.set_cons_zero, List.set_cons_succ]
    refine wpAnyH_take (i := 4) (v := ?_) rfl (by kernel_rfl) (by kernel_rfl) (by kernel_rfl) (fun _ _ _ h => h) (Or.inl ⟨by rfl, (by intro w hSw; go_simp; try with_reducible rfl)⟩) (by assumption) ?_
    simp only [Act.put, List.getElem_toArray, List.getElem_cons_zero, List.getElem_cons_succ, List.setIfInBounds_toArray, List.set_cons_zero, List.set_cons_succ]
    refine wpAnyH_take (i := 5) (v := ?_) rfl (by kernel_rfl) (by kernel_rfl) (by kernel_rfl) (fun _ _ _ h => h) (Or.inl ⟨by rfl, (by intro w hSw; go_simp; try with_reducible rfl)⟩) (by assumption) ?_
    simp only [Act.put, List.getElem_toArray, List.getElem_cons_zero, List.getElem_cons_succ, List.setIfInBounds_toArray, List.set_cons_zero, List.set_cons_succ]
    refine wpAnyH_take (i := 6) (v := ?_) rfl (by kernel_rfl) (by kernel_rfl) (by kernel_rfl) (fun _ _ _ h => h) (Or.inl ⟨by rfl, (by intro w hSw; go_simp; try with_reducible rfl)⟩) (by assumption) ?_
    simp only [Act.put, List.getElem_toArray, List.getElem_cons_zero, List.getElem_cons_succ, List.setIfInBounds_toArray, List.set_cons_zero, List.set_cons_succ]
    refine wpAnyH_take (i := 7) (v := ?_) rfl (by kernel_rfl) (by kernel_rfl) (by kernel_rfl) (fun _ _ _ h => h) (Or.inl ⟨by rfl, (by intro w hSw; have c0 := hSw.2.at 0; go_simp; try with_reducible rfl)⟩) (by assumption) ?_
    simp only [Act.put, List.getElem_toArray, List.getElem_cons_zero, List.getElem_cons_succ, List.setIfInBounds_toArray, List.set_cons_zero, List.set_cons_succ]
    refine wpAnyH_take (i := 8) (v := ?_) rfl (by kernel_rfl) (by kernel_rfl) (by kernel_rfl) (fun _ _ _ h => h) (Or.inl ⟨by rfl, (by intro w hSw; go_simp; try with_reducible rfl)⟩) (by assumption) ?_
    simp only [Act.put, List.getElem_toArray, List.getElem_cons_zero, List.getElem_cons_succ, List.setIfInBounds_toArray, List.set_cons_zero, List.set_cons_succ]
    refine wpAnyH_take (i := 9) (v := ?_) rfl (by kernel_rfl) (by kernel_rfl) (by kernel_rfl) (fun _ _ _ h => h) (Or.inl ⟨by rfl, (by intro w hSw; go_simp; try with_reducible rfl)⟩) (by assumption) ?_
    simp only [Act.put, List.getElem_toArray, List.getElem_cons_zero, List.getElem_cons_succ, List.setIfInBounds_toArray, List.set_cons_zero, List.set_cons_succ]
    refine wpAnyH_take (i := 10) (v := ?_) rfl (by kernel_rfl) (by kernel_rfl) (by kernel_rfl) (fun _ _ _ h => h) (Or.inl ⟨by rfl, (by intro w hSw; go_simp; try with_reducible rfl)⟩) (by assumption) ?_
    simp only [Act.put, List.getElem_toArray, List.getElem_cons_zero, List.getElem_cons_succ, List.setIfInBounds_toArray, List.set_cons_zero, List.set_cons_succ]
    refine wpAnyH_done (by kernel_rfl) ?_ _
    refine wpAny_of_held (S := fun _ => True) _ _ _ _ ?_
    have hHeld : True := trivial
    refine wpAnyH_take (i := 11) (v := ?_) rfl (by kernel_rfl) (by kernel_rfl) (by kernel_rfl) (fun _ _ _ h => h) (Or.inl ⟨by rfl, (by intro w hSw; go_simp; try with_reducible rfl)⟩) (by assumption) ?_
    simp only [Act.put, List.getElem_toArray, List.getElem_cons_zero, List.getElem_cons_succ, List.setIfInBounds_toArray, List.set_cons_zero, List.set_cons_succ]
    refine wpAnyH_take (i := 12) (v := ?_) rfl (by kernel_rfl) (by kernel_rfl) (by kernel_rfl) (fun _ _ _ h => h) (Or.inl ⟨by rfl, (by intro w hSw; go_simp; try with_reducible rfl)⟩) (by assumption) ?_
    simp only [Act.put, List.getElem_toArray, List.getElem_cons_zero, List.getElem_cons_succ, List.setIfInBounds_toArray, List.set_cons_zero, List.set_cons_succ]
    refine wpAnyH_ready (rs := [13]) (by kernel_rfl) (by simp) ?_
    refine AllReadyH.cons rfl (fun K hK => ?_) AllReadyH.nil
    have q1 : w6.cell? ⟨b, 1, none⟩ = some (.int .i64 B) := HR6.out.at 1
    have f1 := HR6.out.free 1
    go_simp
    refine hK.out _ _ trivial (fun hHeld => ?_)
    clear q1 f1
    clear hK K
    refine wpAnyH_done (by kernel_rfl) ?_ _
    have HX7 := Lib.hid (HX6.out.storedElsewhere (p := ⟨b, 1, none⟩) (by show b ≠ q; omega) (.int .i64 B'))
    have HR7 := Lib.hid (HR6.out.stored 1 (.int .i64 B'))
    have HM7 := Lib.hid (HM6.out.kept (Kept.ofGrown (F := fun i => i = b) (gb_store (gb_refl w6 (some b)) 1 (.int .i64 B')) (fun i e => by injection e with e; exact e.symm)) (fun e => hne e.symm))
    have HK7 := Lib.hid (HK6.out.stored (p := ⟨b, 1, none⟩) (Or.inl (Or.inl rfl)) (.int .i64 B'))
    go_wp2_with fail
    refine wp_region_tail (n := 7) (S := (fun w' : World => Row w' b 76 #[.map (some bm), .int .i64 B', .int .i64 C] ∧ Row w' q 110 #[.string (mk v), .int .i64 L])) (by kernel_rfl) (by kernel_rfl) (by rfl) (⟨HR7.out, HX7.out⟩) (fun hHeld => ?_)
    refine wpAnyH_take (i := 0) (v := ?_) rfl (by kernel_rfl) (by kernel_rfl) (by kernel_rfl) (fun _ _ _ h => h) (Or.inl ⟨by rfl, (by intro w hSw; go_simp; try with_reducible rfl)⟩) (by assumption) ?_
    simp only [Act.put, List.getElem_toArray, List.getElem_cons_zero, List.getElem_cons_succ, List.setIfInBounds_toArray, List.set_cons_zero, List.set_cons_succ]
    refine wpAnyH_take (i := 1) (v := ?_) rfl (by kernel_rfl) (by kernel_rfl) (by kernel_rfl) (fun _ _ _ h => h) (Or.inl ⟨by rfl, (by intro w hSw; go_simp; try with_reducible rfl)⟩) (by assumption) ?_
    simp only [Act.put, List.getElem_toArray, List.getElem_cons_zero, List.getElem_cons_succ, List.setIfInBounds_toArray, List.set_cons_zero, List.set_cons_succ]
    refine wpAnyH_take (i := 2) (v := ?_) rfl (by kernel_rfl) (by kernel_rfl) (by kernel_rfl) (fun _ _ _ h => h) (Or.inl ⟨by rfl, (by intro w hSw; go_simp; try with_reducible rfl)⟩) (by assumption) ?_
    simp only [Act.put, List.getElem_toArray, List.getElem_cons_zero, List.getElem_cons_succ, List.setIfInBounds_toArray, List.set_cons_zero, List.set_cons_succ]
    refine wpAnyH_take (i := 3) (v := ?_) rfl (by kernel_rfl) (by kernel_rfl) (by kernel_rfl) (fun _ _ _ h => h) (Or.inl ⟨by rfl, (by intro w hSw; have c2 := hSw.1.at 2; go_simp; try with_reducible rfl)⟩) (by assumption) ?_
    simp only [Act.put, List.getElem_toArray, List.getElem_cons_zero, List.getElem_cons_succ, List.setIfInBounds_toArray, List.set_cons_zero, List.set_cons_succ]
    refine wpAnyH_take (i := 4) (v := ?_) rfl (by kernel_rfl) (by kernel_rfl) (by kernel_rfl) (fun _ _ _ h => h) (Or.inl ⟨by rfl, (by intro w hSw; go_simp; try with_reducible rfl)⟩) (by assumption) ?_
    simp only [Act.put, List.getElem_toArray, List.getElem_cons_zero, List.getElem_cons_succ, List.setIfInBounds_toArray, List.set_cons_zero, List.set_cons_succ]
    refine wpAnyH_take (i := 5) (v := ?_) rfl (by kernel_rfl) (by kernel_rfl) (by kernel_rfl) (fun _ _ _ h => h) (Or.inl ⟨by rfl, (by intro w hSw; have c1 := hSw.2.at 1; go_simp; try with_reducible rfl)⟩) (by assumption) ?_
    simp only [Act.put, List.getElem_toArray, List.getElem_cons_zero, List.getElem_cons_succ, List.setIfInBounds_toArray, List.set_cons_zero, List.set_cons_succ]
    refine wpAnyH_take (i := 6) (v := ?_) rfl (by kernel_rfl) (by kernel_rfl) (by kernel_rfl) (fun _ _ _ h => h) (Or.inl ⟨by rfl, (by intro w hSw; go_simp; try with_reducible rfl)⟩) (by assumption) ?_
    simp only [Act.put, List.getElem_toArray, List.getElem_cons_zero, List.getElem_cons_succ, List.setIfInBounds_toArray, List.set_cons_zero, List.set_cons_succ]
    refine wpAnyH_done (by kernel_rfl) ?_ _
    refine wpAny_of_held (S := fun _ => True) _ _ _ _ ?_
    have hHeld : True := trivial
    refine wpAnyH_take (i := 7) (v := ?_) rfl (by kernel_rfl) (by kernel_rfl) (by kernel_rfl) (fun _ _ _ h => h) (Or.inl ⟨by rfl, (by intro w hSw; go_simp; try with_reducible rfl)⟩) (by assumption) ?_
    simp only [Act.put, List.getElem_toArray, List.getElem_cons_zero, List.getElem_cons_succ, List.setIfInBounds_toArray, List.set_cons_zero, List.set_cons_succ]
    refine wpAnyH_take (i := 8) (v := ?_) rfl (by kernel_rfl) (by kernel_rfl) (by kernel_rfl) (fun _ _ _ h => h) (Or.inl ⟨by rfl, (by intro w hSw; go_simp; try with_reducible rfl)⟩) (by assumption) ?_
    simp only [Act.put, List.getElem_toArray, List.getElem_cons_zero, List.getElem_cons_succ, List.setIfInBounds_toArray, List.set_cons_zero, List.set_cons_succ]
    refine wpAnyH_ready (rs := [9]) (by kernel_rfl) (by simp) ?_
    refine AllReadyH.cons rfl (fun K hK => ?_) AllReadyH.nil
    have q2 : (w6.setCell ⟨b, 1, none⟩ (.int .i64 B')).cell? ⟨b, 2, none⟩ = some (.int .i64 C) := HR7.out.at 2
    have f2 := HR7.out.free 2
    go_simp
    refine hK.out _ _ trivial (fun hHeld => ?_)
    clear q2 f2
    clear hK K
    refine wpAnyH_done (by kernel_rfl) ?_ _
    have HR8 := Lib.hid (HR7.out.stored 2 (.int .i64 C'))
    have HM8 := Lib.hid (HM7.out.kept (Kept.ofGrown (F := fun i => i = b) (gb_store (gb_refl (w6.setCell ⟨b, 1, none⟩ (.int .i64 B')) (some b)) 2 (.int .i64 C')) (fun i e => by injection e with e; exact e.symm)) (fun e => hne e.symm))
    have HK8 := Lib.hid (HK7.out.stored (p := ⟨b, 2, none⟩) (Or.inl (Or.inl rfl)) (.int .i64 C'))
    go_wp2_with fail
    exact Go.Great.bodyPost_end0 rfl rfl ⟨rfl, hfin.out _ HR8.out HM8.out HK8.out.drew.drew⟩
  clear hKK
  refine wp_region_held_drew (S := (Below W0.heap.size W0)) (by kernel_rfl) (Below.drew (Below.refl _ _)) (fun hHeld => ?_)
  generalize W0.drew = W1 at *
  refine wpAnyH_take (i := 0) (v := ?_) rfl (by kernel_rfl) (by kernel_rfl) (by kernel_rfl) (fun _ _ _ h => h) (Or.inl ⟨by rfl, (by intro w hSw; go_simp; try with_reducible rfl)⟩) (by assumption) ?_
  simp only [Act.put, List.getElem_toArray, List.getElem_cons_zero, List.getElem_cons_succ, List.setIfInBounds_toArray, List.set_cons_zero, List.set_cons_succ]
  refine wpAnyH_take (i := 1) (v := ?_) rfl (by kernel_rfl) (by kernel_rfl) (by kernel_rfl) (fun _ _ _ h => h) (Or.inl ⟨by rfl, (by intro w hSw; have cb := Row.below Hbox.out hSw Hbox.out.inHeap; have c0 := cb.at 0; have c1 := cb.at 1; have c2 := cb.at 2; go_simp; try with_reducible rfl)⟩) (by assumption) ?_
  simp only [Act.put, List.getElem_toArray, List.getElem_cons_zero, List.getElem_cons_succ, List.setIfInBounds_toArray, List.set_cons_zero, List.set_cons_succ]
  refine wpAnyH_take (i := 3) (v := ?_) rfl (by kernel_rfl) (by kernel_rfl) (by kernel_rfl) (fun _ _ _ h => h) (Or.inl ⟨by rfl, (by intro w hSw; go_simp; try with_reducible rfl)⟩) (by assumption) ?_
  simp only [Act.put, List.getElem_toArray, List.getElem_cons_zero, List.getElem_cons_succ, List.setIfInBounds_toArray, List.set_cons_zero, List.set_cons_succ]
  refine wpAnyH_take (i := 4) (v := ?_) rfl (by kernel_rfl) (by kernel_rfl) (by kernel_rfl) (fun _ _ _ h => h) (Or.inl ⟨by rfl, (by intro w hSw; have cb := Row.below Hbox.out hSw Hbox.out.inHeap; have c0 := cb.at 0; have c1 := cb.at 1; have c2 := cb.at 2; go_simp; try with_reducible rfl)⟩) (by assumption) ?_
  simp only [Act.put, List.getElem_toArray, List.getElem_cons_zero, List.getElem_cons_succ, List.setIfInBounds_toArray, List.set_cons_zero, List.set_cons_succ]
  refine wpAnyH_take (i := 6) (v := ?_) rfl (by kernel_rfl) (by kernel_rfl) (by kernel_rfl) (fun _ _ _ h => h) (Or.inl ⟨by rfl, (by intro w hSw; have cb := Row.below Hbox.out hSw Hbox.out.inHeap; have c0 := cb.at 0; have c1 := cb.at 1; have c2 := cb.at 2; go_simp; try with_reducible rfl)⟩) (by assumption) ?_
  simp only [Act.put, List.getElem_toArray, List.getElem_cons_zero, List.getElem_cons_succ, List.setIfInBounds_toArray, List.set_cons_zero, List.set_cons_succ]
  refine wpAnyH_ready (rs := [2, 11]) (by kernel_rfl) (by simp) ?_
  refine (AllReadyH.cons rfl (fun K hK => ?_) (AllReadyH.cons rfl (fun K hK => ?_) AllReadyH.nil))
  · go_simp
    go_at_call 90
    refine (HC1.out _).mono ?_
    rintro e w2 ⟨rfl, hb⟩
    have hS := hHeld.trans (hb.mono hHeld.size)
    refine hK.out _ _ hS (fun hHeld => ?_)
    clear hS hb
    clear hK K
    refine wpAnyH_ready (rs := [5, 11]) (by kernel_rfl) (by simp) ?_
    refine (AllReadyH.cons rfl (fun K hK => ?_) (AllReadyH.cons rfl (fun K hK => ?_) AllReadyH.nil))
    · go_simp
      go_at_call 90
      refine (HC2.out _).mono ?_
      rintro e w5 ⟨rfl, hb⟩
      have hS := hHeld.trans (hb.mono hHeld.size)
      refine hK.out _ _ hS (fun hHeld => ?_)
      clear hS hb
      clear hK K
      refine wpAnyH_ready (rs := [7, 11]) (by kernel_rfl) (by simp) ?_
      refine (AllReadyH.cons rfl (fun K hK => ?_) (AllReadyH.cons rfl (fun K hK => ?_) AllReadyH.nil))
      · go_simp
        go_at_call 92
        refine (HAl.out _).mono ?_
        rintro e w7 ⟨rfl, hb⟩
        have hS := hHeld.trans (hb.mono hHeld.size)
        refine hK.out _ _ hS (fun hHeld => ?_)
        clear hS hb
        clear hK K
        refine wpAnyH_ready (rs := [8, 11]) (by kernel_rfl) (by simp) ?_
        refine (AllReadyH.cons rfl (fun K hK => ?_) (AllReadyH.cons rfl (fun K hK => ?_) AllReadyH.nil))
        · go_simp
          have hsl := Row.made w7 9 #[.string T]
          have hS := hHeld.alloc hHeld.size (.cells #[.string T] 9)
          refine hK.out _ _ hS (fun hHeld => ?_)
          clear hS
          generalize w7.alloc (.cells #[.string T] 9) = w8 at *
          clear hK K
          refine wpAnyH_ready (rs := [9, 11]) (by kernel_rfl) (by simp) ?_
          refine (AllReadyH.cons rfl (fun K hK => ?_) (AllReadyH.cons rfl (fun K hK => ?_) AllReadyH.nil))
          · go_simp
            go_at_call 91
            refine (HSz.out _ _ hsl).mono ?_
            rintro e w9 ⟨rfl, hb⟩
            have hS := hHeld.trans (hb.mono hHeld.size)
            refine hK.out _ _ hS (fun hHeld => ?_)
            clear hS hb
            clear hK K
            refine wpAnyH_take (i := 10) (v := ?_) rfl (by kernel_rfl) (by kernel_rfl) (by kernel_rfl) (fun _ _ _ h => h) (Or.inl ⟨by rfl, (by intro w hSw; go_simp; try with_reducible rfl)⟩) (by assumption) ?_
            simp only [Act.put, List.getElem_toArray, List.getElem_cons_zero, List.getElem_cons_succ, List.setIfInBounds_toArray, List.set_cons_zero, List.set_cons_succ]
            refine wpAnyH_ready (rs := [11]) (by kernel_rfl) (by simp) ?_
            refine (AllReadyH.cons rfl (fun K hK => ?_) AllReadyH.nil)
            have hqr := Row.made w9 110 #[.string ⟨#[]⟩, .int .i64 0]
            have hqs : W0.heap.size ≤ w9.heap.size := hHeld.size
            have hS := hHeld.alloc hHeld.size (.cells #[.string ⟨#[]⟩, .int .i64 0] 110)
            have hsl := Row.behindNew hsl (.cells #[.string ⟨#[]⟩, .int .i64 0] 110)
            go_simp
            refine hK.out _ _ hS (fun hHeld => ?_)
            clear hS
            generalize hqq : w9.heap.size = q at *
            generalize w9.alloc (.cells #[.string ⟨#[]⟩, .int .i64 0] 110) = wa at *
            clear hK K
            refine wpAnyH_take (i := 12) (v := ?_) rfl (by kernel_rfl) (by kernel_rfl) (by kernel_rfl) (fun _ _ _ h => h) (Or.inl ⟨by rfl, (by intro w hSw; go_simp; try with_reducible rfl)⟩) (by assumption) ?_
            simp only [Act.put, List.getElem_toArray, List.getElem_cons_zero, List.getElem_cons_succ, List.setIfInBounds_toArray, List.set_cons_zero, List.set_cons_succ]
            refine wpAnyH_ready (rs := [13]) (by kernel_rfl) (by simp) ?_
            refine (AllReadyH.cons rfl (fun K hK => ?_) AllReadyH.nil)
            have f0 := hqr.free 0
            have f1 := hqr.free 1
            have q0 : wa.cell? ⟨q, 0, none⟩ = some (.string ⟨#[]⟩) := hqr.at 0
            have q1 : wa.cell? ⟨q, 1, none⟩ = some (.int .i64 0) := hqr.at 1
            have hrow : Row ((wa.setCell ⟨q, 0, none⟩ (.string (mk v))).setCell ⟨q, 1, none⟩ (.int .i64 L)) q 110 #[.string (mk v), .int .i64 L] := (hqr.stored 0 (.string (mk v))).stored 1 (.int .i64 L)
            have hS := below_store (below_store hHeld (p := ⟨q, 0, none⟩) hqs (.string (mk v))) (p := ⟨q, 1, none⟩) hqs (.int .i64 L)
            go_simp
            refine hK.out _ _ hS (fun hHeld => ?_)
            clear hS f0 f1 q0 q1
            generalize (wa.setCell ⟨q, 0, none⟩ (.string (mk v))).setCell ⟨q, 1, none⟩ (.int .i64 L) = wS at *
            clear hK K
            refine wpAnyH_done (by kernel_rfl) ?_ _
            exact tail _ _ _ hqs hHeld hrow
          · have hqr := Row.made w8 110 #[.string ⟨#[]⟩, .int .i64 0]
            have hqs : W0.heap.size ≤ w8.heap.size := hHeld.size
            have hS := hHeld.alloc hHeld.size (.cells #[.string ⟨#[]⟩, .int .i64 0] 110)
            have hsl := Row.behindNew hsl (.cells #[.string ⟨#[]⟩, .int .i64 0] 110)
            go_simp
            refine hK.out _ _ hS (fun hHeld => ?_)
            clear hS
            generalize hqq : w8.heap.size = q at *
            generalize w8.alloc (.cells #[.string ⟨#[]⟩, .int .i64 0] 110) = wa at *
            clear hK K
            refine wpAnyH_ready (rs := [9]) (by kernel_rfl) (by simp) ?_
            refine (AllReadyH.cons rfl (fun K hK => ?_) AllReadyH.nil)
            go_simp
            go_at_call 91
            refine (HSz.out _ _ hsl).mono ?_
            rintro e w9 ⟨rfl, hb⟩
            have hS := hHeld.trans (hb.mono hHeld.size)
            have hqr := Row.below hqr hb (Row.inHeap hqr)
            refine hK.out _ _ hS (fun hHeld => ?_)
            clear hS hb
            clear hK K
            refine wpAnyH_take (i := 10) (v := ?_) rfl (by kernel_rfl) (by kernel_rfl) (by kernel_rfl) (fun _ _ _ h => h) (Or.inl ⟨by rfl, (by intro w hSw; go_simp; try with_reducible rfl)⟩) (by assumption) ?_
            simp only [Act.put, List.getElem_toArray, List.getElem_cons_zero, List.getElem_cons_succ, List.setIfInBounds_toArray, List.set_cons_zero, List.set_cons_succ]
            refine wpAnyH_take (i := 12) (v := ?_) rfl (by kernel_rfl) (by kernel_rfl) (by kernel_rfl) (fun _ _ _ h => h) (Or.inl ⟨by rfl, (by intro w hSw; go_simp; try with_reducible rfl)⟩) (by assumption) ?_
            simp only [Act.put, List.getElem_toArray, List.getElem_cons_zero, List.getElem_cons_succ, List.setIfInBounds_toArray, List.set_cons_zero, List.set_cons_succ]
            refine wpAnyH_ready (rs := [13]) (by kernel_rfl) (by simp) ?_
            refine (AllReadyH.cons rfl (fun K hK => ?_) AllReadyH.nil)
            have f0 := hqr.free 0
            have f1 := hqr.free 1
            have q0 : w9.cell? ⟨q, 0, none⟩ = some (.string ⟨#[]⟩) := hqr.at 0
            have q1 : w9.cell? ⟨q, 1, none⟩ = some (.int .i64 0) := hqr.at 1
            have hrow : Row ((w9.setCell ⟨q, 0, none⟩ (.string (mk v))).setCell ⟨q, 1, none⟩ (.int .i64 L)) q 110 #[.string (mk v), .int .i64 L] := (hqr.stored 0 (.string (mk v))).stored 1 (.int .i64 L)
            have hS := below_store (below_store hHeld (p := ⟨q, 0, none⟩) hqs (.string (mk v))) (p := ⟨q, 1, none⟩) hqs (.int .i64 L)
            go_simp
            refine hK.out _ _ hS (fun hHeld => ?_)
            clear hS f0 f1 q0 q1
            generalize (w9.setCell ⟨q, 0, none⟩ (.string (mk v))).setCell ⟨q, 1, none⟩ (.int .i64 L) = wS at *
            clear hK K
            refine wpAnyH_done (by kernel_rfl) ?_ _
            exact tail _ _ _ hqs hHeld hrow
        · have hqr := Row.made w7 110 #[.string ⟨#[]⟩, .int .i64 0]
          have hqs : W0.heap.size ≤ w7.heap.size := hHeld.size
          have hS := hHeld.alloc hHeld.size (.cells #[.string ⟨#[]⟩, .int .i64 0] 110)
          go_simp
          refine hK.out _ _ hS (fun hHeld => ?_)
          clear hS
          generalize hqq : w7.heap.size = q at *
          generalize w7.alloc (.cells #[.string ⟨#[]⟩, .int .i64 0] 110) = wa at *
          clear hK K
          refine wpAnyH_ready (rs := [8]) (by kernel_rfl) (by simp) ?_
          refine (AllReadyH.cons rfl (fun K hK => ?_) AllReadyH.nil)
          go_simp
          have hsl := Row.made wa 9 #[.string T]
          have hS := hHeld.alloc hHeld.size (.cells #[.string T] 9)
          have hqr := Row.behindNew hqr (.cells #[.string T] 9)
          refine hK.out _ _ hS (fun hHeld => ?_)
          clear hS
          generalize wa.alloc (.cells #[.string T] 9) = w8 at *
          clear hK K
          refine wpAnyH_ready (rs := [9]) (by kernel_rfl) (by simp) ?_
          refine (AllReadyH.cons rfl (fun K hK => ?_) AllReadyH.nil)
          go_simp
          go_at_call 91
          refine (HSz.out _ _ hsl).mono ?_
          rintro e w9 ⟨rfl, hb⟩
          have hS := hHeld.trans (hb.mono hHeld.size)
          have hqr := Row.below hqr hb (Row.inHeap hqr)
          refine hK.out _ _ hS (fun hHeld => ?_)
          clear hS hb
          clear hK K
          refine wpAnyH_take (i := 10) (v := ?_) rfl (by kernel_rfl) (by kernel_rfl) (by kernel_rfl) (fun _ _ _ h => h) (Or.inl ⟨by rfl, (by intro w hSw; go_simp; try with_reducible rfl)⟩) (by assumption) ?_
          simp only [Act.put, List.getElem_toArray, List.getElem_cons_zero, List.getElem_cons_succ, List.setIfInBounds_toArray, List.set_cons_zero, List.set_cons_succ]
          refine wpAnyH_take (i := 12) (v := ?_) rfl (by kernel_rfl) (by kernel_rfl) (by kernel_rfl) (fun _ _ _ h => h) (Or.inl ⟨by rfl, (by intro w hSw; go_simp; try with_reducible rfl)⟩) (by assumption) ?_
          simp only [Act.put, List.getElem_toArray, List.getElem_cons_zero, List.getElem_cons_succ, List.setIfInBounds_toArray, List.set_cons_zero, List.set_cons_succ]
          refine wpAnyH_ready (rs := [13]) (by kernel_rfl) (by simp) ?_
          refine (AllReadyH.cons rfl (fun K hK => ?_) AllReadyH.nil)
          have f0 := hqr.free 0
          have f1 := hqr.free 1
          have q0 : w9.cell? ⟨q, 0, none⟩ = some (.string ⟨#[]⟩) := hqr.at 0
          have q1 : w9.cell? ⟨q, 1, none⟩ = some (.int .i64 0) := hqr.at 1
          have hrow : Row ((w9.setCell ⟨q, 0, none⟩ (.string (mk v))).setCell ⟨q, 1, none⟩ (.int .i64 L)) q 110 #[.string (mk v), .int .i64 L] := (hqr.stored 0 (.string (mk v))).stored 1 (.int .i64 L)
          have hS := below_store (below_store hHeld (p := ⟨q, 0, none⟩) hqs (.string (mk v))) (p := ⟨q, 1, none⟩) hqs (.int .i64 L)
          go_simp
          refine hK.out _ _ hS (fun hHeld => ?_)
          clear hS f0 f1 q0 q1
          generalize (w9.setCell ⟨q, 0, none⟩ (.string (mk v))).setCell ⟨q, 1, none⟩ (.int .i64 L) = wS at *
          clear hK K
          refine wpAnyH_done (by kernel_rfl) ?_ _
          exact tail _ _ _ hqs hHeld hrow
      · have hqr := Row.made w5 110 #[.string ⟨#[]⟩, .int .i64 0]
        have hqs : W0.heap.size ≤ w5.heap.size := hHeld.size
        have hS := hHeld.alloc hHeld.size (.cells #[.string ⟨#[]⟩, .int .i64 0] 110)
        go_simp
        refine hK.out _ _ hS (fun hHeld => ?_)
        clear hS
        generalize hqq : w5.heap.size = q at *
        generalize w5.alloc (.cells #[.string ⟨#[]⟩, .int .i64 0] 110) = wa at *
        clear hK K
        refine wpAnyH_ready (rs := [7]) (by kernel_rfl) (by simp) ?_
        refine (AllReadyH.cons rfl (fun K hK => ?_) AllReadyH.nil)
        go_simp
        go_at_call 92
        refine (HAl.out _).mono ?_
        rintro e w7 ⟨rfl, hb⟩
        have hS := hHeld.trans (hb.mono hHeld.size)
        have hqr := Row.below hqr hb (Row.inHeap hqr)
        refine hK.out _ _ hS (fun hHeld => ?_)
        clear hS hb
        clear hK K
        refine wpAnyH_ready (rs := [8]) (by kernel_rfl) (by simp) ?_
        refine (AllReadyH.cons rfl (fun K hK => ?_) AllReadyH.nil)
        go_simp
        have hsl := Row.made w7 9 #[.string T]
        have hS := hHeld.alloc hHeld.size (.cells #[.string T] 9)
        have hqr := Row.behindNew hqr (.cells #[.string T] 9)
        refine hK.out _ _ hS (fun hHeld => ?_)
        clear hS
        generalize w7.alloc (.cells #[.string T] 9) = w8 at *
        clear hK K
        refine wpAnyH_ready (rs := [9]) (by kernel_rfl) (by simp) ?_
        refine (AllReadyH.cons rfl (fun K hK => ?_) AllReadyH.nil)
        go_simp
        go_at_call 91
        refine (HSz.out _ _ hsl).mono ?_
        rintro e w9 ⟨rfl, hb⟩
        have hS := hHeld.trans (hb.mono hHeld.size)
        have hqr := Row.below hqr hb (Row.inHeap hqr)
        refine hK.out _ _ hS (fun hHeld => ?_)
        clear hS hb
        clear hK K
        refine wpAnyH_take (i := 10) (v := ?_) rfl (by kernel_rfl) (by kernel_rfl) (by kernel_rfl) (fun _ _ _ h => h) (Or.inl ⟨by rfl, (by intro w hSw; go_simp; try with_reducible rfl)⟩) (by assumption) ?_
        simp only [Act.put, List.getElem_toArray, List.getElem_cons_zero, List.getElem_cons_succ, List.setIfInBounds_toArray, List.set_cons_zero, List.set_cons_succ]
        refine wpAnyH_take (i := 12) (v := ?_) rfl (by kernel_rfl) (by kernel_rfl) (by kernel_rfl) (fun _ _ _ h => h) (Or.inl ⟨by rfl, (by intro w hSw; go_simp; try with_reducible rfl)⟩) (by assumption) ?_
        simp only [Act.put, List.getElem_toArray, List.getElem_cons_zero, List.getElem_cons_succ, List.setIfInBounds_toArray, List.set_cons_zero, List.set_cons_succ]
        refine wpAnyH_ready (rs := [13]) (by kernel_rfl) (by simp) ?_
        refine (AllReadyH.cons rfl (fun K hK => ?_) AllReadyH.nil)
        have f0 := hqr.free 0
        have f1 := hqr.free 1
        have q0 : w9.cell? ⟨q, 0, none⟩ = some (.string ⟨#[]⟩) := hqr.at 0
        have q1 : w9.cell? ⟨q, 1, none⟩ = some (.int .i64 0) := hqr.at 1
        have hrow : Row ((w9.setCell ⟨q, 0, none⟩ (.string (mk v))).setCell ⟨q, 1, none⟩ (.int .i64 L)) q 110 #[.string (mk v), .int .i64 L] := (hqr.stored 0 (.string (mk v))).stored 1 (.int .i64 L)
        have hS := below_store (below_store hHeld (p := ⟨q, 0, none⟩) hqs (.string (mk v))) (p := ⟨q, 1, none⟩) hqs (.int .i64 L)
        go_simp
        refine hK.out _ _ hS (fun hHeld => ?_)
        clear hS f0 f1 q0 q1
        generalize (w9.setCell ⟨q, 0, none⟩ (.string (mk v))).setCell ⟨q, 1, none⟩ (.int .i64 L) = wS at *
        clear hK K
        refine wpAnyH_done (by kernel_rfl) ?_ _
        exact tail _ _ _ hqs hHeld hrow
    · have hqr := Row.made w2 110 #[.string ⟨#[]⟩, .int .i64 0]
      have hqs : W0.heap.size ≤ w2.heap.size := hHeld.size
      have hS := hHeld.alloc hHeld.size (.cells #[.string ⟨#[]⟩, .int .i64 0] 110)
      go_simp
      refine hK.out _ _ hS (fun hHeld => ?_)
      clear hS
      generalize hqq : w2.heap.size = q at *
      generalize w2.alloc (.cells #[.string ⟨#[]⟩, .int .i64 0] 110) = wa at *
      clear hK K
      refine wpAnyH_ready (rs := [5]) (by kernel_rfl) (by simp) ?_
      refine (AllReadyH.cons rfl (fun K hK => ?_) AllReadyH.nil)
      go_simp
      go_at_call 90
      refine (HC2.out _).mono ?_
      rintro e w5 ⟨rfl, hb⟩
      have hS := hHeld.trans (hb.mono hHeld.size)
      have hqr := Row.below hqr hb (Row.inHeap hqr)
      refine hK.out _ _ hS (fun hHeld => ?_)
      clear hS hb
      clear hK K
      refine wpAnyH_ready (rs := [7]) (by kernel_rfl) (by simp) ?_
      refine (AllReadyH.cons rfl (fun K hK => ?_) AllReadyH.nil)
      go_simp
      go_at_call 92
      refine (HAl.out _).mono ?_
      rintro e w7 ⟨rfl, hb⟩
      have hS := hHeld.trans (hb.mono hHeld.size)
      have hqr := Row.below hqr hb (Row.inHeap hqr)
      refine hK.out _ _ hS (fun hHeld => ?_)
      clear hS hb
      clear hK K
      refine wpAnyH_ready (rs := [8]) (by kernel_rfl) (by simp) ?_
      refine (AllReadyH.cons rfl (fun K hK => ?_) AllReadyH.nil)
      go_simp
      have hsl := Row.made w7 9 #[.string T]
      have hS := hHeld.alloc hHeld.size (.cells #[.string T] 9)
      have hqr := Row.behindNew hqr (.cells #[.string T] 9)
      refine hK.out _ _ hS (fun hHeld => ?_)
      clear hS
      generalize w7.alloc (.cells #[.string T] 9) = w8 at *
      clear hK K
      refine wpAnyH_ready (rs := [9]) (by kernel_rfl) (by simp) ?_
      refine (AllReadyH.cons rfl (fun K hK => ?_) AllReadyH.nil)
      go_simp
      go_at_call 91
      refine (HSz.out _ _ hsl).mono ?_
      rintro e w9 ⟨rfl, hb⟩
      have hS := hHeld.trans (hb.mono hHeld.size)
      have hqr := Row.below hqr hb (Row.inHeap hqr)
      refine hK.out _ _ hS (fun hHeld => ?_)
      clear hS hb
      clear hK K
      refine wpAnyH_take (i := 10) (v := ?_) rfl (by kernel_rfl) (by kernel_rfl) (by kernel_rfl) (fun _ _ _ h => h) (Or.inl ⟨by rfl, (by intro w hSw; go_simp; try with_reducible rfl)⟩) (by assumption) ?_
      simp only [Act.put, List.getElem_toArray, List.getElem_cons_zero, List.getElem_cons_succ, List.setIfInBounds_toArray, List.set_cons_zero, List.set_cons_succ]
      refine wpAnyH_take (i := 12) (v := ?_) rfl (by kernel_rfl) (by kernel_rfl) (by kernel_rfl) (fun _ _ _ h => h) (Or.inl ⟨by rfl, (by intro w hSw; go_simp; try with_reducible rfl)⟩) (by assumption) ?_
      simp only [Act.put, List.getElem_toArray, List.getElem_cons_zero, List.getElem_cons_succ, List.setIfInBounds_toArray, List.set_cons_zero, List.set_cons_succ]
      refine wpAnyH_ready (rs := [13]) (by kernel_rfl) (by simp) ?_
      refine (AllReadyH.cons rfl (fun K hK => ?_) AllReadyH.nil)
      have f0 := hqr.free 0
      have f1 := hqr.free 1
      have q0 : w9.cell? ⟨q, 0, none⟩ = some (.string ⟨#[]⟩) := hqr.at 0
      have q1 : w9.cell? ⟨q, 1, none⟩ = some (.int .i64 0) := hqr.at 1
      have hrow : Row ((w9.setCell ⟨q, 0, none⟩ (.string (mk v))).setCell ⟨q, 1, none⟩ (.int .i64 L)) q 110 #[.string (mk v), .int .i64 L] := (hqr.stored 0 (.string (mk v))).stored 1 (.int .i64 L)
      have hS := below_store (below_store hHeld (p := ⟨q, 0, none⟩) hqs (.string (mk v))) (p := ⟨q, 1, none⟩) hqs (.int .i64 L)
      go_simp
      refine hK.out _ _ hS (fun hHeld => ?_)
      clear hS f0 f1 q0 q1
      generalize (w9.setCell ⟨q, 0, none⟩ (.string (mk v))).setCell ⟨q, 1, none⟩ (.int .i64 L) = wS at *
      clear hK K
      refine wpAnyH_done (by kernel_rfl) ?_ _
      exact tail _ _ _ hqs hHeld hrow
  · have hqr := Row.made W1 110 #[.string ⟨#[]⟩, .int .i64 0]
    have hqs : W0.heap.size ≤ W1.heap.size := hHeld.size
    have hS := hHeld.alloc hHeld.size (.cells #[.string ⟨#[]⟩, .int .i64 0] 110)
    go_simp
    refine hK.out _ _ hS (fun hHeld => ?_)
    clear hS
    generalize hqq : W1.heap.size = q at *
    generalize W1.alloc (.cells #[.string ⟨#[]⟩, .int .i64 0] 110) = wa at *
    clear hK K
    refine wpAnyH_ready (rs := [2]) (by kernel_rfl) (by simp) ?_
    refine (AllReadyH.cons rfl (fun K hK => ?_) AllReadyH.nil)
    go_simp
    go_at_call 90
    refine (HC1.out _).mono ?_
    rintro e w2 ⟨rfl, hb⟩
    have hS := hHeld.trans (hb.mono hHeld.size)
    have hqr := Row.below hqr hb (Row.inHeap hqr)
    refine hK.out _ _ hS (fun hHeld => ?_)
    clear hS hb
    clear hK K
    refine wpAnyH_ready (rs := [5]) (by kernel_rfl) (by simp) ?_
    refine (AllReadyH.cons rfl (fun K hK => ?_) AllReadyH.nil)
    go_simp
    go_at_call 90
    refine (HC2.out _).mono ?_
    rintro e w5 ⟨rfl, hb⟩
    have hS := hHeld.trans (hb.mono hHeld.size)
    have hqr := Row.below hqr hb (Row.inHeap hqr)
    refine hK.out _ _ hS (fun hHeld => ?_)
    clear hS hb
    clear hK K
    refine wpAnyH_ready (rs := [7]) (by kernel_rfl) (by simp) ?_
    refine (AllReadyH.cons rfl (fun K hK => ?_) AllReadyH.nil)
    go_simp
    go_at_call 92
    refine (HAl.out _).mono ?_
    rintro e w7 ⟨rfl, hb⟩
    have hS := hHeld.trans (hb.mono hHeld.size)
    have hqr := Row.below hqr hb (Row.inHeap hqr)
    refine hK.out _ _ hS (fun hHeld => ?_)
    clear hS hb
    clear hK K
    refine wpAnyH_ready (rs := [8]) (by kernel_rfl) (by simp) ?_
    refine (AllReadyH.cons rfl (fun K hK => ?_) AllReadyH.nil)
    go_simp
    have hsl := Row.made w7 9 #[.string T]
    have hS := hHeld.alloc hHeld.size (.cells #[.string T] 9)
    have hqr := Row.behindNew hqr (.cells #[.string T] 9)
    refine hK.out _ _ hS (fun hHeld => ?_)
    clear hS
    generalize w7.alloc (.cells #[.string T] 9) = w8 at *
    clear hK K
    refine wpAnyH_ready (rs := [9]) (by kernel_rfl) (by simp) ?_
    refine (AllReadyH.cons rfl (fun K hK => ?_) AllReadyH.nil)
    go_simp
    go_at_call 91
    refine (HSz.out _ _ hsl).mono ?_
    rintro e w9 ⟨rfl, hb⟩
    have hS := hHeld.trans (hb.mono hHeld.size)
    have hqr := Row.below hqr hb (Row.inHeap hqr)
    refine hK.out _ _ hS (fun hHeld => ?_)
    clear hS hb
    clear hK K
    refine wpAnyH_take (i := 10) (v := ?_) rfl (by kernel_rfl) (by kernel_rfl) (by kernel_rfl) (fun _ _ _ h => h) (Or.inl ⟨by rfl, (by intro w hSw; go_simp; try with_reducible rfl)⟩) (by assumption) ?_
    simp only [Act.put, List.getElem_toArray, List.getElem_cons_zero, List.getElem_cons_succ, List.setIfInBounds_toArray, List.set_cons_zero, List.set_cons_succ]
    refine wpAnyH_take (i := 12) (v := ?_) rfl (by kernel_rfl) (by kernel_rfl) (by kernel_rfl) (fun _ _ _ h => h) (Or.inl ⟨by rfl, (by intro w hSw; go_simp; try with_reducible rfl)⟩) (by assumption) ?_
    simp only [Act.put, List.getElem_toArray, List.getElem_cons_zero, List.getElem_cons_succ, List.setIfInBounds_toArray, List.set_cons_zero, List.set_cons_succ]
    refine wpAnyH_ready (rs := [13]) (by kernel_rfl) (by simp) ?_
    refine (AllReadyH.cons rfl (fun K hK => ?_) AllReadyH.nil)
    have f0 := hqr.free 0
    have f1 := hqr.free 1
    have q0 : w9.cell? ⟨q, 0, none⟩ = some (.string ⟨#[]⟩) := hqr.at 0
    have q1 : w9.cell? ⟨q, 1, none⟩ = some (.int .i64 0) := hqr.at 1
    have hrow : Row ((w9.setCell ⟨q, 0, none⟩ (.string (mk v))).setCell ⟨q, 1, none⟩ (.int .i64 L)) q 110 #[.string (mk v), .int .i64 L] := (hqr.stored 0 (.string (mk v))).stored 1 (.int .i64 L)
    have hS := below_store (below_store hHeld (p := ⟨q, 0, none⟩) hqs (.string (mk v))) (p := ⟨q, 1, none⟩) hqs (.int .i64 L)
    go_simp
    refine hK.out _ _ hS (fun hHeld => ?_)
    clear hS f0 f1 q0 q1
    generalize (w9.setCell ⟨q, 0, none⟩ (.string (mk v))).setCell ⟨q, 1, none⟩ (.int .i64 L) = wS at *
    clear hK K
    refine wpAnyH_done (by kernel_rfl) ?_ _
    exact tail _ _ _ hqs hHeld hrow
end
end Go.Proofs.YtbfjageaheijbaaGreat
