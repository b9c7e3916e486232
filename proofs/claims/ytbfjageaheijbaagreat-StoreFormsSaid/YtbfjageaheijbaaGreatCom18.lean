/- The landed store's values: how many bytes they have; one is removed, one is added. -/
import Derived.Test.YtbfjageaheijbaaGreatCom17
import Derived.Test.YtbfjageaheijbaaGreatCom9
import Derived.Great.Walk
import Derived.Shelf.Small.Bits
import Derived.Shelf.Small.Wraps
import Derived.Shelf.Strconv.Itoa0
import Derived.Shelf.LaysM
import Derived.Shelf.Strconv.Clone
import Derived.Shelf.Sort.Plain
import Derived.Shelf.Strings.Prefix
import Derived.Shelf.Slices.In.SortNone
import Derived.Test.YtbfjageaheijbaaGreatProg
set_option linter.unusedSimpArgs false
set_option linter.unusedVariables false
namespace Go.Proofs.YtbfjageaheijbaaGreat
open Go.RowKit

/-! ### Sums -/
set_option maxRecDepth 100000 in
theorem whole_sum (l : List Sto.Pr) : Sto.whole l = (l.map laidOf).sum := by
  unfold Sto.whole Sto.singles
  induction l with
  | nil => rfl
  | cons p l ih => rw [List.map_cons, Frm.all_cons, List.length_append, ih, List.map_cons, List.sum_cons]; rfl

set_option maxRecDepth 100000 in
theorem drop_none {l : List Sto.Pr} {k : Sto.Key} (h : Sto.get l k = none) : Sto.drop l k = l := by
  unfold Sto.drop
  rw [List.filter_eq_self]
  intro p hp
  unfold Sto.get at h
  rw [Option.map_eq_none_iff, List.find?_eq_none] at h
  have := h p hp
  simpa using this

set_option maxRecDepth 100000 in
theorem drop_perm : ∀ {l : List Sto.Pr}, Sto.Sorted l → ∀ {k : Sto.Key} {v : List UInt8}, Sto.get l k = some v → l.Perm ((k, v) :: Sto.drop l k)
  | [], _, k, v, h => by cases h
  | y :: l, hs, k, v, h => by
    have hs' : Sto.Sorted l := (List.pairwise_cons.1 hs).2
    have hy := (List.pairwise_cons.1 hs).1
    by_cases e : y.1 = k
    · have hv : y.2 = v := by
        have hg := Sto.get_mem hs (p := y) (by simp)
        rw [e, h] at hg
        injection hg with hg
        exact hg.symm
      have hd : Sto.drop (y :: l) k = l := by
        show List.filter _ (y :: l) = l
        rw [List.filter_cons_of_neg (by simp [e]), List.filter_eq_self]
        intro p hp
        have := hy p hp
        have hne : p.1 ≠ k := fun e2 => Sto.klt_irrefl k (by rw [e, e2] at this; exact this)
        simpa using hne
      rw [hd, ← e, ← hv]
    · have hg : Sto.get l k = some v := by
        rw [← h]
        unfold Sto.get
        rw [List.find?_cons_of_neg (by simpa using e)]
      have hd : Sto.drop (y :: l) k = y :: Sto.drop l k := by
        show List.filter _ (y :: l) = _
        rw [List.filter_cons_of_pos (by simpa using e)]
        rfl
      rw [hd]
      exact ((drop_perm hs' hg).cons y).trans (List.Perm.swap _ _ _)

set_option maxRecDepth 100000 in
theorem put_perm (l : List Sto.Pr) (k : Sto.Key) (v : List UInt8) : (Sto.put l k v).Perm ((k, v) :: Sto.drop l k) := by
  unfold Sto.put
  refine List.perm_middle.trans ?_
  rw [Sto.low_high]

set_option maxRecDepth 100000 in
theorem bytes_perm {l m : List Sto.Pr} (h : l.Perm m) : Sto.bytes l = Sto.bytes m := (h.map _).sum_nat
set_option maxRecDepth 100000 in
theorem whole_perm {l m : List Sto.Pr} (h : l.Perm m) : Sto.whole l = Sto.whole m := by
  rw [whole_sum, whole_sum]
  exact (h.map _).sum_nat

set_option maxRecDepth 100000 in
theorem bytes_cons (k v : List UInt8) (l : List Sto.Pr) : Sto.bytes ((k, v) :: l) = k.length + v.length + Sto.bytes l := by
  unfold Sto.bytes
  rw [List.map_cons, List.sum_cons]
set_option maxRecDepth 100000 in
theorem whole_cons (k v : List UInt8) (l : List Sto.Pr) : Sto.whole ((k, v) :: l) = laidOf (k, v) + Sto.whole l := by
  rw [whole_sum, whole_sum, List.map_cons, List.sum_cons]

set_option maxRecDepth 100000 in
theorem laid_le {p : Sto.Pr} (h : Sto.Fits p) : laidOf p ≤ 4300 := by
  have h1 := Sto.single_len h
  have h2 := Frm.one_len (Sto.single p)
  have h3 := Leb.enc_len (Sto.single p).length
  unfold laidOf
  omega

set_option maxRecDepth 100000 in
theorem whole_cap {l : List Sto.Pr} (h : Sto.Fit l) : Sto.whole l ≤ 4300 * l.length := by
  rw [whole_sum]
  induction l with
  | nil => simp
  | cons p l ih =>
    have h1 := ih (fun q hq => h q (by simp [hq]))
    have h2 := laid_le (h p (by simp))
    rw [List.map_cons, List.sum_cons, List.length_cons]
    omega

/-! ### The values in memory -/
def vcells (bm : Nat) (l : List Sto.Pr) : Array Value := #[.map (some bm), .int .i64 (Sto.bytes l : Int), .int .i64 (Sto.whole l : Int)]
def vA (bm : Nat) (l : List Sto.Pr) : Value := .agg (vcells bm l)

/-- Block b holds values whose map is block bm. -/
structure ValsAt (w : World) (b bm : Nat) (l : List Sto.Pr) : Prop where
  row : Row w b 76 (vcells bm l)
  map : MapAt w bm l

section
variable {w w' : World} {b bm : Nat} {l : List Sto.Pr} {G : Nat → Prop}

set_option maxRecDepth 100000 in
theorem ValsAt.ne (h : ValsAt w b bm l) : b ≠ bm := h.map.not_row h.row
set_option maxRecDepth 100000 in
theorem ValsAt.kept (h : ValsAt w b bm l) (k : Kept G w w') (hb : ¬ G b) (hm : ¬ G bm) : ValsAt w' b bm l := ⟨h.row.kept k hb, h.map.kept k hm⟩
set_option maxRecDepth 100000 in
theorem ValsAt.below {B : Nat} (h : ValsAt w b bm l) (k : Below B w w') (hb : b < B) (hm : bm < B) : ValsAt w' b bm l := ⟨h.row.below k hb, h.map.below k hm⟩
set_option maxRecDepth 100000 in
theorem ValsAt.lt (h : ValsAt w b bm l) : b < w.heap.size ∧ bm < w.heap.size := ⟨h.row.inHeap, h.map.lt⟩

set_option maxRecDepth 100000 in
theorem str_key {K : List UInt8} (h : K.length ≤ 1000) : (mk K).size ≤ 9223372036854775807 := by rw [mk_len]; omega

set_option maxRecDepth 100000 in
set_option maxHeartbeats 1600000 in
theorem sto_remove_none (h : ValsAt w b bm l) {K : List UInt8} (hK : K.length ≤ 1000) (hg : Sto.get l K = none) :
    Calls Tryz.prog 62 #[.pointer (some ⟨b, 0, none⟩), .string (mk K)] w fun e w' => e = .returned (.tuple #[]) ∧ ValsAt w' b bm (Sto.drop l K) ∧ Kept (fun i => i = b ∨ i = bm) w w' := by
  have hlook := h.map.look (str_key hK)
  rw [mk_data, hg] at hlook
  have q0 : w.cell? ⟨b, 0, none⟩ = some (.map (some bm)) := h.row.at 0
  have fin := Lib.hid (show ∀ w', Below w.heap.size w w' → ValsAt w' b bm (Sto.drop l K) ∧ Kept (fun i => i = b ∨ i = bm) w w' from fun w' hb => by
    rw [drop_none hg]
    exact ⟨h.below hb h.lt.1 h.lt.2, Kept.ofBelow hb _⟩)
  simp only [Option.isSome_none] at hlook
  clear h hK hg
  go_enter Tryz.func62, Tryz.ntmps62
  go_wp2_with fail
  refine bodyPost_ret (results_none rfl _ _ _) rfl ?_
  exact ⟨rfl, fin.out _ ((Below.refl _ _).alloc (Nat.le_refl _) _)⟩

set_option maxRecDepth 100000 in
set_option maxHeartbeats 1600000 in
theorem sto_remove_some (h : ValsAt w b bm l) (hs : Sto.Sorted l) (hf : Sto.Fit l) (hn : l.length ≤ 100000000) {K v : List UInt8} (hK : K.length ≤ 1000) (hg : Sto.get l K = some v) :
    Calls Tryz.prog 62 #[.pointer (some ⟨b, 0, none⟩), .string (mk K)] w fun e w' => e = .returned (.tuple #[]) ∧ ValsAt w' b bm (Sto.drop l K) ∧ Kept (fun i => i = b ∨ i = bm) w w' := by
  have hlook := h.map.look (str_key hK)
  rw [mk_data, hg] at hlook
  simp only [Option.isSome_some] at hlook
  have hp := drop_perm hs hg
  have hb1 := bytes_perm hp
  have hw1 := whole_perm hp
  rw [bytes_cons] at hb1
  rw [whole_cons] at hw1
  have hb2 := Sto.bytes_le hf
  have hw2 := whole_cap hf
  obtain ⟨hbl, hml⟩ := h.lt
  have hne := h.ne
  have q0 : w.cell? ⟨b, 0, none⟩ = some (.map (some bm)) := h.row.at 0
  have e1 : IntKind.i64.wrap (((mk K).size : Int) + ((mk v).size : Int)) = ((K.length + v.length : Nat) : Int) := by rw [mk_len, mk_len, IntWalk.i64_in _ ⟨by omega, by omega⟩]; push_cast; rfl
  have e2 : IntKind.i64.wrap ((Sto.bytes l : Int) - ((K.length + v.length : Nat) : Int)) = (Sto.bytes (Sto.drop l K) : Int) := by rw [IntWalk.i64_in _ ⟨by omega, by omega⟩]; omega
  have e3 : IntKind.i64.wrap ((Sto.whole l : Int) - (laidOf (K, v) : Int)) = (Sto.whole (Sto.drop l K) : Int) := by rw [IntWalk.i64_in _ ⟨by omega, by omega⟩]; omega
  have Hrow := Lib.hid h.row
  have Hmap := Lib.hid h.map
  have Hkey := Lib.hid (str_key hK)
  unfold elemV at hlook
  simp only at hlook
  clear h hs hf hn hK hg hp hb1 hw1 hb2 hw2
  unfold vcells at Hrow
  have hfin : Hid (∀ W, Row W b 76 #[.map (some bm), .int .i64 (Sto.bytes (Sto.drop l K) : Int), .int .i64 (Sto.whole (Sto.drop l K) : Int)] → MapAt W bm (Sto.drop l K) → Kept (fun i => i = b ∨ i = bm) w W → ValsAt W b bm (Sto.drop l K) ∧ Kept (fun i => i = b ∨ i = bm) w W) := Lib.hid (fun W h1 h2 h3 => ⟨⟨h1, h2⟩, h3⟩)
  generalize ((K.length + v.length : Nat) : Int) = A at *
  generalize (Sto.bytes l : Int) = B at *
  generalize (Sto.whole l : Int) = C at *
  generalize (Sto.bytes (Sto.drop l K) : Int) = B' at *
  generalize (Sto.whole (Sto.drop l K) : Int) = C' at *
  generalize (laidOf (K, v) : Int) = L at *
  go_enter Tryz.func62, Tryz.ntmps62
  go_wp2_with fail
  have HX := Lib.hid (Row.made w 110 #[.string (mk v), .int .i64 L])
  have HR := Lib.hid (Row.behindNew Hrow.out (.cells #[.string (mk v), .int .i64 L] 110))
  have HM := Lib.hid (Hmap.out.below ((Below.refl w.heap.size w).alloc (Nat.le_refl _) (.cells #[.string (mk v), .int .i64 L] 110)) hml)
  have HK := Lib.hid ((Kept.refl (fun i => i = b ∨ i = bm) w).alloc (.cells #[.string (mk v), .int .i64 L] 110))
  generalize w.alloc (.cells #[.string (mk v), .int .i64 L] 110) = W1 at *
  refine wp_region_tail (n := 11) (S := (fun w' : World => Row w' b 76 #[.map (some bm), .int .i64 B, .int .i64 C] ∧ Row w' w.heap.size 110 #[.string (mk v), .int .i64 L])) (by kernel_rfl) (by kernel_rfl) (by rfl) (⟨HR.out, HX.out⟩) (fun hHeld => ?_)
  refine wpAnyH_take (i := 0) (v := ?_) rfl (by kernel_rfl) (by kernel_rfl) (by kernel_rfl) (fun _ _ _ h => h) (Or.inl ⟨by rfl, (by intro w hSw; go_simp; try with_reducible rfl)⟩) (by assumption) ?_
  simp only [Act.put, List.getElem_toArray, List.getElem_cons_zero, List.getElem_cons_succ, List.setIfInBounds_toArray, List.set_cons_zero, List.set_cons_succ]
  refine wpAnyH_take (i := 1) (v := ?_) rfl (by kernel_rfl) (by kernel_rfl) (by kernel_rfl) (fun _ _ _ h => h) (Or.inl ⟨by rfl, (by intro w hSw; go_simp; try with_reducible rfl)⟩) (by assumption) ?_
  simp only [Act.put, List.getElem_toArray, List.getElem_cons_zero, List.getElem_cons_succ, List.setIfInBounds_toArray, List.set_cons_zero, List.set_cons_succ]
  refine wpAnyH_take (i := 2) (v := ?_) rfl (by kernel_rfl) (by kernel_rfl) (by kernel_rfl) (fun _ _ _ h => h) (Or.inl ⟨by rfl, (by intro w hSw; go_simp; try with_reducible rfl)⟩) (by assumption) ?_
  simp only [Act.put, List.getElem_toArray, List.getElem_cons_zero, List.getElem_cons_succ, List.setIfInBounds_toArray, List.set_cons_zero, List.set_cons_succ]
  refine wpAnyH_take (i := 3) (v := ?_) rfl (by kernel_rfl) (by kernel_rfl) (by kernel_rfl) (fun _ _ _ h => h) (Or.inl ⟨by rfl, (by intro w hSw; have c1 := hSw.1.at 1; go_simp; try with_reducible rfl)⟩) (by assumption) ?_
  simp only [Act.put, List.getElem_toArray, List.getElem_cons_zero, List.getElem_cons_succ, List.setIfInBounds_toArray, List.set_cons_zero, List.set_cons_succ]
  refine wpAnyH_take (i := 4) (v := ?_) rfl (by kernel_rfl) (by kernel_rfl) (by kernel_rfl) (fun _ _ _ h => h) (Or.inl ⟨by rfl, (by intro w hSw; go_simp; try with_reducible rfl)⟩) (by assumption) ?_
  simp only [Act.put, List.getElem_toArray, List.getElem_cons_zero, List.getElem_cons_succ, List.setIfInBounds_toArray, List.set_cons_zero, List.set_cons_succ]
  refine wpAnyH_take (i := 5) (v := ?_) rfl (by kernel_rfl) (by kernel_rfl) (by kernel_rfl) (fun _ _ _ h => h) (Or.inl ⟨by rfl, (by intro w hSw; go_simp; try with_reducible rfl)⟩) (by assumption) ?_
  simp only [Act.put, List.getElem_toArray, List.getElem_cons_zero, List.getElem_cons_succ, List.setIfInBounds_toArray, List.set_cons_zero, List.set_cons_succ]
  refine wpAnyH_take (i := 6) (v := ?_) rfl (by kernel_rfl) (by kernel_rfl) (by kernel_rfl) (fun _ _ _ h => h) (Or.inl ⟨by rfl, (by intro w hSw; go_simp; try with_reducible rfl)⟩) (by assumption) ?_
  simp only [Act.put, List.getElem_toArray, List.getElem_cons_zero, List.getElem_cons_succ, List.setIfInBounds_toArray, List.set_cons_zero, List.set_cons_succ]
  refine wpAnyH_take (i := 7) (v := ?_) rfl (by kernel_rfl) (by kernel_rfl) (by kernel_rfl) (fun _ _ _ h => h) (Or.inl ⟨by rfl, (by intro w hSw; have c0 := hSw.2.at 0; go_simp; try with_reducible rfl)⟩) (by assumption) ?_
  simp only [Act.put, List.getElem_toArray, List.getElem_cons_zero, List.getElem_cons_succ, List.setIfInBounds_toArray, List.set_cons_zero, List.set_cons_succ]
  refine wpAnyH_take (i := 8) (v := ?_) rfl (by kernel_rfl) (by kernel_rfl) (by kernel_rfl) (fun _ _ _ h => h) (Or.inl ⟨by rfl, (by intro w hSw; go_simp; try with_reducible rfl)⟩) (by assumption) ?_
  simp only [Act.put, List.getElem_toArray, List.getElem_cons_zero, List.getElem_cons_succ, List.setIfInBounds_toArray, List.set_cons_zero, List.set_cons_succ]
  refine wpAnyH_take (i := 9) (v := ?_) rfl (by kernel_rfl) (by kernel_rfl) (by kernel_rfl) (fun _ _ _ h => h) (Or.inl ⟨by rfl, (by intro w hSw; go_simp; try with_reducible rfl)⟩) (by assumption) ?_
  simp only [Act.put, List.getElem_toArray, List.getElem_cons_zero, List.getElem_cons_succ, List.setIfInBounds_toArray, List.set_cons_zero, List.set_cons_succ]
  refine wpAnyH_take (i := 10) (v := ?_) rfl (by kernel_rfl) (by kernel_rfl) (by kernel_rfl) (fun _ _ _ h => h) (Or.inl ⟨by rfl, (by intro w hSw; go_simp; try with_reducible rfl)⟩) (by assumption) ?_
  simp only [Act.put, List.getElem_toArray, List.getElem_cons_zero, List.getElem_cons_succ, List.setIfInBounds_toArray, List.set_cons_zero, List.set_cons_succ]
  refine wpAnyH_done (by kernel_rfl) ?_ _
  refine wpAny_of_held (S := fun _ => True) _ _ _ _ ?_
  have hHeld : True := trivial
  refine wpAnyH_take (i := 11) (v := ?_) rfl (by kernel_rfl) (by kernel_rfl) (by kernel_rfl) (fun _ _ _ h => h) (Or.inl ⟨by rfl, (by intro w hSw; go_simp; try with_reducible rfl)⟩) (by assumption) ?_
  simp only [Act.put, List.getElem_toArray, List.getElem_cons_zero, List.getElem_cons_succ, List.setIfInBounds_toArray, List.set_cons_zero, List.set_cons_succ]
  refine wpAnyH_take (i := 12) (v := ?_) rfl (by kernel_rfl) (by kernel_rfl) (by kernel_rfl) (fun _ _ _ h => h) (Or.inl ⟨by rfl, (by intro w hSw; go_simp; try with_reducible rfl)⟩) (by assumption) ?_
  simp only [Act.put, List.getElem_toArray, List.getElem_cons_zero, List.getElem_cons_succ, List.setIfInBounds_toArray, List.set_cons_zero, List.set_cons_succ]
  refine wpAnyH_ready (rs := [13]) (by kernel_rfl) (by simp) ?_
  refine AllReadyH.cons rfl (fun K hK => ?_) AllReadyH.nil
  have q1 : W1.cell? ⟨b, 1, none⟩ = some (.int .i64 B) := HR.out.at 1
  have f1 := HR.out.free 1
  go_simp
  refine hK.out _ _ trivial (fun hHeld => ?_)
  clear q1 f1
  clear hK K
  refine wpAnyH_done (by kernel_rfl) ?_ _
  have HX2 := Lib.hid (HX.out.storedElsewhere (p := ⟨b, 1, none⟩) (by show b ≠ w.heap.size; omega) (.int .i64 B'))
  have HR2 := Lib.hid (HR.out.stored 1 (.int .i64 B'))
  have HM2 := Lib.hid (HM.out.kept (Kept.ofGrown (F := fun i => i = b) (gb_store (gb_refl W1 (some b)) 1 (.int .i64 B')) (fun i e => by injection e with e; exact e.symm)) (fun e => hne e.symm))
  have HK2 := Lib.hid (HK.out.stored (p := ⟨b, 1, none⟩) (Or.inl (Or.inl rfl)) (.int .i64 B'))
  go_wp2_with fail
  refine wp_region_tail (n := 7) (S := (fun w' : World => Row w' b 76 #[.map (some bm), .int .i64 B', .int .i64 C] ∧ Row w' w.heap.size 110 #[.string (mk v), .int .i64 L])) (by kernel_rfl) (by kernel_rfl) (by rfl) (⟨HR2.out, HX2.out⟩) (fun hHeld => ?_)
  refine wpAnyH_take (i := 0) (v := ?_) rfl (by kernel_rfl) (by kernel_rfl) (by kernel_rfl) (fun _ _ _ h => h) (Or.inl ⟨by rfl, (by intro w hSw; go_simp; try with_reducible rfl)⟩) (by assumption) ?_
  simp only [Act.put, List.getElem_toArray, List.getElem_cons_zero, List.getElem_cons_succ, List.setIfInBounds_toArray, List.set_cons_zero, List.set_cons_succ]
  refine wpAnyH_take (i := 1) (v := ?_) rfl (by kernel_rfl) (by kernel_rfl) (by kernel_rfl) (fun _ _ _ h => h) (Or.inl ⟨by rfl, (by intro w hSw; go_simp; try with_reducible rfl)⟩) (by assumption) ?_
  simp only [Act.put, List.getElem_toArray, List.getElem_cons_zero, List.getElem_cons_succ, List.setIfInBounds_toArray, List.set_cons_zero, List.set_cons_succ]
  refine wpAnyH_take (i := 2) (v := ?_) rfl (by kernel_rfl) (by kernel_rfl) (by kernel_rfl) (fun _ _ _ h => h) (Or.inl ⟨by rfl, (by intro w hSw; go_simp; try with_reducible rfl)⟩) (by assumption) ?_
  simp only [Act.put, List.getElem_toArray, List.getElem_cons_zero, List.getElem_cons_succ, List.setIfInBounds_toArray, List.set_cons_zero, List.set_cons_succ]
  refine wpAnyH_take (i := 3) (v := ?_) rfl (by kernel_rfl) (by kernel_rfl) (by kernel_rfl) (fun _ _ _ h => h) (Or.inl ⟨by rfl, (by intro w hSw; have c2 := hSw.1.at 2; go_simp; try with_reducible rfl)⟩) (by assumption) ?_
  simp only [Act.put, List.getElem_toArray, List.getElem_cons_zero, List.getElem_cons_succ, List.setIfInBounds_toArray, List.set_cons_zero, List.set_cons_succ]
  refine wpAnyH_take (i := 4) (v := ?_) rfl (by kernel_rfl) (by kernel_rfl) (by kernel_rfl) (fun _ _ _ h => h) (Or.inl ⟨by rfl, (by intro w hSw; go_simp; try with_reducible rfl)⟩) (by assumption) ?_
  simp only [Act.put, List.getElem_toArray, List.getElem_cons_zero, List.getElem_cons_succ, List.setIfInBounds_toArray, List.set_cons_zero, List.set_cons_succ]
  refine wpAnyH_take (i := 5) (v := ?_) rfl (by kernel_rfl) (by kernel_rfl) (by kernel_rfl) (fun _ _ _ h => h) (Or.inl ⟨by rfl, (by intro w hSw; have c1 := hSw.2.at 1; go_simp; try with_reducible rfl)⟩) (by assumption) ?_
  simp only [Act.put, List.getElem_toArray, List.getElem_cons_zero, List.getElem_cons_succ, List.setIfInBounds_toArray, List.set_cons_zero, List.set_cons_succ]
  refine wpAnyH_take (i := 6) (v := ?_) rfl (by kernel_rfl) (by kernel_rfl) (by kernel_rfl) (fun _ _ _ h => h) (Or.inl ⟨by rfl, (by intro w hSw; go_simp; try with_reducible rfl)⟩) (by assumption) ?_
  simp only [Act.put, List.getElem_toArray, List.getElem_cons_zero, List.getElem_cons_succ, List.setIfInBounds_toArray, List.set_cons_zero, List.set_cons_succ]
  refine wpAnyH_done (by kernel_rfl) ?_ _
  refine wpAny_of_held (S := fun _ => True) _ _ _ _ ?_
  have hHeld : True := trivial
  refine wpAnyH_take (i := 7) (v := ?_) rfl (by kernel_rfl) (by kernel_rfl) (by kernel_rfl) (fun _ _ _ h => h) (Or.inl ⟨by rfl, (by intro w hSw; go_simp; try with_reducible rfl)⟩) (by assumption) ?_
  simp only [Act.put, List.getElem_toArray, List.getElem_cons_zero, List.getElem_cons_succ, List.setIfInBounds_toArray, List.set_cons_zero, List.set_cons_succ]
  refine wpAnyH_take (i := 8) (v := ?_) rfl (by kernel_rfl) (by kernel_rfl) (by kernel_rfl) (fun _ _ _ h => h) (Or.inl ⟨by rfl, (by intro w hSw; go_simp; try with_reducible rfl)⟩) (by assumption) ?_
  simp only [Act.put, List.getElem_toArray, List.getElem_cons_zero, List.getElem_cons_succ, List.setIfInBounds_toArray, List.set_cons_zero, List.set_cons_succ]
  refine wpAnyH_ready (rs := [9]) (by kernel_rfl) (by simp) ?_
  refine AllReadyH.cons rfl (fun K hK => ?_) AllReadyH.nil
  have q2 : (W1.setCell ⟨b, 1, none⟩ (.int .i64 B')).cell? ⟨b, 2, none⟩ = some (.int .i64 C) := HR2.out.at 2
  have f2 := HR2.out.free 2
  go_simp
  refine hK.out _ _ trivial (fun hHeld => ?_)
  clear q2 f2
  clear hK K
  refine wpAnyH_done (by kernel_rfl) ?_ _
  have HR3 := Lib.hid (HR2.out.stored 2 (.int .i64 C'))
  have HM3 := Lib.hid (HM2.out.kept (Kept.ofGrown (F := fun i => i = b) (gb_store (gb_refl (W1.setCell ⟨b, 1, none⟩ (.int .i64 B')) (some b)) 2 (.int .i64 C')) (fun i e => by injection e with e; exact e.symm)) (fun e => hne e.symm))
  have HK3 := Lib.hid (HK2.out.stored (p := ⟨b, 2, none⟩) (Or.inl (Or.inl rfl)) (.int .i64 C'))
  have q3 : ((W1.setCell ⟨b, 1, none⟩ (.int .i64 B')).setCell ⟨b, 2, none⟩ (.int .i64 C')).cell? ⟨b, 0, none⟩ = some (.map (some bm)) := HR3.out.at 0
  go_wp2_with (at_delete; refine wpList_delete_own _ rfl _ _ 74 9 rfl 110 strKeyed Tryz.underlying74 rawElem bm _ _ rfl HM3.out _ _ rfl (strKey Hkey.out) ?_; intro w4 own4 turn4)
  rw [mk_data, datum_del] at own4
  have hm4 := map_tight own4
  have hr4 := Row.grown (Row.behindDraw (Row.behindDraw HR3.out)) turn4.grown (by intro e; injection e with e; exact hne e.symm)
  have hk4 := HK3.out.drew.drew.trans (Kept.ofGrown (F := fun i => i = b ∨ i = bm) turn4.grown (fun i e => by injection e with e; exact Or.inr e.symm)) (fun _ _ h => h)
  have Hend := Lib.hid (hfin.out w4 hr4 hm4 hk4)
  clear own4 hm4 hr4 hk4 turn4
  exact Go.Great.bodyPost_end0 rfl rfl ⟨rfl, Hend.out⟩
end
end Go.Proofs.YtbfjageaheijbaaGreat
/- The contracts of library functions that this program calls, at its own numbers (laid by the kit's commands). -/
namespace Go.Proofs
open Go.Shelf
def Tryz.lays128_ren : Go.Shelf.Ren := ⟨fun | 128 => 130 | n => n, fun | 51 => 179 | 3 => 3 | 4 => 4 | 46 => 152 | 5 => 5 | 9 => 9 | n => n, fun | n => n⟩
theorem Tryz.lays128 : Go.Proofs.Lays.n128 Tryz.prog Tryz.lays128_ren := {
  mixed := by kernel_rfl
  f128 := Tryz.func130.trans (congrArg some (by kernel_rfl))
  t3 := Tryz.underlying3
  a3 := Tryz.isAgg3
  z3 := Tryz.sizeOf3
  v3 := Tryz.zeroValue3
  t4 := Tryz.underlying4
  a4 := Tryz.isAgg4
  z4 := Tryz.sizeOf4
  v4 := Tryz.zeroValue4
  t5 := Tryz.underlying5
  a5 := Tryz.isAgg5
  z5 := Tryz.sizeOf5
  v5 := Tryz.zeroValue5
  t9 := Tryz.underlying9
  a9 := Tryz.isAgg9
  z9 := Tryz.sizeOf9
  v9 := Tryz.zeroValue9
  t46 := Tryz.underlying152
  a46 := Tryz.isAgg152
  z46 := Tryz.sizeOf152
  v46 := Tryz.zeroValue152
  t51 := Tryz.underlying179
  a51 := Tryz.isAgg179
  z51 := Tryz.sizeOf179
  v51 := Tryz.zeroValue179 }
theorem Tryz.bits_Len32 (x : Int) (w : World) (h0 : 0 ≤ x) (h1 : x ≤ 4294967295) :
    Calls Tryz.prog 130 #[.int .u32 x] w fun e w' => e = .returned (.int .i64 (Lib.bitLen x.toNat)) ∧ w' = w := Any.bits_Len32 Tryz.lays128 x w h0 h1
def Tryz.lays125_ren : Go.Shelf.Ren := ⟨fun | 125 => 102 | 128 => 130 | 129 => 131 | n => n, fun | 46 => 152 | 3 => 3 | 51 => 179 | 53 => 181 | 4 => 4 | 5 => 5 | 9 => 9 | n => n, fun | n => n⟩
theorem Tryz.lays125 : Go.Proofs.Lays.n125 Tryz.prog Tryz.lays125_ren := {
  mixed := by kernel_rfl
  f125 := Tryz.func102.trans (congrArg some (by kernel_rfl))
  f128 := Tryz.func130.trans (congrArg some (by kernel_rfl))
  f129 := Tryz.func131.trans (congrArg some (by kernel_rfl))
  t3 := Tryz.underlying3
  a3 := Tryz.isAgg3
  z3 := Tryz.sizeOf3
  v3 := Tryz.zeroValue3
  t4 := Tryz.underlying4
  a4 := Tryz.isAgg4
  z4 := Tryz.sizeOf4
  v4 := Tryz.zeroValue4
  t5 := Tryz.underlying5
  a5 := Tryz.isAgg5
  z5 := Tryz.sizeOf5
  v5 := Tryz.zeroValue5
  t9 := Tryz.underlying9
  a9 := Tryz.isAgg9
  z9 := Tryz.sizeOf9
  v9 := Tryz.zeroValue9
  t46 := Tryz.underlying152
  a46 := Tryz.isAgg152
  z46 := Tryz.sizeOf152
  v46 := Tryz.zeroValue152
  t51 := Tryz.underlying179
  a51 := Tryz.isAgg179
  z51 := Tryz.sizeOf179
  v51 := Tryz.zeroValue179
  t53 := Tryz.underlying181
  a53 := Tryz.isAgg181
  z53 := Tryz.sizeOf181
  v53 := Tryz.zeroValue181 }
theorem Tryz.bits_Len (x : Int) (w : World) (h0 : 0 ≤ x) (h1 : x ≤ 18446744073709551615) :
    Calls Tryz.prog 102 #[.int .u64 x] w fun e w' => e = .returned (.int .i64 (Lib.bitLen x.toNat)) ∧ w' = w := Any.bits_Len Tryz.lays125 x w h0 h1
def Tryz.lays210_ren : Go.Shelf.Ren := ⟨fun | 210 => 132 | 206 => 100 | n => n, fun | 9 => 9 | 4 => 4 | 3 => 3 | n => n, fun | n => n⟩
theorem Tryz.lays210 : Go.Proofs.Lays.n210 Tryz.prog Tryz.lays210_ren := {
  mixed := by kernel_rfl
  f206 := Tryz.func100.trans (congrArg some (by kernel_rfl))
  f210 := Tryz.func132.trans (congrArg some (by kernel_rfl))
  t3 := Tryz.underlying3
  a3 := Tryz.isAgg3
  z3 := Tryz.sizeOf3
  v3 := Tryz.zeroValue3
  t4 := Tryz.underlying4
  a4 := Tryz.isAgg4
  z4 := Tryz.sizeOf4
  v4 := Tryz.zeroValue4
  t9 := Tryz.underlying9
  a9 := Tryz.isAgg9
  z9 := Tryz.sizeOf9
  v9 := Tryz.zeroValue9 }
open Go.RowKit in
theorem Tryz.stringslite_CutPrefix (s p : ByteArray) (w : World) :
    Calls Tryz.prog 132 #[.string s, .string p] w fun e w' => e = .returned (.tuple #[.string ⟨(Lib.trimPrefix s.data.toList p.data.toList).toArray⟩, .bool (Lib.hasPrefix s.data.toList p.data.toList)]) ∧ w' = w := Any.stringslite_CutPrefix Tryz.lays210 s p w
def Tryz.lays103_ren : Go.Shelf.Ren := ⟨fun | 103 => 104 | 210 => 132 | 206 => 100 | n => n, fun | 9 => 9 | 4 => 4 | 24 => 67 | 3 => 3 | n => n, fun | n => n⟩
theorem Tryz.lays103 : Go.Proofs.Lays.n103 Tryz.prog Tryz.lays103_ren := {
  mixed := by kernel_rfl
  f103 := Tryz.func104.trans (congrArg some (by kernel_rfl))
  f206 := Tryz.func100.trans (congrArg some (by kernel_rfl))
  f210 := Tryz.func132.trans (congrArg some (by kernel_rfl))
  t3 := Tryz.underlying3
  a3 := Tryz.isAgg3
  z3 := Tryz.sizeOf3
  v3 := Tryz.zeroValue3
  t4 := Tryz.underlying4
  a4 := Tryz.isAgg4
  z4 := Tryz.sizeOf4
  v4 := Tryz.zeroValue4
  t9 := Tryz.underlying9
  a9 := Tryz.isAgg9
  z9 := Tryz.sizeOf9
  v9 := Tryz.zeroValue9
  t24 := Tryz.underlying67
  a24 := Tryz.isAgg67
  z24 := Tryz.sizeOf67
  v24 := Tryz.zeroValue67 }
open Go.RowKit in
theorem Tryz.strings_CutPrefix (s p : ByteArray) (w : World) :
    Calls Tryz.prog 104 #[.string s, .string p] w fun e w' => e = .returned (.tuple #[.string ⟨(Lib.trimPrefix s.data.toList p.data.toList).toArray⟩, .bool (Lib.hasPrefix s.data.toList p.data.toList)]) ∧ w' = w := Any.strings_CutPrefix Tryz.lays103 s p w
def Tryz.lays129_ren : Go.Shelf.Ren := ⟨fun | 129 => 131 | n => n, fun | 53 => 181 | 3 => 3 | 4 => 4 | 46 => 152 | 5 => 5 | 9 => 9 | n => n, fun | n => n⟩
theorem Tryz.lays129 : Go.Proofs.Lays.n129 Tryz.prog Tryz.lays129_ren := {
  mixed := by kernel_rfl
  f129 := Tryz.func131.trans (congrArg some (by kernel_rfl))
  t3 := Tryz.underlying3
  a3 := Tryz.isAgg3
  z3 := Tryz.sizeOf3
  v3 := Tryz.zeroValue3
  t4 := Tryz.underlying4
  a4 := Tryz.isAgg4
  z4 := Tryz.sizeOf4
  v4 := Tryz.zeroValue4
  t5 := Tryz.underlying5
  a5 := Tryz.isAgg5
  z5 := Tryz.sizeOf5
  v5 := Tryz.zeroValue5
  t9 := Tryz.underlying9
  a9 := Tryz.isAgg9
  z9 := Tryz.sizeOf9
  v9 := Tryz.zeroValue9
  t46 := Tryz.underlying152
  a46 := Tryz.isAgg152
  z46 := Tryz.sizeOf152
  v46 := Tryz.zeroValue152
  t53 := Tryz.underlying181
  a53 := Tryz.isAgg181
  z53 := Tryz.sizeOf181
  v53 := Tryz.zeroValue181 }
theorem Tryz.bits_Len64 (x : Int) (w : World) (h0 : 0 ≤ x) (h1 : x ≤ 18446744073709551615) :
    Calls Tryz.prog 131 #[.int .u64 x] w fun e w' => e = .returned (.int .i64 (Lib.bitLen x.toNat)) ∧ w' = w := Any.bits_Len64 Tryz.lays129 x w h0 h1
def Tryz.laysM316_ren : Go.Shelf.Ren := ⟨fun | 316 => 113 | n => n, fun | 9 => 9 | 3 => 3 | 4 => 4 | 37 => 99 | 0 => 0 | 127 => 184 | 5 => 5 | n => n, fun | n => n⟩
theorem Tryz.laysM316 : Go.Proofs.LaysM.n316 Tryz.prog Tryz.laysM316_ren := {
  mixed := by kernel_rfl
  f316 := Tryz.func113.trans (congrArg some (by kernel_rfl))
  t0 := Tryz.underlying0
  a0 := Tryz.isAgg0
  z0 := Tryz.sizeOf0
  v0 := Tryz.zeroValue0
  t3 := Tryz.underlying3
  a3 := Tryz.isAgg3
  z3 := Tryz.sizeOf3
  v3 := Tryz.zeroValue3
  t4 := Tryz.underlying4
  a4 := Tryz.isAgg4
  z4 := Tryz.sizeOf4
  v4 := Tryz.zeroValue4
  t9 := Tryz.underlying9
  a9 := Tryz.isAgg9
  z9 := Tryz.sizeOf9
  v9 := Tryz.zeroValue9
  t37 := Tryz.underlying99
  a37 := Tryz.isAgg99
  z37 := Tryz.sizeOf99
  v37 := Tryz.zeroValue99
  t127 := Tryz.underlying184
  a127 := Tryz.isAgg184
  z127 := Tryz.sizeOf184
  v127 := Tryz.zeroValue184
  t5 := Tryz.underlying5
  a5 := Tryz.isAgg5
  z5 := Tryz.sizeOf5
  v5 := Tryz.zeroValue5
  i0 := by kernel_rfl
  i3 := by kernel_rfl
  i4 := by kernel_rfl
  i5 := by kernel_rfl
  i9 := by kernel_rfl
  i37 := by kernel_rfl
  i127 := by kernel_rfl }
open Go.RowKit in
theorem Tryz.stringslite_Clone (s : ByteArray) (w : World) (hlim : s.size ≤ 281474976710656) :
    Calls Tryz.prog 113 #[.string s] w fun e w' => e = .returned (.string s) ∧ Below w.heap.size w w' := Any.stringslite_Clone Tryz.laysM316 s w hlim
def Tryz.lays190_ren : Go.Shelf.Ren := ⟨fun | 190 => 74 | 125 => 102 | 258 => 101 | 128 => 130 | 129 => 131 | 302 => 121 | 303 => 122 | 304 => 123 | 305 => 124 | 306 => 125 | 307 => 126 | 308 => 127 | 309 => 128 | 310 => 129 | 333 => 138 | 329 => 139 | 330 => 140 | 334 => 141 | 335 => 142 | 336 => 143 | 344 => 145 | n => n, fun | 31 => 55 | 9 => 9 | 3 => 3 | 46 => 152 | 0 => 0 | 51 => 179 | 53 => 181 | 4 => 4 | 183 => 173 | 182 => 172 | 131 => 90 | 5 => 5 | 218 => 186 | 222 => 190 | 228 => 195 | 229 => 196 | n => n, fun | n => n⟩
theorem Tryz.lays190 : Go.Proofs.Lays.n190 Tryz.prog Tryz.lays190_ren := {
  mixed := by kernel_rfl
  f125 := Tryz.func102.trans (congrArg some (by kernel_rfl))
  f128 := Tryz.func130.trans (congrArg some (by kernel_rfl))
  f129 := Tryz.func131.trans (congrArg some (by kernel_rfl))
  f190 := Tryz.func74.trans (congrArg some (by kernel_rfl))
  f258 := Tryz.func101.trans (congrArg some (by kernel_rfl))
  f302 := Tryz.func121.trans (congrArg some (by kernel_rfl))
  f303 := Tryz.func122.trans (congrArg some (by kernel_rfl))
  f304 := Tryz.func123.trans (congrArg some (by kernel_rfl))
  f305 := Tryz.func124.trans (congrArg some (by kernel_rfl))
  f306 := Tryz.func125.trans (congrArg some (by kernel_rfl))
  f307 := Tryz.func126.trans (congrArg some (by kernel_rfl))
  f308 := Tryz.func127.trans (congrArg some (by kernel_rfl))
  f309 := Tryz.func128.trans (congrArg some (by kernel_rfl))
  f310 := Tryz.func129.trans (congrArg some (by kernel_rfl))
  f329 := Tryz.func139.trans (congrArg some (by kernel_rfl))
  f330 := Tryz.func140.trans (congrArg some (by kernel_rfl))
  f333 := Tryz.func138.trans (congrArg some (by kernel_rfl))
  f334 := Tryz.func141.trans (congrArg some (by kernel_rfl))
  f335 := Tryz.func142.trans (congrArg some (by kernel_rfl))
  f336 := Tryz.func143.trans (congrArg some (by kernel_rfl))
  f344 := Tryz.func145.trans (congrArg some (by kernel_rfl))
  t0 := Tryz.underlying0
  a0 := Tryz.isAgg0
  z0 := Tryz.sizeOf0
  v0 := Tryz.zeroValue0
  t3 := Tryz.underlying3
  a3 := Tryz.isAgg3
  z3 := Tryz.sizeOf3
  v3 := Tryz.zeroValue3
  t4 := Tryz.underlying4
  a4 := Tryz.isAgg4
  z4 := Tryz.sizeOf4
  v4 := Tryz.zeroValue4
  t5 := Tryz.underlying5
  a5 := Tryz.isAgg5
  z5 := Tryz.sizeOf5
  v5 := Tryz.zeroValue5
  t9 := Tryz.underlying9
  a9 := Tryz.isAgg9
  z9 := Tryz.sizeOf9
  v9 := Tryz.zeroValue9
  t31 := Tryz.underlying55
  a31 := Tryz.isAgg55
  z31 := Tryz.sizeOf55
  v31 := Tryz.zeroValue55
  t46 := Tryz.underlying152
  a46 := Tryz.isAgg152
  z46 := Tryz.sizeOf152
  v46 := Tryz.zeroValue152
  t51 := Tryz.underlying179
  a51 := Tryz.isAgg179
  z51 := Tryz.sizeOf179
  v51 := Tryz.zeroValue179
  t53 := Tryz.underlying181
  a53 := Tryz.isAgg181
  z53 := Tryz.sizeOf181
  v53 := Tryz.zeroValue181
  t131 := Tryz.underlying90
  a131 := Tryz.isAgg90
  z131 := Tryz.sizeOf90
  v131 := Tryz.zeroValue90
  t182 := Tryz.underlying172
  a182 := Tryz.isAgg172
  z182 := Tryz.sizeOf172
  v182 := Tryz.zeroValue172
  t183 := Tryz.underlying173
  a183 := Tryz.isAgg173
  z183 := Tryz.sizeOf173
  v183 := Tryz.zeroValue173
  t218 := Tryz.underlying186
  a218 := Tryz.isAgg186
  z218 := Tryz.sizeOf186
  v218 := Tryz.zeroValue186
  t222 := Tryz.underlying190
  a222 := Tryz.isAgg190
  z222 := Tryz.sizeOf190
  v222 := Tryz.zeroValue190
  t228 := Tryz.underlying195
  a228 := Tryz.isAgg195
  z228 := Tryz.sizeOf195
  v228 := Tryz.zeroValue195
  t229 := Tryz.underlying196
  a229 := Tryz.isAgg196
  z229 := Tryz.sizeOf196
  v229 := Tryz.zeroValue196 }
open Go.Sort Go.RowKit in
theorem Tryz.slices_Sort_string (blk off cap : Nat) (ss : List (List UInt8)) (w : World) (hH : Holds encStr w blk off ss.toArray) (hblk : blk < w.heap.size) (hsz : ss.length < 4611686018427387904) :
    Calls Tryz.prog 74 #[.slice (some ⟨blk, off, none⟩) ss.length cap] w fun e w' =>
      e = .returned (.tuple #[]) ∧ ∃ n os, w' = grow (putRow encStr (Sort.ahead w n) blk off (ss.mergeSort fun x y => decide (x ≤ y)).toArray) os := Any.slices_Sort_string Tryz.lays190 blk off cap ss w hH hblk hsz
def Tryz.lays206_ren : Go.Shelf.Ren := ⟨fun | 206 => 100 | n => n, fun | 9 => 9 | 4 => 4 | 3 => 3 | n => n, fun | n => n⟩
theorem Tryz.lays206 : Go.Proofs.Lays.n206 Tryz.prog Tryz.lays206_ren := {
  mixed := by kernel_rfl
  f206 := Tryz.func100.trans (congrArg some (by kernel_rfl))
  t3 := Tryz.underlying3
  a3 := Tryz.isAgg3
  z3 := Tryz.sizeOf3
  v3 := Tryz.zeroValue3
  t4 := Tryz.underlying4
  a4 := Tryz.isAgg4
  z4 := Tryz.sizeOf4
  v4 := Tryz.zeroValue4
  t9 := Tryz.underlying9
  a9 := Tryz.isAgg9
  z9 := Tryz.sizeOf9
  v9 := Tryz.zeroValue9 }
open Go.RowKit Go.Lib in
theorem Tryz.stringslite_HasPrefix (s p : ByteArray) (w : World) :
    Calls Tryz.prog 100 #[.string s, .string p] w fun e w' => e = .returned (.bool (Lib.hasPrefix s.data.toList p.data.toList)) ∧ w' = w := Any.stringslite_HasPrefix Tryz.lays206 s p w
def Tryz.lays99_ren : Go.Shelf.Ren := ⟨fun | 99 => 73 | 206 => 100 | n => n, fun | 9 => 9 | 4 => 4 | 3 => 3 | n => n, fun | n => n⟩
theorem Tryz.lays99 : Go.Proofs.Lays.n99 Tryz.prog Tryz.lays99_ren := {
  mixed := by kernel_rfl
  f99 := Tryz.func73.trans (congrArg some (by kernel_rfl))
  f206 := Tryz.func100.trans (congrArg some (by kernel_rfl))
  t3 := Tryz.underlying3
  a3 := Tryz.isAgg3
  z3 := Tryz.sizeOf3
  v3 := Tryz.zeroValue3
  t4 := Tryz.underlying4
  a4 := Tryz.isAgg4
  z4 := Tryz.sizeOf4
  v4 := Tryz.zeroValue4
  t9 := Tryz.underlying9
  a9 := Tryz.isAgg9
  z9 := Tryz.sizeOf9
  v9 := Tryz.zeroValue9 }
open Go.RowKit Go.Lib in
theorem Tryz.strings_HasPrefix (s p : ByteArray) (w : World) :
    Calls Tryz.prog 73 #[.string s, .string p] w fun e w' => e = .returned (.bool (Lib.hasPrefix s.data.toList p.data.toList)) ∧ w' = w := Any.strings_HasPrefix Tryz.lays99 s p w
open Go.RowKit Go.Sort in
theorem Tryz.slices_Sort_string_none (p : Option Addr) (cap : Nat) (w : World) :
    Calls Tryz.prog 74 #[.slice p 0 cap] w fun e w' => e = .returned (.tuple #[]) ∧ w' = w := Any.slices_Sort_string_none Tryz.lays190 p cap w
end Go.Proofs
