/- The document's own answers of layer 13: At, Has, Covers, Same, Plain, Ends, Of. -/
import Derived.Test.YtlgaljlbjbfdgaaVecOk
import Derived.Test.YtlgaljlbjbfdgaaVerRef
import Derived.Test.YtlgaljlbjbfdgaaVerPut
set_option linter.unusedSimpArgs false
set_option linter.unusedVariables false
namespace Go.Proofs.Ytlgaljlbjbfdgaa
open Go.RowKit Go.Sort

set_option maxRecDepth 100000 in
theorem ref_vat (w : World) {v : List Int} (i : Int) (hv : v.length = 65) : Calls Try.prog 26 #[vecA v, .int .i64 i] w fun e w' => e = .returned (.int .i64 (Vec.num v i)) ∧ Laid w w' := by
  have HL := Lib.hid (Laid.new w (.cells (vecR v) 23))
  by_cases h1 : i < 1
  · have E : Hid (Vec.num v i = 0) := Lib.hid (by unfold Vec.num; rw [if_neg (by omega)])
    go_enter Try.func26, Try.ntmps26
    go_wp2_with fail
    go_ret
    exact ⟨by rw [E.out]; rfl, HL.out⟩
  · by_cases h2 : 64 < i
    · have E : Hid (Vec.num v i = 0) := Lib.hid (by unfold Vec.num; rw [if_neg (by omega)])
      go_enter Try.func26, Try.ntmps26
      go_wp2_with fail
      go_ret
      exact ⟨by rw [E.out]; rfl, HL.out⟩
    · obtain ⟨k, hk, hk2⟩ : ∃ k : Nat, i = (k : Int) ∧ 1 ≤ k ∧ k ≤ 64 := ⟨i.toNat, by omega, by omega⟩
      subst hk
      obtain ⟨n, hn⟩ : ∃ n, v[k]? = some n := ⟨_, List.getElem?_eq_getElem (by omega)⟩
      have E : Hid (Vec.num v (k : Int) = max n 0) := Lib.hid (by
        unfold Vec.num Vec.at_
        rw [if_pos (by omega), Int.toNat_natCast, if_pos (by omega), hn]; rfl)
      have c0 := (VRow.made w hv).at hn
      have had := vec_addr (k := k) (by omega) w.heap.size
      by_cases h3 : n < 0
      · have E : Hid (Vec.num v (k : Int) = 0) := Lib.hid (by rw [E.out]; omega)
        clear hn hv
        go_enter Try.func26, Try.ntmps26
        go_wp2_with fail
        go_ret
        exact ⟨by rw [E.out]; rfl, HL.out⟩
      · have E : Hid (Vec.num v (k : Int) = n) := Lib.hid (by rw [E.out]; omega)
        clear hn hv
        go_enter Try.func26, Try.ntmps26
        go_wp2_with fail
        go_ret
        exact ⟨by rw [E.out]; rfl, HL.out⟩

set_option maxRecDepth 100000 in
set_option maxHeartbeats 1600000 in
theorem ref_vhas (w : World) {v : List Int} (x : Ver.V) (hv : v.length = 65) : Calls Try.prog 11 #[vecA v, verA x] w fun e w' => e = .returned (.bool (decide (Vec.Has v x))) ∧ Below w.heap.size w w' := by
  have mixed : Try.prog.follows .mixedOrders = true := by kernel_rfl
  have RI := Lib.hid (fun W => ref_vright W x)
  have AT := Lib.hid (fun W => ref_vat W x.by_ hv)
  have start : ∃ W, W = (w.alloc (.cells (vecR v) 23)).alloc (.cells #[.int .i64 x.by_, .int .i64 x.n] 25) ∧ VRow W w.heap.size v ∧ Row W (w.heap.size + 1) 25 #[.int .i64 x.by_, .int .i64 x.n] ∧ Laid w W := by
    refine ⟨_, rfl, (VRow.made w hv).alloc _, ?_, (Laid.new w _).alloc _⟩
    have := Row.made (w.alloc (.cells (vecR v) 23)) 25 #[.int .i64 x.by_, .int .i64 x.n]
    rwa [World.size_alloc] at this
  obtain ⟨W, hW, r0, r1, hL⟩ := start
  have V0 : Hid (∀ w', InB W w' → VRow w' w.heap.size v) := Lib.hid (fun w' h => r0.inB h)
  have XC : Hid (∀ w', InB W w' → w'.cell? ⟨w.heap.size + 1, 0, none⟩ = some (.int .i64 x.by_) ∧ w'.cell? ⟨w.heap.size + 1, 1, none⟩ = some (.int .i64 x.n)) := Lib.hid (fun w' h => by
    have := r1.below h.below r1.inHeap
    exact ⟨this.at 0, this.at 1⟩)
  have HL := Lib.hid hL
  by_cases hr : Ver.Right x
  · have E : Hid (decide (Vec.Has v x) = decide (x.n ≤ Vec.num v x.by_)) := Lib.hid (by rw [decide_eq_decide]; unfold Vec.Has; exact ⟨fun h => h.2, fun h => ⟨hr, h⟩⟩)
    rw [decide_eq_true hr] at RI
    obtain ⟨x1, x2⟩ := x
    simp only at RI AT E hW XC
    generalize Vec.num v x1 = n at *
    clear r0 r1 hL hr hv
    go_enter Try.func11, Try.ntmps11
    go_wp2_with fail
    rw [← hW]
    clear hW
    refine wp_region_below (by assumption) (by kernel_rfl) ?_
    repeat ((first
      | (refine wq_skip (by rfl) ?_)
      | (refine wq_vload (by kernel_rfl) _ (by rfl) (by rfl) V0.out ?_)
      | (refine wq_take (v := ?_) (by kernel_rfl) (by intro w hSw; have hXC := XC.out w hSw; go_simp; first | done | with_reducible rfl) ?_)
      | (refine wq_call (by kernel_rfl) ?hent (fun w hSw => inB_laid hSw (RI.out w)) ?_; (case hent => (intro w hSw; go_simp; done)))
      | (refine wq_call (by kernel_rfl) ?hent (fun w hSw => inB_laid hSw (AT.out w)) ?_; (case hent => (intro w hSw; go_simp; done)))); (try simp only [Act.put, List.getElem_toArray, List.getElem_cons_zero, List.getElem_cons_succ, List.setIfInBounds_toArray, List.set_cons_zero, List.set_cons_succ]))
    refine wq_nil ?_
    intro wq hq
    have HQ := Lib.hid (HL.out.below.trans (hq.below.mono HL.out.size))
    clear hq
    go_wp2_with fail
    go_ret
    exact ⟨by rw [E.out]; rfl, HQ.out⟩
  · have E : Hid (decide (Vec.Has v x) = false) := Lib.hid (decide_eq_false (fun h => hr h.1))
    rw [decide_eq_false hr] at RI
    obtain ⟨x1, x2⟩ := x
    simp only at RI AT E hW XC
    clear r0 r1 hL hr hv
    go_enter Try.func11, Try.ntmps11
    go_wp2_with fail
    rw [← hW]
    clear hW
    refine wp_region_below (by assumption) (by kernel_rfl) ?_
    repeat ((first
      | (refine wq_skip (by rfl) ?_)
      | (refine wq_vload (by kernel_rfl) _ (by rfl) (by rfl) V0.out ?_)
      | (refine wq_take (v := ?_) (by kernel_rfl) (by intro w hSw; have hXC := XC.out w hSw; go_simp; first | done | with_reducible rfl) ?_)
      | (refine wq_call (by kernel_rfl) ?hent (fun w hSw => inB_laid hSw (RI.out w)) ?_; (case hent => (intro w hSw; go_simp; done)))); (try simp only [Act.put, List.getElem_toArray, List.getElem_cons_zero, List.getElem_cons_succ, List.setIfInBounds_toArray, List.set_cons_zero, List.set_cons_succ]))
    refine wq_nil ?_
    intro wq hq
    have HQ := Lib.hid (HL.out.below.trans (hq.below.mono HL.out.size))
    clear hq
    go_wp2_with fail
    go_ret
    exact ⟨by rw [E.out]; rfl, HQ.out⟩

set_option maxRecDepth 100000 in
set_option maxHeartbeats 1600000 in
theorem ref_vcovers (w : World) {a b : List Int} (ha : a.length = 65) (hb : b.length = 65) : Calls Try.prog 21 #[vecA a, vecA b] w fun e w' => e = .returned (.bool (decide (Vec.Covers a b))) ∧ Below w.heap.size w w' := by
  have mixed : Try.prog.follows .mixedOrders = true := by kernel_rfl
  have start : ∃ W, W = (w.alloc (.cells (vecR a) 23)).alloc (.cells (vecR b) 23) ∧ VRow W w.heap.size a ∧ VRow W (w.heap.size + 1) b ∧ Laid w W := by
    refine ⟨_, rfl, (VRow.made w ha).alloc _, ?_, (Laid.new w _).alloc _⟩
    have := VRow.made (w.alloc (.cells (vecR a) 23)) hb
    rwa [World.size_alloc] at this
  obtain ⟨W, hW, r0, r1, hL⟩ := start
  have R0 := Lib.hid r0
  have R1 := Lib.hid r1
  have HL := Lib.hid hL
  have HA := Lib.hid ha
  have HB := Lib.hid hb
  clear r0 r1 hL ha hb
  go_enter Try.func21, Try.ntmps21
  go_wp2_with fail
  rw [← hW]
  clear hW
  go_loopw [5] (fun i wr => ∃ k : Nat, 1 ≤ k ∧ k ≤ 65 ∧ i = .int .i64 (k : Int) ∧ Hid (∀ j, j < k → Vec.at_ b j ≤ Vec.at_ a j) ∧ InB W wr) (fun i _ => 65 - (intOf i).toNat)
  case atStart => exact ⟨1, Nat.le_refl _, by omega, rfl, Lib.hid (fun j hj => by rw [Vec.at_zero a j (by omega), Vec.at_zero b j (by omega)]; exact Int.le_refl _), InB.refl W⟩
  case round =>
    obtain ⟨k, hk1, hk, rfl, hall, hbel⟩ := hrel
    by_cases hlt : k < 65
    · have V0 : Hid (∀ w', InB wr w' → VRow w' w.heap.size a) := Lib.hid (fun w' h => (R0.out.inB hbel).inB h)
      have V1 : Hid (∀ w', InB wr w' → VRow w' (w.heap.size + 1) b) := Lib.hid (fun w' h => (R1.out.inB hbel).inB h)
      have AA := Lib.hid (fun W' => ref_vat W' (k : Int) HA.out)
      have AB := Lib.hid (fun W' => ref_vat W' (k : Int) HB.out)
      rw [Vec.num_nat a hlt] at AA
      rw [Vec.num_nat b hlt] at AB
      have k1 : (k : Int) ≤ 64 := by omega
      have Hbel := Lib.hid hbel
      clear hbel
      by_cases hgt : Vec.at_ a k < Vec.at_ b k
      · have E : Hid (decide (Vec.Covers a b) = false) := Lib.hid (decide_eq_false (fun h => by have := h k hlt; omega))
        have hd : decide (Vec.at_ a k < Vec.at_ b k) = true := decide_eq_true hgt
        generalize Vec.at_ a k = n at *
        generalize Vec.at_ b k = m at *
        clear hall
        go_wp2_with fail
        refine wp_region_below (by assumption) (by kernel_rfl) ?_
        repeat ((first
          | (refine wq_skip (by rfl) ?_)
          | (refine wq_vload (by kernel_rfl) _ (by rfl) (by rfl) V0.out ?_)
          | (refine wq_vload (by kernel_rfl) _ (by rfl) (by rfl) V1.out ?_)
          | (refine wq_take (v := ?_) (by kernel_rfl) (by intro w hSw; go_simp; first | done | with_reducible rfl) ?_)
          | (refine wq_call (by kernel_rfl) ?hent (fun w hSw => inB_laid hSw (AA.out w)) ?_; (case hent => (intro w hSw; go_simp; done)))
          | (refine wq_call (by kernel_rfl) ?hent (fun w hSw => inB_laid hSw (AB.out w)) ?_; (case hent => (intro w hSw; go_simp; done)))); (try simp only [Act.put, List.getElem_toArray, List.getElem_cons_zero, List.getElem_cons_succ, List.setIfInBounds_toArray, List.set_cons_zero, List.set_cons_succ]))
        refine wq_nil ?_
        intro wq hq
        have HQ := Lib.hid (HL.out.below.trans ((Hbel.out.trans hq.below).below.mono HL.out.size))
        clear hq
        go_wp2_with fail
        go_ret
        exact ⟨by rw [E.out]; rfl, HQ.out⟩
      · have hle : Vec.at_ b k ≤ Vec.at_ a k := by omega
        have Hnext : Hid (∀ j, j < k + 1 → Vec.at_ b j ≤ Vec.at_ a j) := Lib.hid (fun j hj => by
          by_cases e : j = k
          · subst e; exact hle
          · exact hall.out j (by omega))
        have hd : decide (Vec.at_ a k < Vec.at_ b k) = false := decide_eq_false hgt
        generalize Vec.at_ a k = n at *
        generalize Vec.at_ b k = m at *
        clear hall hgt
        go_wp2_with fail
        refine wp_region_below (by assumption) (by kernel_rfl) ?_
        repeat ((first
          | (refine wq_skip (by rfl) ?_)
          | (refine wq_vload (by kernel_rfl) _ (by rfl) (by rfl) V0.out ?_)
          | (refine wq_vload (by kernel_rfl) _ (by rfl) (by rfl) V1.out ?_)
          | (refine wq_take (v := ?_) (by kernel_rfl) (by intro w hSw; go_simp; first | done | with_reducible rfl) ?_)
          | (refine wq_call (by kernel_rfl) ?hent (fun w hSw => inB_laid hSw (AA.out w)) ?_; (case hent => (intro w hSw; go_simp; done)))
          | (refine wq_call (by kernel_rfl) ?hent (fun w hSw => inB_laid hSw (AB.out w)) ?_; (case hent => (intro w hSw; go_simp; done)))); (try simp only [Act.put, List.getElem_toArray, List.getElem_cons_zero, List.getElem_cons_succ, List.setIfInBounds_toArray, List.set_cons_zero, List.set_cons_succ]))
        refine wq_nil ?_
        intro wq hq
        have HQ := Lib.hid (Hbel.out.trans hq.below)
        clear hq
        go_wp2_with fail
        exact ⟨⟨k + 1, by omega, by omega, rfl, Hnext, HQ.out⟩, by show 65 - ((k : Int) + 1).toNat < 65 - (k : Int).toNat; omega⟩
    · obtain rfl : k = 65 := by omega
      have E : Hid (decide (Vec.Covers a b) = true) := Lib.hid (decide_eq_true (fun j hj => hall.out j hj))
      have HQ := Lib.hid (HL.out.below.trans (hbel.below.mono HL.out.size))
      clear hall hbel
      go_wp2_with fail
      go_ret
      exact ⟨by rw [E.out]; rfl, HQ.out⟩

set_option maxRecDepth 100000 in
set_option maxHeartbeats 1600000 in
theorem ref_vsame13 (w : World) {a b : List Int} (ha : a.length = 65) (hb : b.length = 65) : Calls Try.prog 12 #[vecA a, vecA b] w fun e w' => e = .returned (.bool (decide (Vec.Covers a b ∧ Vec.Covers b a))) ∧ Below w.heap.size w w' := by
  have CA := Lib.hid (fun W => ref_vcovers W ha hb)
  have CB := Lib.hid (fun W => ref_vcovers W hb ha)
  have start : ∃ W, W = (w.alloc (.cells (vecR a) 23)).alloc (.cells (vecR b) 23) ∧ VRow W w.heap.size a ∧ VRow W (w.heap.size + 1) b ∧ Laid w W := by
    refine ⟨_, rfl, (VRow.made w ha).alloc _, ?_, (Laid.new w _).alloc _⟩
    have := VRow.made (w.alloc (.cells (vecR a) 23)) hb
    rwa [World.size_alloc] at this
  obtain ⟨W, hW, r0, r1, hL⟩ := start
  have HW := Lib.hid hW
  have R0 := Lib.hid r0
  have R1 := Lib.hid r1
  have HL := Lib.hid hL
  clear r0 r1 hL ha hb
  by_cases h1 : Vec.Covers a b
  · have E : Hid (decide (Vec.Covers a b ∧ Vec.Covers b a) = decide (Vec.Covers b a)) := Lib.hid (by rw [decide_eq_decide]; exact ⟨fun h => h.2, fun h => ⟨h1, h⟩⟩)
    rw [decide_eq_true h1] at CA
    clear h1
    generalize decide (Vec.Covers b a) = r at *
    go_enter Try.func12, Try.ntmps12
    go_wp2_with (first | refine wpList_vload (by rfl) _ (by rfl) (by rfl) (HW.out ▸ R0.out) ?_ | refine wpList_vload (by rfl) _ (by rfl) (by rfl) (HW.out ▸ R1.out) ?_)
    rw [← hW]
    clear hW
    refine (CA.out _).mono ?_
    rintro e w1 ⟨rfl, h2⟩
    have S0 := Lib.hid (R0.out.below h2 R0.out.inHeap)
    have S1 := Lib.hid (R1.out.below h2 R1.out.inHeap)
    have H2 := Lib.hid (HL.out.below.trans (h2.mono HL.out.size))
    clear h2
    go_wp2_with (first | refine wpList_vload (by rfl) _ (by rfl) (by rfl) S0.out ?_ | refine wpList_vload (by rfl) _ (by rfl) (by rfl) S1.out ?_)
    refine (CB.out _).mono ?_
    rintro e w2 ⟨rfl, h3⟩
    have H3 := Lib.hid (H2.out.trans (h3.mono H2.out.size))
    clear h3
    go_wp2_with fail
    go_ret
    exact ⟨by rw [E.out]; rfl, H3.out⟩
  · have E : Hid (decide (Vec.Covers a b ∧ Vec.Covers b a) = false) := Lib.hid (decide_eq_false (fun h => h1 h.1))
    rw [decide_eq_false h1] at CA
    clear h1
    go_enter Try.func12, Try.ntmps12
    go_wp2_with (first | refine wpList_vload (by rfl) _ (by rfl) (by rfl) (HW.out ▸ R0.out) ?_ | refine wpList_vload (by rfl) _ (by rfl) (by rfl) (HW.out ▸ R1.out) ?_)
    rw [← hW]
    clear hW
    refine (CA.out _).mono ?_
    rintro e w1 ⟨rfl, h2⟩
    have H2 := Lib.hid (HL.out.below.trans (h2.mono HL.out.size))
    clear h2
    go_wp2_with fail
    go_ret
    exact ⟨by rw [E.out]; rfl, H2.out⟩

set_option maxRecDepth 100000 in
set_option maxHeartbeats 1600000 in
theorem ref_vplain (w : World) {v : List Int} (hv : v.length = 65) : Calls Try.prog 13 #[vecA v] w fun e w' => e = .returned (.bool (decide (Vec.Plain v))) ∧ Below w.heap.size w w' := by
  have mixed : Try.prog.follows .mixedOrders = true := by kernel_rfl
  have start : ∃ W, W = w.alloc (.cells (vecR v) 23) ∧ VRow W w.heap.size v ∧ Laid w W := ⟨_, rfl, VRow.made w hv, Laid.new w _⟩
  obtain ⟨W, hW, r0, hL⟩ := start
  have R0 := Lib.hid r0
  have HL := Lib.hid hL
  have HV := Lib.hid hv
  clear r0 hL hv
  go_enter Try.func13, Try.ntmps13
  go_wp2_with fail
  rw [← hW]
  clear hW
  go_loopw [3] (fun i wr => ∃ k : Nat, k ≤ 65 ∧ i = .int .i64 (k : Int) ∧ Hid (∀ j, j < k → v[j]? = some (Vec.at_ v j)) ∧ InB W wr) (fun i _ => 65 - (intOf i).toNat)
  case atStart => exact ⟨0, by omega, rfl, Lib.hid (fun j hj => by omega), InB.refl W⟩
  case round =>
    obtain ⟨k, hk, rfl, hall, hbel⟩ := hrel
    by_cases hlt : k < 65
    · have V0 : Hid (∀ w', InB wr w' → VRow w' w.heap.size v) := Lib.hid (fun w' h => (R0.out.inB hbel).inB h)
      obtain ⟨n, hn⟩ : ∃ n, v[k]? = some n := ⟨_, List.getElem?_eq_getElem (by rw [HV.out]; exact hlt)⟩
      have XC : Hid (∀ w', InB wr w' → w'.cell? ⟨w.heap.size, k, none⟩ = some (.int .i64 n)) := Lib.hid (fun w' h => (V0.out w' h).at hn)
      have had := vec_addr (k := k) hlt w.heap.size
      have AT := Lib.hid (fun W' => ref_vat W' (k : Int) HV.out)
      rw [Vec.num_nat v hlt] at AT
      have k1 : (k : Int) ≤ 64 := by omega
      have Hbel := Lib.hid hbel
      have Hn := Lib.hid hn
      clear hbel hn
      by_cases he : n = Vec.at_ v k
      · have Hnext : Hid (∀ j, j < k + 1 → v[j]? = some (Vec.at_ v j)) := Lib.hid (fun j hj => by
          by_cases e : j = k
          · subst e; rw [Hn.out, ← he]
          · exact hall.out j (by omega))
        rw [← he] at AT
        clear he hall
        go_wp2_with fail
        refine wp_region_below (by assumption) (by kernel_rfl) ?_
        repeat ((first
          | (refine wq_skip (by rfl) ?_)
          | (refine wq_vload (by kernel_rfl) _ (by rfl) (by rfl) V0.out ?_)
          | (refine wq_take (v := ?_) (by kernel_rfl) (by intro w hSw; have hXC := XC.out w hSw; go_simp; first | done | with_reducible rfl) ?_)
          | (refine wq_call (by kernel_rfl) ?hent (fun w hSw => inB_laid hSw (AT.out w)) ?_; (case hent => (intro w hSw; go_simp; done)))); (try simp only [Act.put, List.getElem_toArray, List.getElem_cons_zero, List.getElem_cons_succ, List.setIfInBounds_toArray, List.set_cons_zero, List.set_cons_succ]))
        refine wq_nil ?_
        intro wq hq
        have HQ := Lib.hid (Hbel.out.trans hq.below)
        clear hq
        go_wp2_with fail
        exact ⟨⟨k + 1, by omega, rfl, Hnext, HQ.out⟩, by show 65 - ((k : Int) + 1).toNat < 65 - (k : Int).toNat; omega⟩
      · have E : Hid (decide (Vec.Plain v) = false) := Lib.hid (decide_eq_false (fun h => he (by have := h.2 k hlt; rw [Hn.out] at this; injection this)))
        generalize Vec.at_ v k = m at *
        clear hall
        go_wp2_with fail
        refine wp_region_below (by assumption) (by kernel_rfl) ?_
        repeat ((first
          | (refine wq_skip (by rfl) ?_)
          | (refine wq_vload (by kernel_rfl) _ (by rfl) (by rfl) V0.out ?_)
          | (refine wq_take (v := ?_) (by kernel_rfl) (by intro w hSw; have hXC := XC.out w hSw; go_simp; first | done | with_reducible rfl) ?_)
          | (refine wq_call (by kernel_rfl) ?hent (fun w hSw => inB_laid hSw (AT.out w)) ?_; (case hent => (intro w hSw; go_simp; done)))); (try simp only [Act.put, List.getElem_toArray, List.getElem_cons_zero, List.getElem_cons_succ, List.setIfInBounds_toArray, List.set_cons_zero, List.set_cons_succ]))
        refine wq_nil ?_
        intro wq hq
        have HQ := Lib.hid (HL.out.below.trans ((Hbel.out.trans hq.below).below.mono HL.out.size))
        clear hq
        go_wp2_with fail
        go_ret
        exact ⟨by rw [E.out]; rfl, HQ.out⟩
    · obtain rfl : k = 65 := by omega
      have E : Hid (decide (Vec.Plain v) = true) := Lib.hid (decide_eq_true ⟨HV.out, fun j hj => hall.out j hj⟩)
      have HQ := Lib.hid (HL.out.below.trans (hbel.below.mono HL.out.size))
      clear hall hbel
      go_wp2_with fail
      go_ret
      exact ⟨by rw [E.out]; rfl, HQ.out⟩
end Go.Proofs.Ytlgaljlbjbfdgaa
