/- The landed store: may changes be done, and what is there behind them. -/
import Derived.Test.YtbfjageaheijbaaGreatCom36
import Derived.Test.YtbfjageaheijbaaGreatCom6
set_option linter.unusedSimpArgs false
set_option linter.unusedVariables false
namespace Go.Proofs.YtbfjageaheijbaaGreat
open Go.RowKit Dsk Jnl

section
variable {w w' : World} {F G : Nat → Prop} {dv sv jv : Value} {n : Nat} {d : D} {s : Sto.Sr} {b bm : Nat}

/-- What behind answers: the error, and, where there is none, the values. -/
def BehPost (w : World) (s : Sto.Sr) (cs : List Sto.Ch) (e : Ending) (w' : World) : Prop :=
  ∃ (x : Option Nat) (y z : Int), e = .returned (.tuple #[.agg #[.map x, .int .i64 y, .int .i64 z], .int .i64 (Sto.check s.vals cs s.quota)]) ∧ Below w.heap.size w w' ∧
    (Sto.check s.vals cs s.quota = 0 → ∃ bm', (x = some bm' ∧ y = (Sto.bytes (Sto.after s.vals cs) : Int) ∧ z = (Sto.whole (Sto.after s.vals cs) : Int)) ∧ MapAt w' bm' (Sto.after s.vals cs) ∧ w.heap.size ≤ bm')

set_option maxRecDepth 100000 in
theorem check_valid (l : List Sto.Pr) (cs : List Sto.Ch) (q : Int) : Sto.check l cs q = if validL cs = false then 2 else if Sto.bytes l < Sto.bytes (Sto.after l cs) ∧ q < (Sto.bytes (Sto.after l cs) : Int) then 11 else 0 := by
  unfold Sto.check validL
  by_cases h1 : cs.length = 0 ∨ 1024 < cs.length
  · rw [if_pos h1, if_pos (by rw [decide_eq_false_iff_not]; exact fun h => h.1 h1)]
  · rw [if_neg h1]
    by_cases h2 : ∀ c ∈ cs, Sto.May c
    · have hd : decide (¬(cs.length = 0 ∨ 1024 < cs.length) ∧ ∀ c ∈ cs, Sto.May c) = true := by rw [decide_eq_true_eq]; exact ⟨h1, h2⟩
      rw [if_neg (fun h => h h2), hd]
      exact (if_neg (by decide)).symm
    · rw [if_pos h2, if_pos (by rw [decide_eq_false_iff_not]; exact fun h => h2 h.2)]

set_option maxRecDepth 100000 in
theorem valid_may {cs : List Sto.Ch} (h : validL cs = true) : cs ≠ [] ∧ cs.length ≤ 1024 ∧ ∀ c ∈ cs, Sto.May c := by
  unfold validL at h
  rw [decide_eq_true_eq] at h
  refine ⟨fun e => h.1 (Or.inl (by rw [e]; rfl)), by omega, h.2⟩

set_option maxRecDepth 100000 in
theorem after_cap {l : List Sto.Pr} {cs : List Sto.Ch} (hl : l.length ≤ 100000) (hf : Sto.Fit l) (hc : cs.length ≤ 1024) (hm : ∀ c ∈ cs, Sto.May c) :
    Sto.Fit (Sto.after l cs) ∧ (Sto.after l cs).length ≤ 101024 ∧ Sto.bytes (Sto.after l cs) ≤ 1000000000 ∧ Sto.whole (Sto.after l cs) ≤ 1000000000 := by
  have h1 := Sto.after_fit hf hm
  have h2 := Sto.after_len l cs
  have h3 := Sto.bytes_le h1
  have h4 := whole_cap h1
  exact ⟨h1, by omega, by omega, by omega⟩

set_option maxRecDepth 100000 in
set_option maxHeartbeats 3200000 in
theorem sto_behind {cv : Value} {cs : List Sto.Ch} (hr : Row w b 81 (scells jv bm s)) (hm : MapAt w bm s.vals) (hbr : s.broken = false) (hg : Good s) (hc : Changes w G cv cs) (hl : cs.length ≤ 9223372036854775807) :
    Calls Tryz.prog 38 #[.pointer (some ⟨b, 0, none⟩), cv] w (BehPost w s cs) := by
  have hbw := hr.inHeap
  have hmw := hm.lt
  obtain ⟨A, cap, rfl, hcap⟩ := hc.slice
  have HR := Lib.hid (fun (W : World) (hb : Below w.heap.size w W) => hr.below hb hbw)
  have hb0 : Below w.heap.size w (w.alloc (.cells #[.map none, .int .i64 0, .int .i64 0] 76)) := (Below.refl _ _).alloc (Nat.le_refl _) _
  have hres := Row.made w 76 #[.map none, .int .i64 0, .int .i64 0]
  have hV := sto_valids (hc.below hb0) hl
  have hrow0 := hr.below hb0 hbw
  have c5 : (w.alloc (.cells #[.map none, .int .i64 0, .int .i64 0] 76)).cell? ⟨b, 5, none⟩ = some (.bool s.broken) := hrow0.at 5
  rw [hbr] at c5
  have Hres := Lib.hid hres
  have Hb0 := Lib.hid hb0
  have hq0 := hg.low
  have hq1 := hg.high
  have HV := Lib.hid hV
  have hck := check_valid s.vals cs s.quota
  cases hv : validL cs
  · rw [hv, if_pos rfl] at hck
    rw [hv] at HV
    unfold BehPost
    rw [hck]
    clear hr hm hbr hg hc hl hb0 hres hV hrow0 hck hv hcap
    go_enter Tryz.func38, Tryz.ntmps38
    go_wp2_with (go_at_call 64; refine HV.out.mono ?_; rintro e w1 ⟨rfl, hb1⟩
                 have hB1 := Lib.hid (Hb0.out.trans (hb1.mono Hb0.out.size))
                 have hr1 := Hres.out.below hb1 Hres.out.inHeap
                 have f0 := hr1.free 0
                 have f1 := hr1.free 1
                 have f2 := hr1.free 2
                 have p0 : w1.cell? ⟨w.heap.size, 0, none⟩ = some (.map none) := hr1.at 0
                 have p1 : w1.cell? ⟨w.heap.size, 1, none⟩ = some (.int .i64 0) := hr1.at 1
                 have p2 : w1.cell? ⟨w.heap.size, 2, none⟩ = some (.int .i64 0) := hr1.at 2
                 have hr9 := ((hr1.stored 0 (.map none)).stored 1 (.int .i64 0)).stored 2 (.int .i64 0)
                 have x0 := hr9.at 0
                 have x1 := hr9.at 1
                 have x2 := hr9.at 2
                 simp only [List.setIfInBounds_toArray, List.set_cons_zero, List.set_cons_succ, List.getElem?_toArray, List.getElem?_cons_zero, List.getElem?_cons_succ] at x0 x1 x2
                 have hend := Lib.hid (below_store3 hB1.out (Nat.le_refl _) (.map none) (.int .i64 0) (.int .i64 0))
                 clear hb1 hr1 hr9)
    refine bodyPost_ret (v := .tuple #[.agg #[.map none, .int .i64 0, .int .i64 0], .int .i64 2]) (by simp [results, Tryz.results38, go_sem, x0, x1, x2]) rfl ⟨_, _, _, rfl, hend.out, fun h => by cases h⟩
  · obtain ⟨hne, h1024, hmay⟩ := valid_may hv
    obtain ⟨hf2, hl2, hby2, hwh2⟩ := after_cap hg.few hg.fit h1024 hmay
    have hby := Sto.bytes_le hg.fit
    have hfew := hg.few
    rw [hv, if_neg (by decide)] at hck
    rw [hv] at HV
    have HBe := Lib.hid (fun (W : World) (hb : Below w.heap.size w W) => sto_vbehind (hm.below hb hmw) hg.sorted hg.fit (hc.below hb) hmay (by omega))
    have hB : (Sto.bytes s.vals : Int) ≤ 1000000000 := by omega
    have hB' : (Sto.bytes (Sto.after s.vals cs) : Int) ≤ 1000000000 := by omega
    have hB0 : (0 : Int) ≤ (Sto.bytes s.vals : Int) := by omega
    have hck2 : Sto.check s.vals cs s.quota = if decide (max s.quota (Sto.bytes s.vals : Int) < (Sto.bytes (Sto.after s.vals cs) : Int)) = true then 11 else 0 := by
      rw [hck]
      by_cases h : Sto.bytes s.vals < Sto.bytes (Sto.after s.vals cs) ∧ s.quota < (Sto.bytes (Sto.after s.vals cs) : Int)
      · rw [if_pos h, if_pos (by rw [decide_eq_true_eq]; omega)]
      · rw [if_neg h, if_neg (by rw [decide_eq_true_eq]; omega)]
    unfold scells at HR
    unfold vA vcells at HBe
    clear hr hm hbr hg hc hl hb0 hres hV hrow0 hck hv hcap hby hne h1024 hmay hf2
    have hpost : BehPost w s cs = fun e w' => BehPost w s cs e w' := rfl
    obtain ⟨Q, hQ⟩ : ∃ Q, Q = BehPost w s cs := ⟨_, rfl⟩
    rw [← hQ]
    have HQ := Lib.hid hQ
    have Hck := Lib.hid hck2
    clear hQ hck2 hpost
    obtain ⟨l2, hl2e⟩ : ∃ l2, l2 = Sto.after s.vals cs := ⟨_, rfl⟩
    rw [← hl2e] at HBe hB' hl2 Hck hby2 hwh2
    have HL2 := Lib.hid hl2e
    clear hl2e
    generalize hBB : (Sto.bytes s.vals : Int) = B at *
    generalize hBB2 : (Sto.bytes l2 : Int) = B2 at *
    generalize hWW2 : (Sto.whole l2 : Int) = W2 at *
    generalize hqq : s.quota = q at *
    have hmx : max q B = if q ≤ B then B else q := by omega
    go_enter Tryz.func38, Tryz.ntmps38
    go_wp2_with (go_at_call 64; refine HV.out.mono ?_; rintro e w1 ⟨rfl, hb1⟩
                 have hB1 := Lib.hid (Hb0.out.trans (hb1.mono Hb0.out.size))
                 have hr1 := Lib.hid (Hres.out.below hb1 Hres.out.inHeap)
                 have hs1 := HR.out w1 hB1.out
                 have d1 := hs1.at 1
                 have d2 := hs1.at 2
                 have d3 := hs1.at 3
                 simp only [List.getElem?_toArray, List.getElem?_cons_zero, List.getElem?_cons_succ] at d1 d2 d3
                 clear hb1 hs1)
    refine (HBe.out w1 hB1.out).mono ?_
    rintro e w3 ⟨bm', rfl, hm3, hbm3, hb3⟩
    have hB3 := Lib.hid (hB1.out.trans (hb3.mono hB1.out.size))
    have hr3 := Lib.hid (hr1.out.below hb3 hr1.out.inHeap)
    have hM3 := Lib.hid hm3
    have hbm3' := Lib.hid (Nat.le_trans hB1.out.size hbm3)
    clear hb3 hm3 hbm3 d1 d2 d3
    go_wp2_with fail
    have hB4 := Lib.hid (hB3.out.alloc hB3.out.size (.cells #[.map (some bm'), .int .i64 B2, .int .i64 W2] 76))
    have hx4 := Lib.hid (Row.made w3 76 #[.map (some bm'), .int .i64 B2, .int .i64 W2])
    have hr4 := Lib.hid (Row.behindNew hr3.out (.cells #[.map (some bm'), .int .i64 B2, .int .i64 W2] 76))
    have hM4 := Lib.hid (hM3.out.below ((Below.refl w3.heap.size w3).alloc (Nat.le_refl _) (.cells #[.map (some bm'), .int .i64 B2, .int .i64 W2] 76)) hM3.out.lt)
    generalize w3.alloc (.cells #[.map (some bm'), .int .i64 B2, .int .i64 W2] 76) = w4 at *
    have hs4 := Lib.hid (HR.out w4 hB4.out)
    have hmx1 : max q B ≤ 1000000000 := by omega
    have hmx0 : 0 ≤ max q B := by omega
    by_cases hcmp : max q B < B2
    · have hd : decide (max q B < B2) = true := by simpa using hcmp
      have hc0 : Hid (Sto.check s.vals cs q = 11) := Lib.hid (by rw [Hck.out, if_pos hd])
      clear hcmp hmx
      refine wp_region_held_drew (S := (fun w' : World => Row w' b 81 #[jv, .map (some bm), .int .i64 B, .int .i64 (Sto.whole s.vals : Int), .int .i64 q, .bool s.broken] ∧ Row w' w3.heap.size 76 #[.map (some bm'), .int .i64 B2, .int .i64 W2])) (by kernel_rfl) (⟨hs4.out, hx4.out⟩) (fun hHeld => ?_)
      refine wpAnyH_take (i := 0) (v := ?_) rfl (by kernel_rfl) (by kernel_rfl) (by kernel_rfl) (fun _ _ _ h => h) (Or.inl ⟨by rfl, (by intro w hSw; go_simp; try with_reducible rfl)⟩) (by assumption) ?_
      simp only [Act.put, List.getElem_toArray, List.getElem_cons_zero, List.getElem_cons_succ, List.setIfInBounds_toArray, List.set_cons_zero, List.set_cons_succ]
      refine wpAnyH_take (i := 1) (v := ?_) rfl (by kernel_rfl) (by kernel_rfl) (by kernel_rfl) (fun _ _ _ h => h) (Or.inl ⟨by rfl, (by intro w hSw; have c1 := hSw.2.at 1; go_simp; try with_reducible rfl)⟩) (by assumption) ?_
      simp only [Act.put, List.getElem_toArray, List.getElem_cons_zero, List.getElem_cons_succ, List.setIfInBounds_toArray, List.set_cons_zero, List.set_cons_succ]
      refine wpAnyH_take (i := 2) (v := ?_) rfl (by kernel_rfl) (by kernel_rfl) (by kernel_rfl) (fun _ _ _ h => h) (Or.inl ⟨by rfl, (by intro w hSw; go_simp; try with_reducible rfl)⟩) (by assumption) ?_
      simp only [Act.put, List.getElem_toArray, List.getElem_cons_zero, List.getElem_cons_succ, List.setIfInBounds_toArray, List.set_cons_zero, List.set_cons_succ]
      refine wpAnyH_take (i := 3) (v := ?_) rfl (by kernel_rfl) (by kernel_rfl) (by kernel_rfl) (fun _ _ _ h => h) (Or.inl ⟨by rfl, (by intro w hSw; go_simp; try with_reducible rfl)⟩) (by assumption) ?_
      simp only [Act.put, List.getElem_toArray, List.getElem_cons_zero, List.getElem_cons_succ, List.setIfInBounds_toArray, List.set_cons_zero, List.set_cons_succ]
      refine wpAnyH_take (i := 4) (v := ?_) rfl (by kernel_rfl) (by kernel_rfl) (by kernel_rfl) (fun _ _ _ h => h) (Or.inl ⟨by rfl, (by intro w hSw; go_simp; try with_reducible rfl)⟩) (by assumption) ?_
      simp only [Act.put, List.getElem_toArray, List.getElem_cons_zero, List.getElem_cons_succ, List.setIfInBounds_toArray, List.set_cons_zero, List.set_cons_succ]
      refine wpAnyH_take (i := 5) (v := ?_) rfl (by kernel_rfl) (by kernel_rfl) (by kernel_rfl) (fun _ _ _ h => h) (Or.inl ⟨by rfl, (by intro w hSw; have c4 := hSw.1.at 4; go_simp; try with_reducible rfl)⟩) (by assumption) ?_
      simp only [Act.put, List.getElem_toArray, List.getElem_cons_zero, List.getElem_cons_succ, List.setIfInBounds_toArray, List.set_cons_zero, List.set_cons_succ]
      refine wpAnyH_take (i := 6) (v := ?_) rfl (by kernel_rfl) (by kernel_rfl) (by kernel_rfl) (fun _ _ _ h => h) (Or.inl ⟨by rfl, (by intro w hSw; go_simp; try with_reducible rfl)⟩) (by assumption) ?_
      simp only [Act.put, List.getElem_toArray, List.getElem_cons_zero, List.getElem_cons_succ, List.setIfInBounds_toArray, List.set_cons_zero, List.set_cons_succ]
      refine wpAnyH_take (i := 7) (v := ?_) rfl (by kernel_rfl) (by kernel_rfl) (by kernel_rfl) (fun _ _ _ h => h) (Or.inl ⟨by rfl, (by intro w hSw; go_simp; try with_reducible rfl)⟩) (by assumption) ?_
      simp only [Act.put, List.getElem_toArray, List.getElem_cons_zero, List.getElem_cons_succ, List.setIfInBounds_toArray, List.set_cons_zero, List.set_cons_succ]
      refine wpAnyH_take (i := 8) (v := ?_) rfl (by kernel_rfl) (by kernel_rfl) (by kernel_rfl) (fun _ _ _ h => h) (Or.inl ⟨by rfl, (by intro w hSw; go_simp; try with_reducible rfl)⟩) (by assumption) ?_
      simp only [Act.put, List.getElem_toArray, List.getElem_cons_zero, List.getElem_cons_succ, List.setIfInBounds_toArray, List.set_cons_zero, List.set_cons_succ]
      refine wpAnyH_take (i := 9) (v := ?_) rfl (by kernel_rfl) (by kernel_rfl) (by kernel_rfl) (fun _ _ _ h => h) (Or.inl ⟨by rfl, (by intro w hSw; go_simp; try with_reducible rfl)⟩) (by assumption) ?_
      simp only [Act.put, List.getElem_toArray, List.getElem_cons_zero, List.getElem_cons_succ, List.setIfInBounds_toArray, List.set_cons_zero, List.set_cons_succ]
      refine wpAnyH_take (i := 10) (v := ?_) rfl (by kernel_rfl) (by kernel_rfl) (by kernel_rfl) (fun _ _ _ h => h) (Or.inl ⟨by rfl, (by intro w hSw; have c2 := hSw.1.at 2; go_simp; try with_reducible rfl)⟩) (by assumption) ?_
      simp only [Act.put, List.getElem_toArray, List.getElem_cons_zero, List.getElem_cons_succ, List.setIfInBounds_toArray, List.set_cons_zero, List.set_cons_succ]
      refine wpAnyH_take (i := 11) (v := ?_) rfl (by kernel_rfl) (by kernel_rfl) (by kernel_rfl) (fun _ _ _ h => h) (Or.inl ⟨by rfl, (by intro w hSw; go_simp; try with_reducible rfl)⟩) (by assumption) ?_
      simp only [Act.put, List.getElem_toArray, List.getElem_cons_zero, List.getElem_cons_succ, List.setIfInBounds_toArray, List.set_cons_zero, List.set_cons_succ]
      refine wpAnyH_take (i := 12) (v := ?_) rfl (by kernel_rfl) (by kernel_rfl) (by kernel_rfl) (fun _ _ _ h => h) (Or.inl ⟨by rfl, (by intro w hSw; go_simp; try with_reducible rfl)⟩) (by assumption) ?_
      simp only [Act.put, List.getElem_toArray, List.getElem_cons_zero, List.getElem_cons_succ, List.setIfInBounds_toArray, List.set_cons_zero, List.set_cons_succ]
      refine wpAnyH_done (by kernel_rfl) ?_ _
      clear hHeld
      have f0 := hr4.out.free 0
      have f1 := hr4.out.free 1
      have f2 := hr4.out.free 2
      have p0 : w4.cell? ⟨w.heap.size, 0, none⟩ = some (.map none) := hr4.out.at 0
      have p1 : w4.cell? ⟨w.heap.size, 1, none⟩ = some (.int .i64 0) := hr4.out.at 1
      have p2 : w4.cell? ⟨w.heap.size, 2, none⟩ = some (.int .i64 0) := hr4.out.at 2
      have hr9 := ((hr4.out.stored 0 (.map none)).stored 1 (.int .i64 0)).stored 2 (.int .i64 0)
      have x0 := hr9.at 0
      have x1 := hr9.at 1
      have x2 := hr9.at 2
      simp only [List.setIfInBounds_toArray, List.set_cons_zero, List.set_cons_succ, List.getElem?_toArray, List.getElem?_cons_zero, List.getElem?_cons_succ] at x0 x1 x2
      have hend := Lib.hid (below_store3 hB4.out (Nat.le_refl _) (.map none) (.int .i64 0) (.int .i64 0))
      clear hr9
      go_wp2_with fail
      refine bodyPost_ret (v := .tuple #[.agg #[.map none, .int .i64 0, .int .i64 0], .int .i64 11]) (by simp [results, Tryz.results38, go_sem, x0, x1, x2]) rfl ?_
      rw [HQ.out]
      refine ⟨_, _, _, by rw [hqq, hc0.out], Below.drew hend.out, fun h => ?_⟩
      rw [hqq, hc0.out] at h
      cases h
    · have hd : decide (max q B < B2) = false := by simpa using hcmp
      have hc0 : Hid (Sto.check s.vals cs q = 0) := Lib.hid (by rw [Hck.out, if_neg (by rw [hd]; decide)])
      clear hcmp hmx
      refine wp_region_held_drew (S := (fun w' : World => Row w' b 81 #[jv, .map (some bm), .int .i64 B, .int .i64 (Sto.whole s.vals : Int), .int .i64 q, .bool s.broken] ∧ Row w' w3.heap.size 76 #[.map (some bm'), .int .i64 B2, .int .i64 W2])) (by kernel_rfl) (⟨hs4.out, hx4.out⟩) (fun hHeld => ?_)
      refine wpAnyH_take (i := 0) (v := ?_) rfl (by kernel_rfl) (by kernel_rfl) (by kernel_rfl) (fun _ _ _ h => h) (Or.inl ⟨by rfl, (by intro w hSw; go_simp; try with_reducible rfl)⟩) (by assumption) ?_
      simp only [Act.put, List.getElem_toArray, List.getElem_cons_zero, List.getElem_cons_succ, List.setIfInBounds_toArray, List.set_cons_zero, List.set_cons_succ]
      refine wpAnyH_take (i := 1) (v := ?_) rfl (by kernel_rfl) (by kernel_rfl) (by kernel_rfl) (fun _ _ _ h => h) (Or.inl ⟨by rfl, (by intro w hSw; have c1 := hSw.2.at 1; go_simp; try with_reducible rfl)⟩) (by assumption) ?_
      simp only [Act.put, List.getElem_toArray, List.getElem_cons_zero, List.getElem_cons_succ, List.setIfInBounds_toArray, List.set_cons_zero, List.set_cons_succ]
      refine wpAnyH_take (i := 2) (v := ?_) rfl (by kernel_rfl) (by kernel_rfl) (by kernel_rfl) (fun _ _ _ h => h) (Or.inl ⟨by rfl, (by intro w hSw; go_simp; try with_reducible rfl)⟩) (by assumption) ?_
      simp only [Act.put, List.getElem_toArray, List.getElem_cons_zero, List.getElem_cons_succ, List.setIfInBounds_toArray, List.set_cons_zero, List.set_cons_succ]
      refine wpAnyH_take (i := 3) (v := ?_) rfl (by kernel_rfl) (by kernel_rfl) (by kernel_rfl) (fun _ _ _ h => h) (Or.inl ⟨by rfl, (by intro w hSw; go_simp; try with_reducible rfl)⟩) (by assumption) ?_
      simp only [Act.put, List.getElem_toArray, List.getElem_cons_zero, List.getElem_cons_succ, List.setIfInBounds_toArray, List.set_cons_zero, List.set_cons_succ]
      refine wpAnyH_take (i := 4) (v := ?_) rfl (by kernel_rfl) (by kernel_rfl) (by kernel_rfl) (fun _ _ _ h => h) (Or.inl ⟨by rfl, (by intro w hSw; go_simp; try with_reducible rfl)⟩) (by assumption) ?_
      simp only [Act.put, List.getElem_toArray, List.getElem_cons_zero, List.getElem_cons_succ, List.setIfInBounds_toArray, List.set_cons_zero, List.set_cons_succ]
      refine wpAnyH_take (i := 5) (v := ?_) rfl (by kernel_rfl) (by kernel_rfl) (by kernel_rfl) (fun _ _ _ h => h) (Or.inl ⟨by rfl, (by intro w hSw; have c4 := hSw.1.at 4; go_simp; try with_reducible rfl)⟩) (by assumption) ?_
      simp only [Act.put, List.getElem_toArray, List.getElem_cons_zero, List.getElem_cons_succ, List.setIfInBounds_toArray, List.set_cons_zero, List.set_cons_succ]
      refine wpAnyH_take (i := 6) (v := ?_) rfl (by kernel_rfl) (by kernel_rfl) (by kernel_rfl) (fun _ _ _ h => h) (Or.inl ⟨by rfl, (by intro w hSw; go_simp; try with_reducible rfl)⟩) (by assumption) ?_
      simp only [Act.put, List.getElem_toArray, List.getElem_cons_zero, List.getElem_cons_succ, List.setIfInBounds_toArray, List.set_cons_zero, List.set_cons_succ]
      refine wpAnyH_take (i := 7) (v := ?_) rfl (by kernel_rfl) (by kernel_rfl) (by kernel_rfl) (fun _ _ _ h => h) (Or.inl ⟨by rfl, (by intro w hSw; go_simp; try with_reducible rfl)⟩) (by assumption) ?_
      simp only [Act.put, List.getElem_toArray, List.getElem_cons_zero, List.getElem_cons_succ, List.setIfInBounds_toArray, List.set_cons_zero, List.set_cons_succ]
      refine wpAnyH_take (i := 8) (v := ?_) rfl (by kernel_rfl) (by kernel_rfl) (by kernel_rfl) (fun _ _ _ h => h) (Or.inl ⟨by rfl, (by intro w hSw; go_simp; try with_reducible rfl)⟩) (by assumption) ?_
      simp only [Act.put, List.getElem_toArray, List.getElem_cons_zero, List.getElem_cons_succ, List.setIfInBounds_toArray, List.set_cons_zero, List.set_cons_succ]
      refine wpAnyH_take (i := 9) (v := ?_) rfl (by kernel_rfl) (by kernel_rfl) (by kernel_rfl) (fun _ _ _ h => h) (Or.inl ⟨by rfl, (by intro w hSw; go_simp; try with_reducible rfl)⟩) (by assumption) ?_
      simp only [Act.put, List.getElem_toArray, List.getElem_cons_zero, List.getElem_cons_succ, List.setIfInBounds_toArray, List.set_cons_zero, List.set_cons_succ]
      refine wpAnyH_take (i := 10) (v := ?_) rfl (by kernel_rfl) (by kernel_rfl) (by kernel_rfl) (fun _ _ _ h => h) (Or.inl ⟨by rfl, (by intro w hSw; have c2 := hSw.1.at 2; go_simp; try with_reducible rfl)⟩) (by assumption) ?_
      simp only [Act.put, List.getElem_toArray, List.getElem_cons_zero, List.getElem_cons_succ, List.setIfInBounds_toArray, List.set_cons_zero, List.set_cons_succ]
      refine wpAnyH_take (i := 11) (v := ?_) rfl (by kernel_rfl) (by kernel_rfl) (by kernel_rfl) (fun _ _ _ h => h) (Or.inl ⟨by rfl, (by intro w hSw; go_simp; try with_reducible rfl)⟩) (by assumption) ?_
      simp only [Act.put, List.getElem_toArray, List.getElem_cons_zero, List.getElem_cons_succ, List.setIfInBounds_toArray, List.set_cons_zero, List.set_cons_succ]
      refine wpAnyH_take (i := 12) (v := ?_) rfl (by kernel_rfl) (by kernel_rfl) (by kernel_rfl) (fun _ _ _ h => h) (Or.inl ⟨by rfl, (by intro w hSw; go_simp; try with_reducible rfl)⟩) (by assumption) ?_
      simp only [Act.put, List.getElem_toArray, List.getElem_cons_zero, List.getElem_cons_succ, List.setIfInBounds_toArray, List.set_cons_zero, List.set_cons_succ]
      refine wpAnyH_done (by kernel_rfl) ?_ _
      clear hHeld
      have f0 := hr4.out.free 0
      have f1 := hr4.out.free 1
      have f2 := hr4.out.free 2
      have p0 : w4.cell? ⟨w.heap.size, 0, none⟩ = some (.map none) := hr4.out.at 0
      have p1 : w4.cell? ⟨w.heap.size, 1, none⟩ = some (.int .i64 0) := hr4.out.at 1
      have p2 : w4.cell? ⟨w.heap.size, 2, none⟩ = some (.int .i64 0) := hr4.out.at 2
      have y0 : w4.cell? ⟨w3.heap.size, 0, none⟩ = some (.map (some bm')) := hx4.out.at 0
      have y1 : w4.cell? ⟨w3.heap.size, 1, none⟩ = some (.int .i64 B2) := hx4.out.at 1
      have y2 : w4.cell? ⟨w3.heap.size, 2, none⟩ = some (.int .i64 W2) := hx4.out.at 2
      have hr9 := ((hr4.out.stored 0 (.map (some bm'))).stored 1 (.int .i64 B2)).stored 2 (.int .i64 W2)
      have x0 := hr9.at 0
      have x1 := hr9.at 1
      have x2 := hr9.at 2
      simp only [List.setIfInBounds_toArray, List.set_cons_zero, List.set_cons_succ, List.getElem?_toArray, List.getElem?_cons_zero, List.getElem?_cons_succ] at x0 x1 x2
      have hne : w.heap.size ≠ bm' := fun e => hM4.out.not_row hr4.out e
      have hM9 := Lib.hid (hM4.out.grown (gb_store (gb_store (gb_store (gb_refl w4 (some w.heap.size)) 0 (.map (some bm'))) 1 (.int .i64 B2)) 2 (.int .i64 W2)) (by intro e; injection e with e; exact hne e.symm))
      have hend := Lib.hid (below_store3 hB4.out (Nat.le_refl _) (.map (some bm')) (.int .i64 B2) (.int .i64 W2))
      clear hr9
      go_wp2_with fail
      refine bodyPost_ret (v := .tuple #[.agg #[.map (some bm'), .int .i64 B2, .int .i64 W2], .int .i64 0]) (by simp [results, Tryz.results38, go_sem, x0, x1, x2]) rfl ?_
      rw [HQ.out]
      refine ⟨_, _, _, by rw [hqq, hc0.out], Below.drew hend.out, fun _ => ⟨bm', ?_, ?_, hbm3'.out⟩⟩
      · rw [← HL2.out]
        exact ⟨rfl, hBB2.symm, hWW2.symm⟩
      · rw [← HL2.out]
        exact hM9.out

set_option maxRecDepth 100000 in
theorem sto_check {cv : Value} {cs : List Sto.Ch} (h : SAt AtL SOwn w F dv sv n d s) (hbr : s.broken = false) (hg : Good s) (hc : Changes w G cv cs) (hl : cs.length ≤ 9223372036854775807) :
    Calls Tryz.prog 13 #[sv, cv] w fun e w' => e = .returned (.int .i64 (Sto.check s.vals cs s.quota)) ∧ SAt AtL SOwn w' (Grow F w w') dv sv n d s ∧ Kept F w w' := by
  have fin := Lib.hid (fun w' => sat_below (w' := w') h)
  obtain ⟨F1, F2, h1, ⟨b, bm, jv, F3, rfl, h⟩, -⟩ := h
  have HB := Lib.hid (sto_behind h.row h.map hbr hg hc hl)
  obtain ⟨A, cap, rfl, hcap⟩ := hc.slice
  clear h1 h hg hc hl
  go_enter Tryz.func13, Tryz.ntmps13
  go_wp2_with (go_at_call 38; refine HB.out.mono ?_; rintro e w1 ⟨x, y, z, rfl, hb1, -⟩; have HB1 := Lib.hid hb1; clear hb1)
  go_ret
  exact ⟨rfl, fin.out _ (HB1.out.alloc HB1.out.size _)⟩

set_option maxRecDepth 100000 in
theorem sto_behind_none (w : World) (cv : Value) : Calls Tryz.prog 38 #[.pointer none, cv] w fun e w' => e = .returned (.tuple #[.agg #[.map none, .int .i64 0, .int .i64 0], .int .i64 1]) ∧ Below w.heap.size w w' := by
  go_enter Tryz.func38, Tryz.ntmps38
  go_wp2_with fail
  refine bodyPost_ret (v := .tuple #[.agg #[.map none, .int .i64 0, .int .i64 0], .int .i64 1]) (by simp [results, Tryz.results38, go_sem]) rfl ⟨rfl, by repeat (first | exact Below.refl _ _ | apply Below.drew | refine Below.alloc ?_ (Nat.le_refl _) _)⟩

set_option maxRecDepth 100000 in
theorem sto_none_check (w : World) (cv : Value) : Calls Tryz.prog 13 #[.pointer none, cv] w fun e w' => e = .returned (.int .i64 1) ∧ Below w.heap.size w w' := by
  go_enter Tryz.func13, Tryz.ntmps13
  go_wp2_with (go_at_call 38; refine (sto_behind_none _ _).mono ?_; rintro e w1 ⟨rfl, hb1⟩; have HB1 := Lib.hid hb1; clear hb1)
  go_ret
  exact ⟨rfl, HB1.out.alloc HB1.out.size _⟩
end
end Go.Proofs.YtbfjageaheijbaaGreat
/- What a journal answers to the store: where it is full, nothing has changed. No program is spoken of. -/
namespace Go.Proofs.YtbfjageaheijbaaGreat.Sto
open Dsk Jnl

/-- An error that is none of those two. -/
def Other (r : Int × D) : Prop := r.1 ≠ 10 ∧ r.1 ≠ 4

set_option maxRecDepth 100000 in
theorem write_other (d : D) (i : Int) (s : ByteArray) (h : s.size ≤ 64) : Other (d.write i s) := by
  unfold D.write Other
  rw [if_neg (c := 64 < s.size) (by omega)]
  split
  · exact ⟨by simp, by simp⟩
  · split
    · exact ⟨by simp, by simp⟩
    · split <;> exact ⟨by simp, by simp⟩

set_option maxRecDepth 100000 in
theorem flush_other (d : D) : Other d.flush := by
  unfold D.flush Other
  split
  · exact ⟨by simp, by simp⟩
  · split <;> exact ⟨by simp, by simp⟩

set_option maxRecDepth 100000 in
theorem andThen_other {r : Int × D} {f : D → Int × D} (h : Other r) (hf : ∀ d, Other (f d)) : Other (andThen r f) := by
  unfold andThen
  split
  · exact hf _
  · exact h

set_option maxRecDepth 100000 in
theorem writeFrom_other (base : Nat) (all : List UInt8) : ∀ (c i : Nat) (d : D), Other (writeFrom base all i c d)
  | 0, i, d => ⟨by simp [writeFrom], by simp [writeFrom]⟩
  | c + 1, i, d => by
    unfold writeFrom
    split
    · exact writeFrom_other base all c (i + 1) _
    · exact write_other _ _ _ (by rw [text_size]; exact chunk_len _ _)

set_option maxRecDepth 100000 in
theorem setHead_other (q h u : Nat) (d : D) : Other (setHead q h u d) :=
  andThen_other (write_other _ _ _ (by rw [text_size]; have := head_len q h u; omega)) flush_other

set_option maxRecDepth 100000 in
theorem commit_other (h q half : Nat) (pre new : List UInt8) (d : D) : Other (commit h q half pre new d) :=
  andThen_other (andThen_other (writeFrom_other _ _ _ _ _) flush_other) (setHead_other _ _ _)

set_option maxRecDepth 100000 in
theorem append_same {n : Nat} {d : D} {j : J} {a : List (List UInt8)} (h : (Jnl.append n d j a).1 = 10 ∨ (Jnl.append n d j a).1 = 4) : (Jnl.append n d j a).2 = (d, j) := by
  have ho := commit_other (hof n) j.seq j.half j.bytes (Frm.all a) d
  unfold Jnl.append at h ⊢
  split
  · rfl
  · rename_i h1
    rw [if_neg h1] at h
    split
    · rfl
    · rename_i h2
      rw [if_neg h2] at h
      split
      · rfl
      · rename_i h3
        rw [if_neg h3] at h
        split
        · rfl
        · rename_i h4
          rw [if_neg h4] at h
          split
          · rfl
          · rename_i h5
            rw [if_neg h5] at h
            have h : (commit (hof n) j.seq j.half j.bytes (Frm.all a) d).1 = 10 ∨ (commit (hof n) j.seq j.half j.bytes (Frm.all a) d).1 = 4 := h
            rcases h with h | h
            · exact absurd h ho.1
            · exact absurd h ho.2

set_option maxRecDepth 100000 in
theorem adds_same {n : Nat} {d : D} {j : J} {cs : List Ch} (h : (adds n d j cs).1 = 10 ∨ (adds n d j cs).1 = 4) : (adds n d j cs).2 = (d, j) := by
  unfold adds at h ⊢
  split
  · rfl
  · rename_i h1
    rw [if_neg h1] at h
    exact append_same h
end Go.Proofs.YtbfjageaheijbaaGreat.Sto
