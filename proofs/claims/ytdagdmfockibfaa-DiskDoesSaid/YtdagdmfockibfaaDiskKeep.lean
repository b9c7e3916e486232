/- The landed disk: what a crash keeps of one sector after the other. -/
import Derived.Test.YtdagdmfockibfaaDiskFlush
import Derived.ChangeAlike
set_option linter.unusedSimpArgs false
set_option linter.unusedVariables false
namespace Go.Proofs.Ytdagdmfockibfaa
open Go.RowKit Dsk

set_option maxRecDepth 100000 in
theorem keeper_any {w : World} {kv : Value} {A : Option Addr} {n c : Nat} (h : kv = .slice A n c) : Calls Try.prog 29 #[kv] w fun e w' => e = .returned (.func (.func 37) #[] #[.pointer (some ⟨w.heap.size, 0, none⟩)]) ∧ w' = w.alloc (.cells #[kv] 32) := by
  subst h
  go_enter Try.func29, Try.ntmps29
  go_wp2_with fail
  go_ret
  exact ⟨rfl, rfl⟩

/-- What the closure answers, and the numbers that are left. -/
def KeptPost (x : ByteArray) (bk kb ko n cap : Nat) (w : World) (e : Ending) (w' : World) : Prop :=
  e = .returned (.agg (secV x).toArray) ∧ (∃ A, Row w' bk 32 #[.slice A n (cap - 1)] ∧ (0 < n → A = some ⟨kb, ko, none⟩)) ∧ w.grownBy w' (some bk)

theorem gb_row {a w : World} {bk g : Nat} (h : a.grownBy w (some bk)) (hg : a.heap.size ≤ g) (c : Array Value) : a.grownBy (w.setRow g c) (some bk) :=
  ⟨h.os, h.tape, h.output, by simpa using h.size, fun k hk hn => (setRow_other w g k c (by omega)).trans (h.block k hk hn)⟩

theorem pick_zero {s0 : ByteArray} {t : List ByteArray} {k : Int} (h : k.tmod (1 + (t.length : Int)) = 0) : pick (s0 :: t) k = s0 := by
  unfold pick
  rw [List.length_cons, show ((t.length + 1 : Nat) : Int) = 1 + (t.length : Int) by omega, h]
  rfl

theorem pick_succ {s0 x : ByteArray} {t : List ByteArray} {k : Int} {j : Nat} (h : (k.tmod (1 + (t.length : Int))).natAbs = j + 1) (hx : t[j]? = some x) : pick (s0 :: t) k = x := by
  unfold pick
  rw [List.length_cons, show ((t.length + 1 : Nat) : Int) = 1 + (t.length : Int) by omega, h]
  simp [hx]

theorem tmod_bound (k : Int) (n : Nat) : -(n : Int) ≤ k.tmod (1 + (n : Int)) ∧ k.tmod (1 + (n : Int)) ≤ n := by
  have h1 := Int.tmod_lt_of_pos k (show (0 : Int) < 1 + n by omega)
  have h2 := Int.lt_tmod_of_pos k (show (0 : Int) < 1 + n by omega)
  omega

set_option maxRecDepth 100000 in
set_option maxHeartbeats 1600000 in
theorem keep_next {w : World} {v : Value} {s0 : ByteArray} {t : List ByteArray} {bk kb ko n cap : Nat} {k : Int} (hs : s0.size = 64) (h : OwnS w v t) (hm : t.length ≤ 1000) (hr : Row w bk 32 #[.slice (some ⟨kb, ko, none⟩) (n + 1) cap])
    (hvb : v.ownBlock ≠ some bk) (hkb : kb < w.heap.size) (hk : w.cell? ⟨kb, ko, none⟩ = some (.int .i64 k)) (hk1 : -9223372036854775808 ≤ k) (hk2 : k ≤ 9223372036854775807) (hn : n + 1 ≤ cap) (hcap : n + 1 ≤ 9223372036854775807) :
    Calls Try.prog 37 #[.agg (secV s0).toArray, v, .pointer (some ⟨bk, 0, none⟩)] w (KeptPost (pick (s0 :: t) k) bk kb (ko + 1) n cap w) := by
  have hz := (zero_of_info secZero).1
  have hbk := hr.inHeap
  have hx : ∃ x : ByteArray, pick (s0 :: t) k = x ∧ x.size = 64 ∧ ((k.tmod (1 + (t.length : Int)) = 0 ∧ x = s0) ∨ ∃ j, (k.tmod (1 + (t.length : Int))).natAbs = j + 1 ∧ j < t.length ∧ t[j]? = some x) := by
    have hb := tmod_bound k t.length
    by_cases e : k.tmod (1 + (t.length : Int)) = 0
    · exact ⟨s0, pick_zero e, hs, Or.inl ⟨e, rfl⟩⟩
    · obtain ⟨j, hj⟩ : ∃ j, (k.tmod (1 + (t.length : Int))).natAbs = j + 1 := ⟨(k.tmod (1 + (t.length : Int))).natAbs - 1, by omega⟩
      have hjl : j < t.length := by omega
      have hx := List.getElem?_eq_getElem hjl
      exact ⟨t[j], pick_succ hj hx, h.2 _ (List.getElem_mem hjl), Or.inr ⟨j, hj, hjl, hx⟩⟩
  obtain ⟨x, hpx, hx64, hcase⟩ := hx
  rw [hpx]
  have hb := tmod_bound k t.length
  have c1 : ((w.alloc (.cells (secV s0).toArray 71)).alloc (.cells (secV (fill ⟨#[]⟩)).toArray 71)).cell? ⟨bk, 0, none⟩ = some (.slice (some ⟨kb, ko, none⟩) (n + 1) cap) := ((hr.behindNew _).behindNew _).at 0
  have f1 : ((w.alloc (.cells (secV s0).toArray 71)).alloc (.cells (secV (fill ⟨#[]⟩)).toArray 71)).frozen? ⟨bk, 0, none⟩ = false := ((hr.behindNew _).behindNew _).free 0
  have c2 : ((w.alloc (.cells (secV s0).toArray 71)).alloc (.cells (secV (fill ⟨#[]⟩)).toArray 71)).cell? ⟨kb, ko, none⟩ = some (.int .i64 k) := by
    rw [World.cell?_alloc_lt _ _ _ (Nat.lt_of_lt_of_le hkb (by simp)), World.cell?_alloc_lt _ _ _ hkb]; exact hk
  have hA0 : ((w.alloc (.cells (secV s0).toArray 71)).alloc (.cells (secV (fill ⟨#[]⟩)).toArray 71)).heap[w.heap.size]? = some (.cells (secV s0).toArray 71 (0, 0)) := heap_alloc2_old w _ _
  have hA1 : ((w.alloc (.cells (secV s0).toArray 71)).alloc (.cells (secV (fill ⟨#[]⟩)).toArray 71)).heap[w.heap.size + 1]? = some (.cells (secV (fill ⟨#[]⟩)).toArray 71 (0, 0)) := heap_alloc2_new w _ _
  have hown : OwnS ((w.alloc (.cells (secV s0).toArray 71)).alloc (.cells (secV (fill ⟨#[]⟩)).toArray 71)) v t := h.kept (F := fun _ => False) (((Kept.refl _ w).alloc _).alloc _) (fun _ _ h => h)
  have hgb : w.grownBy ((w.alloc (.cells (secV s0).toArray 71)).alloc (.cells (secV (fill ⟨#[]⟩)).toArray 71)) (some bk) := gb_new (gb_new (gb_refl _ _) _) _
  have hrow := (hr.behindNew (.cells (secV s0).toArray 71)).behindNew (.cells (secV (fill ⟨#[]⟩)).toArray 71)
  have hn0 : decide ((0 : Int) < (n : Int) + 1) = true := decide_eq_true (by omega)
  generalize hW2 : (w.alloc (.cells (secV s0).toArray 71)).alloc (.cells (secV (fill ⟨#[]⟩)).toArray 71) = W2 at *
  have hn2 : (1 : Int) ≤ (n : Int) + 1 := by omega
  have hnc : ((n + 1 : Nat) : Int) ≤ (cap : Int) := by omega
  have htl : (t.length : Int) ≤ 1000 := by omega
  have hob := h.any
  obtain ⟨vA, vc, hvf⟩ := hob
  -- what the blocks are behind the numbers' store
  have hfar : ∀ u i, i ≠ bk → ((W2.setCell ⟨bk, 0, none⟩ u).drew).heap[i]? = W2.heap[i]? := fun u i hi => Below.heap_setCell W2 ⟨bk, 0, none⟩ u i hi
  have HA0 : Hid (∀ u, ((W2.setCell ⟨bk, 0, none⟩ u).drew).rangeAt w.heap.size 0 (secV s0)) := Lib.hid (fun u j y hy => by
    rw [Nat.zero_add, cell_of_row _ w.heap.size j _ _ (0, 0) ((hfar u _ (by omega)).trans hA0), List.getElem?_toArray]
    exact hy)
  have HA1 : Hid (∀ u, ((W2.setCell ⟨bk, 0, none⟩ u).drew).heap[w.heap.size + 1]? = some (.cells (secV (fill ⟨#[]⟩)).toArray 71 (0, 0))) := Lib.hid (fun u => (hfar u _ (by omega)).trans hA1)
  have HP : Hid (∀ j y, t[j]? = some y → ∃ g, vA = some ⟨g, 0, none⟩ ∧ ∀ u, ((W2.setCell ⟨bk, 0, none⟩ u).drew).rangeAt g (j * 64) (secV y)) := Lib.hid (fun j y hy => by
    have hjl := (List.getElem?_eq_some_iff.1 hy).1
    obtain ⟨g, cap', e, hg⟩ := hown.form (by omega)
    rw [hvf] at e
    injection e with e1 e2 e3
    refine ⟨g, e1, fun u => ?_⟩
    have ho2 : OwnS ((W2.setCell ⟨bk, 0, none⟩ u).drew) v t := by
      rw [hvf, e1] at hown hvb ⊢
      exact hown.same (hfar u g (fun e => hvb (by rw [e]; rfl)))
    rw [hvf, e1, e3] at ho2
    exact ho2.range hy)
  have fin : Hid (∀ (A : Option Addr), (0 < n → A = some ⟨kb, ko + 1, none⟩) → KeptPost x bk kb (ko + 1) n cap w (.returned (.agg (secV x).toArray)) ((((W2.setCell ⟨bk, 0, none⟩ (.slice A n (cap - 1))).drew).setRow (w.heap.size + 1) (secV x).toArray))) := Lib.hid (fun A hA => by
    refine ⟨rfl, ⟨A, ?_, hA⟩, gb_row (gb_draw (gb_store hgb 0 _)) (by omega) _⟩
    have h1 : Row ((W2.setCell ⟨bk, 0, none⟩ (.slice A n (cap - 1))).drew) bk 32 #[.slice A n (cap - 1)] := hrow.stored 0 _
    exact (setRow_other _ _ bk _ (by omega)).trans h1)
  have Hsz := Lib.hid (sec_size hx64)
  have Hsl : Hid ((Try.prog.info? 71).map (·.size) = some (secV x).length) := Lib.hid (by rw [secV_len, hx64]; exact secInfo)
  have Hx64 := Lib.hid hx64
  have HW2 := Lib.hid hW2
  clear hz h hr hk hA0 hA1 hown hgb hrow hfar hW2 hpx hs hx64 hvb
  rw [hvf]
  clear hvf
  have hz := (zero_of_info secZero).1
  have c0 := c1
  rw [← HW2.out] at c0
  have Hc1 := Lib.hid c1
  clear c1
  rcases hcase with ⟨hq, rfl⟩ | ⟨j, hj, hjl, hjx⟩
  · clear hb
    go_enter Try.func37, Try.ntmps37
    go_wp2_with fail
    clear c0
    have c1 := Hc1.out
    rw [HW2.out]
    go_region
    clear c1 c2 f1
    all_goals
      go_wp2_with (first | refine wpList_load_mid rfl 71 (.tmp 3) (by rfl) w.heap.size 0 (by rfl) (secV x) _ (HA0.out _) Try.underlying71 rfl Hsl.out ?_ | refine wpList_store_row rfl 71 (.tmp 5) (.tmp 26) (by rfl) (w.heap.size + 1) _ (by rfl) (by rfl) 71 _ (HA1.out _) Hsz.out (by rw [List.size_toArray, List.size_toArray, secV_len, secV_len, fill_nil, Hx64.out]) (all_oneCell_toArray (secV_one _)) ?_)
      all_goals
        refine bodyPost_ret (v := .agg (secV x).toArray) (results_cell_row (by rfl) _ _ (w.heap.size + 1) 71 _ (0, 0) _ (by rfl) (setRow_heap _ _ _ _ _ _ (HA1.out _)) Try.underlying71 rfl Hsz.out) rfl ?_
        first
          | (have hc1 : cap = 1 := by assumption
             have f := fin.out (some ⟨kb, ko, none⟩) (fun h => by omega)
             rw [hc1] at f
             exact f)
          | exact fin.out (some ⟨kb, ko + 1, none⟩) (fun _ => rfl)
  · obtain ⟨g, rfl, hgr⟩ := HP.out j x hjx
    have Hgr := Lib.hid hgr
    clear hgr hjx
    generalize hqq : k.tmod (1 + (t.length : Int)) = q at *
    by_cases hneg : q < 0
    · have i1 : (-q - 1).toNat = j := by omega
      have i2 : (0 : Int) ≤ -q - 1 := by omega
      have i3 : -q - 1 < (t.length : Int) := by omega
      have i4 : (-q == 0) = false := by rw [beq_eq_false_iff_ne]; omega
      have i5 : IntKind.i64.wrap (-q - 1) = -q - 1 := IntWalk.i64_in _ ⟨by omega, by omega⟩
      clear hj hjl
      go_enter Try.func37, Try.ntmps37
      go_wp2_with fail
      clear c0
      have c1 := Hc1.out
      rw [HW2.out]
      go_region
      clear c1 c2 f1
      all_goals
        go_wp2_with (first | refine wpList_load_mid rfl 71 (.tmp 30) (by rfl) g (j * 64) (by rfl) (secV x) _ (Hgr.out _) Try.underlying71 rfl Hsl.out ?_ | refine wpList_store_row rfl 71 (.tmp 5) (.tmp 31) (by rfl) (w.heap.size + 1) _ (by rfl) (by rfl) 71 _ (HA1.out _) Hsz.out (by rw [List.size_toArray, List.size_toArray, secV_len, secV_len, fill_nil, Hx64.out]) (all_oneCell_toArray (secV_one _)) ?_)
        all_goals
          refine bodyPost_ret (v := .agg (secV x).toArray) (results_cell_row (by rfl) _ _ (w.heap.size + 1) 71 _ (0, 0) _ (by rfl) (setRow_heap _ _ _ _ _ _ (HA1.out _)) Try.underlying71 rfl Hsz.out) rfl ?_
          first
            | (have hc1 : cap = 1 := by assumption
               have f := fin.out (some ⟨kb, ko, none⟩) (fun h => by omega)
               rw [hc1] at f
               exact f)
            | exact fin.out (some ⟨kb, ko + 1, none⟩) (fun _ => rfl)
    · have i1 : (q - 1).toNat = j := by omega
      have i2 : (0 : Int) ≤ q - 1 := by omega
      have i3 : q - 1 < (t.length : Int) := by omega
      have i4 : (q == 0) = false := by rw [beq_eq_false_iff_ne]; omega
      have i5 : IntKind.i64.wrap (q - 1) = q - 1 := IntWalk.i64_in _ ⟨by omega, by omega⟩
      have i6 : decide (q < 0) = false := by simpa using hneg
      have i7 : 1 ≤ q := by omega
      clear hj hjl hneg
      go_enter Try.func37, Try.ntmps37
      go_wp2_with fail
      clear c0
      have c1 := Hc1.out
      rw [HW2.out]
      go_region
      clear c1 c2 f1
      all_goals
        go_wp2_with (first | refine wpList_load_mid rfl 71 (.tmp 30) (by rfl) g (j * 64) (by rfl) (secV x) _ (Hgr.out _) Try.underlying71 rfl Hsl.out ?_ | refine wpList_store_row rfl 71 (.tmp 5) (.tmp 31) (by rfl) (w.heap.size + 1) _ (by rfl) (by rfl) 71 _ (HA1.out _) Hsz.out (by rw [List.size_toArray, List.size_toArray, secV_len, secV_len, fill_nil, Hx64.out]) (all_oneCell_toArray (secV_one _)) ?_)
        all_goals
          refine bodyPost_ret (v := .agg (secV x).toArray) (results_cell_row (by rfl) _ _ (w.heap.size + 1) 71 _ (0, 0) _ (by rfl) (setRow_heap _ _ _ _ _ _ (HA1.out _)) Try.underlying71 rfl Hsz.out) rfl ?_
          first
            | (have hc1 : cap = 1 := by assumption
               have f := fin.out (some ⟨kb, ko, none⟩) (fun h => by omega)
               rw [hc1] at f
               exact f)
            | exact fin.out (some ⟨kb, ko + 1, none⟩) (fun _ => rfl)

set_option maxRecDepth 100000 in
set_option maxHeartbeats 1000000 in
theorem keep_none {w : World} {v : Value} {s0 : ByteArray} {t : List ByteArray} {bk cap : Nat} {A : Option Addr} (hs : s0.size = 64) (h : OwnS w v t) (hm : t.length ≤ 1000) (hr : Row w bk 32 #[.slice A 0 cap]) :
    Calls Try.prog 37 #[.agg (secV s0).toArray, v, .pointer (some ⟨bk, 0, none⟩)] w fun e w' => e = .returned (.agg (secV s0).toArray) ∧ Row w' bk 32 #[.slice A 0 cap] ∧ w.grownBy w' (some bk) := by
  have hz := (zero_of_info secZero).1
  have hbk := hr.inHeap
  have c1 : ((w.alloc (.cells (secV s0).toArray 71)).alloc (.cells (secV (fill ⟨#[]⟩)).toArray 71)).cell? ⟨bk, 0, none⟩ = some (.slice A 0 cap) := ((hr.behindNew _).behindNew _).at 0
  have hA0 : ((w.alloc (.cells (secV s0).toArray 71)).alloc (.cells (secV (fill ⟨#[]⟩)).toArray 71)).rangeAt w.heap.size 0 (secV s0) := fun j y hy => by
    rw [Nat.zero_add, cell_of_row _ w.heap.size j _ _ (0, 0) (heap_alloc2_old w _ _), List.getElem?_toArray]
    exact hy
  have hgb : w.grownBy ((w.alloc (.cells (secV s0).toArray 71)).alloc (.cells (secV (fill ⟨#[]⟩)).toArray 71)) (some bk) := gb_new (gb_new (gb_refl _ _) _) _
  have hrow := (hr.behindNew (.cells (secV s0).toArray 71)).behindNew (.cells (secV (fill ⟨#[]⟩)).toArray 71)
  have fin : Hid (Row (((w.alloc (.cells (secV s0).toArray 71)).alloc (.cells (secV (fill ⟨#[]⟩)).toArray 71)).setRow (w.heap.size + 1) (secV s0).toArray) bk 32 #[.slice A 0 cap] ∧ w.grownBy (((w.alloc (.cells (secV s0).toArray 71)).alloc (.cells (secV (fill ⟨#[]⟩)).toArray 71)).setRow (w.heap.size + 1) (secV s0).toArray) (some bk)) := Lib.hid
    ⟨(setRow_other _ _ bk _ (by omega)).trans hrow, gb_row hgb (by omega) _⟩
  have htl : (t.length : Int) ≤ 1000 := by omega
  obtain ⟨vA, vc, rfl⟩ := h.any
  have HA0 := Lib.hid hA0
  have Hs := Lib.hid hs
  have Hsz := Lib.hid (sec_size hs)
  have Hsl : Hid ((Try.prog.info? 71).map (·.size) = some (secV s0).length) := Lib.hid (by rw [secV_len, hs]; exact secInfo)
  clear h hr hA0 hgb hrow hs
  go_enter Try.func37, Try.ntmps37
  go_wp2_with (first | refine wpList_load_mid rfl 71 (.tmp 3) (by rfl) w.heap.size 0 (by rfl) (secV s0) _ HA0.out Try.underlying71 rfl Hsl.out ?_ | refine wpList_store_row rfl 71 (.tmp 5) (.tmp 26) (by rfl) (w.heap.size + 1) _ (by rfl) (by rfl) 71 _ (heap_alloc2_new w _ _) Hsz.out (by rw [List.size_toArray, List.size_toArray, secV_len, secV_len, fill_nil, Hs.out]) (all_oneCell_toArray (secV_one _)) ?_)
  refine bodyPost_ret (v := .agg (secV s0).toArray) (results_cell_row (by rfl) _ _ (w.heap.size + 1) 71 _ (0, 0) _ (by rfl) (setRow_heap _ _ _ _ _ _ (heap_alloc2_new w _ _)) Try.underlying71 rfl Hsz.out) rfl ?_
  exact ⟨rfl, fin.out⟩
end Go.Proofs.Ytdagdmfockibfaa
