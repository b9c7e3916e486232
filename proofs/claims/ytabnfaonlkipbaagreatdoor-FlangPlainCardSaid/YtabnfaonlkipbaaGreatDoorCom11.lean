/- The document's own answers of layer 9: Right, Match, Sizes, Above, Equal. -/
import Derived.Test.YtabnfaonlkipbaaGreatDoorCom6
import Derived.Test.YtabnfaonlkipbaaGreatDoorCom8
import Derived.Test.YtabnfaonlkipbaaGreatDoorCom9
import Derived.Test.YtabnfaonlkipbaaGreatDoorCom10
import Derived.BigQuiet
import Derived.Deep.QuietTactic
set_option linter.unusedSimpArgs false
set_option linter.unusedVariables false
namespace Go.Proofs.YtabnfaonlkipbaaGreatDoor
open Go.RowKit

set_option maxRecDepth 100000 in
theorem str_empty (p : List UInt8) : (mk p).toList.isEmpty = decide (p = []) := by rw [Lib.toList_data, mk_data]; cases p <;> rfl
set_option maxRecDepth 100000 in
theorem str_nil (p : List UInt8) : ((mk p).toList == []) = decide (p = []) := by rw [Lib.toList_data, mk_data]; cases p <;> rfl
set_option maxRecDepth 100000 in
theorem str_same (p q : List UInt8) : ((mk p).toList == (mk q).toList) = decide (p = q) := by
  rw [Lib.toList_data, Lib.toList_data, mk_data, mk_data]
  by_cases h : p = q
  · rw [h, decide_eq_true rfl]; exact beq_self_eq_true _
  · rw [decide_eq_false h, beq_eq_false_iff_ne]; exact h
set_option maxRecDepth 100000 in
theorem mk_eq {p q : List UInt8} : mk p = mk q ↔ p = q := ⟨fun h => by rw [← mk_data p, h, mk_data], fun h => by rw [h]⟩

set_option maxRecDepth 100000 in
set_option maxHeartbeats 3200000 in
theorem ref_fright (c : Flt.Cl) (w : World) (hp : c.pre.length ≤ 100000) :
    Calls Tryz.prog 45 #[.agg #[.string (mk c.pre), .int .i64 c.lo, .int .i64 c.hi]] w fun e w' => e = .returned (.bool (decide (Flt.Right c))) ∧ Below w.heap.size w w' := by
  obtain ⟨p, lo, hi⟩ := c
  simp only at hp ⊢
  have ia := str_empty p
  have ea := str_nil p
  have R := Lib.hid (fun W => ref_right p W hp)
  have hD : Hid (decide (Flt.Right ⟨p, lo, hi⟩) = ((decide (p = []) || decide (Pth.Right p)) && (decide (0 ≤ lo) && (decide (lo ≤ hi) && decide (hi ≤ 200))))) := Lib.hid (by rw [Bool.eq_iff_iff]; refine decide_eq_true_iff.trans ?_; simp only [Flt.Right, decide_eq_true_iff, Bool.and_eq_true, Bool.or_eq_true])
  generalize hE : decide (p = []) = d0 at ia ea hD
  generalize decide (Pth.Right p) = d1 at *
  generalize e1 : decide ((0 : Int) ≤ lo) = d2 at hD
  generalize e2 : decide (lo ≤ hi) = d3 at hD
  generalize e3 : decide (hi ≤ (200 : Int)) = d4 at hD
  generalize decide (Flt.Right ⟨p, lo, hi⟩) = D at *
  clear hE
  generalize mk p = x at *
  cases d0
  · cases d1
    · go_enter Tryz.func45, Tryz.ntmps45
      go_wp2_with fail
      refine (R.out _).mono ?_
      rintro e w1 ⟨rfl, hb1⟩
      go_wp2_with fail
      go_ret
      exact ⟨by rw [hD.out]; rfl, ((Below.refl _ _).alloc (Nat.le_refl _) _).trans (hb1.mono (by simp))⟩
    · cases d2
      · go_enter Tryz.func45, Tryz.ntmps45
        go_wp2_with fail
        refine (R.out _).mono ?_
        rintro e w1 ⟨rfl, hb1⟩
        have q1 : w1.cell? ⟨w.heap.size, 1, none⟩ = some (.int .i64 lo) := (hb1.cell (p := ⟨w.heap.size, 1, none⟩) (by simp)).trans ((Row.made w 42 #[.string x, .int .i64 lo, .int .i64 hi]).at 1)
        have q2 : w1.cell? ⟨w.heap.size, 2, none⟩ = some (.int .i64 hi) := (hb1.cell (p := ⟨w.heap.size, 2, none⟩) (by simp)).trans ((Row.made w 42 #[.string x, .int .i64 lo, .int .i64 hi]).at 2)
        go_wp2_with fail
        go_ret
        exact ⟨by rw [hD.out]; rfl, ((Below.refl _ _).alloc (Nat.le_refl _) _).trans (hb1.mono (by simp))⟩
      · cases d3
        · go_enter Tryz.func45, Tryz.ntmps45
          go_wp2_with fail
          refine (R.out _).mono ?_
          rintro e w1 ⟨rfl, hb1⟩
          have q1 : w1.cell? ⟨w.heap.size, 1, none⟩ = some (.int .i64 lo) := (hb1.cell (p := ⟨w.heap.size, 1, none⟩) (by simp)).trans ((Row.made w 42 #[.string x, .int .i64 lo, .int .i64 hi]).at 1)
          have q2 : w1.cell? ⟨w.heap.size, 2, none⟩ = some (.int .i64 hi) := (hb1.cell (p := ⟨w.heap.size, 2, none⟩) (by simp)).trans ((Row.made w 42 #[.string x, .int .i64 lo, .int .i64 hi]).at 2)
          go_wp2_with fail
          go_ret
          exact ⟨by rw [hD.out]; rfl, ((Below.refl _ _).alloc (Nat.le_refl _) _).trans (hb1.mono (by simp))⟩
        · cases d4
          · go_enter Tryz.func45, Tryz.ntmps45
            go_wp2_with fail
            refine (R.out _).mono ?_
            rintro e w1 ⟨rfl, hb1⟩
            have q1 : w1.cell? ⟨w.heap.size, 1, none⟩ = some (.int .i64 lo) := (hb1.cell (p := ⟨w.heap.size, 1, none⟩) (by simp)).trans ((Row.made w 42 #[.string x, .int .i64 lo, .int .i64 hi]).at 1)
            have q2 : w1.cell? ⟨w.heap.size, 2, none⟩ = some (.int .i64 hi) := (hb1.cell (p := ⟨w.heap.size, 2, none⟩) (by simp)).trans ((Row.made w 42 #[.string x, .int .i64 lo, .int .i64 hi]).at 2)
            go_wp2_with fail
            go_ret
            exact ⟨by rw [hD.out]; rfl, ((Below.refl _ _).alloc (Nat.le_refl _) _).trans (hb1.mono (by simp))⟩
          · go_enter Tryz.func45, Tryz.ntmps45
            go_wp2_with fail
            refine (R.out _).mono ?_
            rintro e w1 ⟨rfl, hb1⟩
            have q1 : w1.cell? ⟨w.heap.size, 1, none⟩ = some (.int .i64 lo) := (hb1.cell (p := ⟨w.heap.size, 1, none⟩) (by simp)).trans ((Row.made w 42 #[.string x, .int .i64 lo, .int .i64 hi]).at 1)
            have q2 : w1.cell? ⟨w.heap.size, 2, none⟩ = some (.int .i64 hi) := (hb1.cell (p := ⟨w.heap.size, 2, none⟩) (by simp)).trans ((Row.made w 42 #[.string x, .int .i64 lo, .int .i64 hi]).at 2)
            go_wp2_with fail
            go_ret
            exact ⟨by rw [hD.out]; rfl, ((Below.refl _ _).alloc (Nat.le_refl _) _).trans (hb1.mono (by simp))⟩
  · cases d2
    · go_enter Tryz.func45, Tryz.ntmps45
      go_wp2_with fail
      go_ret
      exact ⟨by rw [hD.out]; rfl, (Below.refl _ _).alloc (Nat.le_refl _) _⟩
    · cases d3
      · go_enter Tryz.func45, Tryz.ntmps45
        go_wp2_with fail
        go_ret
        exact ⟨by rw [hD.out]; rfl, (Below.refl _ _).alloc (Nat.le_refl _) _⟩
      · cases d4
        · go_enter Tryz.func45, Tryz.ntmps45
          go_wp2_with fail
          go_ret
          exact ⟨by rw [hD.out]; rfl, (Below.refl _ _).alloc (Nat.le_refl _) _⟩
        · go_enter Tryz.func45, Tryz.ntmps45
          go_wp2_with fail
          go_ret
          exact ⟨by rw [hD.out]; rfl, (Below.refl _ _).alloc (Nat.le_refl _) _⟩

set_option maxRecDepth 100000 in
theorem clauseInfo : (Tryz.prog.info? 42).map (fun i => (i.zero, i.size, i.bytes)) = some (some (.agg #[.string ⟨#[]⟩, .int .i64 0, .int .i64 0]), 3, 32) := by kernel_rfl
set_option maxRecDepth 100000 in
/-- A slice that was just made of one clause. -/
theorem cl_made (w : World) (t : TypeId) (p : List UInt8) (lo hi : Int) : Cls (w.alloc (.cells #[.string (mk p), .int .i64 lo, .int .i64 hi] t)) (fun i => i = w.heap.size) (.slice (some ⟨w.heap.size, 0, none⟩) 1 1) [⟨p, lo, hi⟩] := by
  refine ⟨_, 1, rfl, Nat.le_refl _, fun _ => ⟨w.heap.size, 0, rfl, rfl, by simp, fun i x hx j u hu => ?_⟩⟩
  rw [(Row.made w _ _).at, Nat.zero_add]
  match i, hx with
  | 0, hx =>
    injection hx with hx
    subst hx
    match j, hu with
    | 0, hu => simpa [clV] using hu
    | 1, hu => simpa [clV] using hu
    | 2, hu => simpa [clV] using hu

set_option maxRecDepth 100000 in
theorem Flt.sizes_take {f : List Flt.Cl} {n : Nat} {c : Flt.Cl} (hc : f[n]? = some c) (p : List UInt8) : Flt.sizes (f.take (n + 1)) p = Flt.sizes (f.take n) p ++ if Pth.Covers c.pre p then [Flt.rg c] else [] := by
  obtain ⟨hl, he⟩ := List.getElem?_eq_some_iff.1 hc
  rw [List.take_succ_eq_append_getElem hl, he]
  unfold Flt.sizes
  rw [List.filter_append, List.map_append]
  congr 1
  by_cases h : Pth.Covers c.pre p <;> simp [h]
set_option maxRecDepth 100000 in
theorem Flt.sizes_len (f : List Flt.Cl) (p : List UInt8) : (Flt.sizes f p).length ≤ f.length := by unfold Flt.sizes; rw [List.length_map]; exact List.length_filter_le _ _
set_option maxRecDepth 100000 in
theorem Flt.above_take {f : List Flt.Cl} {n : Nat} {c : Flt.Cl} (hc : f[n]? = some c) (p : List UInt8) : Flt.above (f.take (n + 1)) p = Flt.above (f.take n) p ++ if c.pre ≠ p ∧ Pth.Covers c.pre p then [c] else [] := by
  obtain ⟨hl, he⟩ := List.getElem?_eq_some_iff.1 hc
  rw [List.take_succ_eq_append_getElem hl, he]
  unfold Flt.above
  rw [List.filter_append]
  congr 1
  by_cases h : c.pre ≠ p ∧ Pth.Covers c.pre p <;> simp [h]
set_option maxRecDepth 100000 in
theorem Flt.hits_take {f : List Flt.Cl} {n : Nat} {c : Flt.Cl} (hc : f[n]? = some c) (p : List UInt8) (s : Int) (d : Bool) : Flt.hits (f.take (n + 1)) p s d = (Flt.hits (f.take n) p s d || Flt.hit p s d c) := by
  obtain ⟨hl, he⟩ := List.getElem?_eq_some_iff.1 hc
  rw [List.take_succ_eq_append_getElem hl, he]
  unfold Flt.hits
  rw [List.any_append]
  simp
set_option maxRecDepth 100000 in
theorem Flt.hits_mono {f : List Flt.Cl} {n : Nat} {p : List UInt8} {s : Int} {d : Bool} (h : Flt.hits (f.take n) p s d = true) : Flt.hits f p s d = true := by
  unfold Flt.hits at *
  rw [List.any_eq_true] at *
  obtain ⟨c, hc, h⟩ := h
  exact ⟨c, List.mem_of_mem_take hc, h⟩
set_option maxRecDepth 100000 in
theorem Flt.len_take {n : Nat} (f : List Flt.Cl) : (f.take n).length ≤ n := by rw [List.length_take]; omega

set_option maxRecDepth 100000 in
set_option maxHeartbeats 3200000 in
theorem ref_fsizes {w : World} {F : Nat → Prop} {v : Value} {f : List Flt.Cl} {p : List UInt8} (h : Cls w F v f) (hl : f.length ≤ 1000000) (hp : p.length ≤ 100000) (hs : ∀ c ∈ f, c.pre.length ≤ 100000) :
    Calls Tryz.prog 31 #[v, .string (mk p)] w fun e w' => ∃ v', e = .returned v' ∧ RowsOwn 40 2 rgV w (Flt.sizes f p) v' w' := by
  obtain ⟨A, cap, rfl, hcap⟩ := h.parts
  obtain ⟨i0, hi0, hz0, hz1, hz2⟩ := info_parts rangeInfo
  have H := Lib.hid h
  have HS := Lib.hid hs
  have COV := Lib.hid (fun (q : List UInt8) (hq : q.length ≤ 100000) (W : World) => ref_covers q p W hq hp)
  have hl' : (f.length : Int) ≤ 1000000 := by omega
  clear h hs
  go_enter Tryz.func31, Tryz.ntmps31
  go_wp2_with fail
  go_loopw [5, 6] (fun out i wr => ∃ n : Nat, n ≤ f.length ∧ i = .int .i64 (n : Int) ∧ RowsOwn 40 2 rgV w (Flt.sizes (f.take n) p) out wr) (fun _ i _ => f.length - (intOf i).toNat)
  case atStart => exact ⟨0, Nat.zero_le _, rfl, RowsOwn.start _ _ _ w⟩
  case round =>
    obtain ⟨n, hn, rfl, hown⟩ := hrel
    by_cases hlt : n < f.length
    · obtain ⟨b, o, cap', e, -, -, hb⟩ := H.out.block (by omega)
      injection e with e1 e2 e3
      subst e1 e3
      clear e2
      obtain ⟨x, hx⟩ : ∃ x, f[n]? = some x := ⟨_, List.getElem?_eq_getElem hlt⟩
      have hpx := HS.out x (List.mem_of_getElem? hx)
      have hn0 : (0 : Int) ≤ (n : Int) := by omega
      have hn1 : (n : Int) < (f.length : Int) := by omega
      have CA : Hid (∀ W, Below w.heap.size w W → W.cell? ⟨b, o + n * 3, none⟩ = some (.string (mk x.pre)) ∧ W.cell? ⟨b, o + n * 3 + 1, none⟩ = some (.int .i64 x.lo) ∧ W.cell? ⟨b, o + n * 3 + 2, none⟩ = some (.int .i64 x.hi)) := Lib.hid (fun W hW => Cls.at (H.out.below hW) hx)
      obtain ⟨c0, c1, c2⟩ := CA.out wr hown.2
      have hst := Lib.hid (Flt.sizes_take hx p)
      have hlen := Lib.hid (Flt.sizes_len (f.take n) p)
      have hlen2 := Flt.len_take (n := n) f
      obtain ⟨xp, x1, x2⟩ := x
      simp only at c0 c1 c2 hpx CA
      have CV := Lib.hid (COV.out xp hpx)
      have Hown := Lib.hid hown
      clear hown hx COV
      cases hcv : decide (Pth.Covers xp p)
      · rw [hcv] at CV
        have hst' : Hid (Flt.sizes (f.take (n + 1)) p = Flt.sizes (f.take n) p) := Lib.hid (by rw [hst.out, if_neg (of_decide_eq_false hcv), List.append_nil])
        clear hst hcv
        go_wp2_with fail
        refine (CV.out _).mono ?_
        rintro e w1 ⟨rfl, hb1⟩
        have hnew := Lib.hid (Hown.out.below hb1)
        clear hb1
        go_wp2_with fail
        exact ⟨⟨n + 1, by omega, by go_num, by rw [hst'.out]; exact hnew.out⟩, by show f.length - ((n : Int) + 1).toNat < f.length - (n : Int).toNat; omega⟩
      · rw [hcv] at CV
        have hst' : Hid (Flt.sizes (f.take (n + 1)) p = Flt.sizes (f.take n) p ++ [(x1, x2)]) := Lib.hid (by rw [hst.out, if_pos (of_decide_eq_true hcv)]; rfl)
        have hlen3 : (Flt.sizes (f.take n) p).length ≤ n := Nat.le_trans hlen.out hlen2
        clear hst hcv
        generalize Flt.sizes (f.take n) p = out at *
        go_wp2_with fail
        refine (CV.out _).mono ?_
        rintro e w1 ⟨rfl, hb1⟩
        have Hown2 := Lib.hid (Hown.out.below hb1)
        obtain ⟨d0, d1, d2⟩ := CA.out w1 Hown2.out.2
        have d3 : w1.cell? ⟨b, o + n * 3 + 1 + 1, none⟩ = some (.int .i64 x2) := d2
        clear hb1 c0 c1 c2
        have hown3 := Hown2.out.1.alloc (.cells #[.int .i64 x1, .int .i64 x2] 40)
        have hmade := rg_made w1 40 x1 x2
        have hsz3 : w.heap.size ≤ (w1.alloc (.cells #[.int .i64 x1, .int .i64 x2] 40)).heap.size := by have := Hown2.out.2.size; simp; omega
        go_wp2_with (at_builtin; refine wp_joins (f := rgV) (k := 2) rfl _ _ 58 rfl (w.heap.size) 40 i0 (.agg #[.int .i64 0, .int .i64 0]) 16 Tryz.underlying58 hi0 hz0 hz1 hz2 rfl (by decide) rfl rfl hown3 hmade (fun _ _ => rfl) (fun x _ => rg_one x) ?c3 ?c4 hsz3 ?_)
        case c3 => unfold maxLen; first | omega | (simp <;> omega)
        case c4 => first | omega | (simp <;> omega)
        intro v3 w3 h1 h2 _
        have hnew := Lib.hid (Hown2.out.more (x := (x1, x2)) (v' := v3) (by simpa using h1) h2)
        clear h1 h2 hown3 hmade
        go_wp2_with fail
        exact ⟨⟨n + 1, by omega, by go_num, by rw [hst'.out]; exact hnew.out⟩, by show f.length - ((n : Int) + 1).toNat < f.length - (n : Int).toNat; omega⟩
    · obtain rfl : n = f.length := by omega
      rw [List.take_length] at hown
      have Hown := Lib.hid hown
      clear hown
      go_wp2_with fail
      go_ret
      exact ⟨_, rfl, Hown.out⟩

set_option maxRecDepth 100000 in
set_option maxHeartbeats 3200000 in
theorem ref_above {w : World} {F : Nat → Prop} {v : Value} {f : List Flt.Cl} {p : List UInt8} (h : Cls w F v f) (hl : f.length ≤ 1000000) (hp : p.length ≤ 100000) (hs : ∀ c ∈ f, c.pre.length ≤ 100000) :
    Calls Tryz.prog 32 #[v, .string (mk p)] w fun e w' => ∃ v', e = .returned v' ∧ RowsOwn 42 3 clV w (Flt.above f p) v' w' := by
  obtain ⟨A, cap, rfl, hcap⟩ := h.parts
  obtain ⟨i0, hi0, hz0, hz1, hz2⟩ := info_parts clauseInfo
  have H := Lib.hid h
  have HS := Lib.hid hs
  have COV := Lib.hid (fun (q : List UInt8) (hq : q.length ≤ 100000) (W : World) => ref_covers q p W hq hp)
  have hl' : (f.length : Int) ≤ 1000000 := by omega
  clear h hs
  go_enter Tryz.func32, Tryz.ntmps32
  go_wp2_with fail
  go_loopw [5, 6] (fun out i wr => ∃ n : Nat, n ≤ f.length ∧ i = .int .i64 (n : Int) ∧ RowsOwn 42 3 clV w (Flt.above (f.take n) p) out wr) (fun _ i _ => f.length - (intOf i).toNat)
  case atStart => exact ⟨0, Nat.zero_le _, rfl, RowsOwn.start _ _ _ w⟩
  case round =>
    obtain ⟨n, hn, rfl, hown⟩ := hrel
    by_cases hlt : n < f.length
    · obtain ⟨b, o, cap', e, -, -, hb⟩ := H.out.block (by omega)
      injection e with e1 e2 e3
      subst e1 e3
      clear e2
      obtain ⟨x, hx⟩ : ∃ x, f[n]? = some x := ⟨_, List.getElem?_eq_getElem hlt⟩
      have hpx := HS.out x (List.mem_of_getElem? hx)
      have hn0 : (0 : Int) ≤ (n : Int) := by omega
      have hn1 : (n : Int) < (f.length : Int) := by omega
      have CA : Hid (∀ W, Below w.heap.size w W → W.cell? ⟨b, o + n * 3, none⟩ = some (.string (mk x.pre)) ∧ W.cell? ⟨b, o + n * 3 + 1, none⟩ = some (.int .i64 x.lo) ∧ W.cell? ⟨b, o + n * 3 + 2, none⟩ = some (.int .i64 x.hi)) := Lib.hid (fun W hW => Cls.at (H.out.below hW) hx)
      obtain ⟨c0, c1, c2⟩ := CA.out wr hown.2
      have hst := Lib.hid (Flt.above_take hx p)
      have hlen : Hid ((Flt.above (f.take n) p).length ≤ n) := Lib.hid (Nat.le_trans (List.length_filter_le _ _) (Flt.len_take f))
      obtain ⟨xp, x1, x2⟩ := x
      simp only at c0 c1 c2 hpx CA
      have CV := Lib.hid (COV.out xp hpx)
      have es := str_same xp p
      have Hown := Lib.hid hown
      clear hown hx COV
      cases heq : decide (xp = p)
      · rw [heq] at es
        cases hcv : decide (Pth.Covers xp p)
        · rw [hcv] at CV
          have hst' : Hid (Flt.above (f.take (n + 1)) p = Flt.above (f.take n) p) := Lib.hid (by rw [hst.out, if_neg (fun h => of_decide_eq_false hcv h.2), List.append_nil])
          clear hst hcv heq
          generalize mk xp = xs at *
          generalize mk p = ps at *
          go_wp2_with fail
          refine (CV.out _).mono ?_
          rintro e w1 ⟨rfl, hb1⟩
          have hnew := Lib.hid (Hown.out.below hb1)
          clear hb1
          go_wp2_with fail
          exact ⟨⟨n + 1, by omega, by go_num, by rw [hst'.out]; exact hnew.out⟩, by show f.length - ((n : Int) + 1).toNat < f.length - (n : Int).toNat; omega⟩
        · rw [hcv] at CV
          have hst' : Hid (Flt.above (f.take (n + 1)) p = Flt.above (f.take n) p ++ [⟨xp, x1, x2⟩]) := Lib.hid (by rw [hst.out, if_pos ⟨of_decide_eq_false heq, of_decide_eq_true hcv⟩])
          have hlen3 := hlen.out
          clear hst hcv heq
          generalize Flt.above (f.take n) p = out at *
          have hmd := Lib.hid (fun W => cl_made W 42 xp x1 x2)
          generalize hxs : mk xp = xs at *
          have Hxs := Lib.hid hxs
          clear hxs
          generalize mk p = ps at *
          go_wp2_with fail
          refine (CV.out _).mono ?_
          rintro e w1 ⟨rfl, hb1⟩
          have Hown2 := Lib.hid (Hown.out.below hb1)
          obtain ⟨d0, d1, d2⟩ := CA.out w1 Hown2.out.2
          clear hb1 c0 c1 c2
          have hown3 := Hown2.out.1.alloc (.cells #[.string xs, .int .i64 x1, .int .i64 x2] 42)
          have hmade := hmd.out w1
          have hsz3 : w.heap.size ≤ (w1.alloc (.cells #[.string xs, .int .i64 x1, .int .i64 x2] 42)).heap.size := by have := Hown2.out.2.size; simp; omega
          go_wp2_with (at_builtin; refine wp_joins (f := clV) (k := 3) rfl _ _ 22 rfl (w.heap.size) 42 i0 (.agg #[.string ⟨#[]⟩, .int .i64 0, .int .i64 0]) 32 Tryz.underlying22 hi0 hz0 hz1 hz2 rfl (by decide) rfl rfl hown3 hmade (fun _ _ => rfl) (fun x _ => cl_one x) ?c3 ?c4 hsz3 ?_)
          case c3 => unfold maxLen; first | omega | (simp <;> omega)
          case c4 => first | omega | (simp <;> omega)
          intro v3 w3 h1 h2 _
          have hnew := Lib.hid (Hown2.out.more (x := (⟨xp, x1, x2⟩ : Flt.Cl)) (v' := v3) (by simpa [clV, Hxs.out] using h1) h2)
          clear h1 h2 hown3 hmade
          go_wp2_with fail
          exact ⟨⟨n + 1, by omega, by go_num, by rw [hst'.out]; exact hnew.out⟩, by show f.length - ((n : Int) + 1).toNat < f.length - (n : Int).toNat; omega⟩
      · rw [heq] at es
        have hst' : Hid (Flt.above (f.take (n + 1)) p = Flt.above (f.take n) p) := Lib.hid (by rw [hst.out, if_neg (fun h => h.1 (of_decide_eq_true heq)), List.append_nil])
        have hnew := Hown
        clear hst heq
        generalize mk xp = xs at *
        generalize mk p = ps at *
        go_wp2_with fail
        exact ⟨⟨n + 1, by omega, by go_num, by rw [hst'.out]; exact hnew.out⟩, by show f.length - ((n : Int) + 1).toNat < f.length - (n : Int).toNat; omega⟩
    · obtain rfl : n = f.length := by omega
      rw [List.take_length] at hown
      have Hown := Lib.hid hown
      clear hown
      go_wp2_with fail
      go_ret
      exact ⟨_, rfl, Hown.out⟩
end Go.Proofs.YtabnfaonlkipbaaGreatDoor
/- What must come at any rate ('awake' of layer 9); filters that are not far too long; the clauses that may be. -/
set_option linter.unusedSimpArgs false
set_option linter.unusedVariables false
namespace Go.Proofs.YtabnfaonlkipbaaGreatDoor
open Go.RowKit

def Flt.light (f : List Flt.Cl) : Prop := (∀ c ∈ f, c.pre.length ≤ 100) ∧ f.length ≤ 24
instance (f : List Flt.Cl) : Decidable (Flt.light f) := inferInstanceAs (Decidable (_ ∧ _))
def Flt.sane (f : List Flt.Cl) : List Flt.Cl := f.filter fun c => decide (Flt.Right c)

set_option maxRecDepth 100000 in
set_option maxHeartbeats 3200000 in
/-- A filter that came in: not far too long? -/
theorem light_any {w : World} {F : Nat → Prop} {v : Value} {f : List Flt.Cl} (h : Cls w F v f) (hl : f.length ≤ 9223372036854775807) (hs : ∀ c ∈ f, c.pre.length ≤ 9223372036854775807) :
    Calls Tryz.prog 6 #[v] w fun e w' => e = .returned (.bool (decide (Flt.light f))) ∧ Below w.heap.size w w' := by
  obtain ⟨A, cap, rfl, hcap⟩ := h.parts
  have H := Lib.hid h
  have HS := Lib.hid hs
  have hl' : (f.length : Int) ≤ 9223372036854775807 := by omega
  clear h hs
  go_enter Tryz.func6, Tryz.ntmps6
  go_wp2_with fail
  go_loopw [3] (fun i wr => ∃ n : Nat, n ≤ f.length ∧ i = .int .i64 (n : Int) ∧ Hid (∀ c ∈ f.take n, c.pre.length ≤ 100) ∧ Below w.heap.size w wr) (fun i _ => f.length - (intOf i).toNat)
  case atStart => exact ⟨0, Nat.zero_le _, rfl, Lib.hid (by simp), Below.refl _ _⟩
  case round =>
    obtain ⟨n, hn, rfl, hall, hbel⟩ := hrel
    by_cases hlt : n < f.length
    · obtain ⟨b, o, cap', e, -, -, hb⟩ := H.out.block (by omega)
      injection e with e1 e2 e3
      subst e1 e3
      clear e2
      obtain ⟨x, hx⟩ : ∃ x, f[n]? = some x := ⟨_, List.getElem?_eq_getElem hlt⟩
      have hpx := HS.out x (List.mem_of_getElem? hx)
      have hn0 : (0 : Int) ≤ (n : Int) := by omega
      have hn1 : (n : Int) < (f.length : Int) := by omega
      obtain ⟨c0, c1, c2⟩ := Cls.at (H.out.below hbel) hx
      have lx := mk_len x.pre
      have Hbel := Lib.hid hbel
      clear hbel c1 c2
      by_cases hx1 : x.pre.length ≤ 100
      · have hnext : Hid (∀ c ∈ f.take (n + 1), c.pre.length ≤ 100) := Lib.hid (by
          intro c hc
          obtain ⟨h1, e1⟩ := List.getElem?_eq_some_iff.1 hx
          rw [List.take_succ_eq_append_getElem h1, e1] at hc
          rcases List.mem_append.1 hc with hc | hc
          · exact hall.out c hc
          · rw [List.mem_singleton.1 hc]; exact hx1)
        have g1 : ¬ (100 : Int) < ((mk x.pre).size : Int) := by omega
        have g2 : ((mk x.pre).size : Int) ≤ 9223372036854775807 := by omega
        clear hx hall lx hx1 hpx
        generalize mk x.pre = xs at *
        go_wp2_with fail
        exact ⟨⟨n + 1, by omega, by go_num, hnext, Hbel.out⟩, by show f.length - ((n : Int) + 1).toNat < f.length - (n : Int).toNat; omega⟩
      · have hno : Hid (decide (Flt.light f) = false) := Lib.hid (decide_eq_false (fun h => hx1 (h.1 x (List.mem_of_getElem? hx))))
        have g1 : (100 : Int) < ((mk x.pre).size : Int) := by omega
        have g2 : ((mk x.pre).size : Int) ≤ 9223372036854775807 := by omega
        clear hx hall lx hx1 hpx
        generalize mk x.pre = xs at *
        go_wp2_with fail
        go_ret
        exact ⟨by rw [hno.out]; rfl, Hbel.out⟩
    · obtain rfl : n = f.length := by omega
      have Hbel := Lib.hid hbel
      clear hbel
      by_cases h24 : f.length ≤ 24
      · have hyes : Hid (decide (Flt.light f) = true) := Lib.hid (decide_eq_true ⟨by have := hall.out; rwa [List.take_length] at this, h24⟩)
        have g1 : decide ((f.length : Int) ≤ 24) = true := decide_eq_true (by omega)
        clear hall
        go_wp2_with fail
        go_ret
        exact ⟨by rw [hyes.out]; rfl, Hbel.out⟩
      · have hno : Hid (decide (Flt.light f) = false) := Lib.hid (decide_eq_false (fun h => h24 h.2))
        have g1 : decide ((f.length : Int) ≤ 24) = false := decide_eq_false (by omega)
        clear hall
        go_wp2_with fail
        go_ret
        exact ⟨by rw [hno.out]; rfl, Hbel.out⟩

set_option maxRecDepth 100000 in
theorem Flt.sane_take {f : List Flt.Cl} {n : Nat} {c : Flt.Cl} (hc : f[n]? = some c) : Flt.sane (f.take (n + 1)) = Flt.sane (f.take n) ++ if decide (Flt.Right c) = true then [c] else [] := by
  obtain ⟨hl, he⟩ := List.getElem?_eq_some_iff.1 hc
  rw [List.take_succ_eq_append_getElem hl, he]
  unfold Flt.sane
  rw [List.filter_append]
  congr 1
  by_cases h : Flt.Right c <;> simp [h]
set_option maxRecDepth 100000 in
theorem Flt.sane_right (f : List Flt.Cl) : ∀ c ∈ Flt.sane f, Flt.Right c := fun c hc => of_decide_eq_true (List.mem_filter.1 hc).2
set_option maxRecDepth 100000 in
theorem Flt.sane_len (f : List Flt.Cl) : (Flt.sane f).length ≤ f.length := List.length_filter_le _ _
set_option maxRecDepth 100000 in
theorem Flt.sane_mem {f : List Flt.Cl} {c : Flt.Cl} (h : c ∈ Flt.sane f) : c ∈ f := (List.mem_filter.1 h).1

/-! ### Awake -/
def aw2 : List Flt.Cl := [⟨[97], 0, 9⟩, ⟨[], 0, 5⟩]
set_option maxRecDepth 100000 in
theorem aw2_rows (W : World) : Cls (W.alloc (.cells #[.string ⟨#[97]⟩, .int .i64 0, .int .i64 9, .string ⟨#[]⟩, .int .i64 0, .int .i64 5] 42)) (fun i => i = W.heap.size) (.slice (some ⟨W.heap.size, 0, none⟩) 2 2) aw2 :=
  ⟨some ⟨W.heap.size, 0, none⟩, 2, rfl, Nat.le_refl _, fun _ => ⟨W.heap.size, 0, rfl, rfl, by simp, fun i x hx j u hu => by
    rw [(Row.made W _ _).at]
    match i, hx with
    | 0, hx => (simp [aw2] at hx; subst hx; match j, hu with
      | 0, hu => simp [clV] at hu; subst hu; rfl
      | 1, hu => simp [clV] at hu; subst hu; rfl
      | 2, hu => simp [clV] at hu; subst hu; rfl)
    | 1, hx => (simp [aw2] at hx; subst hx; match j, hu with
      | 0, hu => simp [clV] at hu; subst hu; rfl
      | 1, hu => simp [clV] at hu; subst hu; rfl
      | 2, hu => simp [clV] at hu; subst hu; rfl)⟩⟩

end Go.Proofs.YtabnfaonlkipbaaGreatDoor
/- The document's own answers of layer 9: Equal. -/
set_option linter.unusedSimpArgs false
set_option linter.unusedVariables false
namespace Go.Proofs.YtabnfaonlkipbaaGreatDoor
open Go.RowKit

set_option maxRecDepth 100000 in
set_option maxHeartbeats 3200000 in
theorem ref_fequal {w : World} {F G : Nat → Prop} {u v : Value} {f g : List Flt.Cl} (hf : Cls w F u f) (hg : Cls w G v g) (lf : f.length ≤ 100000000) (lg : g.length ≤ 100000000) :
    Calls Tryz.prog 12 #[u, v] w fun e w' => e = .returned (.bool (decide (f = g))) ∧ Below w.heap.size w w' := by
  obtain ⟨A, ca, rfl, hca⟩ := hf.parts
  obtain ⟨B, cb, rfl, hcb⟩ := hg.parts
  have HF := Lib.hid hf
  have HG := Lib.hid hg
  have la' : (f.length : Int) ≤ 100000000 := by omega
  have lb' : (g.length : Int) ≤ 100000000 := by omega
  clear hf hg
  by_cases hlen : f.length = g.length
  · rw [← hlen]
    rw [← hlen] at HG
    have Hlen := Lib.hid hlen
    clear hlen
    go_enter Tryz.func12, Tryz.ntmps12
    go_wp2_with fail
    go_loopw [5] (fun i wr => ∃ n : Nat, n ≤ f.length ∧ i = .int .i64 (n : Int) ∧ Hid (f.take n = g.take n) ∧ Below w.heap.size w wr) (fun i _ => f.length - (intOf i).toNat)
    case atStart => exact ⟨0, Nat.zero_le _, rfl, Lib.hid (by rw [List.take_zero, List.take_zero]), Below.refl _ _⟩
    case round =>
      obtain ⟨n, hn, rfl, hsame, hbel⟩ := hrel
      by_cases hlt : n < f.length
      · obtain ⟨b1, o1, cap1, e, -, -, hb1⟩ := HF.out.block (by omega)
        injection e with e1 e2 e3
        subst e1 e3
        obtain ⟨b2, o2, cap2, e, -, -, hb2⟩ := HG.out.block (by have := Hlen.out; omega)
        injection e with e1 e2 e3
        subst e1 e3
        clear e2
        obtain ⟨x, hx⟩ : ∃ x, f[n]? = some x := ⟨_, List.getElem?_eq_getElem hlt⟩
        obtain ⟨y, hy⟩ : ∃ y, g[n]? = some y := ⟨_, List.getElem?_eq_getElem (show n < g.length by have := Hlen.out; omega)⟩
        obtain ⟨c0, c1, c2⟩ := Cls.at (HF.out.below hbel) hx
        obtain ⟨d0, d1, d2⟩ := Cls.at (HG.out.below hbel) hy
        have hn0 : (0 : Int) ≤ (n : Int) := by omega
        have hn1 : (n : Int) < (f.length : Int) := by omega
        have Hbel := Lib.hid hbel
        clear hbel
        have es := str_same x.pre y.pre
        by_cases hxy : x = y
        · subst hxy
          have hnext : Hid (f.take (n + 1) = g.take (n + 1)) := Lib.hid (by
            obtain ⟨h1, e1⟩ := List.getElem?_eq_some_iff.1 hx
            obtain ⟨h2, e2⟩ := List.getElem?_eq_some_iff.1 hy
            rw [List.take_succ_eq_append_getElem h1, List.take_succ_eq_append_getElem h2, e1, e2, hsame.out])
          obtain ⟨xp, x1, x2⟩ := x
          rw [decide_eq_true (rfl : xp = xp)] at es
          simp only at c0 c1 c2 d0 d1 d2 es
          clear hx hy hsame
          generalize mk xp = xs at *
          go_wp2_with fail
          go_quiet (fail)
          go_wp2_with fail
          refine ⟨⟨n + 1, by omega, rfl, hnext, Hbel.out.trans ((below_drews' wr nq).mono Hbel.out.size)⟩, ?_⟩
          show f.length - ((n : Int) + 1).toNat < f.length - (n : Int).toNat
          omega
        · have hne : Hid (¬ f = g) := Lib.hid (fun e => hxy (by rw [e, hy] at hx; injection hx with hx; exact hx.symm))
          obtain ⟨xp, x1, x2⟩ := x
          obtain ⟨yp, y1, y2⟩ := y
          have hxy' : xp = yp → x1 = y1 → ¬ x2 = y2 := fun h k l => hxy (by rw [h, k, l])
          simp only at c0 c1 c2 d0 d1 d2 es
          clear hx hy hsame hxy
          by_cases h0 : xp = yp
          · have hxy2 := hxy' h0
            subst h0
            rw [decide_eq_true (rfl : xp = xp)] at es
            clear hxy'
            generalize mk xp = xs at *
            by_cases h1 : x1 = y1
            · have h2 := hxy2 h1
              subst h1
              clear hxy2
              go_wp2_with fail
              go_quiet (fail)
              go_wp2_with fail
              go_ret
              exact ⟨by rw [decide_eq_false hne.out]; rfl, Hbel.out.trans ((below_drews' wr nq).mono Hbel.out.size)⟩
            · clear hxy2
              go_wp2_with fail
              go_quiet (fail)
              go_wp2_with fail
              go_ret
              exact ⟨by rw [decide_eq_false hne.out]; rfl, Hbel.out.trans ((below_drews' wr nq).mono Hbel.out.size)⟩
          · rw [decide_eq_false h0] at es
            clear hxy' h0
            generalize mk xp = xs at *
            generalize mk yp = ys at *
            go_wp2_with fail
            go_quiet (fail)
            go_wp2_with fail
            go_ret
            exact ⟨by rw [decide_eq_false hne.out]; rfl, Hbel.out.trans ((below_drews' wr nq).mono Hbel.out.size)⟩
      · obtain rfl : n = f.length := by omega
        have hab : Hid (f = g) := Lib.hid (by
          have := hsame.out
          rw [List.take_length, Hlen.out, List.take_length] at this
          exact this)
        have Hbel := Lib.hid hbel
        clear hbel hsame
        go_wp2_with fail
        go_ret
        exact ⟨by rw [decide_eq_true hab.out]; rfl, Hbel.out⟩
  · have hlen' : ¬ ((f.length : Nat) : Int) = ((g.length : Nat) : Int) := by omega
    have hne : Hid (¬ f = g) := Lib.hid (fun e => hlen (by rw [e]))
    clear hlen
    go_enter Tryz.func12, Tryz.ntmps12
    go_wp2_with fail
    go_ret
    exact ⟨by rw [decide_eq_false hne.out]; rfl, Below.refl _ _⟩
end Go.Proofs.YtabnfaonlkipbaaGreatDoor
/- What must come at any rate ('awake' of layer 11). -/
set_option linter.unusedSimpArgs false
set_option linter.unusedVariables false
namespace Go.Proofs.YtabnfaonlkipbaaGreatDoor
open Go.RowKit

namespace Flg
set_option maxRecDepth 100000 in
theorem digits_one {n : Nat} (h : n < 10) : digits n = [UInt8.ofNat (48 + n)] := by rw [digits, if_pos h]
set_option maxRecDepth 100000 in
theorem digits_two {n : Nat} (h : 10 ≤ n) (h2 : n < 100) : digits n = [UInt8.ofNat (48 + n / 10), UInt8.ofNat (48 + n % 10)] := by
  rw [digits, if_neg (by omega), digits_one (by omega)]
  rfl
/-- "a/b:3-4,*", "a:0-9,a:10-20", and what they say. -/
def aw1 : List UInt8 := [97, 47, 98, 58, 51, 45, 52, 44, 42]
def aw3 : List UInt8 := [97, 58, 48, 45, 57, 44, 97, 58, 49, 48, 45, 50, 48]
def awF : List Flt.Cl := [⟨[97, 47, 98], 3, 4⟩, ⟨[], 0, 200⟩]
def awG : List Flt.Cl := [⟨[97], 0, 9⟩, ⟨[97], 10, 20⟩]
def awN : List Flt.Cl := [⟨[97], 0, 20⟩]
set_option maxRecDepth 100000 in
theorem aw1_text : text awF = aw1 := by
  have e1 : digits 3 = [51] := digits_one (by decide)
  have e2 : digits 4 = [52] := digits_one (by decide)
  simp [text, awF, one, star, joinC, e1, e2, aw1]
set_option maxRecDepth 100000 in
theorem aw3_text : text awG = aw3 := by
  have e1 : digits 0 = [48] := digits_one (by decide)
  have e2 : digits 9 = [57] := digits_one (by decide)
  have e3 : digits 10 = [49, 48] := digits_two (by decide) (by decide)
  have e4 : digits 20 = [50, 48] := digits_two (by decide) (by decide)
  simp [text, awG, one, star, joinC, e1, e2, e3, e4, aw3]
set_option maxRecDepth 100000 in
theorem awN_text : text awN = [97, 58, 48, 45, 50, 48] := by
  have e1 : digits 0 = [48] := digits_one (by decide)
  have e4 : digits 20 = [50, 48] := digits_two (by decide) (by decide)
  simp [text, awN, one, star, joinC, e1, e4]
set_option maxRecDepth 100000 in
theorem aw1_parse : parseE aw1 = 0 ∧ parseF aw1 = awF := by
  have h : parse aw1 = some awF := by rw [← aw1_text]; exact parse_text (by decide +kernel) (by decide)
  have hl : ¬ 512 < aw1.length := by decide
  unfold parseE parseF
  rw [if_neg hl, if_neg hl, h]
  exact ⟨rfl, rfl⟩
set_option maxRecDepth 100000 in
theorem aw2_parse : parseE [33] = 0 ∧ parseF [33] = [] := by
  have h : parse [33] = some [] := rfl
  have hl : ¬ 512 < ([33] : List UInt8).length := by decide
  unfold parseE parseF
  rw [if_neg hl, if_neg hl, h]
  exact ⟨rfl, rfl⟩
set_option maxRecDepth 100000 in
theorem aw3_parse : parseE aw3 = 0 ∧ plainT aw3 = [97, 58, 48, 45, 50, 48] := by
  have h : parse aw3 = some awG := by rw [← aw3_text]; exact parse_text (by decide +kernel) (by decide)
  have hE : parseE aw3 = 0 := by
    unfold parseE
    rw [if_neg (show ¬ 512 < aw3.length by decide), h]
    rfl
  have hF : parseF aw3 = awG := by
    unfold parseF
    rw [if_neg (show ¬ 512 < aw3.length by decide), h]
    rfl
  have hN : Flt.norm awG = awN := by decide +kernel
  refine ⟨hE, ?_⟩
  unfold plainT
  rw [if_pos hE, hF, hN, if_pos (by decide), awN_text]
end Flg

set_option maxRecDepth 100000 in
theorem flgaw_rows (W : World) : Cls (W.alloc (.cells #[.string ⟨#[97, 47, 98]⟩, .int .i64 3, .int .i64 4, .string ⟨#[]⟩, .int .i64 0, .int .i64 200] 42)) (fun i => i = W.heap.size) (.slice (some ⟨W.heap.size, 0, none⟩) 2 2) Flg.awF := by
  refine ⟨_, 2, rfl, Nat.le_refl _, fun _ => ⟨W.heap.size, 0, rfl, rfl, by simp, fun i x hx j u hu => ?_⟩⟩
  rw [(Row.made W _ _).at, Nat.zero_add]
  match i, hx with
  | 0, hx =>
    injection hx with hx
    subst hx
    match j, hu with
    | 0, hu => injection hu with hu; subst hu; rfl
    | 1, hu => injection hu with hu; subst hu; rfl
    | 2, hu => injection hu with hu; subst hu; rfl
  | 1, hx =>
    injection hx with hx
    subst hx
    match j, hu with
    | 0, hu => injection hu with hu; subst hu; rfl
    | 1, hu => injection hu with hu; subst hu; rfl
    | 2, hu => injection hu with hu; subst hu; rfl

set_option maxRecDepth 100000 in
set_option maxHeartbeats 3200000 in
theorem flg_awake (H : FlangOk) (w : World) (hT : Flg.Tabs w) : Calls Tryz.prog 7 #[] w fun e w' => e = .returned (.bool true) ∧ Below w.heap.size w w' := by
  have P1 : Hid (Calls Tryz.prog 10 #[.string ⟨#[97, 47, 98, 58, 51, 45, 52, 44, 42]⟩] w fun e w' => ∃ v', e = .returned (.tuple #[v', .int .i64 0]) ∧ Cls w' (NewIn w w') v' Flg.awF ∧ Below w.heap.size w w') := Lib.hid (by
    have := H.parse Flg.aw1 hT (by decide)
    rwa [Flg.aw1_parse.1, Flg.aw1_parse.2] at this)
  have P2 : Hid (∀ W, Below w.heap.size w W → Calls Tryz.prog 10 #[.string ⟨#[33]⟩] W fun e w' => ∃ v', e = .returned (.tuple #[v', .int .i64 0]) ∧ Cls w' (NewIn W w') v' [] ∧ Below W.heap.size W w') := Lib.hid (fun W hW => by
    have := H.parse [33] (hT.below hW) (by decide)
    rwa [Flg.aw2_parse.1, Flg.aw2_parse.2] at this)
  have P3 : Hid (∀ W, Below w.heap.size w W → Calls Tryz.prog 14 #[.string ⟨#[97, 58, 48, 45, 57, 44, 97, 58, 49, 48, 45, 50, 48]⟩] W fun e w' => e = .returned (.tuple #[.string ⟨#[97, 58, 48, 45, 50, 48]⟩, .int .i64 0]) ∧ Below W.heap.size W w') := Lib.hid (fun W hW => by
    have := H.plain Flg.aw3 (hT.below hW) (by decide)
    rwa [Flg.aw3_parse.1, Flg.aw3_parse.2] at this)
  have EQ : Hid (∀ (P Q : Nat → Prop) (W : World) (x y : Value), Cls W P x Flg.awF → Cls W Q y Flg.awF → Calls Tryz.prog 12 #[x, y] W fun e w' => e = .returned (.bool true) ∧ Below W.heap.size W w') := Lib.hid (fun P Q W x y hx hy => by
    have := ref_fequal hx hy (by decide) (by decide)
    rwa [decide_eq_true (rfl : Flg.awF = Flg.awF)] at this)
  clear hT
  go_enter Tryz.func7, Tryz.ntmps7
  go_wp2_with fail
  refine (P1.out).mono ?_
  rintro e w1 ⟨fv, rfl, hfv, hb1⟩
  have HF1 := Lib.hid hfv
  have B1 := Lib.hid hb1
  clear hfv hb1
  go_wp2_with fail
  refine (P2.out _ B1.out).mono ?_
  rintro e w2 ⟨gv, rfl, hgv, hb2⟩
  obtain ⟨gA, gc, rfl, -⟩ := hgv.parts
  have HF2 := Lib.hid (HF1.out.below hb2)
  have B2 := Lib.hid (B1.out.trans (hb2.mono B1.out.size))
  clear hgv hb2
  go_wp2_with fail
  refine (P3.out _ B2.out).mono ?_
  rintro e w3 ⟨rfl, hb3⟩
  have hba : Below w3.heap.size w3 (w3.alloc (.cells #[.string ⟨#[97, 47, 98]⟩, .int .i64 3, .int .i64 4, .string ⟨#[]⟩, .int .i64 0, .int .i64 200] 42)) := (Below.refl _ _).alloc (Nat.le_refl _) _
  have HF3 := Lib.hid ((HF2.out.below hb3).below hba)
  have B3 := Lib.hid ((B2.out.trans (hb3.mono B2.out.size)).trans (hba.mono (B2.out.trans (hb3.mono B2.out.size)).size))
  have MA := Lib.hid (flgaw_rows w3)
  clear hb3 hba
  go_wp2_with fail
  refine (EQ.out _ _ _ _ _ HF3.out MA.out).mono ?_
  rintro e w4 ⟨rfl, hb4⟩
  have B4 := Lib.hid (B3.out.trans (hb4.mono B3.out.size))
  clear hb4
  go_wp2_with fail
  go_ret
  exact ⟨rfl, B4.out⟩
end Go.Proofs.YtabnfaonlkipbaaGreatDoor
