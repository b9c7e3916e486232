/- The landed filter: Check, All, Sizes. -/
import Derived.Test.YtjnpgfndbdddnaaGreatCom9
import Derived.Test.YtjnpgfndbdddnaaGreatCom13
import Derived.Test.YtjnpgfndbdddnaaGreatCom12
import Derived.Laws.StructEq
set_option linter.unusedSimpArgs false
set_option linter.unusedVariables false
namespace Go.Proofs.YtjnpgfndbdddnaaGreat
open Go.RowKit

set_option maxRecDepth 100000 in
theorem Flt.first_at {f : List Flt.Cl} {n : Nat} {c : Flt.Cl} (hc : f[n]? = some c) : Flt.first (f.drop n) = if c.pre ≠ [] ∧ ¬ Pth.Right c.pre then 13 else if Flt.Right c then Flt.first (f.drop (n + 1)) else 2 := by
  obtain ⟨hl, he⟩ := List.getElem?_eq_some_iff.1 hc
  rw [List.drop_eq_getElem_cons hl, he]
  rfl

set_option maxRecDepth 100000 in
set_option maxHeartbeats 6400000 in
theorem flt_check {w : World} {F : Nat → Prop} {v : Value} {f : List Flt.Cl} (h : Cls w F v f) (hl : f.length ≤ 100000) (bf : ∀ c ∈ f, Flt.Bd c) :
    Calls Tryz.prog 11 #[v] w fun e w' => e = .returned (.int .i64 (Flt.check f)) ∧ Below w.heap.size w w' := by
  obtain ⟨A, cap, rfl, hcap⟩ := h.parts
  have H := Lib.hid h
  have HS : Hid (∀ c ∈ f, c.pre.length ≤ 100000) := Lib.hid (fun c hc => (bf c hc).1)
  have hl' : (f.length : Int) ≤ 100000 := by omega
  clear h bf
  by_cases h8 : 8 < f.length
  · have hfin : Hid (Flt.check f = 4) := Lib.hid (by unfold Flt.check; rw [if_pos h8])
    have g8 : (8 : Int) < (f.length : Int) := by omega
    go_enter Tryz.func11, Tryz.ntmps11
    go_wp2_with fail
    go_ret
    exact ⟨by rw [hfin.out]; rfl, Below.refl _ _⟩
  · have hfin : Hid (Flt.check f = Flt.first (f.drop 0)) := Lib.hid (by unfold Flt.check; rw [if_neg h8]; rfl)
    have g8 : ¬ (8 : Int) < (f.length : Int) := by omega
    go_enter Tryz.func11, Tryz.ntmps11
    go_wp2_with fail
    go_loopw [4, 10] (fun _ i wr => ∃ n : Nat, n ≤ f.length ∧ i = .int .i64 (n : Int) ∧ Hid (Flt.check f = Flt.first (f.drop n)) ∧ Below w.heap.size w wr) (fun _ i _ => f.length - (intOf i).toNat)
    case atStart => exact ⟨0, Nat.zero_le _, rfl, hfin, Below.refl _ _⟩
    case round =>
      obtain ⟨n, hn, rfl, hck, hbel⟩ := hrel
      by_cases hlt : n < f.length
      · obtain ⟨b, o, cap', e, -, -, hb⟩ := H.out.block (by omega)
        injection e with e1 e2 e3
        subst e1 e3
        clear e2
        obtain ⟨x, hx⟩ : ∃ x, f[n]? = some x := ⟨_, List.getElem?_eq_getElem hlt⟩
        have hpx := HS.out x (List.mem_of_getElem? hx)
        have hn0 : (0 : Int) ≤ (n : Int) := by omega
        have hn1 : (n : Int) < (f.length : Int) := by omega
        have CA : Hid (∀ W, Below w.heap.size w W → W.cell? ⟨b, o + n * 3, none⟩ = some (.string (mk x.pre)) ∧ W.cell? ⟨b, o + n * 3 + 1, none⟩ = some (.int .i64 x.lo) ∧ W.cell? ⟨b, o + n * 3 + 2, none⟩ = some (.int .i64 x.hi)) := Lib.hid (fun W hW => Cls.at (H.out.below hW) hx)
        obtain ⟨c0, c1, c2⟩ := CA.out wr hbel
        have hst := Lib.hid (Flt.first_at hx)
        obtain ⟨p, lo, hi⟩ := x
        simp only at c0 c1 c2 hpx CA
        have hst : Hid (Flt.first (f.drop n) = if p ≠ [] ∧ ¬ Pth.Right p then 13 else if Flt.Right ⟨p, lo, hi⟩ then Flt.first (f.drop (n + 1)) else 2) := hst
        have PC := Lib.hid (fun (W : World) => path_ok.check p W hpx)
        have ea := str_nil p
        have ia := str_empty p
        have hD : Hid (decide (Flt.Right ⟨p, lo, hi⟩) = ((decide (p = []) || decide (Pth.Right p)) && (decide (0 ≤ lo) && (decide (lo ≤ hi) && decide (hi ≤ 200))))) := Lib.hid (by rw [Bool.eq_iff_iff]; refine decide_eq_true_iff.trans ?_; simp only [Flt.Right, decide_eq_true_iff, Bool.and_eq_true, Bool.or_eq_true])
        have Hbel := Lib.hid hbel
        have Hbx := Lib.hid (Row.made wr 29 #[.string (mk p), .int .i64 lo, .int .i64 hi])
        have hz : wr.heap.size < (wr.alloc (.cells #[.string (mk p), .int .i64 lo, .int .i64 hi] 29)).heap.size := by simp
        have Hz := Lib.hid hz
        have HB1 : Hid (Below w.heap.size w (wr.alloc (.cells #[.string (mk p), .int .i64 lo, .int .i64 hi] 29))) := Lib.hid (hbel.alloc hbel.size _)
        clear hbel hx hz CA
        by_cases hp : p ≠ [] ∧ ¬ Pth.Right p
        · have hck2 : Hid (Flt.check f = 13) := Lib.hid (by rw [hck.out, hst.out, if_pos hp])
          rw [decide_eq_false hp.1] at ea ia
          have PC : Hid (∀ W, Calls Tryz.prog 29 #[.string (mk p)] W fun e w' => e = .returned (.int .i64 13) ∧ Below W.heap.size W w') := Lib.hid (fun W => by have := PC.out W; rwa [if_neg hp.2] at this)
          clear hst hp hD hck
          generalize mk p = ps at *
          go_wp2_with fail
          refine (PC.out _).mono ?_
          rintro e w2 ⟨rfl, hb2⟩
          have HB2 := Lib.hid (HB1.out.trans (hb2.mono HB1.out.size))
          clear hb2
          go_wp2_with fail
          go_ret
          exact ⟨by rw [hck2.out]; rfl, HB2.out⟩
        · have hst2 : Hid (Flt.check f = if decide (Flt.Right ⟨p, lo, hi⟩) = true then Flt.first (f.drop (n + 1)) else 2) := Lib.hid (by
            rw [hck.out, hst.out, if_neg hp]
            by_cases hr : Flt.Right ⟨p, lo, hi⟩
            · rw [if_pos hr, if_pos (decide_eq_true hr)]
            · rw [if_neg hr, if_neg (by simpa using hr)])
          have hD2 : Hid (decide (Flt.Right ⟨p, lo, hi⟩) = (decide (0 ≤ lo) && (decide (lo ≤ hi) && decide (hi ≤ 200)))) := Lib.hid (by
            rw [hD.out]
            by_cases h1 : p = []
            · rw [decide_eq_true h1]; rfl
            · rw [decide_eq_true (Classical.byContradiction fun k => hp ⟨h1, k⟩), Bool.or_true, Bool.true_and])
          rw [hD2.out] at hst2
          clear hst hD hD2 hck
          by_cases h1 : p = []
          · rw [decide_eq_true h1] at ea ia
            clear hp h1 PC
            generalize mk p = ps at *
            by_cases k1 : lo < 0
            · have hno : Hid (Flt.check f = 2) := Lib.hid (by rw [hst2.out, if_neg]; simp only [Bool.and_eq_true, decide_eq_true_eq]; omega)
              clear hst2
              have : decide (lo < (0 : Int)) = true := decide_eq_true (by omega)
              go_wp2_with fail
              go_ret
              exact ⟨by rw [hno.out]; rfl, HB1.out⟩
            · by_cases k2 : hi < lo
              · have hno : Hid (Flt.check f = 2) := Lib.hid (by rw [hst2.out, if_neg]; simp only [Bool.and_eq_true, decide_eq_true_eq]; omega)
                clear hst2
                have : decide (lo < (0 : Int)) = false := decide_eq_false (by omega)
                have : decide (hi < lo) = true := decide_eq_true (by omega)
                go_wp2_with fail
                go_ret
                exact ⟨by rw [hno.out]; rfl, HB1.out⟩
              · by_cases k3 : 200 < hi
                · have hno : Hid (Flt.check f = 2) := Lib.hid (by rw [hst2.out, if_neg]; simp only [Bool.and_eq_true, decide_eq_true_eq]; omega)
                  clear hst2
                  have : decide (lo < (0 : Int)) = false := decide_eq_false (by omega)
                  have : decide (hi < lo) = false := decide_eq_false (by omega)
                  have : decide ((200 : Int) < hi) = true := decide_eq_true (by omega)
                  go_wp2_with fail
                  go_ret
                  exact ⟨by rw [hno.out]; rfl, HB1.out⟩
                · have hnext : Hid (Flt.check f = Flt.first (f.drop (n + 1))) := Lib.hid (by rw [hst2.out, if_pos]; simp only [Bool.and_eq_true, decide_eq_true_eq]; omega)
                  clear hst2
                  have : decide (lo < (0 : Int)) = false := decide_eq_false (by omega)
                  have : decide (hi < lo) = false := decide_eq_false (by omega)
                  have : decide ((200 : Int) < hi) = false := decide_eq_false (by omega)
                  go_wp2_with fail
                  exact ⟨⟨n + 1, by omega, by go_num, hnext, HB1.out⟩, by show f.length - ((n : Int) + 1).toNat < f.length - (n : Int).toNat; omega⟩
          · rw [decide_eq_false h1] at ea ia
            have PC : Hid (∀ W, Calls Tryz.prog 29 #[.string (mk p)] W fun e w' => e = .returned (.int .i64 0) ∧ Below W.heap.size W w') := Lib.hid (fun W => by have := PC.out W; rwa [if_pos (Classical.byContradiction fun k => hp ⟨h1, k⟩)] at this)
            clear hp h1
            generalize mk p = ps at *
            by_cases k1 : lo < 0
            · have hno : Hid (Flt.check f = 2) := Lib.hid (by rw [hst2.out, if_neg]; simp only [Bool.and_eq_true, decide_eq_true_eq]; omega)
              clear hst2
              have : decide (lo < (0 : Int)) = true := decide_eq_true (by omega)
              go_wp2_with fail
              refine (PC.out _).mono ?_
              rintro e w2 ⟨rfl, hb2⟩
              have HB2 := Lib.hid (HB1.out.trans (hb2.mono HB1.out.size))
              have q1 : w2.cell? ⟨wr.heap.size, 1, none⟩ = some (.int .i64 lo) := (hb2.cell (p := ⟨wr.heap.size, 1, none⟩) Hz.out).trans (Hbx.out.at 1)
              have q2 : w2.cell? ⟨wr.heap.size, 2, none⟩ = some (.int .i64 hi) := (hb2.cell (p := ⟨wr.heap.size, 2, none⟩) Hz.out).trans (Hbx.out.at 2)
              clear hb2
              go_wp2_with fail
              go_ret
              exact ⟨by rw [hno.out]; rfl, HB2.out⟩
            · by_cases k2 : hi < lo
              · have hno : Hid (Flt.check f = 2) := Lib.hid (by rw [hst2.out, if_neg]; simp only [Bool.and_eq_true, decide_eq_true_eq]; omega)
                clear hst2
                have : decide (lo < (0 : Int)) = false := decide_eq_false (by omega)
                have : decide (hi < lo) = true := decide_eq_true (by omega)
                go_wp2_with fail
                refine (PC.out _).mono ?_
                rintro e w2 ⟨rfl, hb2⟩
                have HB2 := Lib.hid (HB1.out.trans (hb2.mono HB1.out.size))
                have q1 : w2.cell? ⟨wr.heap.size, 1, none⟩ = some (.int .i64 lo) := (hb2.cell (p := ⟨wr.heap.size, 1, none⟩) Hz.out).trans (Hbx.out.at 1)
                have q2 : w2.cell? ⟨wr.heap.size, 2, none⟩ = some (.int .i64 hi) := (hb2.cell (p := ⟨wr.heap.size, 2, none⟩) Hz.out).trans (Hbx.out.at 2)
                clear hb2
                go_wp2_with fail
                go_ret
                exact ⟨by rw [hno.out]; rfl, HB2.out⟩
              · by_cases k3 : 200 < hi
                · have hno : Hid (Flt.check f = 2) := Lib.hid (by rw [hst2.out, if_neg]; simp only [Bool.and_eq_true, decide_eq_true_eq]; omega)
                  clear hst2
                  have : decide (lo < (0 : Int)) = false := decide_eq_false (by omega)
                  have : decide (hi < lo) = false := decide_eq_false (by omega)
                  have : decide ((200 : Int) < hi) = true := decide_eq_true (by omega)
                  go_wp2_with fail
                  refine (PC.out _).mono ?_
                  rintro e w2 ⟨rfl, hb2⟩
                  have HB2 := Lib.hid (HB1.out.trans (hb2.mono HB1.out.size))
                  have q1 : w2.cell? ⟨wr.heap.size, 1, none⟩ = some (.int .i64 lo) := (hb2.cell (p := ⟨wr.heap.size, 1, none⟩) Hz.out).trans (Hbx.out.at 1)
                  have q2 : w2.cell? ⟨wr.heap.size, 2, none⟩ = some (.int .i64 hi) := (hb2.cell (p := ⟨wr.heap.size, 2, none⟩) Hz.out).trans (Hbx.out.at 2)
                  clear hb2
                  go_wp2_with fail
                  go_ret
                  exact ⟨by rw [hno.out]; rfl, HB2.out⟩
                · have hnext : Hid (Flt.check f = Flt.first (f.drop (n + 1))) := Lib.hid (by rw [hst2.out, if_pos]; simp only [Bool.and_eq_true, decide_eq_true_eq]; omega)
                  clear hst2
                  have : decide (lo < (0 : Int)) = false := decide_eq_false (by omega)
                  have : decide (hi < lo) = false := decide_eq_false (by omega)
                  have : decide ((200 : Int) < hi) = false := decide_eq_false (by omega)
                  go_wp2_with fail
                  refine (PC.out _).mono ?_
                  rintro e w2 ⟨rfl, hb2⟩
                  have HB2 := Lib.hid (HB1.out.trans (hb2.mono HB1.out.size))
                  have q1 : w2.cell? ⟨wr.heap.size, 1, none⟩ = some (.int .i64 lo) := (hb2.cell (p := ⟨wr.heap.size, 1, none⟩) Hz.out).trans (Hbx.out.at 1)
                  have q2 : w2.cell? ⟨wr.heap.size, 2, none⟩ = some (.int .i64 hi) := (hb2.cell (p := ⟨wr.heap.size, 2, none⟩) Hz.out).trans (Hbx.out.at 2)
                  clear hb2
                  go_wp2_with fail
                  exact ⟨⟨n + 1, by omega, by go_num, hnext, HB2.out⟩, by show f.length - ((n : Int) + 1).toNat < f.length - (n : Int).toNat; omega⟩
      · obtain rfl : n = f.length := by omega
        rw [List.drop_length] at hck
        have Hbel := Lib.hid hbel
        clear hbel
        go_wp2_with fail
        go_ret
        exact ⟨by rw [hck.out]; rfl, Hbel.out⟩

set_option maxRecDepth 100000 in
theorem flt_all (w : World) : Calls Tryz.prog 26 #[] w fun e w' => ∃ v', e = .returned v' ∧ Cls w' (NewIn w w') v' Flt.whole ∧ Below w.heap.size w w' := by
  go_enter Tryz.func26, Tryz.ntmps26
  go_wp2_with fail
  go_ret
  have hb : Below w.heap.size w (w.alloc (.cells #[.string ⟨#[]⟩, .int .i64 0, .int .i64 200] 29)) := (Below.refl _ _).alloc (Nat.le_refl _) _
  exact ⟨_, rfl, (cl_made w 29 [] 0 200).mono (fun i hi => ⟨by omega, by simp; omega⟩), hb⟩

set_option maxRecDepth 100000 in
set_option maxHeartbeats 3200000 in
theorem flt_sizes (Z : SizesOk) {w : World} {F : Nat → Prop} {v : Value} {f : List Flt.Cl} (p : List UInt8) (h : Cls w F v f) (hl : f.length ≤ 100000) (bf : ∀ c ∈ f, Flt.Bd c) (hp : p.length ≤ 100000) :
    Calls Tryz.prog 15 #[v, .string (mk p)] w fun e w' => ∃ v', e = .returned v' ∧ Rgs w' (NewIn w w') v' (Sz.norm (Flt.sizes f p)) ∧ Below w.heap.size w w' := by
  obtain ⟨A, cap, rfl, hcap⟩ := h.parts
  obtain ⟨i0, hi0, hz0, hz1, hz2⟩ := info_parts rangeInfo
  have H := Lib.hid h
  have HS : Hid (∀ c ∈ f, c.pre.length ≤ 100000) := Lib.hid (fun c hc => (bf c hc).1)
  have COV := Lib.hid (fun (q : List UInt8) (hq : q.length ≤ 100000) (W : World) => path_ok.covers q p W hq hp)
  have NO : Hid (∀ (P : Nat → Prop) (W : World) (x : Value), Rgs W P x (Flt.sizes f p) → Calls Tryz.prog 35 #[x] W fun e w' => ∃ v', e = .returned v' ∧ Rgs w' (NewIn W w') v' (Sz.norm (Flt.sizes f p)) ∧ Below W.heap.size W w') := Lib.hid (fun P W x hx => Z.norm hx (by have := Flt.sizes_len f p; omega) (fun r hr => by
    unfold Flt.sizes at hr
    obtain ⟨c, hc, rfl⟩ := List.mem_map.1 hr
    exact (bf c (List.mem_filter.1 hc).1).2))
  have hl' : (f.length : Int) ≤ 100000 := by omega
  clear h bf
  go_enter Tryz.func15, Tryz.ntmps15
  go_wp2_with fail
  go_loopw [5, 7, 10] (fun out _ i wr => ∃ n : Nat, n ≤ f.length ∧ i = .int .i64 (n : Int) ∧ RowsOwn 27 2 rgV w (Flt.sizes (f.take n) p) out wr) (fun _ _ i _ => f.length - (intOf i).toNat)
  case atStart => exact ⟨0, Nat.zero_le _, rfl, RowsOwn.start _ _ _ w⟩
  case round =>
    obtain ⟨n, hn, rfl, hown⟩ := hrel
    by_cases hlt : n < f.length
    · obtain ⟨b, o, cap', e, -, -, hb⟩ := H.out.block (by omega)
      injection e with e1 e2 e3
      subst e1 e3
      clear e2
      obtain ⟨x, hx⟩ : ∃ x, f[n]? = some x := ⟨_, List.getElem?_eq_getElem hlt⟩
      have hpx := HS.out x (List.mem_of_getElem? hx)
      have hn0 : (0 : Int) ≤ (n : Int) := by omega
      have hn1 : (n : Int) < (f.length : Int) := by omega
      have CA : Hid (∀ W, Below w.heap.size w W → W.cell? ⟨b, o + n * 3, none⟩ = some (.string (mk x.pre)) ∧ W.cell? ⟨b, o + n * 3 + 1, none⟩ = some (.int .i64 x.lo) ∧ W.cell? ⟨b, o + n * 3 + 2, none⟩ = some (.int .i64 x.hi)) := Lib.hid (fun W hW => Cls.at (H.out.below hW) hx)
      obtain ⟨c0, c1, c2⟩ := CA.out wr hown.2
      have hst := Lib.hid (Flt.sizes_take hx p)
      have hlen := Lib.hid (Flt.sizes_len (f.take n) p)
      have hlen2 := Flt.len_take (n := n) f
      obtain ⟨xp, x1, x2⟩ := x
      simp only at c0 c1 c2 hpx CA
      have CV := Lib.hid (COV.out xp hpx)
      have Hbx := Lib.hid (Row.made wr 29 #[.string (mk xp), .int .i64 x1, .int .i64 x2])
      have hba : Below wr.heap.size wr (wr.alloc (.cells #[.string (mk xp), .int .i64 x1, .int .i64 x2] 29)) := (Below.refl _ _).alloc (Nat.le_refl _) _
      have Hown := Lib.hid (hown.below hba)
      have Hz : Hid (wr.heap.size < (wr.alloc (.cells #[.string (mk xp), .int .i64 x1, .int .i64 x2] 29)).heap.size) := Lib.hid (by simp)
      clear hown hx COV hba CA
      cases hcv : decide (Pth.Covers xp p)
      · rw [hcv] at CV
        have hst' : Hid (Flt.sizes (f.take (n + 1)) p = Flt.sizes (f.take n) p) := Lib.hid (by rw [hst.out, if_neg (of_decide_eq_false hcv), List.append_nil])
        clear hst hcv
        go_wp2_with fail
        refine (CV.out _).mono ?_
        rintro e w1 ⟨rfl, hb1⟩
        have hnew := Lib.hid (Hown.out.below hb1)
        clear hb1
        go_wp2_with fail
        exact ⟨⟨n + 1, by omega, by go_num, by rw [hst'.out]; exact hnew.out⟩, by show f.length - ((n : Int) + 1).toNat < f.length - (n : Int).toNat; omega⟩
      · rw [hcv] at CV
        have hst' : Hid (Flt.sizes (f.take (n + 1)) p = Flt.sizes (f.take n) p ++ [(x1, x2)]) := Lib.hid (by rw [hst.out, if_pos (of_decide_eq_true hcv)]; rfl)
        have hlen3 : (Flt.sizes (f.take n) p).length ≤ n := Nat.le_trans hlen.out hlen2
        clear hst hcv
        generalize Flt.sizes (f.take n) p = out at *
        go_wp2_with fail
        refine (CV.out _).mono ?_
        rintro e w1 ⟨rfl, hb1⟩
        have Hown2 := Lib.hid (Hown.out.below hb1)
        have d1 : w1.cell? ⟨wr.heap.size, 1, none⟩ = some (.int .i64 x1) := (hb1.cell (p := ⟨wr.heap.size, 1, none⟩) Hz.out).trans (Hbx.out.at 1)
        have d2 : w1.cell? ⟨wr.heap.size, 2, none⟩ = some (.int .i64 x2) := (hb1.cell (p := ⟨wr.heap.size, 2, none⟩) Hz.out).trans (Hbx.out.at 2)
        clear hb1 c0 c1 c2
        have hown3 := Hown2.out.1.alloc (.cells #[.int .i64 x1, .int .i64 x2] 27)
        have hmade := rg_made w1 27 x1 x2
        have hsz3 : w.heap.size ≤ (w1.alloc (.cells #[.int .i64 x1, .int .i64 x2] 27)).heap.size := by have := Hown2.out.2.size; simp; omega
        go_wp2_with (at_builtin; refine wp_joins (f := rgV) (k := 2) rfl _ _ 37 rfl (w.heap.size) 27 i0 (.agg #[.int .i64 0, .int .i64 0]) 16 Tryz.underlying37 hi0 hz0 hz1 hz2 rfl (by decide) rfl rfl hown3 hmade (fun _ _ => rfl) (fun x _ => rg_one x) ?c3 ?c4 hsz3 ?_)
        case c3 => unfold maxLen; first | omega | (simp <;> omega)
        case c4 => first | omega | (simp <;> omega)
        intro v3 w3 h1 h2 _
        have hnew := Lib.hid (Hown2.out.more (x := (x1, x2)) (v' := v3) (by simpa using h1) h2)
        clear h1 h2 hown3 hmade
        go_wp2_with fail
        exact ⟨⟨n + 1, by omega, by go_num, by rw [hst'.out]; exact hnew.out⟩, by show f.length - ((n : Int) + 1).toNat < f.length - (n : Int).toNat; omega⟩
    · obtain rfl : n = f.length := by omega
      rw [List.take_length] at hown
      have Hown := Lib.hid hown
      clear hown
      go_wp2_with fail
      refine (NO.out _ _ _ (Hown.out.rows (fun _ _ => rfl))).mono ?_
      rintro e w2 ⟨v2, rfl, hv2, hb2⟩
      have HV2 := Lib.hid (hv2.mono (G := NewIn w w2) (fun i hi => ⟨Nat.le_trans Hown.out.2.size hi.1, hi.2⟩))
      have Hend := Lib.hid (Hown.out.2.trans (hb2.mono Hown.out.2.size))
      clear hv2 hb2
      go_wp2_with fail
      go_ret
      exact ⟨_, rfl, HV2.out, Hend.out⟩
end Go.Proofs.YtjnpgfndbdddnaaGreat
/- The landed filter: Match, Equal. -/
set_option linter.unusedSimpArgs false
set_option linter.unusedVariables false
namespace Go.Proofs.YtjnpgfndbdddnaaGreat
open Go.RowKit Go.Shelf Go.Lib

set_option maxRecDepth 100000 in
theorem hit_holds (p : List UInt8) (s : Int) (d : Bool) (c : Flt.Cl) : Flt.hit p s d c = (decide (Pth.Covers c.pre p) && (d || Sz.holds [(c.lo, c.hi)] s)) := by
  unfold Flt.hit
  congr 2
  rw [Sz.holds_cons, Sz.holds_nil, Bool.or_false, Bool.eq_iff_iff]
  simp only [Bool.and_eq_true, decide_eq_true_eq]
  constructor
  · rintro ⟨a, b, c, d⟩; exact ⟨⟨a, b⟩, c, d⟩
  · rintro ⟨⟨a, b⟩, c, d⟩; exact ⟨a, b, c, d⟩

set_option maxRecDepth 100000 in
set_option maxHeartbeats 3200000 in
theorem flt_pred (Z : SizesOk) (p : List UInt8) (s : Int) (d : Bool) (hp : p.length ≤ 100000) (s0 : -9223372036854775808 ≤ s) (s1 : s ≤ 9223372036854775807) (B : Nat) (w : World) (hB : B < w.heap.size) (h0 : w.cell? ⟨B, 0, none⟩ = some (.string (mk p))) (h1 : w.cell? ⟨B, 1, none⟩ = some (.int .i64 s)) (h2 : w.cell? ⟨B, 2, none⟩ = some (.bool d))
    (W : World) (x : Flt.Cl) (hx : Flt.Bd x) (hb : Below w.heap.size w W) :
    Calls Tryz.prog 31 #[.agg #[.string (mk x.pre), .int .i64 x.lo, .int .i64 x.hi], .pointer (some ⟨B, 0, none⟩)] W fun e w' => e = .returned (.bool (Flt.hit p s d x)) ∧ Below W.heap.size W w' := by
  have CX : Hid (∀ A, Below W.heap.size W A → A.cell? ⟨B, 0, none⟩ = some (.string (mk p)) ∧ A.cell? ⟨B, 1, none⟩ = some (.int .i64 s) ∧ A.cell? ⟨B, 2, none⟩ = some (.bool d)) := Lib.hid (fun A hA => by
    have hk := hb.trans (hA.mono hb.size)
    exact ⟨(hk.cell (p := ⟨B, 0, none⟩) hB).trans h0, (hk.cell (p := ⟨B, 1, none⟩) hB).trans h1, (hk.cell (p := ⟨B, 2, none⟩) hB).trans h2⟩)
  have hBW : B < W.heap.size := Nat.lt_of_lt_of_le hB hb.size
  obtain ⟨xp, lo, hi⟩ := x
  have CV := Lib.hid (fun (A : World) => path_ok.covers xp p A hx.1 hp)
  have HO : Hid (∀ (P : Nat → Prop) (A : World) (y : Value), Rgs A P y [(lo, hi)] → Calls Tryz.prog 33 #[y, .int .i64 s] A fun e w' => e = .returned (.bool (Sz.holds [(lo, hi)] s)) ∧ Below A.heap.size A w') := Lib.hid (fun P A y hy => Z.holds s hy (by simp) (fun r hr => by rw [List.mem_singleton.1 hr]; exact hx.2) s0 s1)
  have hh := Lib.hid (hit_holds p s d ⟨xp, lo, hi⟩)
  have hba : Below W.heap.size W (W.alloc (.cells #[.string (mk xp), .int .i64 lo, .int .i64 hi] 29)) := (Below.refl _ _).alloc (Nat.le_refl _) _
  have HA := Lib.hid hba
  have Hbx := Lib.hid (Row.made W 29 #[.string (mk xp), .int .i64 lo, .int .i64 hi])
  have Hz : Hid (W.heap.size < (W.alloc (.cells #[.string (mk xp), .int .i64 lo, .int .i64 hi] 29)).heap.size) := Lib.hid (by simp)
  obtain ⟨q0, q1, q2⟩ := CX.out _ hba
  clear hb h0 h1 h2 hx hB hba
  simp only
  cases hcv : decide (Pth.Covers xp p)
  · have hr : Hid (Flt.hit p s d ⟨xp, lo, hi⟩ = false) := Lib.hid (by rw [hh.out]; simp only; rw [hcv]; rfl)
    rw [hcv] at CV
    clear hcv hh
    generalize Flt.hit p s d ⟨xp, lo, hi⟩ = D at *
    generalize mk xp = xs at *
    generalize mk p = ps at *
    go_enter Tryz.func31, Tryz.ntmps31
    go_wp2_with fail
    refine (CV.out _).mono ?_
    rintro e w1 ⟨rfl, hb1⟩
    have HB1 := Lib.hid (HA.out.trans (hb1.mono HA.out.size))
    clear hb1
    go_wp2_with fail
    go_ret
    exact ⟨by rw [hr.out]; rfl, HB1.out⟩
  · rw [hcv] at CV
    cases d
    · have hr : Hid (Flt.hit p s false ⟨xp, lo, hi⟩ = Sz.holds [(lo, hi)] s) := Lib.hid (by rw [hh.out]; simp only; rw [hcv]; rfl)
      clear hcv hh
      generalize Flt.hit p s false ⟨xp, lo, hi⟩ = D at *
      generalize Sz.holds [(lo, hi)] s = E at *
      generalize mk xp = xs at *
      generalize mk p = ps at *
      go_enter Tryz.func31, Tryz.ntmps31
      go_wp2_with fail
      refine (CV.out _).mono ?_
      rintro e w1 ⟨rfl, hb1⟩
      have HB1 := Lib.hid (HA.out.trans (hb1.mono HA.out.size))
      have d1 : w1.cell? ⟨W.heap.size, 1, none⟩ = some (.int .i64 lo) := (hb1.cell (p := ⟨W.heap.size, 1, none⟩) Hz.out).trans (Hbx.out.at 1)
      have d2 : w1.cell? ⟨W.heap.size, 2, none⟩ = some (.int .i64 hi) := (hb1.cell (p := ⟨W.heap.size, 2, none⟩) Hz.out).trans (Hbx.out.at 2)
      clear q0 q1 q2 hb1
      obtain ⟨q0, q1, q2⟩ := CX.out _ HB1.out
      have HM := Lib.hid (rg_made w1 27 lo hi)
      have hb2 : Below w1.heap.size w1 (w1.alloc (.cells #[.int .i64 lo, .int .i64 hi] 27)) := (Below.refl _ _).alloc (Nat.le_refl _) _
      have HB2 := Lib.hid (HB1.out.trans (hb2.mono HB1.out.size))
      obtain ⟨-, q1', -⟩ := CX.out _ HB2.out
      clear hb2
      go_wp2_with fail
      refine (HO.out _ _ _ HM.out).mono ?_
      rintro e w3 ⟨rfl, hb3⟩
      have HB3 := Lib.hid (HB2.out.trans (hb3.mono HB2.out.size))
      clear hb3
      go_wp2_with fail
      go_ret
      exact ⟨by rw [hr.out]; rfl, HB3.out⟩
    · have hr : Hid (Flt.hit p s true ⟨xp, lo, hi⟩ = true) := Lib.hid (by rw [hh.out]; simp only; rw [hcv]; rfl)
      clear hcv hh
      generalize Flt.hit p s true ⟨xp, lo, hi⟩ = D at *
      generalize mk xp = xs at *
      generalize mk p = ps at *
      go_enter Tryz.func31, Tryz.ntmps31
      go_wp2_with fail
      refine (CV.out _).mono ?_
      rintro e w1 ⟨rfl, hb1⟩
      have HB1 := Lib.hid (HA.out.trans (hb1.mono HA.out.size))
      clear q0 q1 q2 hb1
      obtain ⟨q0, q1, q2⟩ := CX.out _ HB1.out
      go_wp2_with fail
      go_ret
      exact ⟨by rw [hr.out]; rfl, HB1.out⟩

instance : Inhabited Flt.Cl := ⟨⟨[], 0, 0⟩⟩

set_option maxRecDepth 100000 in
theorem cidx_none (A : Option Addr) (c : Nat) (fv : Value) (w : World) :
    Calls Tryz.prog 46 #[.slice A 0 c, fv] w fun e w' => e = .returned (.int .i64 (-1)) ∧ w' = w := by
  go_enter Tryz.func46, Tryz.ntmps46
  go_wp2_with fail
  refine wp_loop_rounds 1 ?_
  rw [rounds_succ]
  go_wp2_with fail
  go_ret
  exact ⟨rfl, rfl⟩
set_option maxRecDepth 100000 in
theorem chas_none (A : Option Addr) (c : Nat) (fv : Value) (w : World) :
    Calls Tryz.prog 30 #[.slice A 0 c, fv] w fun e w' => e = .returned (.bool false) ∧ w' = w := by
  go_enter Tryz.func30, Tryz.ntmps30
  go_wp2_with (go_at_call 46; refine (cidx_none _ _ _ _).mono ?_; rintro e w' ⟨rfl, rfl⟩)
  go_ret
  exact ⟨rfl, rfl⟩

/-- Clauses that are in bounds, as elements of their own. -/
abbrev BCl := { c : Flt.Cl // Flt.Bd c }
def bclV (c : BCl) : List Value := clV c.1
instance : Inhabited BCl := ⟨⟨⟨[], 0, 0⟩, ⟨by simp, by unfold Go.Proofs.YtjnpgfndbdddnaaGreat.Bd Flt.rg; simp⟩⟩⟩

set_option maxRecDepth 100000 in
theorem chas_any (Z : SizesOk) {w : World} {F : Nat → Prop} {v : Value} {f : List Flt.Cl} (h : Cls w F v f) (hl : f.length ≤ 100000) (bf : ∀ c ∈ f, Flt.Bd c) (p : List UInt8) (s : Int) (d : Bool) (hp : p.length ≤ 100000) (s0 : -9223372036854775808 ≤ s) (s1 : s ≤ 9223372036854775807) (B : Nat) (hB : B < w.heap.size) (h0 : w.cell? ⟨B, 0, none⟩ = some (.string (mk p))) (h1 : w.cell? ⟨B, 1, none⟩ = some (.int .i64 s)) (h2 : w.cell? ⟨B, 2, none⟩ = some (.bool d)) :
    Calls Tryz.prog 30 #[v, .func (.func 31) #[] #[.pointer (some ⟨B, 0, none⟩)]] w fun e w' => e = .returned (.bool (Flt.hits f p s d)) ∧ Below w.heap.size w w' := by
  by_cases hlen : 0 < f.length
  · obtain ⟨A, cap, rfl, hc, hat⟩ := h
    obtain ⟨b, o, rfl, -, hb, hcl⟩ := hat hlen
    have eg : ∀ args w, (callFunc 31 args).run Tryz.prog w = .ok (.enter 31 args) w := enters_of Tryz.func31 (by kernel_rfl) rfl
    -- the same list, each with its bounds
    have hat : ∀ (l : List Flt.Cl) (hl : ∀ c ∈ l, Flt.Bd c), ((l.attachWith Flt.Bd hl).map (·.1)) = l := fun l hl => List.attachWith_map_subtype_val hl
    obtain ⟨g, hg⟩ : ∃ g : List BCl, g.map (·.1) = f := ⟨f.attachWith Flt.Bd bf, hat f bf⟩
    have hgl : g.length = f.length := by rw [← hg, List.length_map]
    have hcon := AnyQ.slices_ContainsFunc Tryz.hasCl 3 Tryz.isAgg29 Tryz.sizeOf29 bclV (fun c => rfl) (fun c : BCl => Flt.hit p s d c.1) 31 #[.pointer (some ⟨B, 0, none⟩)] eg b o f.length cap g w
      (fun W x hb => (flt_pred Z p s d hp s0 s1 B w hB h0 h1 h2 W x.1 x.2 hb).mono (fun e w' h => ⟨h.1, hb.trans (h.2.mono hb.size)⟩)) (by omega) (by omega) hb
      (fun j hj i u hi => hcl j (g[j]!).1 (by rw [← hg, List.getElem?_map, List.getElem?_eq_getElem hj, getElem!_pos g j hj]; rfl) i u hi)
    rw [← hgl, List.take_length] at hcon
    have hany : g.any (fun c : BCl => Flt.hit p s d c.1) = Flt.hits f p s d := by
      unfold Flt.hits
      rw [← hg, List.any_map]
      rfl
    rw [hany, hgl] at hcon
    exact hcon
  · have hl0 : f = [] := List.eq_nil_of_length_eq_zero (by omega)
    subst hl0
    obtain ⟨A, cap, rfl, -, -⟩ := h
    exact (chas_none A cap _ w).mono (fun e w' h => ⟨h.1, by rw [h.2]; exact Below.refl _ _⟩)

set_option maxRecDepth 100000 in
set_option maxHeartbeats 1600000 in
theorem flt_match (Z : SizesOk) {w : World} {F : Nat → Prop} {v : Value} {f : List Flt.Cl} (p : List UInt8) (s : Int) (d : Bool) (h : Cls w F v f) (hl : f.length ≤ 100000) (bf : ∀ c ∈ f, Flt.Bd c) (hp : p.length ≤ 100000) (s0 : -9223372036854775808 ≤ s) (s1 : s ≤ 9223372036854775807) :
    Calls Tryz.prog 12 #[v, fileV p s d] w fun e w' => e = .returned (.bool (Flt.hits f p s d)) ∧ Below w.heap.size w w' := by
  have hb0 : Below w.heap.size w (w.alloc (.cells #[.string (mk p), .int .i64 s, .bool d] 34)) := (Below.refl _ _).alloc (Nat.le_refl _) _
  have hx := Row.made w 34 #[.string (mk p), .int .i64 s, .bool d]
  have hC := Lib.hid (chas_any Z (h.below hb0) hl bf p s d hp s0 s1 w.heap.size (by simp) (hx.at 0) (hx.at 1) (hx.at 2))
  have Hb0 := Lib.hid hb0
  unfold fileV
  clear h hb0 hx bf
  generalize Flt.hits f p s d = R at *
  generalize mk p = ps at *
  go_enter Tryz.func12, Tryz.ntmps12
  go_wp2_with (go_at_call 30; refine (hC.out).mono ?_; rintro e w1 ⟨rfl, hb1⟩)
  go_ret
  exact ⟨rfl, Hb0.out.trans (hb1.mono Hb0.out.size)⟩

/-! ### The very same lists -/
set_option maxRecDepth 100000 in
theorem rg_equalIn (w : World) (x1 x2 y1 y2 : Int) : (Op.equalIn 9999 27 (.agg #[.int .i64 x1, .int .i64 x2]) (.agg #[.int .i64 y1, .int .i64 y2])).run Tryz.prog w = .ok (decide (x1 = y1 ∧ x2 = y2)) w := by
  have hS : Tryz.prog.underlying 27 = some (.struct (Tryz.prog.fieldsOf 27)) := by kernel_rfl
  have hp : Tryz.prog.stoodInHeld 27 = false := by kernel_rfl
  have u3 := Tryz.underlying3
  have a3 := Tryz.isAgg3
  have z3 := Tryz.sizeOf3
  rw [show (9999 : Nat) = 9998 + 1 from rfl, run_equalIn_agg w 9998 27 _ _ hS hp]
  simp only [Program.fieldsOf, Tryz.underlying27]
  go_simp
  by_cases h1 : x1 = y1 <;> by_cases h2 : x2 = y2 <;> simp [h1, h2]
set_option maxRecDepth 100000 in
theorem cl_neq : NeqAt Tryz.prog 29 (fun x : Flt.Cl => .agg (clV x).toArray) (fun x y => decide (x = y)) := by
  refine ⟨fun x y w => ?_, GuardAt.agg _ (by kernel_rfl)⟩
  have hS : Tryz.prog.underlying 29 = some (.struct (Tryz.prog.fieldsOf 29)) := by kernel_rfl
  have hp : Tryz.prog.stoodInHeld 29 = false := by kernel_rfl
  have u9 := Tryz.underlying9
  have a9 := Tryz.isAgg9
  have z9 := Tryz.sizeOf9
  have a27 := Tryz.isAgg27
  have z27 := Tryz.sizeOf27
  obtain ⟨xp, x1, x2⟩ := x
  obtain ⟨yp, y1, y2⟩ := y
  have es := str_same xp yp
  have hR := fun w => rg_equalIn w x1 x2 y1 y2
  simp only [clV]
  rw [run_neq_struct, show (10000 : Nat) = 9999 + 1 from rfl, run_equalIn_agg w 9999 29 _ _ hS hp]
  simp only [Program.fieldsOf, Tryz.underlying29]
  have hT : ∀ (w : World) (a b : ByteArray), (Op.equalIn 9999 9 (.string a) (.string b)).run Tryz.prog w = .ok (a.toList == b.toList) w := fun w a b => run_equalIn_string w 9998 9 a b u9
  simp only [Op.eqFields]
  generalize Op.equalIn 9999 = EQ at hR hT ⊢
  generalize mk xp = xs at *
  generalize mk yp = ys at *
  go_simp
  by_cases h0 : xp = yp <;> by_cases h1 : x1 = y1 <;> by_cases h2 : x2 = y2 <;> simp [h0, h1, h2, es]
set_option maxRecDepth 100000 in
theorem call_eq : ∀ (a b : List Flt.Cl), Lib.allEq (fun x y : Flt.Cl => decide (x = y)) a b = decide (a = b)
  | [], [] => rfl
  | [], y :: b => by rw [Lib.allEq_len _ _ _ (by simp)]; simp
  | x :: a, [] => by rw [Lib.allEq_len _ _ _ (by simp)]; simp
  | x :: a, y :: b => by
    show (decide (x = y) && Lib.allEq (fun x y : Flt.Cl => decide (x = y)) a b) = _
    rw [call_eq a b]
    simp

set_option maxRecDepth 100000 in
theorem ceq_len {A B : Option Addr} {n m c d : Nat} (h : n ≠ m) (w : World) : Calls Tryz.prog 44 #[.slice A n c, .slice B m d] w fun e w' => e = .returned (.bool false) ∧ w' = w := by
  have hn : ¬ (n : Int) = (m : Int) := by omega
  go_enter Tryz.func44, Tryz.ntmps44
  go_wp2_with fail
  go_ret
  exact ⟨rfl, rfl⟩
set_option maxRecDepth 100000 in
theorem ceq_none {A B : Option Addr} {c d : Nat} (w : World) : Calls Tryz.prog 44 #[.slice A 0 c, .slice B 0 d] w fun e w' => e = .returned (.bool true) ∧ w' = w := by
  go_enter Tryz.func44, Tryz.ntmps44
  go_wp2_with fail
  refine wp_loop_rounds 1 ?_
  rw [rounds_succ]
  go_wp2_with fail
  go_ret
  exact ⟨rfl, rfl⟩

set_option maxRecDepth 100000 in
theorem ceq_any {w : World} {F G : Nat → Prop} {u v : Value} {a b : List Flt.Cl} (ha : Cls w F u a) (hb : Cls w G v b) (la : a.length ≤ 100000000) (lb : b.length ≤ 100000000) :
    Calls Tryz.prog 44 #[u, v] w fun e w' => e = .returned (.bool (decide (a = b))) ∧ Below w.heap.size w w' := by
  obtain ⟨A, c, rfl, hc, hat⟩ := ha
  obtain ⟨B, d, rfl, hd, hbt⟩ := hb
  by_cases hl : a.length = b.length
  · by_cases h0 : 0 < a.length
    · obtain ⟨b1, o1, rfl, -, -, hcl1⟩ := hat h0
      obtain ⟨b2, o2, rfl, -, -, hcl2⟩ := hbt (by omega)
      have hcon := AnyQ.slices_Equal Tryz.eqCl 3 Tryz.isAgg29 Tryz.sizeOf29 clV cl_len _ cl_neq b1 o1 a.length c b2 o2 b.length d a b w (Nat.le_refl _) (Nat.le_refl _) (by omega) (by omega)
        (fun j hj i u hi => hcl1 j _ (by rw [List.getElem?_eq_getElem hj, getElem!_pos a j hj]) i u hi) (fun j hj i u hi => hcl2 j _ (by rw [List.getElem?_eq_getElem hj, getElem!_pos b j hj]) i u hi)
      rw [List.take_length, List.take_length, call_eq] at hcon
      refine hcon.mono ?_
      rintro e w' ⟨rfl, q, rfl⟩
      exact ⟨rfl, below_drews' _ q⟩
    · have ea : a = [] := List.eq_nil_of_length_eq_zero (by omega)
      have eb : b = [] := List.eq_nil_of_length_eq_zero (by omega)
      subst ea eb
      refine (ceq_none w).mono ?_
      rintro e w' ⟨rfl, rfl⟩
      exact ⟨rfl, Below.refl _ _⟩
  · have hne : decide (a = b) = false := decide_eq_false (fun e => hl (by rw [e]))
    rw [hne]
    refine (ceq_len hl w).mono ?_
    rintro e w' ⟨rfl, rfl⟩
    exact ⟨rfl, Below.refl _ _⟩

set_option maxRecDepth 100000 in
theorem flt_equal {w : World} {F G : Nat → Prop} {u v : Value} {f g : List Flt.Cl} (hf : Cls w F u f) (hg : Cls w G v g) (lf : f.length ≤ 100000000) (lg : g.length ≤ 100000000) :
    Calls Tryz.prog 25 #[u, v] w fun e w' => e = .returned (.bool (decide (f = g))) ∧ Below w.heap.size w w' := by
  have C := Lib.hid (ceq_any hf hg lf lg)
  clear hf hg
  generalize decide (f = g) = d at *
  go_enter Tryz.func25, Tryz.ntmps25
  go_wp2_with (go_at_call 44; refine (C.out).mono ?_; rintro e w1 ⟨rfl, hb1⟩)
  go_ret
  exact ⟨rfl, hb1⟩
end Go.Proofs.YtjnpgfndbdddnaaGreat
