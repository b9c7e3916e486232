/- The document's own answers of layer 9: Match. -/
import Derived.Test.YtajhmgbicliihaaGreatDoorCom10
import Derived.Test.YtajhmgbicliihaaGreatDoorCom11
import Derived.Test.YtajhmgbicliihaaGreatDoorCom14
import Derived.Test.YtajhmgbicliihaaGreatDoorCom7
import Derived.Test.YtajhmgbicliihaaGreatDoorCom6
import Derived.Test.YtajhmgbicliihaaGreatDoorCom4
import Derived.Deep.QuietTactic
import Derived.StringKeys
import Derived.Maps.OwnSet
set_option linter.unusedSimpArgs false
set_option linter.unusedVariables false
namespace Go.Proofs.YtajhmgbicliihaaGreatDoor
open Go.RowKit

set_option maxRecDepth 100000 in
set_option maxHeartbeats 6400000 in
theorem ref_fmatch {w : World} {F : Nat → Prop} {v : Value} {f : List Flt.Cl} (p : List UInt8) (s : Int) (d : Bool) (h : Cls w F v f) (hl : f.length ≤ 1000000) (hp : p.length ≤ 9223372036854775807) (hs : ∀ c ∈ f, c.pre.length ≤ 100000) :
    Calls Tryz.prog 8 #[v, fileV p s d] w fun e w' => e = .returned (.bool (Flt.hits f p s d)) ∧ Below w.heap.size w w' := by
  obtain ⟨A, cap, rfl, hcap⟩ := h.parts
  have hb0 : Below w.heap.size w (w.alloc (.cells #[.string (mk p), .int .i64 s, .bool d] 24)) := (Below.refl _ _).alloc (Nat.le_refl _) _
  have HB0 := Lib.hid hb0
  have H := Lib.hid (h.below hb0)
  have HS := Lib.hid hs
  have COV := Lib.hid (fun (q : List UInt8) (hq : q.length ≤ 100000) (W : World) => ref_covers1 q p W hq)
  have hl' : (f.length : Int) ≤ 1000000 := by omega
  have XA := Lib.hid (Row.made w 24 #[.string (mk p), .int .i64 s, .bool d])
  clear h hs hb0
  unfold fileV
  go_enter Tryz.func8, Tryz.ntmps8
  go_wp2_with fail
  generalize hW : w.alloc (.cells #[.string (mk p), .int .i64 s, .bool d] 24) = w0 at *
  have hg : w.heap.size < w0.heap.size := by rw [← hW]; simp
  clear hW
  generalize hgw : w.heap.size = g at *
  have Hgw := Lib.hid hgw
  clear hgw
  go_loopw [5] (fun i wr => ∃ n : Nat, n ≤ f.length ∧ i = .int .i64 (n : Int) ∧ Hid (Flt.hits (f.take n) p s d = false) ∧ Below w0.heap.size w0 wr) (fun i _ => f.length - (intOf i).toNat)
  case atStart => exact ⟨0, Nat.zero_le _, rfl, Lib.hid (by simp [Flt.hits]), Below.refl _ _⟩
  case round =>
    obtain ⟨n, hn, rfl, hno, hbel⟩ := hrel
    have r0 : wr.cell? ⟨g, 0, none⟩ = some (.string (mk p)) := (hbel.cell (p := ⟨g, 0, none⟩) hg).trans (XA.out.at 0)
    have r1 : wr.cell? ⟨g, 1, none⟩ = some (.int .i64 s) := (hbel.cell (p := ⟨g, 1, none⟩) hg).trans (XA.out.at 1)
    have r2 : wr.cell? ⟨g, 2, none⟩ = some (.bool d) := (hbel.cell (p := ⟨g, 2, none⟩) hg).trans (XA.out.at 2)
    by_cases hlt : n < f.length
    · obtain ⟨b, o, cap', e, -, -, hb⟩ := H.out.block (by omega)
      injection e with e1 e2 e3
      subst e1 e3
      clear e2
      obtain ⟨x, hx⟩ : ∃ x, f[n]? = some x := ⟨_, List.getElem?_eq_getElem hlt⟩
      have hpx := HS.out x (List.mem_of_getElem? hx)
      have hn0 : (0 : Int) ≤ (n : Int) := by omega
      have hn1 : (n : Int) < (f.length : Int) := by omega
      have CA : Hid (∀ W, Below w0.heap.size w0 W → W.cell? ⟨b, o + n * 3, none⟩ = some (.string (mk x.pre)) ∧ W.cell? ⟨b, o + n * 3 + 1, none⟩ = some (.int .i64 x.lo) ∧ W.cell? ⟨b, o + n * 3 + 2, none⟩ = some (.int .i64 x.hi)) := Lib.hid (fun W hW => Cls.at (H.out.below hW) hx)
      obtain ⟨c0, c1, c2⟩ := CA.out wr hbel
      have hst := Lib.hid (Flt.hits_take hx p s d)
      have hmo := Lib.hid (Flt.hits_mono (f := f) (n := n + 1) (p := p) (s := s) (d := d))
      obtain ⟨xp, x1, x2⟩ := x
      simp only at c0 c1 c2 hpx
      have CV := Lib.hid (COV.out xp hpx)
      have Hbel := Lib.hid hbel
      clear hbel hx COV CA
      have hD : Hid (Flt.hit p s d ⟨xp, x1, x2⟩ = (decide (Pth.Covers xp p) && (d || (decide (0 ≤ s) && (decide (s ≤ 200) && (decide (x1 ≤ s) && decide (s ≤ x2))))))) := Lib.hid (by rw [Bool.eq_iff_iff]; unfold Flt.hit; simp only [decide_eq_true_iff, Bool.and_eq_true, Bool.or_eq_true])
      have hall : Hid (Flt.hits (f.take (n + 1)) p s d = Flt.hit p s d ⟨xp, x1, x2⟩) := Lib.hid (by rw [hst.out, hno.out, Bool.false_or])
      generalize Flt.hit p s d ⟨xp, x1, x2⟩ = D at *
      generalize decide (Pth.Covers xp p) = d1 at *
      have e3 : ∀ b, decide ((0 : Int) ≤ s) = b → decide (s ≥ (0 : Int)) = b := fun b h => h
      generalize e1 : decide ((0 : Int) ≤ s) = d2 at hD
      generalize e2 : decide (s ≤ (200 : Int)) = d3 at hD
      generalize e4 : decide (x1 ≤ s) = d4 at hD
      generalize e5 : decide (s ≤ x2) = d5 at hD
      clear hst hno e3
      generalize mk xp = xs at *
      generalize mk p = ps at *
      cases d1
      · go_wp2_with fail
        go_quiet ((go_at_call 23; exact Calls.quiet_of_same (CV.out _)))
        go_wp2_with fail
        exact ⟨⟨n + 1, by omega, by go_num, Lib.hid (by rw [hall.out, hD.out]; rfl), Hbel.out.trans ((below_drews' wr nq).mono Hbel.out.size)⟩, by show f.length - ((n : Int) + 1).toNat < f.length - (n : Int).toNat; omega⟩
      · cases d
        · cases d2
          · go_wp2_with fail
            go_quiet ((go_at_call 23; exact Calls.quiet_of_same (CV.out _)))
            go_wp2_with fail
            exact ⟨⟨n + 1, by omega, by go_num, Lib.hid (by rw [hall.out, hD.out]; rfl), Hbel.out.trans ((below_drews' wr nq).mono Hbel.out.size)⟩, by show f.length - ((n : Int) + 1).toNat < f.length - (n : Int).toNat; omega⟩
          · cases d3
            · go_wp2_with fail
              go_quiet ((go_at_call 23; exact Calls.quiet_of_same (CV.out _)))
              go_wp2_with fail
              exact ⟨⟨n + 1, by omega, by go_num, Lib.hid (by rw [hall.out, hD.out]; rfl), Hbel.out.trans ((below_drews' wr nq).mono Hbel.out.size)⟩, by show f.length - ((n : Int) + 1).toNat < f.length - (n : Int).toNat; omega⟩
            · cases d4
              · go_wp2_with fail
                go_quiet ((go_at_call 23; exact Calls.quiet_of_same (CV.out _)))
                go_wp2_with fail
                exact ⟨⟨n + 1, by omega, by go_num, Lib.hid (by rw [hall.out, hD.out]; rfl), Hbel.out.trans ((below_drews' wr nq).mono Hbel.out.size)⟩, by show f.length - ((n : Int) + 1).toNat < f.length - (n : Int).toNat; omega⟩
              · cases d5
                · go_wp2_with fail
                  go_quiet ((go_at_call 23; exact Calls.quiet_of_same (CV.out _)))
                  go_wp2_with fail
                  exact ⟨⟨n + 1, by omega, by go_num, Lib.hid (by rw [hall.out, hD.out]; rfl), Hbel.out.trans ((below_drews' wr nq).mono Hbel.out.size)⟩, by show f.length - ((n : Int) + 1).toNat < f.length - (n : Int).toNat; omega⟩
                · go_wp2_with fail
                  go_quiet ((go_at_call 23; exact Calls.quiet_of_same (CV.out _)))
                  go_wp2_with fail
                  go_ret
                  exact ⟨by rw [hmo.out (by rw [hall.out, hD.out]; rfl)]; rfl, by rw [Hgw.out]; exact HB0.out.trans ((Hbel.out.trans ((below_drews' wr nq).mono Hbel.out.size)).mono (Nat.le_of_lt hg))⟩
        · go_wp2_with fail
          go_quiet ((go_at_call 23; exact Calls.quiet_of_same (CV.out _)))
          go_wp2_with fail
          go_ret
          exact ⟨by rw [hmo.out (by rw [hall.out, hD.out]; rfl)]; rfl, by rw [Hgw.out]; exact HB0.out.trans ((Hbel.out.trans ((below_drews' wr nq).mono Hbel.out.size)).mono (Nat.le_of_lt hg))⟩
    · obtain rfl : n = f.length := by omega
      have hno' : Hid (Flt.hits f p s d = false) := Lib.hid (by have := hno.out; rwa [List.take_length] at this)
      have Hbel := Lib.hid hbel
      clear hbel hno
      go_wp2_with fail
      go_ret
      exact ⟨by rw [hno'.out]; rfl, by rw [Hgw.out]; exact HB0.out.trans (Hbel.out.mono (Nat.le_of_lt hg))⟩
end Go.Proofs.YtajhmgbicliihaaGreatDoor
/- CoverTwo out of the contracts. -/
set_option linter.unusedSimpArgs false
set_option linter.unusedVariables false
namespace Go.Proofs.YtajhmgbicliihaaGreatDoor
open Go.RowKit

set_option maxRecDepth 100000 in
theorem cov_step {w A B : World} (h : Below w.heap.size w A) (k : Below A.heap.size A B) : Below w.heap.size w B := h.trans (k.mono h.size)

set_option maxRecDepth 100000 in
set_option maxHeartbeats 12800000 in
theorem ctwo_walk (H : CoverOk) {w : World} {u v : Value} {f g : List Flt.Cl} {p : List UInt8} {s : Int} {d : Bool} (hf : Cls w (fun i => i < w.heap.size) u f) (hg : Cls w (fun i => i < w.heap.size) v g) (lf : f.length ≤ 9223372036854775807) (lg : g.length ≤ 9223372036854775807)
    (bf : ∀ c ∈ f, c.pre.length ≤ 9223372036854775807 ∧ Bd (Flt.rg c)) (bg : ∀ c ∈ g, c.pre.length ≤ 9223372036854775807 ∧ Bd (Flt.rg c)) (lp : p.length ≤ 9223372036854775807) :
    Calls Tryz.prog 3 #[u, v, fileV p s d] w fun e w' => e = .returned (.bool true) ∧ Below w.heap.size w w' := by
  have AW := Lib.hid (fun W => cov_awake H W)
  have hb0 : Below w.heap.size w (w.alloc (.cells #[.string (mk p), .int .i64 s, .bool d] 24)) := (Below.refl _ _).alloc (Nat.le_refl _) _
  have HB0 := Lib.hid hb0
  have XA := Lib.hid (Row.made w 24 #[.string (mk p), .int .i64 s, .bool d])
  have SF := Lib.hid (cov_sane (hf.below hb0) lf (fun c hc => (bf c hc).1))
  have SG := Lib.hid (fun (W : World) (hW : Below (w.alloc (.cells #[.string (mk p), .int .i64 s, .bool d] 24)).heap.size (w.alloc (.cells #[.string (mk p), .int .i64 s, .bool d] 24)) W) => cov_sane ((hg.below hb0).below hW) lg (fun c hc => (bg c hc).1))
  have hzX : (w.alloc (.cells #[.string (mk p), .int .i64 s, .bool d] 24)).heap.size = w.heap.size + 1 := by simp
  obtain ⟨lF, RF⟩ := Cov.sane_fine (f := f)
  obtain ⟨lG, RG⟩ := Cov.sane_fine (f := g)
  generalize Cov.sane f = F at *
  generalize Cov.sane g = G at *
  have okF : Cov.Ok F := Cov.Ok.of (by omega) RF
  have okG : Cov.Ok G := Cov.Ok.of (by omega) RG
  have pF := Flt.prefixes_len F
  have pG := Flt.prefixes_len G
  have l1 := Cov.two_short 1 F G
  have l0 := Cov.two_short 0 F G
  have lM := Cov.minus_short F G
  have R1 := Cov.two_right (k := 1) RF RG
  have R0 := Cov.two_right (k := 0) RF RG
  have small : ∀ {L : List Flt.Cl}, (∀ c ∈ L, Flt.Right c) → ∀ c ∈ L, c.pre.length ≤ 100000 := fun h c hc => by have := Cov.pre_small (h c hc); omega
  have ME : Hid (∀ (P Q : Nat → Prop) (W : World) (x y : Value), Cls W P x F → Cls W Q y G → Calls Tryz.prog 6 #[x, y] W fun e w' => ∃ v', e = .returned v' ∧ Cls w' (NewIn W w') v' (Cov.two 1 F G) ∧ Below W.heap.size W w') := Lib.hid (fun P Q W x y hx hy => H.meet hx hy okF okG (by omega))
  have JO : Hid (∀ (P Q : Nat → Prop) (W : World) (x y : Value), Cls W P x F → Cls W Q y G → Calls Tryz.prog 7 #[x, y] W fun e w' => ∃ v', e = .returned v' ∧ Cls w' (NewIn W w') v' (Cov.two 0 F G) ∧ Below W.heap.size W w') := Lib.hid (fun P Q W x y hx hy => H.join hx hy okF okG (by omega))
  have MI : Hid (∀ (P Q : Nat → Prop) (W : World) (x y : Value), Cls W P x F → Cls W Q y G → Calls Tryz.prog 12 #[x, y] W fun e w' => ∃ v', e = .returned v' ∧ Cls w' (NewIn W w') v' (Cov.minus F G) ∧ Below W.heap.size W w') := Lib.hid (fun P Q W x y hx hy => H.minus hx hy okF okG (by omega))
  have RT1 : Hid (∀ (P Q : Nat → Prop) (W : World) (x y : Value), Cls W P x F → Cls W Q y G → Calls Tryz.prog 11 #[x, y, .int .i64 1] W fun e w' => ∃ v', e = .returned v' ∧ RowsOwn 39 3 clV W (Cov.two 1 F G) v' w') := Lib.hid (fun P Q W x y hx hy => ref_ctwo hx hy (by omega) (by omega) RF RG 1 (by omega))
  have RT0 : Hid (∀ (P Q : Nat → Prop) (W : World) (x y : Value), Cls W P x F → Cls W Q y G → Calls Tryz.prog 11 #[x, y, .int .i64 0] W fun e w' => ∃ v', e = .returned v' ∧ RowsOwn 39 3 clV W (Cov.two 0 F G) v' w') := Lib.hid (fun P Q W x y hx hy => ref_ctwo hx hy (by omega) (by omega) RF RG 0 (by omega))
  have RM : Hid (∀ (P Q : Nat → Prop) (W : World) (x y : Value), Cls W P x F → Cls W Q y G → Calls Tryz.prog 13 #[x, y] W fun e w' => ∃ v', e = .returned v' ∧ RowsOwn 39 3 clV W (Cov.minus F G) v' w') := Lib.hid (fun P Q W x y hx hy => ref_cminus hx hy (by omega) (by omega) RF RG)
  have EQ : Hid (∀ (L : List Flt.Cl), L.length ≤ 100000000 → ∀ (P Q : Nat → Prop) (W : World) (x y : Value), Cls W P x L → Cls W Q y L → Calls Tryz.prog 10 #[x, y] W fun e w' => e = .returned (.bool true) ∧ Below W.heap.size W w') := Lib.hid (fun L hL P Q W x y hx hy => by
    have := ref_fequal hx hy hL hL
    rwa [decide_eq_true (rfl : L = L)] at this)
  have EQ1 := Lib.hid (EQ.out (Cov.two 1 F G) (by omega))
  have EQ0 := Lib.hid (EQ.out (Cov.two 0 F G) (by omega))
  have EQM := Lib.hid (EQ.out (Cov.minus F G) (by omega))
  have MF : Hid (∀ (P : Nat → Prop) (W : World) (x : Value), Cls W P x F → Calls Tryz.prog 8 #[x, fileV p s false] W fun e w' => e = .returned (.bool (Flt.hits F p s false)) ∧ Below W.heap.size W w') := Lib.hid (fun P W x hx => ref_fmatch p s false hx (by omega) lp (small RF))
  have MG : Hid (∀ (P : Nat → Prop) (W : World) (x : Value), Cls W P x G → Calls Tryz.prog 8 #[x, fileV p s false] W fun e w' => e = .returned (.bool (Flt.hits G p s false)) ∧ Below W.heap.size W w') := Lib.hid (fun P W x hx => ref_fmatch p s false hx (by omega) lp (small RG))
  have h1 : Flt.hits (Cov.two 1 F G) p s false = (Flt.hits F p s false && Flt.hits G p s false) := by
    rw [Bool.eq_iff_iff, Bool.and_eq_true, Flt.hits_iff, Flt.hits_iff, Flt.hits_iff]
    exact Cov.meet_match F G p s
  have h0 : Flt.hits (Cov.two 0 F G) p s false = (Flt.hits F p s false || Flt.hits G p s false) := by
    rw [Bool.eq_iff_iff, Bool.or_eq_true, Flt.hits_iff, Flt.hits_iff, Flt.hits_iff]
    exact Cov.join_match F G p s
  have M1 : Hid (∀ (P : Nat → Prop) (W : World) (x : Value), Cls W P x (Cov.two 1 F G) → Calls Tryz.prog 8 #[x, fileV p s false] W fun e w' => e = .returned (.bool (Flt.hits F p s false && Flt.hits G p s false)) ∧ Below W.heap.size W w') := Lib.hid (fun P W x hx => by
    rw [← h1]; exact ref_fmatch p s false hx (by omega) lp (small R1))
  have M0 : Hid (∀ (P : Nat → Prop) (W : World) (x : Value), Cls W P x (Cov.two 0 F G) → Calls Tryz.prog 8 #[x, fileV p s false] W fun e w' => e = .returned (.bool (Flt.hits F p s false || Flt.hits G p s false)) ∧ Below W.heap.size W w') := Lib.hid (fun P W x hx => by
    rw [← h0]; exact ref_fmatch p s false hx (by omega) lp (small R0))
  unfold fileV at MF MG M1 M0 ⊢
  clear hf hg bf bg lf lg lF lG RF RG okF okG pF pG l1 l0 lM R1 R0 small EQ h1 h0 lp hb0
  generalize Flt.hits F p s false = a at *
  generalize Flt.hits G p s false = b at *
  generalize Cov.two 1 F G = M at *
  generalize Cov.two 0 F G = J at *
  generalize Cov.minus F G = N at *
  generalize mk p = ps at *
  have HzX := Lib.hid hzX
  clear hzX
  cases a <;> cases b
  all_goals
    simp only [Bool.and_true, Bool.and_false, Bool.or_true, Bool.or_false, Bool.and_self, Bool.or_self] at M1 M0
    go_enter Tryz.func3, Tryz.ntmps3
    go_wp2_with fail
    generalize w.alloc (.cells #[.string ps, .int .i64 s, .bool d] 24) = w0 at *
    refine (SF.out).mono ?_
    rintro e w1 ⟨x, rfl, hx⟩
    have HX := Lib.hid hx
    clear hx SF
    go_wp2_with fail
    refine (SG.out _ HX.out.2).mono ?_
    rintro e w2 ⟨y, rfl, hy⟩
    have HX2 := Lib.hid ((HX.out.rows (fun _ _ => rfl)).below hy.2)
    have HY2 := Lib.hid (hy.rows (fun _ _ => rfl))
    have K2 := Lib.hid (cov_step HX.out.2 hy.2)
    have K1 := Lib.hid HX.out.2
    clear hy HX SG
    go_wp2_with fail
    refine (ME.out _ _ _ _ _ HX2.out HY2.out).mono ?_
    rintro e w3 ⟨m, rfl, hm, hb3⟩
    have HX3 := Lib.hid (HX2.out.below hb3)
    have HY3 := Lib.hid (HY2.out.below hb3)
    have HM3 := Lib.hid hm
    have K3 := Lib.hid (cov_step K2.out hb3)
    clear hm hb3 HX2 HY2 ME
    go_wp2_with fail
    refine (JO.out _ _ _ _ _ HX3.out HY3.out).mono ?_
    rintro e w4 ⟨j, rfl, hj, hb4⟩
    have K4 := Lib.hid (cov_step K3.out hb4)
    have hR4 := Row.below XA.out K4.out (by have := HzX.out; omega)
    have q0 := hR4.at 0
    have q1 := hR4.at 1
    have q2 := hR4.at 2
    have f2 := hR4.free 2
    have hR5 : Row (w4.setCell ⟨w.heap.size, 2, none⟩ (.bool false)) w.heap.size 24 #[.string ps, .int .i64 s, .bool false] := hR4.stored 2 (.bool false)
    have kk : Kept (fun i => i = w.heap.size) w4 (w4.setCell ⟨w.heap.size, 2, none⟩ (.bool false)) := (Kept.refl (fun i => i = w.heap.size) w4).stored (p := ⟨w.heap.size, 2, none⟩) (Or.inl rfl) _
    have zz1 := K1.out.size
    have zz2 := K2.out.size
    have zz3 := K3.out.size
    have PP : Hid (∀ W, Below (w4.setCell ⟨w.heap.size, 2, none⟩ (.bool false)).heap.size (w4.setCell ⟨w.heap.size, 2, none⟩ (.bool false)) W → Cls W (NewIn w0 w1) x F ∧ Cls W (NewIn w1 w2) y G ∧ Cls W (NewIn w2 w3) m M ∧ Cls W (NewIn w3 w4) j J) := Lib.hid (fun W hW => by
      have hz := HzX.out
      refine ⟨((HX3.out.below hb4).kept kk (fun i hi e => ?_)).below hW, ((HY3.out.below hb4).kept kk (fun i hi e => ?_)).below hW, ((HM3.out.below hb4).kept kk (fun i hi e => ?_)).below hW, (hj.kept kk (fun i hi e => ?_)).below hW⟩ <;> (have := hi.1; omega))
    have XX : Hid (∀ W, Below (w4.setCell ⟨w.heap.size, 2, none⟩ (.bool false)).heap.size (w4.setCell ⟨w.heap.size, 2, none⟩ (.bool false)) W → W.cell? ⟨w.heap.size, 0, none⟩ = some (.string ps) ∧ W.cell? ⟨w.heap.size, 1, none⟩ = some (.int .i64 s) ∧ W.cell? ⟨w.heap.size, 2, none⟩ = some (.bool false)) := Lib.hid (fun W hW => by
      have hr := Row.below hR5 hW hR5.inHeap
      exact ⟨hr.at 0, hr.at 1, hr.at 2⟩)
    have KE : Hid (Below w.heap.size w (w4.setCell ⟨w.heap.size, 2, none⟩ (.bool false))) := Lib.hid ((HB0.out.trans (K4.out.mono HB0.out.size)).setCell (Nat.le_refl _) _)
    clear hj hb4 HX3 HY3 HM3 K1 K2 K3 K4 hR4 hR5 kk zz1 zz2 zz3 JO XA
    go_wp2_with fail
    generalize w4.setCell ⟨w.heap.size, 2, none⟩ (.bool false) = w5 at *
    clear q0 q1 q2 f2
    refine wp_region_held_drew (S := (fun w' : World => Below w5.heap.size w5 w')) (by kernel_rfl) ((Below.refl _ _).drew) (fun hHeld => ?_)
    refine wpAnyH_take (i := 0) (v := ?_) rfl (by kernel_rfl) (by kernel_rfl) (by kernel_rfl) (fun _ _ _ h => h) (Or.inl ⟨by rfl, (by intro w hSw; go_simp; try with_reducible rfl)⟩) (by assumption) ?_
    simp only [Act.put, List.getElem_toArray, List.getElem_cons_zero, List.getElem_cons_succ, List.setIfInBounds_toArray, List.set_cons_zero, List.set_cons_succ]
    refine wpAnyH_take (i := 1) (v := ?_) rfl (by kernel_rfl) (by kernel_rfl) (by kernel_rfl) (fun _ _ _ h => h) (Or.inl ⟨by rfl, (by intro w hSw; have d0 := (XX.out _ hSw).1; have d1 := (XX.out _ hSw).2.1; have d2 := (XX.out _ hSw).2.2; go_simp; try with_reducible rfl)⟩) (by assumption) ?_
    simp only [Act.put, List.getElem_toArray, List.getElem_cons_zero, List.getElem_cons_succ, List.setIfInBounds_toArray, List.set_cons_zero, List.set_cons_succ]
    refine wpAnyH_take (i := 3) (v := ?_) rfl (by kernel_rfl) (by kernel_rfl) (by kernel_rfl) (fun _ _ _ h => h) (Or.inl ⟨by rfl, (by intro w hSw; go_simp; try with_reducible rfl)⟩) (by assumption) ?_
    simp only [Act.put, List.getElem_toArray, List.getElem_cons_zero, List.getElem_cons_succ, List.setIfInBounds_toArray, List.set_cons_zero, List.set_cons_succ]
    refine wpAnyH_take (i := 4) (v := ?_) rfl (by kernel_rfl) (by kernel_rfl) (by kernel_rfl) (fun _ _ _ h => h) (Or.inl ⟨by rfl, (by intro w hSw; have d0 := (XX.out _ hSw).1; have d1 := (XX.out _ hSw).2.1; have d2 := (XX.out _ hSw).2.2; go_simp; try with_reducible rfl)⟩) (by assumption) ?_
    simp only [Act.put, List.getElem_toArray, List.getElem_cons_zero, List.getElem_cons_succ, List.setIfInBounds_toArray, List.set_cons_zero, List.set_cons_succ]
    refine wpAnyH_ready (rs := [2]) (by kernel_rfl) (by simp) ?_
    refine AllReadyH.cons rfl (fun K hK => ?_) AllReadyH.nil
    go_simp
    go_at_call 8
    refine (MF.out _ _ _ (PP.out _ hHeld).1).mono ?_
    rintro e wa ⟨rfl, hbN⟩
    have hhN := hHeld.trans (hbN.mono hHeld.size)
    clear hbN
    refine hK.out _ _ hhN (fun hHeld => ?_)
    clear hhN
    clear hK K
    refine wpAnyH_ready (rs := [5]) (by kernel_rfl) (by simp) ?_
    refine AllReadyH.cons rfl (fun K hK => ?_) AllReadyH.nil
    go_simp
    go_at_call 8
    refine (MG.out _ _ _ (PP.out _ hHeld).2.1).mono ?_
    rintro e wb ⟨rfl, hbN⟩
    have hhN := hHeld.trans (hbN.mono hHeld.size)
    clear hbN
    refine hK.out _ _ hhN (fun hHeld => ?_)
    clear hhN
    clear hK K
    refine wpAnyH_take (i := 6) (v := ?_) rfl (by kernel_rfl) (by kernel_rfl) (by kernel_rfl) (fun _ _ _ h => h) (Or.inl ⟨by rfl, (by intro w hSw; go_simp; try with_reducible rfl)⟩) (by assumption) ?_
    simp only [Act.put, List.getElem_toArray, List.getElem_cons_zero, List.getElem_cons_succ, List.setIfInBounds_toArray, List.set_cons_zero, List.set_cons_succ]
    refine wpAnyH_take (i := 7) (v := ?_) rfl (by kernel_rfl) (by kernel_rfl) (by kernel_rfl) (fun _ _ _ h => h) (Or.inl ⟨by rfl, (by intro w hSw; go_simp; try with_reducible rfl)⟩) (by assumption) ?_
    simp only [Act.put, List.getElem_toArray, List.getElem_cons_zero, List.getElem_cons_succ, List.setIfInBounds_toArray, List.set_cons_zero, List.set_cons_succ]
    refine wpAnyH_done (by kernel_rfl) ?_ _
    have T := Lib.hid hHeld
    clear hHeld
    go_wp2_with fail
    refine (AW.out _).mono ?_
    rintro e w6 ⟨rfl, hb⟩
    have T6 := Lib.hid (cov_step T.out hb)
    clear hb
    go_wp2_with fail
    refine (RT1.out _ _ _ _ _ (PP.out _ T6.out).1 (PP.out _ T6.out).2.1).mono ?_
    rintro e w7 ⟨t1, rfl, ht1⟩
    have T7 := Lib.hid (cov_step T6.out ht1.2)
    have HT1 := Lib.hid (ht1.rows (fun _ _ => rfl))
    clear ht1
    go_wp2_with fail
    refine (EQ1.out _ _ _ _ _ (PP.out _ T7.out).2.2.1 HT1.out).mono ?_
    rintro e w8 ⟨rfl, hb⟩
    have T8 := Lib.hid (cov_step T7.out hb)
    clear hb
    go_wp2_with fail
    refine (RT0.out _ _ _ _ _ (PP.out _ T8.out).1 (PP.out _ T8.out).2.1).mono ?_
    rintro e w9 ⟨t0, rfl, ht0⟩
    have T9 := Lib.hid (cov_step T8.out ht0.2)
    have HT0 := Lib.hid (ht0.rows (fun _ _ => rfl))
    clear ht0
    go_wp2_with fail
    refine (EQ0.out _ _ _ _ _ (PP.out _ T9.out).2.2.2 HT0.out).mono ?_
    rintro e w10 ⟨rfl, hb⟩
    have T10 := Lib.hid (cov_step T9.out hb)
    obtain ⟨x0, x1, x2⟩ := XX.out _ T10.out
    clear hb
    go_wp2_with fail
    refine (M1.out _ _ _ (PP.out _ T10.out).2.2.1).mono ?_
    rintro e w11 ⟨rfl, hb⟩
    have T11 := Lib.hid (cov_step T10.out hb)
    clear hb x0 x1 x2
    obtain ⟨x0, x1, x2⟩ := XX.out _ T11.out
    go_wp2_with fail
    refine (M0.out _ _ _ (PP.out _ T11.out).2.2.2).mono ?_
    rintro e w12 ⟨rfl, hb⟩
    have T12 := Lib.hid (cov_step T11.out hb)
    clear hb x0 x1 x2
    go_wp2_with fail
    refine (MI.out _ _ _ _ _ (PP.out _ T12.out).1 (PP.out _ T12.out).2.1).mono ?_
    rintro e w13 ⟨n1, rfl, hn1, hb⟩
    have T13 := Lib.hid (cov_step T12.out hb)
    have HN1 := Lib.hid hn1
    clear hb hn1
    go_wp2_with fail
    refine (RM.out _ _ _ _ _ (PP.out _ T13.out).1 (PP.out _ T13.out).2.1).mono ?_
    rintro e w14 ⟨n2, rfl, hn2⟩
    have T14 := Lib.hid (cov_step T13.out hn2.2)
    have HN2 := Lib.hid (hn2.rows (fun _ _ => rfl))
    have HN3 := Lib.hid (HN1.out.below hn2.2)
    clear hn2
    go_wp2_with fail
    refine (EQM.out _ _ _ _ _ HN3.out HN2.out).mono ?_
    rintro e w15 ⟨rfl, hb⟩
    have T15 := Lib.hid (cov_step T14.out hb)
    clear hb
    go_wp2_with fail
    go_ret
    exact ⟨rfl, cov_step KE.out T15.out⟩
end Go.Proofs.YtajhmgbicliihaaGreatDoor
/- The landed filter's map in memory: values (slices) by texts; looks, stores. No order of entries is spoken of. -/
set_option linter.unusedSimpArgs false
set_option linter.unusedVariables false
namespace Go.Proofs.YtajhmgbicliihaaGreatDoor
open Go.RowKit

namespace Tm
def raw (v : Value) : Option (DataW Value × List MemPlace) := some (.held v, [])
abbrev Pr := List UInt8 × Value
abbrev Fn := List UInt8 → Option Value
def ent (p : Pr) : Lit × DataW Value := (.string p.1, .held p.2)
def datum (l : List Pr) : DataW Value := .map (l.map ent)
set_option maxRecDepth 100000 in
theorem same (a b : List UInt8) : Lit.sameKey (.string a) (.string b) = decide (a = b) := by
  show (a == b) = _
  rw [Bool.eq_iff_iff]; simp

/-- A list of entries tells such values. -/
def Tells (l : List Pr) (m : Fn) : Prop := ∀ k, (l.find? fun p => decide (p.1 = k)) = (m k).map fun v => (k, v)

def insP (x : Pr) : List Pr → List Pr
  | [] => [x]
  | y :: r => if bytesBefore x.1 y.1 = true then x :: y :: r else y :: insP x r
set_option maxRecDepth 100000 in
theorem insert_map (x : Pr) : ∀ l : List Pr, DataW.insert (ent x) (l.map ent) = (insP x l).map ent
  | [] => rfl
  | y :: l => by
    rw [List.map_cons]
    unfold DataW.insert insP
    have e : (ent x).1.before (ent y).1 = bytesBefore x.1 y.1 := rfl
    rw [e, insert_map x l]
    split <;> rfl
set_option maxRecDepth 100000 in
theorem insP_len (x : Pr) : ∀ l : List Pr, (insP x l).length = l.length + 1
  | [] => rfl
  | y :: l => by
    unfold insP
    split
    · rfl
    · rw [List.length_cons, insP_len x l, List.length_cons]
set_option maxRecDepth 100000 in
theorem insP_find (x : Pr) (q : List UInt8) : ∀ l : List Pr, (∀ p ∈ l, p.1 ≠ x.1) → (insP x l).find? (fun p => decide (p.1 = q)) = if q = x.1 then some x else l.find? fun p => decide (p.1 = q)
  | [], _ => by
    unfold insP
    rw [List.find?_cons]
    by_cases h : q = x.1
    · rw [if_pos h]; simp [h]
    · rw [if_neg h]
      have : decide (x.1 = q) = false := decide_eq_false (fun e => h e.symm)
      rw [this]
  | y :: l, hl => by
    have hy := hl y (by simp)
    have ih := insP_find x q l (fun p hp => hl p (List.mem_cons_of_mem _ hp))
    unfold insP
    split
    · rw [List.find?_cons]
      by_cases h : q = x.1
      · rw [if_pos h]; simp [h]
      · rw [if_neg h]
        have : decide (x.1 = q) = false := decide_eq_false (fun e => h e.symm)
        rw [this]
    · rw [List.find?_cons, ih]
      by_cases h : q = x.1
      · rw [if_pos h, if_pos h]
        have : decide (y.1 = q) = false := decide_eq_false (fun e => hy (by rw [e, h]))
        rw [this]
      · rw [if_neg h, if_neg h, List.find?_cons]

def set (m : Fn) (k : List UInt8) (v : Value) : Fn := fun q => if q = k then some v else m q
set_option maxRecDepth 100000 in
theorem filter_ent (l : List Pr) (k : List UInt8) : (l.map ent).filter (fun p => !p.1.sameKey (.string k)) = (l.filter fun p => decide (p.1 ≠ k)).map ent := by
  rw [List.filter_map]
  congr 1
  apply List.filter_congr
  intro x _
  show (!(Lit.sameKey (.string x.1) (.string k))) = _
  rw [same, decide_not]
set_option maxRecDepth 100000 in
theorem find_filter (l : List Pr) (k q : List UInt8) (h : q ≠ k) : (l.filter fun p => decide (p.1 ≠ k)).find? (fun p => decide (p.1 = q)) = l.find? fun p => decide (p.1 = q) := by
  rw [List.find?_filter]
  congr 1
  funext p
  by_cases e : p.1 = q
  · simp [e, h]
  · simp [e]
set_option maxRecDepth 100000 in
theorem Tells.put {l : List Pr} {m : Fn} (h : Tells l m) (k : List UInt8) (v : Value) : Tells (insP (k, v) (l.filter fun p => decide (p.1 ≠ k))) (set m k v) := by
  intro q
  rw [insP_find _ _ _ (fun p hp => by simpa using (List.mem_filter.1 hp).2)]
  unfold set
  by_cases e : q = k
  · subst e
    simp
  · rw [if_neg e, if_neg e, find_filter _ _ _ e]
    exact h q
set_option maxRecDepth 100000 in
theorem datum_put (l : List Pr) (k : List UInt8) (v : Value) : (datum l).put (.string k) (.held v) = datum (insP (k, v) (l.filter fun p => decide (p.1 ≠ k))) := by
  show DataW.map (DataW.insert (ent (k, v)) ((l.map ent).filter fun p => !p.1.sameKey (.string k))) = _
  rw [filter_ent, insert_map]
  rfl
set_option maxRecDepth 100000 in
theorem datum_at {l : List Pr} {m : Fn} (h : Tells l m) (k : List UInt8) (z : DataW Value) : (datum l).atKey (.string k) z = (match m k with | some v => .held v | none => z) := by
  have e : (l.map ent).find? (fun p => p.1.sameKey (.string k)) = (l.find? fun p => decide (p.1 = k)).map ent := by
    rw [List.find?_map]
    congr 2
    funext x
    exact same x.1 k
  unfold datum DataW.atKey
  simp only [e]
  rw [h k]
  cases m k <;> rfl
set_option maxRecDepth 100000 in
theorem datum_has {l : List Pr} {m : Fn} (h : Tells l m) (k : List UInt8) : Maps.has (datum l) (.string k) = (m k).isSome := by
  have h1 : (m k).isSome = (l.find? fun p => decide (p.1 = k)).isSome := by rw [h k]; cases m k <;> rfl
  rw [h1]
  unfold datum
  rw [Maps.has_eq, List.any_map]
  rw [Bool.eq_iff_iff, List.any_eq_true, List.find?_isSome]
  constructor
  · rintro ⟨x, hx, h⟩
    have h : (Lit.sameKey (.string x.1) (.string k)) = true := h
    rw [same] at h
    exact ⟨x, hx, h⟩
  · rintro ⟨x, hx, h⟩
    refine ⟨x, hx, ?_⟩
    show (Lit.sameKey (.string x.1) (.string k)) = true
    rw [same]; exact h

set_option maxRecDepth 100000 in
theorem keyed : Go.Maps.Keyed Tryz.prog 9 := Go.Maps.string_keyed Tryz.underlying9
set_option maxRecDepth 100000 in
theorem key {k : ByteArray} (h : k.size ≤ 9223372036854775807) : keyOf Tryz.prog 9 (.string k) = some (.string k.data.toList) := Go.WideMaps.keyOf_string_mk Tryz.underlying9 h
set_option maxRecDepth 100000 in
theorem zero (w : World) : (zeroValue 48).run Tryz.prog w = .ok (.slice none 0 0) w := by kernel_rfl
end Tm

/-- Block bm is a map that tells such values, of at most n entries. -/
def TmAt (w : World) (bm : Nat) (m : Tm.Fn) (n : Nat) : Prop := ∃ l, Tm.Tells l m ∧ l.length ≤ n ∧ w.ownsMap Tryz.prog 9 Tm.raw bm l.length (Tm.datum l)

section
variable {w w' : World} {bm n : Nat} {m : Tm.Fn} {F G : Nat → Prop}

set_option maxRecDepth 100000 in
theorem tm_tight {l : List Tm.Pr} {k : Nat} (h : w.ownsMap Tryz.prog 9 Tm.raw bm k (Tm.datum l)) : w.ownsMap Tryz.prog 9 Tm.raw bm l.length (Tm.datum l) := by
  obtain ⟨es, clock, hb, hf, hs, hD⟩ := h
  refine ⟨es, clock, hb, hf, ?_, hD⟩
  have h1 : Maps.size (Tm.datum l) = es.size := by rw [hD]; simp [Maps.size, length_sorted]
  have h2 : Maps.size (Tm.datum l) = l.length := by unfold Tm.datum; rw [Maps.size_eq, List.length_map]
  omega
set_option maxRecDepth 100000 in
theorem TmAt.lt (h : TmAt w bm m n) : bm < w.heap.size := by
  obtain ⟨l, -, -, h⟩ := h
  exact World.ownsMap.lt h
set_option maxRecDepth 100000 in
theorem TmAt.kept (h : TmAt w bm m n) (k : Kept G w w') (hd : ¬ G bm) : TmAt w' bm m n := by
  have hl := h.lt
  obtain ⟨l, h1, h2, es, clock, hb, r⟩ := h
  exact ⟨l, h1, h2, es, clock, (k.block bm hl hd).trans hb, r⟩
set_option maxRecDepth 100000 in
theorem TmAt.below (h : TmAt w bm m n) (k : Below w.heap.size w w') : TmAt w' bm m n := h.kept (Kept.ofBelow k (fun _ => False)) (fun h => h)
set_option maxRecDepth 100000 in
theorem TmAt.made (w : World) : TmAt (w.alloc (.map #[] 0)) w.heap.size (fun _ => none) 0 := ⟨[], fun _ => rfl, Nat.le_refl _, World.ownsMap_made w _ _ _⟩
set_option maxRecDepth 100000 in
theorem TmAt.look (h : TmAt w bm m n) {k : List UInt8} (hk : k.length ≤ 9223372036854775807) :
    (Instr.lookup 65 (.map (some bm)) (.string (mk k)) true).run Tryz.prog w = .ok (.tuple #[(match m k with | some v => v | none => .slice none 0 0), .bool (m k).isSome]) w := by
  obtain ⟨l, ht, -, h⟩ := h
  obtain ⟨v', ps, h1, h2⟩ := World.ownsMap.look_ok h Tm.keyed Tryz.underlying65 (Tm.zero w) (zd := .held (.slice none 0 0)) (zp := []) rfl (Tm.key (k := mk k) (by rw [mk_len]; exact hk))
  rw [mk_data, Tm.datum_has ht] at h1
  rw [h1]
  rw [mk_data, Tm.datum_at ht] at h2
  unfold Tm.raw at h2
  have e := congrArg Prod.fst (Option.some.inj h2)
  cases hg : m k with
  | none => rw [hg] at e; have e : DataW.held v' = .held _ := e; injection e with e; rw [e]
  | some v => rw [hg] at e; have e : DataW.held v' = .held _ := e; injection e with e; rw [e]
set_option maxRecDepth 100000 in
theorem TmAt.put (h : TmAt w bm m n) (hn : n < 1000000000) {k : List UInt8} (hk : k.length ≤ 9223372036854775807) (v : Value) :
    ∃ w', (Instr.mapUpdate 65 (.map (some bm)) (.string (mk k)) v).run Tryz.prog w = .ok () w' ∧ TmAt w' bm (Tm.set m k v) (n + 1) ∧ w.grownBy w' (some bm) := by
  obtain ⟨l, ht, hl, h⟩ := h
  obtain ⟨w', h1, h2, h3⟩ := World.ownsMap.update h Tm.keyed Tryz.underlying65 (by unfold maxLen; omega) (Tm.key (k := mk k) (by rw [mk_len]; exact hk)) (val := v) (d := .held v) (ps := []) rfl
  rw [mk_data, Tm.datum_put] at h2
  refine ⟨w', h1, ⟨_, ht.put k v, ?_, tm_tight h2⟩, h3⟩
  rw [Tm.insP_len]
  have := List.length_filter_le (fun p : Tm.Pr => decide (p.1 ≠ k)) l
  omega
end
end Go.Proofs.YtajhmgbicliihaaGreatDoor
