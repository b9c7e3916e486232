/- The landed filter: what is known tells the sizes at any prefix (the closure of sizer). -/
import Derived.Test.YtabnfaonlkipbaaGreatDoorCom20
import Derived.Test.YtabnfaonlkipbaaGreatDoorCom21
import Derived.Test.YtabnfaonlkipbaaGreatDoorCom11
import Derived.Test.YtabnfaonlkipbaaGreatDoorCom14
import Derived.Test.YtabnfaonlkipbaaGreatDoorCom5
import Derived.Shelf.SlicesQ.Equal
import Derived.Shelf.SlicesQ.IndexFunc
import Derived.Laws.StructEq
import Derived.Shelf.GgSortFunc.InsertionK
set_option linter.unusedSimpArgs false
set_option linter.unusedVariables false
namespace Go.Proofs.YtabnfaonlkipbaaGreatDoor
open Go.RowKit

def Tm.val (m : Tm.Fn) (q : List UInt8) : Value := match m q with | some v => v | none => .slice none 0 0
def strLen : Value → Nat
  | .string s => s.size
  | _ => 0

set_option maxRecDepth 100000 in
set_option maxHeartbeats 3200000 in
theorem tell_any {w : World} {F : Nat → Prop} {bm B n : Nat} {m : Tm.Fn} {L : List UInt8 → List Sz.Rg} (hm : TmAt w bm m n) (hB : w.cell? ⟨B, 0, none⟩ = some (.map (some bm))) (hBl : B < w.heap.size)
    (hv : ∀ q v, m q = some v → Rgs w F v (L q)) (hn : ∀ q, m q = none → (q = [] → L [] = []) ∧ (q ≠ [] → L q = L (Pth.parent q))) (p : List UInt8) (hp : p.length ≤ 100000) :
    Calls Tryz.prog 64 #[.string (mk p), .pointer (some ⟨B, 0, none⟩)] w fun e w' => ∃ v, e = .returned v ∧ Rgs w' F v (L p) ∧ Below w.heap.size w w' := by
  have LK : Hid (∀ (W : World), Below w.heap.size w W → ∀ q : List UInt8, q.length ≤ 100000 → (Instr.lookup 93 (.map (some bm)) (.string (mk q)) true).run Tryz.prog W = .ok (.tuple #[Tm.val m q, .bool (m q).isSome]) W) := Lib.hid (fun W hW q hq => (hm.below hW).look (by omega))
  have CB : Hid (∀ (W : World), Below w.heap.size w W → W.cell? ⟨B, 0, none⟩ = some (.map (some bm))) := Lib.hid (fun W hW => (hW.cell (p := ⟨B, 0, none⟩) hBl).trans hB)
  have HV := Lib.hid hv
  have HN := Lib.hid hn
  have PA := Lib.hid (fun (q : List UInt8) (hq : q.length ≤ 100000) (W : World) => path_ok.parent q W hq)
  have hlook := LK.out w (Below.refl _ _) p hp
  clear hm hv hn hBl
  obtain ⟨ps, hps⟩ : ∃ ps, ps = mk p := ⟨_, rfl⟩
  rw [← hps] at hlook ⊢
  have Hps := Lib.hid hps
  clear hps
  generalize hx : Tm.val m p = x at hlook
  generalize hy : (m p).isSome = y at hlook
  have HX := Lib.hid hx
  have HY := Lib.hid hy
  clear hx hy
  go_enter Tryz.func64, Tryz.ntmps64
  go_wp2_with fail
  go_loopw [0, 4, 5, 20] (fun pv l has _ wr => ∃ q : List UInt8, q.length ≤ 100000 ∧ pv = .string (mk q) ∧ l = Tm.val m q ∧ has = .bool (m q).isSome ∧ Hid (L q = L p) ∧ Below w.heap.size w wr) (fun pv _ _ _ _ => strLen pv)
  case atStart => exact ⟨p, hp, by rw [Hps.out], HX.out.symm, by rw [HY.out], Lib.hid rfl, Below.refl _ _⟩
  case round =>
    obtain ⟨q, hq, rfl, rfl, rfl, hL, hbel⟩ := hrel
    have Hbel := Lib.hid hbel
    clear hlook
    cases hmq : m q with
    | some v =>
      have hval : Tm.val m q = v := by unfold Tm.val; rw [hmq]
      have hfin : Hid (Rgs wr F v (L p)) := Lib.hid (by rw [← hL.out]; exact (HV.out q v hmq).below hbel)
      rw [hval]
      clear hval hmq hbel hB
      go_wp2_with fail
      go_ret
      exact ⟨_, rfl, hfin.out, Hbel.out⟩
    | none =>
      have hval : Tm.val m q = .slice none 0 0 := by unfold Tm.val; rw [hmq]
      rw [hval]
      have ea := str_nil q
      have ia := str_empty q
      by_cases h0 : q = []
      · have hfin : Hid (Rgs wr F (.slice none 0 0) (L p)) := Lib.hid (by rw [← hL.out, h0, (HN.out q hmq).1 h0]; exact Rws.none _ _ _)
        rw [decide_eq_true h0] at ea ia
        clear hval hmq hbel h0 hB
        generalize mk q = qs at *
        go_wp2_with fail
        go_ret
        exact ⟨_, rfl, hfin.out, Hbel.out⟩
      · have hL2 : Hid (L (Pth.parent q) = L p) := Lib.hid (by rw [← hL.out]; exact ((HN.out q hmq).2 h0).symm)
        have hsh := Pth.parent_short h0
        have hpl : (Pth.parent q).length ≤ 100000 := by omega
        have PQ := Lib.hid (PA.out q hq)
        have hms : Hid (strLen (.string (mk (Pth.parent q))) < strLen (.string (mk q))) := Lib.hid (by show (mk (Pth.parent q)).size < (mk q).size; rw [mk_len, mk_len]; exact hsh)
        rw [decide_eq_false h0] at ea ia
        have LK2 := Lib.hid (fun W hW => LK.out W hW (Pth.parent q) hpl)
        have Hpl : Hid ((Pth.parent q).length ≤ 100000) := Lib.hid hpl
        generalize hpq : Pth.parent q = pq at *
        clear hval hmq hbel h0 hsh hpq hpl hB
        obtain ⟨qs, hqs⟩ : ∃ qs, qs = mk q := ⟨_, rfl⟩
        rw [← hqs] at ea ia PQ hms ⊢
        clear hqs
        go_wp2_with fail
        refine (PQ.out _).mono ?_
        rintro e w1 ⟨rfl, hb1⟩
        have HB1 := Lib.hid (Hbel.out.trans (hb1.mono Hbel.out.size))
        have hB := CB.out _ HB1.out
        have hlook := LK2.out _ HB1.out
        clear hb1
        generalize hx : Tm.val m pq = x at hlook
        generalize hy : (m pq).isSome = y at hlook
        have HX := Lib.hid hx
        have HY := Lib.hid hy
        clear hx hy
        obtain ⟨qs2, hqs2⟩ : ∃ qs, qs = mk pq := ⟨_, rfl⟩
        rw [← hqs2] at hlook hms ⊢
        have HQ2 := Lib.hid hqs2
        clear hqs2
        go_wp2_with fail
        exact ⟨⟨pq, Hpl.out, by rw [HQ2.out], HX.out.symm, by rw [HY.out], hL2, HB1.out⟩, hms.out⟩
end Go.Proofs.YtabnfaonlkipbaaGreatDoor
/- The landed filter: Check, All, Sizes. -/
set_option linter.unusedSimpArgs false
set_option linter.unusedVariables false
namespace Go.Proofs.YtabnfaonlkipbaaGreatDoor
open Go.RowKit

set_option maxRecDepth 100000 in
theorem Flt.first_at {f : List Flt.Cl} {n : Nat} {c : Flt.Cl} (hc : f[n]? = some c) : Flt.first (f.drop n) = if c.pre ≠ [] ∧ ¬ Pth.Right c.pre then 13 else if Flt.Right c then Flt.first (f.drop (n + 1)) else 2 := by
  obtain ⟨hl, he⟩ := List.getElem?_eq_some_iff.1 hc
  rw [List.drop_eq_getElem_cons hl, he]
  rfl

set_option maxRecDepth 100000 in
set_option maxHeartbeats 6400000 in
theorem flt_check {w : World} {F : Nat → Prop} {v : Value} {f : List Flt.Cl} (h : Cls w F v f) (hl : f.length ≤ 100000) (bf : ∀ c ∈ f, Flt.Bd c) :
    Calls Tryz.prog 9 #[v] w fun e w' => e = .returned (.int .i64 (Flt.check f)) ∧ Below w.heap.size w w' := by
  obtain ⟨A, cap, rfl, hcap⟩ := h.parts
  have H := Lib.hid h
  have HS : Hid (∀ c ∈ f, c.pre.length ≤ 100000) := Lib.hid (fun c hc => (bf c hc).1)
  have hl' : (f.length : Int) ≤ 100000 := by omega
  clear h bf
  by_cases h8 : 8 < f.length
  · have hfin : Hid (Flt.check f = 4) := Lib.hid (by unfold Flt.check; rw [if_pos h8])
    have g8 : (8 : Int) < (f.length : Int) := by omega
    go_enter Tryz.func9, Tryz.ntmps9
    go_wp2_with fail
    go_ret
    exact ⟨by rw [hfin.out]; rfl, Below.refl _ _⟩
  · have hfin : Hid (Flt.check f = Flt.first (f.drop 0)) := Lib.hid (by unfold Flt.check; rw [if_neg h8]; rfl)
    have g8 : ¬ (8 : Int) < (f.length : Int) := by omega
    go_enter Tryz.func9, Tryz.ntmps9
    go_wp2_with fail
    go_loopw [4, 10] (fun _ i wr => ∃ n : Nat, n ≤ f.length ∧ i = .int .i64 (n : Int) ∧ Hid (Flt.check f = Flt.first (f.drop n)) ∧ Below w.heap.size w wr) (fun _ i _ => f.length - (intOf i).toNat)
    case atStart => exact ⟨0, Nat.zero_le _, rfl, hfin, Below.refl _ _⟩
    case round =>
      obtain ⟨n, hn, rfl, hck, hbel⟩ := hrel
      by_cases hlt : n < f.length
      · obtain ⟨b, o, cap', e, -, -, hb⟩ := H.out.block (by omega)
        injection e with e1 e2 e3
        subst e1 e3
        clear e2
        obtain ⟨x, hx⟩ : ∃ x, f[n]? = some x := ⟨_, List.getElem?_eq_getElem hlt⟩
        have hpx := HS.out x (List.mem_of_getElem? hx)
        have hn0 : (0 : Int) ≤ (n : Int) := by omega
        have hn1 : (n : Int) < (f.length : Int) := by omega
        have CA : Hid (∀ W, Below w.heap.size w W → W.cell? ⟨b, o + n * 3, none⟩ = some (.string (mk x.pre)) ∧ W.cell? ⟨b, o + n * 3 + 1, none⟩ = some (.int .i64 x.lo) ∧ W.cell? ⟨b, o + n * 3 + 2, none⟩ = some (.int .i64 x.hi)) := Lib.hid (fun W hW => Cls.at (H.out.below hW) hx)
        obtain ⟨c0, c1, c2⟩ := CA.out wr hbel
        have hst := Lib.hid (Flt.first_at hx)
        obtain ⟨p, lo, hi⟩ := x
        simp only at c0 c1 c2 hpx CA
        have hst : Hid (Flt.first (f.drop n) = if p ≠ [] ∧ ¬ Pth.Right p then 13 else if Flt.Right ⟨p, lo, hi⟩ then Flt.first (f.drop (n + 1)) else 2) := hst
        have PC := Lib.hid (fun (W : World) => path_ok.check p W hpx)
        have ea := str_nil p
        have ia := str_empty p
        have hD : Hid (decide (Flt.Right ⟨p, lo, hi⟩) = ((decide (p = []) || decide (Pth.Right p)) && (decide (0 ≤ lo) && (decide (lo ≤ hi) && decide (hi ≤ 200))))) := Lib.hid (by rw [Bool.eq_iff_iff]; refine decide_eq_true_iff.trans ?_; simp only [Flt.Right, decide_eq_true_iff, Bool.and_eq_true, Bool.or_eq_true])
        have Hbel := Lib.hid hbel
        have Hbx := Lib.hid (Row.made wr 42 #[.string (mk p), .int .i64 lo, .int .i64 hi])
        have hz : wr.heap.size < (wr.alloc (.cells #[.string (mk p), .int .i64 lo, .int .i64 hi] 42)).heap.size := by simp
        have Hz := Lib.hid hz
        have HB1 : Hid (Below w.heap.size w (wr.alloc (.cells #[.string (mk p), .int .i64 lo, .int .i64 hi] 42))) := Lib.hid (hbel.alloc hbel.size _)
        clear hbel hx hz CA
        by_cases hp : p ≠ [] ∧ ¬ Pth.Right p
        · have hck2 : Hid (Flt.check f = 13) := Lib.hid (by rw [hck.out, hst.out, if_pos hp])
          rw [decide_eq_false hp.1] at ea ia
          have PC : Hid (∀ W, Calls Tryz.prog 19 #[.string (mk p)] W fun e w' => e = .returned (.int .i64 13) ∧ Below W.heap.size W w') := Lib.hid (fun W => by have := PC.out W; rwa [if_neg hp.2] at this)
          clear hst hp hD hck
          generalize mk p = ps at *
          go_wp2_with fail
          refine (PC.out _).mono ?_
          rintro e w2 ⟨rfl, hb2⟩
          have HB2 := Lib.hid (HB1.out.trans (hb2.mono HB1.out.size))
          clear hb2
          go_wp2_with fail
          go_ret
          exact ⟨by rw [hck2.out]; rfl, HB2.out⟩
        · have hst2 : Hid (Flt.check f = if decide (Flt.Right ⟨p, lo, hi⟩) = true then Flt.first (f.drop (n + 1)) else 2) := Lib.hid (by
            rw [hck.out, hst.out, if_neg hp]
            by_cases hr : Flt.Right ⟨p, lo, hi⟩
            · rw [if_pos hr, if_pos (decide_eq_true hr)]
            · rw [if_neg hr, if_neg (by simpa using hr)])
          have hD2 : Hid (decide (Flt.Right ⟨p, lo, hi⟩) = (decide (0 ≤ lo) && (decide (lo ≤ hi) && decide (hi ≤ 200)))) := Lib.hid (by
            rw [hD.out]
            by_cases h1 : p = []
            · rw [decide_eq_true h1]; rfl
            · rw [decide_eq_true (Classical.byContradiction fun k => hp ⟨h1, k⟩), Bool.or_true, Bool.true_and])
          rw [hD2.out] at hst2
          clear hst hD hD2 hck
          by_cases h1 : p = []
          · rw [decide_eq_true h1] at ea ia
            clear hp h1 PC
            generalize mk p = ps at *
            by_cases k1 : lo < 0
            · have hno : Hid (Flt.check f = 2) := Lib.hid (by rw [hst2.out, if_neg]; simp only [Bool.and_eq_true, decide_eq_true_eq]; omega)
              clear hst2
              have : decide (lo < (0 : Int)) = true := decide_eq_true (by omega)
              go_wp2_with fail
              go_ret
              exact ⟨by rw [hno.out]; rfl, HB1.out⟩
            · by_cases k2 : hi < lo
              · have hno : Hid (Flt.check f = 2) := Lib.hid (by rw [hst2.out, if_neg]; simp only [Bool.and_eq_true, decide_eq_true_eq]; omega)
                clear hst2
                have : decide (lo < (0 : Int)) = false := decide_eq_false (by omega)
                have : decide (hi < lo) = true := decide_eq_true (by omega)
                go_wp2_with fail
                go_ret
                exact ⟨by rw [hno.out]; rfl, HB1.out⟩
              · by_cases k3 : 200 < hi
                · have hno : Hid (Flt.check f = 2) := Lib.hid (by rw [hst2.out, if_neg]; simp only [Bool.and_eq_true, decide_eq_true_eq]; omega)
                  clear hst2
                  have : decide (lo < (0 : Int)) = false := decide_eq_false (by omega)
                  have : decide (hi < lo) = false := decide_eq_false (by omega)
                  have : decide ((200 : Int) < hi) = true := decide_eq_true (by omega)
                  go_wp2_with fail
                  go_ret
                  exact ⟨by rw [hno.out]; rfl, HB1.out⟩
                · have hnext : Hid (Flt.check f = Flt.first (f.drop (n + 1))) := Lib.hid (by rw [hst2.out, if_pos]; simp only [Bool.and_eq_true, decide_eq_true_eq]; omega)
                  clear hst2
                  have : decide (lo < (0 : Int)) = false := decide_eq_false (by omega)
                  have : decide (hi < lo) = false := decide_eq_false (by omega)
                  have : decide ((200 : Int) < hi) = false := decide_eq_false (by omega)
                  go_wp2_with fail
                  exact ⟨⟨n + 1, by omega, by go_num, hnext, HB1.out⟩, by show f.length - ((n : Int) + 1).toNat < f.length - (n : Int).toNat; omega⟩
          · rw [decide_eq_false h1] at ea ia
            have PC : Hid (∀ W, Calls Tryz.prog 19 #[.string (mk p)] W fun e w' => e = .returned (.int .i64 0) ∧ Below W.heap.size W w') := Lib.hid (fun W => by have := PC.out W; rwa [if_pos (Classical.byContradiction fun k => hp ⟨h1, k⟩)] at this)
            clear hp h1
            generalize mk p = ps at *
            by_cases k1 : lo < 0
            · have hno : Hid (Flt.check f = 2) := Lib.hid (by rw [hst2.out, if_neg]; simp only [Bool.and_eq_true, decide_eq_true_eq]; omega)
              clear hst2
              have : decide (lo < (0 : Int)) = true := decide_eq_true (by omega)
              go_wp2_with fail
              refine (PC.out _).mono ?_
              rintro e w2 ⟨rfl, hb2⟩
              have HB2 := Lib.hid (HB1.out.trans (hb2.mono HB1.out.size))
              have q1 : w2.cell? ⟨wr.heap.size, 1, none⟩ = some (.int .i64 lo) := (hb2.cell (p := ⟨wr.heap.size, 1, none⟩) Hz.out).trans (Hbx.out.at 1)
              have q2 : w2.cell? ⟨wr.heap.size, 2, none⟩ = some (.int .i64 hi) := (hb2.cell (p := ⟨wr.heap.size, 2, none⟩) Hz.out).trans (Hbx.out.at 2)
              clear hb2
              go_wp2_with fail
              go_ret
              exact ⟨by rw [hno.out]; rfl, HB2.out⟩
            · by_cases k2 : hi < lo
              · have hno : Hid (Flt.check f = 2) := Lib.hid (by rw [hst2.out, if_neg]; simp only [Bool.and_eq_true, decide_eq_true_eq]; omega)
                clear hst2
                have : decide (lo < (0 : Int)) = false := decide_eq_false (by omega)
                have : decide (hi < lo) = true := decide_eq_true (by omega)
                go_wp2_with fail
                refine (PC.out _).mono ?_
                rintro e w2 ⟨rfl, hb2⟩
                have HB2 := Lib.hid (HB1.out.trans (hb2.mono HB1.out.size))
                have q1 : w2.cell? ⟨wr.heap.size, 1, none⟩ = some (.int .i64 lo) := (hb2.cell (p := ⟨wr.heap.size, 1, none⟩) Hz.out).trans (Hbx.out.at 1)
                have q2 : w2.cell? ⟨wr.heap.size, 2, none⟩ = some (.int .i64 hi) := (hb2.cell (p := ⟨wr.heap.size, 2, none⟩) Hz.out).trans (Hbx.out.at 2)
                clear hb2
                go_wp2_with fail
                go_ret
                exact ⟨by rw [hno.out]; rfl, HB2.out⟩
              · by_cases k3 : 200 < hi
                · have hno : Hid (Flt.check f = 2) := Lib.hid (by rw [hst2.out, if_neg]; simp only [Bool.and_eq_true, decide_eq_true_eq]; omega)
                  clear hst2
                  have : decide (lo < (0 : Int)) = false := decide_eq_false (by omega)
                  have : decide (hi < lo) = false := decide_eq_false (by omega)
                  have : decide ((200 : Int) < hi) = true := decide_eq_true (by omega)
                  go_wp2_with fail
                  refine (PC.out _).mono ?_
                  rintro e w2 ⟨rfl, hb2⟩
                  have HB2 := Lib.hid (HB1.out.trans (hb2.mono HB1.out.size))
                  have q1 : w2.cell? ⟨wr.heap.size, 1, none⟩ = some (.int .i64 lo) := (hb2.cell (p := ⟨wr.heap.size, 1, none⟩) Hz.out).trans (Hbx.out.at 1)
                  have q2 : w2.cell? ⟨wr.heap.size, 2, none⟩ = some (.int .i64 hi) := (hb2.cell (p := ⟨wr.heap.size, 2, none⟩) Hz.out).trans (Hbx.out.at 2)
                  clear hb2
                  go_wp2_with fail
                  go_ret
                  exact ⟨by rw [hno.out]; rfl, HB2.out⟩
                · have hnext : Hid (Flt.check f = Flt.first (f.drop (n + 1))) := Lib.hid (by rw [hst2.out, if_pos]; simp only [Bool.and_eq_true, decide_eq_true_eq]; omega)
                  clear hst2
                  have : decide (lo < (0 : Int)) = false := decide_eq_false (by omega)
                  have : decide (hi < lo) = false := decide_eq_false (by omega)
                  have : decide ((200 : Int) < hi) = false := decide_eq_false (by omega)
                  go_wp2_with fail
                  refine (PC.out _).mono ?_
                  rintro e w2 ⟨rfl, hb2⟩
                  have HB2 := Lib.hid (HB1.out.trans (hb2.mono HB1.out.size))
                  have q1 : w2.cell? ⟨wr.heap.size, 1, none⟩ = some (.int .i64 lo) := (hb2.cell (p := ⟨wr.heap.size, 1, none⟩) Hz.out).trans (Hbx.out.at 1)
                  have q2 : w2.cell? ⟨wr.heap.size, 2, none⟩ = some (.int .i64 hi) := (hb2.cell (p := ⟨wr.heap.size, 2, none⟩) Hz.out).trans (Hbx.out.at 2)
                  clear hb2
                  go_wp2_with fail
                  exact ⟨⟨n + 1, by omega, by go_num, hnext, HB2.out⟩, by show f.length - ((n : Int) + 1).toNat < f.length - (n : Int).toNat; omega⟩
      · obtain rfl : n = f.length := by omega
        rw [List.drop_length] at hck
        have Hbel := Lib.hid hbel
        clear hbel
        go_wp2_with fail
        go_ret
        exact ⟨by rw [hck.out]; rfl, Hbel.out⟩

end Go.Proofs.YtabnfaonlkipbaaGreatDoor
/- The landed filter: Match, Equal. -/
set_option linter.unusedSimpArgs false
set_option linter.unusedVariables false
namespace Go.Proofs.YtabnfaonlkipbaaGreatDoor
open Go.RowKit Go.Shelf Go.Lib

set_option maxRecDepth 100000 in
theorem hit_holds (p : List UInt8) (s : Int) (d : Bool) (c : Flt.Cl) : Flt.hit p s d c = (decide (Pth.Covers c.pre p) && (d || Sz.holds [(c.lo, c.hi)] s)) := by
  unfold Flt.hit
  congr 2
  rw [Sz.holds_cons, Sz.holds_nil, Bool.or_false, Bool.eq_iff_iff]
  simp only [Bool.and_eq_true, decide_eq_true_eq]
  constructor
  · rintro ⟨a, b, c, d⟩; exact ⟨⟨a, b⟩, c, d⟩
  · rintro ⟨⟨a, b⟩, c, d⟩; exact ⟨a, b, c, d⟩

instance : Inhabited Flt.Cl := ⟨⟨[], 0, 0⟩⟩

/-- Clauses that are in bounds, as elements of their own. -/
abbrev BCl := { c : Flt.Cl // Flt.Bd c }
def bclV (c : BCl) : List Value := clV c.1
instance : Inhabited BCl := ⟨⟨⟨[], 0, 0⟩, ⟨by simp, by unfold Go.Proofs.YtabnfaonlkipbaaGreatDoor.Bd Flt.rg; simp⟩⟩⟩

/-! ### The very same lists -/
set_option maxRecDepth 100000 in
theorem rg_equalIn (w : World) (x1 x2 y1 y2 : Int) : (Op.equalIn 9999 40 (.agg #[.int .i64 x1, .int .i64 x2]) (.agg #[.int .i64 y1, .int .i64 y2])).run Tryz.prog w = .ok (decide (x1 = y1 ∧ x2 = y2)) w := by
  have hS : Tryz.prog.underlying 40 = some (.struct (Tryz.prog.fieldsOf 40)) := by kernel_rfl
  have hp : Tryz.prog.stoodInHeld 40 = false := by kernel_rfl
  have u3 := Tryz.underlying3
  have a3 := Tryz.isAgg3
  have z3 := Tryz.sizeOf3
  rw [show (9999 : Nat) = 9998 + 1 from rfl, run_equalIn_agg w 9998 40 _ _ hS hp]
  simp only [Program.fieldsOf, Tryz.underlying40]
  go_simp
  by_cases h1 : x1 = y1 <;> by_cases h2 : x2 = y2 <;> simp [h1, h2]
set_option maxRecDepth 100000 in
theorem cl_neq : NeqAt Tryz.prog 42 (fun x : Flt.Cl => .agg (clV x).toArray) (fun x y => decide (x = y)) := by
  refine ⟨fun x y w => ?_, GuardAt.agg _ (by kernel_rfl)⟩
  have hS : Tryz.prog.underlying 42 = some (.struct (Tryz.prog.fieldsOf 42)) := by kernel_rfl
  have hp : Tryz.prog.stoodInHeld 42 = false := by kernel_rfl
  have u9 := Tryz.underlying9
  have a9 := Tryz.isAgg9
  have z9 := Tryz.sizeOf9
  have a27 := Tryz.isAgg40
  have z27 := Tryz.sizeOf40
  obtain ⟨xp, x1, x2⟩ := x
  obtain ⟨yp, y1, y2⟩ := y
  have es := str_same xp yp
  have hR := fun w => rg_equalIn w x1 x2 y1 y2
  simp only [clV]
  rw [run_neq_struct, show (10000 : Nat) = 9999 + 1 from rfl, run_equalIn_agg w 9999 42 _ _ hS hp]
  simp only [Program.fieldsOf, Tryz.underlying42]
  have hT : ∀ (w : World) (a b : ByteArray), (Op.equalIn 9999 9 (.string a) (.string b)).run Tryz.prog w = .ok (a.toList == b.toList) w := fun w a b => run_equalIn_string w 9998 9 a b u9
  simp only [Op.eqFields]
  generalize Op.equalIn 9999 = EQ at hR hT ⊢
  generalize mk xp = xs at *
  generalize mk yp = ys at *
  go_simp
  by_cases h0 : xp = yp <;> by_cases h1 : x1 = y1 <;> by_cases h2 : x2 = y2 <;> simp [h0, h1, h2, es]
set_option maxRecDepth 100000 in
theorem call_eq : ∀ (a b : List Flt.Cl), Lib.allEq (fun x y : Flt.Cl => decide (x = y)) a b = decide (a = b)
  | [], [] => rfl
  | [], y :: b => by rw [Lib.allEq_len _ _ _ (by simp)]; simp
  | x :: a, [] => by rw [Lib.allEq_len _ _ _ (by simp)]; simp
  | x :: a, y :: b => by
    show (decide (x = y) && Lib.allEq (fun x y : Flt.Cl => decide (x = y)) a b) = _
    rw [call_eq a b]
    simp

end Go.Proofs.YtabnfaonlkipbaaGreatDoor
/- A call's own slice of elements of several cells, as the library's sort speaks of it. No program is spoken of. -/
namespace Go.Proofs.YtabnfaonlkipbaaGreatDoor
open Go.RowKit Go.Sort

section
variable {α : Type} [Inhabited α] {enc : α → List Value} {k : Nat}

set_option maxRecDepth 100000 in
theorem flat_list (hk : ∀ x, (enc x).length = k) (h0 : 0 < k) (d : Array α) : (flatK enc k d).toList = d.toList.flatMap enc := by
  apply List.ext_getElem?
  intro j
  by_cases hj : j < d.size * k
  · have hq : j / k < d.size := Nat.div_lt_of_lt_mul (by rwa [Nat.mul_comm])
    have hr : j % k < k := Nat.mod_lt _ h0
    have e := get_flatK enc k d j hj
    have hs : j < (flatK enc k d).size := by rw [size_flatK]; exact hj
    rw [Array.getElem?_toList, Array.getElem?_eq_getElem hs, ← getElem!_pos (flatK enc k d) j hs, e]
    have hx : d.toList[j / k]? = some d[j / k]! := by rw [Array.getElem?_toList, Array.getElem?_eq_getElem hq, getElem!_pos d _ hq]
    have hl : j % k < (enc d[j / k]!).length := by rw [hk]; exact hr
    have hu : (enc d[j / k]!)[j % k]? = some (enc d[j / k]!)[j % k]! := by rw [List.getElem?_eq_getElem hl, getElem!_pos (enc d[j / k]!) _ hl]
    have h1 := rows_at d.toList (fun x _ => hk x) (j / k) _ hx (j % k) _ hu
    rw [← h1]
    congr 1
    exact Nat.div_add_mod' j k
  · have h2 := rows_len d.toList (fun x _ => hk x)
    rw [List.getElem?_eq_none (by simp; omega), List.getElem?_eq_none (by rw [h2]; simp; omega)]

set_option maxRecDepth 100000 in
/-- Down: the row holds the elements. -/
theorem own_holds (hk : ∀ x, (enc x).length = k) (h0 : 0 < k) {w : World} {base t n g cap : Nat} {l : List α} (h : w.ownsRow base t k (.slice (some ⟨g, 0, none⟩) n cap) n (l.flatMap enc)) : HoldsK enc k w g 0 l.toArray := by
  intro j hj
  rw [size_flatK] at hj
  have hl : l.length * k = n * k := by rw [← rows_len l (fun x _ => hk x)]; exact h.1
  have hj2 : j < n * k := by rw [← hl]; simpa using hj
  refine ⟨?_, ?_⟩
  · rw [Nat.zero_add, h.cellAt j hj2]
    have hs : j < (flatK enc k l.toArray).size := by rw [size_flatK]; exact hj
    have e : (flatK enc k l.toArray).toList[j]? = some (flatK enc k l.toArray)[j]! := by rw [Array.getElem?_toList, Array.getElem?_eq_getElem hs, getElem!_pos (flatK enc k l.toArray) j hs]
    rw [flat_list hk h0] at e
    exact e
  · rw [Nat.zero_add]
    exact h.frozenAt j

set_option maxRecDepth 100000 in
theorem heap_sortK {w : World} {g n : Nat} {os : Array Obj} {cur : Array Value} {e : TypeId} {fr : Nat × Nat} (d : Array α) (hb : w.heap[g]? = some (.cells cur e fr)) :
    (Go.Proofs.sortWorldK enc k w g 0 n d os).heap[g]? = some (.cells (putCells id 0 (flatK enc k d) cur) e fr) := by
  have hg : g < w.heap.size := (Array.getElem?_eq_some_iff.1 hb).1
  unfold Go.Proofs.sortWorldK putRowK
  rw [heap_grow_old _ _ (by simpa using hg)]
  simp [putRow, mapBlock, Sort.ahead, Array.getElem?_modify, hb, onCells]

set_option maxRecDepth 100000 in
theorem grown_sortK {w : World} {g n : Nat} {os : Array Obj} (d : Array α) : w.grownBy (Go.Proofs.sortWorldK enc k w g 0 n d os) (some g) := by
  unfold Go.Proofs.sortWorldK putRowK
  refine ⟨rfl, rfl, rfl, by simp, fun j hj hne => ?_⟩
  rw [heap_grow_old _ _ (by simpa using hj)]
  have : g ≠ j := fun e => hne (by rw [e])
  simp [putRow, mapBlock, Sort.ahead, Array.getElem?_modify, this]

set_option maxRecDepth 100000 in
theorem take_put (cur F : Array Value) (h : F.size ≤ cur.size) : (putCells id 0 F cur).toList.take F.size = F.toList := by
  apply List.ext_getElem?
  intro j
  by_cases hj : j < F.size
  · rw [List.getElem?_take_of_lt hj, Array.getElem?_toList]
    simp [putCells, hj, show j < cur.size by omega]
  · rw [List.getElem?_take_eq_none (by omega), List.getElem?_eq_none (by simpa using hj)]

set_option maxRecDepth 100000 in
/-- Up: behind the sort the same slice owns what stands in the row. -/
theorem own_sorted (hk : ∀ x, (enc x).length = k) (h0 : 0 < k) {w : World} {base t n m g cap : Nat} {l : List α} {d : Array α} {os : Array Obj} (h : w.ownsRow base t k (.slice (some ⟨g, 0, none⟩) n cap) n (l.flatMap enc)) (hd : d.size = n) :
    (Go.Proofs.sortWorldK enc k w g 0 m d os).ownsRow base t k (.slice (some ⟨g, 0, none⟩) n cap) n (d.toList.flatMap enc) := by
  refine ⟨by rw [rows_len d.toList (fun x _ => hk x)]; simp [hd], ?_⟩
  rcases h.2 with ⟨e, -⟩ | ⟨g2, cap2, cur, e, hb, hg, hc, hm, hs, ht⟩
  · cases e
  · injection e with e1 e2 e3
    injection e1 with e1
    injection e1 with e1
    subst e1 e3
    refine .inr ⟨g, cap, _, rfl, hb, heap_sortK d hg, hc, hm, by simp [putCells, hs], ?_⟩
    have hf : (flatK enc k d).size = n * k := by rw [size_flatK, hd]
    rw [← hf, take_put cur _ (by rw [hf, hs]; exact Nat.mul_le_mul_right _ hc), flat_list hk h0]

set_option maxRecDepth 100000 in
theorem RowsOwn.sorted (hk : ∀ x, (enc x).length = k) (h0 : 0 < k) {w wr : World} {t m g cap : Nat} {l : List α} {d : Array α} {os : Array Obj} (h : RowsOwn t k enc w l (.slice (some ⟨g, 0, none⟩) l.length cap) wr) (hd : d.size = l.length) :
    RowsOwn t k enc w d.toList (.slice (some ⟨g, 0, none⟩) l.length cap) (Go.Proofs.sortWorldK enc k wr g 0 m d os) := by
  have hg := h.1.lt g rfl
  refine ⟨?_, h.2.grown (grown_sortK d) h.2.size (fun j hj => by injection hj with hj; omega)⟩
  have h1 := own_sorted (m := m) (os := os) hk h0 h.1 hd
  have e : d.toList.length = l.length := by simpa using hd
  rw [e]
  exact h1

set_option maxRecDepth 100000 in
theorem perm_list {l : List α} {d : Array α} (h : PermIn 0 l.toArray.size l.toArray d) : d.toList.Perm l ∧ d.size = l.length := by
  obtain ⟨h1, -, h3⟩ := h
  have hs : d.size = l.length := by simpa using h1
  refine ⟨?_, hs⟩
  have e1 : d.extract 0 l.toArray.size = d := by rw [← h1]; exact Array.extract_size
  have e2 : l.toArray.extract 0 l.toArray.size = l.toArray := Array.extract_size
  rw [e1, e2] at h3
  exact h3
end
end Go.Proofs.YtabnfaonlkipbaaGreatDoor
