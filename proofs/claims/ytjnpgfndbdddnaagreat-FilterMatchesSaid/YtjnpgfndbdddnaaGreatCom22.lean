/- The document's own answers of layer 9: Match. -/
import Derived.Test.YtjnpgfndbdddnaaGreatCom9
import Derived.Deep.QuietTactic
set_option linter.unusedSimpArgs false
set_option linter.unusedVariables false
namespace Go.Proofs.YtjnpgfndbdddnaaGreat
open Go.RowKit

set_option maxRecDepth 100000 in
set_option maxHeartbeats 6400000 in
theorem ref_fmatch {w : World} {F : Nat → Prop} {v : Value} {f : List Flt.Cl} (p : List UInt8) (s : Int) (d : Bool) (h : Cls w F v f) (hl : f.length ≤ 1000000) (hp : p.length ≤ 100000) (hs : ∀ c ∈ f, c.pre.length ≤ 100000) :
    Calls Tryz.prog 13 #[v, fileV p s d] w fun e w' => e = .returned (.bool (Flt.hits f p s d)) ∧ Below w.heap.size w w' := by
  obtain ⟨A, cap, rfl, hcap⟩ := h.parts
  have hb0 : Below w.heap.size w (w.alloc (.cells #[.string (mk p), .int .i64 s, .bool d] 34)) := (Below.refl _ _).alloc (Nat.le_refl _) _
  have HB0 := Lib.hid hb0
  have H := Lib.hid (h.below hb0)
  have HS := Lib.hid hs
  have COV := Lib.hid (fun (q : List UInt8) (hq : q.length ≤ 100000) (W : World) => ref_covers0 q p W hq hp)
  have hl' : (f.length : Int) ≤ 1000000 := by omega
  have XA := Lib.hid (Row.made w 34 #[.string (mk p), .int .i64 s, .bool d])
  clear h hs hb0
  unfold fileV
  go_enter Tryz.func13, Tryz.ntmps13
  go_wp2_with fail
  generalize hW : w.alloc (.cells #[.string (mk p), .int .i64 s, .bool d] 34) = w0 at *
  have hg : w.heap.size < w0.heap.size := by rw [← hW]; simp
  clear hW
  generalize hgw : w.heap.size = g at *
  have Hgw := Lib.hid hgw
  clear hgw
  go_loopw [5] (fun i wr => ∃ n : Nat, n ≤ f.length ∧ i = .int .i64 (n : Int) ∧ Hid (Flt.hits (f.take n) p s d = false) ∧ Below w0.heap.size w0 wr) (fun i _ => f.length - (intOf i).toNat)
  case atStart => exact ⟨0, Nat.zero_le _, rfl, Lib.hid (by simp [Flt.hits]), Below.refl _ _⟩
  case round =>
    obtain ⟨n, hn, rfl, hno, hbel⟩ := hrel
    have r0 : wr.cell? ⟨g, 0, none⟩ = some (.string (mk p)) := (hbel.cell (p := ⟨g, 0, none⟩) hg).trans (XA.out.at 0)
    have r1 : wr.cell? ⟨g, 1, none⟩ = some (.int .i64 s) := (hbel.cell (p := ⟨g, 1, none⟩) hg).trans (XA.out.at 1)
    have r2 : wr.cell? ⟨g, 2, none⟩ = some (.bool d) := (hbel.cell (p := ⟨g, 2, none⟩) hg).trans (XA.out.at 2)
    by_cases hlt : n < f.length
    · obtain ⟨b, o, cap', e, -, -, hb⟩ := H.out.block (by omega)
      injection e with e1 e2 e3
      subst e1 e3
      clear e2
      obtain ⟨x, hx⟩ : ∃ x, f[n]? = some x := ⟨_, List.getElem?_eq_getElem hlt⟩
      have hpx := HS.out x (List.mem_of_getElem? hx)
      have hn0 : (0 : Int) ≤ (n : Int) := by omega
      have hn1 : (n : Int) < (f.length : Int) := by omega
      have CA : Hid (∀ W, Below w0.heap.size w0 W → W.cell? ⟨b, o + n * 3, none⟩ = some (.string (mk x.pre)) ∧ W.cell? ⟨b, o + n * 3 + 1, none⟩ = some (.int .i64 x.lo) ∧ W.cell? ⟨b, o + n * 3 + 2, none⟩ = some (.int .i64 x.hi)) := Lib.hid (fun W hW => Cls.at (H.out.below hW) hx)
      obtain ⟨c0, c1, c2⟩ := CA.out wr hbel
      have hst := Lib.hid (Flt.hits_take hx p s d)
      have hmo := Lib.hid (Flt.hits_mono (f := f) (n := n + 1) (p := p) (s := s) (d := d))
      obtain ⟨xp, x1, x2⟩ := x
      simp only at c0 c1 c2 hpx
      have CV := Lib.hid (COV.out xp hpx)
      have Hbel := Lib.hid hbel
      clear hbel hx COV CA
      have hD : Hid (Flt.hit p s d ⟨xp, x1, x2⟩ = (decide (Pth.Covers xp p) && (d || (decide (0 ≤ s) && (decide (s ≤ 200) && (decide (x1 ≤ s) && decide (s ≤ x2))))))) := Lib.hid (by rw [Bool.eq_iff_iff]; unfold Flt.hit; simp only [decide_eq_true_iff, Bool.and_eq_true, Bool.or_eq_true])
      have hall : Hid (Flt.hits (f.take (n + 1)) p s d = Flt.hit p s d ⟨xp, x1, x2⟩) := Lib.hid (by rw [hst.out, hno.out, Bool.false_or])
      generalize Flt.hit p s d ⟨xp, x1, x2⟩ = D at *
      generalize decide (Pth.Covers xp p) = d1 at *
      have e3 : ∀ b, decide ((0 : Int) ≤ s) = b → decide (s ≥ (0 : Int)) = b := fun b h => h
      generalize e1 : decide ((0 : Int) ≤ s) = d2 at hD
      generalize e2 : decide (s ≤ (200 : Int)) = d3 at hD
      generalize e4 : decide (x1 ≤ s) = d4 at hD
      generalize e5 : decide (s ≤ x2) = d5 at hD
      clear hst hno e3
      generalize mk xp = xs at *
      generalize mk p = ps at *
      cases d1
      · go_wp2_with fail
        go_quiet ((go_at_call 34; exact Calls.quiet_of_same (CV.out _)))
        go_wp2_with fail
        exact ⟨⟨n + 1, by omega, by go_num, Lib.hid (by rw [hall.out, hD.out]; rfl), Hbel.out.trans ((below_drews' wr nq).mono Hbel.out.size)⟩, by show f.length - ((n : Int) + 1).toNat < f.length - (n : Int).toNat; omega⟩
      · cases d
        · cases d2
          · go_wp2_with fail
            go_quiet ((go_at_call 34; exact Calls.quiet_of_same (CV.out _)))
            go_wp2_with fail
            exact ⟨⟨n + 1, by omega, by go_num, Lib.hid (by rw [hall.out, hD.out]; rfl), Hbel.out.trans ((below_drews' wr nq).mono Hbel.out.size)⟩, by show f.length - ((n : Int) + 1).toNat < f.length - (n : Int).toNat; omega⟩
          · cases d3
            · go_wp2_with fail
              go_quiet ((go_at_call 34; exact Calls.quiet_of_same (CV.out _)))
              go_wp2_with fail
              exact ⟨⟨n + 1, by omega, by go_num, Lib.hid (by rw [hall.out, hD.out]; rfl), Hbel.out.trans ((below_drews' wr nq).mono Hbel.out.size)⟩, by show f.length - ((n : Int) + 1).toNat < f.length - (n : Int).toNat; omega⟩
            · cases d4
              · go_wp2_with fail
                go_quiet ((go_at_call 34; exact Calls.quiet_of_same (CV.out _)))
                go_wp2_with fail
                exact ⟨⟨n + 1, by omega, by go_num, Lib.hid (by rw [hall.out, hD.out]; rfl), Hbel.out.trans ((below_drews' wr nq).mono Hbel.out.size)⟩, by show f.length - ((n : Int) + 1).toNat < f.length - (n : Int).toNat; omega⟩
              · cases d5
                · go_wp2_with fail
                  go_quiet ((go_at_call 34; exact Calls.quiet_of_same (CV.out _)))
                  go_wp2_with fail
                  exact ⟨⟨n + 1, by omega, by go_num, Lib.hid (by rw [hall.out, hD.out]; rfl), Hbel.out.trans ((below_drews' wr nq).mono Hbel.out.size)⟩, by show f.length - ((n : Int) + 1).toNat < f.length - (n : Int).toNat; omega⟩
                · go_wp2_with fail
                  go_quiet ((go_at_call 34; exact Calls.quiet_of_same (CV.out _)))
                  go_wp2_with fail
                  go_ret
                  exact ⟨by rw [hmo.out (by rw [hall.out, hD.out]; rfl)]; rfl, by rw [Hgw.out]; exact HB0.out.trans ((Hbel.out.trans ((below_drews' wr nq).mono Hbel.out.size)).mono (Nat.le_of_lt hg))⟩
        · go_wp2_with fail
          go_quiet ((go_at_call 34; exact Calls.quiet_of_same (CV.out _)))
          go_wp2_with fail
          go_ret
          exact ⟨by rw [hmo.out (by rw [hall.out, hD.out]; rfl)]; rfl, by rw [Hgw.out]; exact HB0.out.trans ((Hbel.out.trans ((below_drews' wr nq).mono Hbel.out.size)).mono (Nat.le_of_lt hg))⟩
    · obtain rfl : n = f.length := by omega
      have hno' : Hid (Flt.hits f p s d = false) := Lib.hid (by have := hno.out; rwa [List.take_length] at this)
      have Hbel := Lib.hid hbel
      clear hbel hno
      go_wp2_with fail
      go_ret
      exact ⟨by rw [hno'.out]; rfl, by rw [Hgw.out]; exact HB0.out.trans (Hbel.out.mono (Nat.le_of_lt hg))⟩
end Go.Proofs.YtjnpgfndbdddnaaGreat
