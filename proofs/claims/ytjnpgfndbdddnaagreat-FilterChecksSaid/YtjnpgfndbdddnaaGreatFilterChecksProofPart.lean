/- Which filters may be: FilterChecks's statement holds. -/
import Derived.Test.YtjnpgfndbdddnaaGreatCom9
import Derived.Test.YtjnpgfndbdddnaaGreatCom20
/- FilterChecks out of the contracts. -/
set_option linter.unusedSimpArgs false
set_option linter.unusedVariables false
namespace Go.Proofs.YtjnpgfndbdddnaaGreat
open Go.RowKit

def Flt.one (c : Flt.Cl) : Int := if c.pre ≠ [] ∧ ¬ Pth.Right c.pre then 13 else if Flt.Right c then 0 else 2
set_option maxRecDepth 100000 in
theorem Flt.first_cons (c : Flt.Cl) (l : List Flt.Cl) : Flt.first (c :: l) = if Flt.one c = 0 then Flt.first l else Flt.one c := by
  unfold Flt.one
  rw [Flt.first]
  by_cases h1 : c.pre ≠ [] ∧ ¬ Pth.Right c.pre
  · rw [if_pos h1, if_pos h1, if_neg (by decide)]
  · rw [if_neg h1, if_neg h1]
    by_cases h2 : Flt.Right c
    · rw [if_pos h2, if_pos h2, if_pos rfl]
    · rw [if_neg h2, if_neg h2, if_neg (by decide)]
set_option maxRecDepth 100000 in
theorem Flt.first_app : ∀ (l m : List Flt.Cl), Flt.first (l ++ m) = if Flt.first l = 0 then Flt.first m else Flt.first l
  | [], m => by simp [Flt.first]
  | c :: l, m => by
    rw [List.cons_append, Flt.first_cons, Flt.first_cons, Flt.first_app l m]
    by_cases h : Flt.one c = 0
    · rw [if_pos h, if_pos h]
    · rw [if_neg h, if_neg h, if_neg h]
set_option maxRecDepth 100000 in
theorem Flt.first_take {f : List Flt.Cl} {n : Nat} {c : Flt.Cl} (hc : f[n]? = some c) (h0 : Flt.first (f.take n) = 0) : Flt.first (f.take (n + 1)) = Flt.one c := by
  obtain ⟨hl, he⟩ := List.getElem?_eq_some_iff.1 hc
  rw [List.take_succ_eq_append_getElem hl, he, Flt.first_app, if_pos h0, Flt.first_cons]
  by_cases h : Flt.one c = 0
  · rw [if_pos h, h]; rfl
  · rw [if_neg h]
set_option maxRecDepth 100000 in
theorem Flt.first_stop {f : List Flt.Cl} {n : Nat} (h0 : ¬ Flt.first (f.take n) = 0) : Flt.first f = Flt.first (f.take n) := by
  have := Flt.first_app (f.take n) (f.drop n)
  rw [List.take_append_drop, if_neg h0] at this
  exact this
set_option maxRecDepth 100000 in
theorem Flt.first_is : ∀ f : List Flt.Cl, Flt.first f = 0 ∨ Flt.first f = 13 ∨ Flt.first f = 2
  | [] => Or.inl rfl
  | c :: l => by
    rw [Flt.first_cons]
    split
    · exact Flt.first_is l
    · unfold Flt.one
      split
      · exact Or.inr (Or.inl rfl)
      · split
        · exact Or.inl rfl
        · exact Or.inr (Or.inr rfl)

set_option maxRecDepth 100000 in
set_option maxHeartbeats 6400000 in
theorem fchecks_walk (H : FilterOk) {w : World} {u : Value} {f : List Flt.Cl} (hf : Cls w (fun i => i < w.heap.size) u f) (lf : f.length ≤ 9223372036854775807) (bf : ∀ c ∈ f, c.pre.length ≤ 9223372036854775807 ∧ Bd (Flt.rg c)) :
    Calls Tryz.prog 3 #[u] w fun e w' => e = .returned (.bool true) ∧ Below w.heap.size w w' := by
  have AW := Lib.hid (fun W => flt_awake H W)
  have LI := Lib.hid (light_any hf lf (fun c hc => (bf c hc).1))
  by_cases hlight : Flt.light f
  · have LI : Hid (Calls Tryz.prog 7 #[u] w fun e w' => e = .returned (.bool true) ∧ Below w.heap.size w w') := Lib.hid (by have := LI.out; rwa [decide_eq_true hlight] at this)
    obtain ⟨hl1, hl2⟩ := hlight
    have CK := Lib.hid (fun (W : World) (hW : Below w.heap.size w W) => H.check (hf.below hW) (by omega) (fun c hc => ⟨by have := hl1 c hc; omega, (bf c hc).2⟩))
    have HS : Hid (∀ c ∈ f, c.pre.length ≤ 100000) := Lib.hid (fun c hc => by have := hl1 c hc; omega)
    have HL : Hid (f.length ≤ 24) := Lib.hid hl2
    obtain ⟨A, cap, rfl, hcap⟩ := hf.parts
    have HF := Lib.hid hf
    have hl' : (f.length : Int) ≤ 24 := by omega
    clear hf bf lf hl1 hl2
    go_enter Tryz.func3, Tryz.ntmps3
    go_wp2_with fail
    refine (LI.out).mono ?_
    rintro e w1 ⟨rfl, hb1⟩
    have Hb1 := Lib.hid hb1
    clear hb1 LI
    go_wp2_with fail
    go_loopw [3, 4] (fun want i wr => ∃ n : Nat, n ≤ f.length ∧ i = .int .i64 (n : Int) ∧ want = .int .i64 (Flt.first (f.take n)) ∧ Below w.heap.size w wr) (fun _ i _ => f.length - (intOf i).toNat)
    case atStart => exact ⟨0, Nat.zero_le _, rfl, rfl, Hb1.out⟩
    case round =>
      obtain ⟨n, hn, rfl, rfl, hbel⟩ := hrel
      have Hbel := Lib.hid hbel
      clear hbel
      by_cases hgo : n < f.length ∧ Flt.first (f.take n) = 0
      · obtain ⟨hlt, h0⟩ := hgo
        obtain ⟨b, o, cap', e, -, -, hb⟩ := HF.out.block (by omega)
        injection e with e1 e2 e3
        subst e1 e3
        clear e2
        obtain ⟨x, hx⟩ : ∃ x, f[n]? = some x := ⟨_, List.getElem?_eq_getElem hlt⟩
        have hpx := HS.out x (List.mem_of_getElem? hx)
        have hn0 : (0 : Int) ≤ (n : Int) := by omega
        have hn1 : (n : Int) < (f.length : Int) := by omega
        have CA : Hid (∀ W, Below w.heap.size w W → W.cell? ⟨b, o + n * 3, none⟩ = some (.string (mk x.pre)) ∧ W.cell? ⟨b, o + n * 3 + 1, none⟩ = some (.int .i64 x.lo) ∧ W.cell? ⟨b, o + n * 3 + 2, none⟩ = some (.int .i64 x.hi)) := Lib.hid (fun W hW => Cls.at (HF.out.below hW) hx)
        obtain ⟨c0, c1, c2⟩ := CA.out wr Hbel.out
        have hst := Lib.hid (Flt.first_take hx h0)
        have RI := Lib.hid (fun W => ref_fright x W hpx)
        have RP := Lib.hid (fun W => ref_right x.pre W hpx)
        have ea := str_nil x.pre
        have ia := str_empty x.pre
        obtain ⟨xp, x1, x2⟩ := x
        simp only at c0 c1 c2 CA ea ia RP
        rw [h0]
        clear h0 hx
        by_cases hp : xp ≠ [] ∧ ¬ Pth.Right xp
        · have hone : Hid (Flt.first (f.take (n + 1)) = 13) := Lib.hid (by rw [hst.out]; unfold Flt.one; rw [if_pos hp])
          rw [decide_eq_false hp.1] at ea ia
          have RP : Hid (∀ W, Calls Tryz.prog 9 #[.string (mk xp)] W fun e w' => e = .returned (.bool false) ∧ Below W.heap.size W w') := Lib.hid (fun W => by have := RP.out W; rwa [decide_eq_false hp.2] at this)
          clear hst hp
          generalize mk xp = xs at *
          go_wp2_with fail
          refine (RP.out _).mono ?_
          rintro e w2 ⟨rfl, hb2⟩
          have HB2 := Lib.hid (Hbel.out.trans (hb2.mono Hbel.out.size))
          clear hb2
          go_wp2_with fail
          exact ⟨⟨n + 1, by omega, by go_num, by rw [hone.out], HB2.out⟩, by show f.length - ((n : Int) + 1).toNat < f.length - (n : Int).toNat; omega⟩
        · cases hr : decide (Flt.Right ⟨xp, x1, x2⟩)
          · have hone : Hid (Flt.first (f.take (n + 1)) = 2) := Lib.hid (by rw [hst.out]; unfold Flt.one; rw [if_neg hp, if_neg (of_decide_eq_false hr)])
            have RI : Hid (∀ W, Calls Tryz.prog 10 #[.agg #[.string (mk xp), .int .i64 x1, .int .i64 x2]] W fun e w' => e = .returned (.bool false) ∧ Below W.heap.size W w') := Lib.hid (fun W => by rw [← hr]; exact RI.out W)
            clear hst hr
            by_cases h1 : xp = []
            · rw [decide_eq_true h1] at ea ia
              clear hp h1 RP
              generalize mk xp = xs at *
              go_wp2_with fail
              refine (RI.out _).mono ?_
              rintro e w2 ⟨rfl, hb2⟩
              have HB2 := Lib.hid (Hbel.out.trans (hb2.mono Hbel.out.size))
              clear hb2
              go_wp2_with fail
              exact ⟨⟨n + 1, by omega, by go_num, by rw [hone.out], HB2.out⟩, by show f.length - ((n : Int) + 1).toNat < f.length - (n : Int).toNat; omega⟩
            · rw [decide_eq_false h1] at ea ia
              have RP : Hid (∀ W, Calls Tryz.prog 9 #[.string (mk xp)] W fun e w' => e = .returned (.bool true) ∧ Below W.heap.size W w') := Lib.hid (fun W => by have := RP.out W; rwa [decide_eq_true (Classical.byContradiction fun k => hp ⟨h1, k⟩)] at this)
              clear hp h1
              generalize mk xp = xs at *
              go_wp2_with fail
              refine (RP.out _).mono ?_
              rintro e w2 ⟨rfl, hb2⟩
              have HB2 := Lib.hid (Hbel.out.trans (hb2.mono Hbel.out.size))
              clear hb2 c0 c1 c2
              obtain ⟨c0, c1, c2⟩ := CA.out _ HB2.out
              go_wp2_with fail
              refine (RI.out _).mono ?_
              rintro e w3 ⟨rfl, hb3⟩
              have HB3 := Lib.hid (HB2.out.trans (hb3.mono HB2.out.size))
              clear hb3
              go_wp2_with fail
              exact ⟨⟨n + 1, by omega, by go_num, by rw [hone.out], HB3.out⟩, by show f.length - ((n : Int) + 1).toNat < f.length - (n : Int).toNat; omega⟩
          · have hone : Hid (Flt.first (f.take (n + 1)) = 0) := Lib.hid (by rw [hst.out]; unfold Flt.one; rw [if_neg hp, if_pos (of_decide_eq_true hr)])
            have RI : Hid (∀ W, Calls Tryz.prog 10 #[.agg #[.string (mk xp), .int .i64 x1, .int .i64 x2]] W fun e w' => e = .returned (.bool true) ∧ Below W.heap.size W w') := Lib.hid (fun W => by rw [← hr]; exact RI.out W)
            clear hst hr
            by_cases h1 : xp = []
            · rw [decide_eq_true h1] at ea ia
              clear hp h1 RP
              generalize mk xp = xs at *
              go_wp2_with fail
              refine (RI.out _).mono ?_
              rintro e w2 ⟨rfl, hb2⟩
              have HB2 := Lib.hid (Hbel.out.trans (hb2.mono Hbel.out.size))
              clear hb2
              go_wp2_with fail
              exact ⟨⟨n + 1, by omega, by go_num, by rw [hone.out], HB2.out⟩, by show f.length - ((n : Int) + 1).toNat < f.length - (n : Int).toNat; omega⟩
            · rw [decide_eq_false h1] at ea ia
              have RP : Hid (∀ W, Calls Tryz.prog 9 #[.string (mk xp)] W fun e w' => e = .returned (.bool true) ∧ Below W.heap.size W w') := Lib.hid (fun W => by have := RP.out W; rwa [decide_eq_true (Classical.byContradiction fun k => hp ⟨h1, k⟩)] at this)
              clear hp h1
              generalize mk xp = xs at *
              go_wp2_with fail
              refine (RP.out _).mono ?_
              rintro e w2 ⟨rfl, hb2⟩
              have HB2 := Lib.hid (Hbel.out.trans (hb2.mono Hbel.out.size))
              clear hb2 c0 c1 c2
              obtain ⟨c0, c1, c2⟩ := CA.out _ HB2.out
              go_wp2_with fail
              refine (RI.out _).mono ?_
              rintro e w3 ⟨rfl, hb3⟩
              have HB3 := Lib.hid (HB2.out.trans (hb3.mono HB2.out.size))
              clear hb3
              go_wp2_with fail
              exact ⟨⟨n + 1, by omega, by go_num, by rw [hone.out], HB3.out⟩, by show f.length - ((n : Int) + 1).toNat < f.length - (n : Int).toNat; omega⟩
      · have hfin : Hid (Flt.first f = Flt.first (f.take n)) := Lib.hid (by
          by_cases h0 : Flt.first (f.take n) = 0
          · have : n = f.length := Classical.byContradiction (fun k => hgo ⟨by omega, h0⟩)
            rw [this, List.take_length]
          · exact Flt.first_stop h0)
        have hcase : ¬ (n : Int) < (f.length : Int) ∨ ((n : Int) < (f.length : Int) ∧ ¬ Flt.first (f.take n) = 0) := by
          by_cases hlt : n < f.length
          · exact Or.inr ⟨by omega, fun h0 => hgo ⟨hlt, h0⟩⟩
          · exact Or.inl (by omega)
        have CK : Hid (∀ W, Below w.heap.size w W → Calls Tryz.prog 11 #[.slice A f.length cap] W fun e w' => e = .returned (.int .i64 (if 8 < f.length then 4 else Flt.first (f.take n))) ∧ Below W.heap.size W w') := Lib.hid (fun W hW => by rw [← hfin.out]; exact CK.out W hW)
        clear hgo hfin
        generalize Flt.first (f.take n) = z at *
        by_cases h8 : 8 < f.length
        · have g8 : (8 : Int) < (f.length : Int) := by omega
          rw [if_pos h8] at CK
          clear h8
          rcases hcase with hc | ⟨hc, hc2⟩
          all_goals
            go_wp2_with fail
            refine (AW.out _).mono ?_
            rintro e w2 ⟨rfl, hb2⟩
            have HB2 := Lib.hid (Hbel.out.trans (hb2.mono Hbel.out.size))
            clear hb2
            go_wp2_with fail
            refine (CK.out _ HB2.out).mono ?_
            rintro e w3 ⟨rfl, hb3⟩
            have HB3 := Lib.hid (HB2.out.trans (hb3.mono HB2.out.size))
            clear hb3
            go_wp2_with fail
            go_ret
            exact ⟨rfl, HB3.out⟩
        · have g8 : ¬ (8 : Int) < (f.length : Int) := by omega
          rw [if_neg h8] at CK
          have hzz : (z == z) = true := beq_self_eq_true _
          clear h8
          rcases hcase with hc | ⟨hc, hc2⟩
          all_goals
            go_wp2_with fail
            refine (AW.out _).mono ?_
            rintro e w2 ⟨rfl, hb2⟩
            have HB2 := Lib.hid (Hbel.out.trans (hb2.mono Hbel.out.size))
            clear hb2
            go_wp2_with fail
            refine (CK.out _ HB2.out).mono ?_
            rintro e w3 ⟨rfl, hb3⟩
            have HB3 := Lib.hid (HB2.out.trans (hb3.mono HB2.out.size))
            clear hb3
            go_wp2_with fail
            go_ret
            exact ⟨rfl, HB3.out⟩
  · have LI : Hid (Calls Tryz.prog 7 #[u] w fun e w' => e = .returned (.bool false) ∧ Below w.heap.size w w') := Lib.hid (by have := LI.out; rwa [decide_eq_false hlight] at this)
    clear hlight hf bf
    go_enter Tryz.func3, Tryz.ntmps3
    go_wp2_with fail
    refine (LI.out).mono ?_
    rintro e w1 ⟨rfl, hb1⟩
    have Hb1 := Lib.hid hb1
    clear hb1
    go_wp2_with fail
    refine (AW.out _).mono ?_
    rintro e w2 ⟨rfl, hb2⟩
    have HB2 := Lib.hid (Hb1.out.trans (hb2.mono Hb1.out.size))
    clear hb2
    go_wp2_with fail
    go_ret
    exact ⟨rfl, HB2.out⟩
end Go.Proofs.YtjnpgfndbdddnaaGreat
namespace Go.Proofs.YtjnpgfndbdddnaaGreat
open Go.RowKit

open Go.ChangeShapes Go.WideShapes Go.ChangeAt
open Go.ChangeMaps (open_string shut_string)

set_option maxRecDepth 100000 in
theorem filterChecks_lifted (os : Os) (started : os.Started) (H : Type) (enc : TypeId × Value → H) :
    ReturnsInHanded {} Tryz.checked os 3 .any (Rows.filterChecksSpec.pre6 enc Tryz.prog Tryz.f3 Rows.filterChecksRow.domain false) (Rows.filterChecksSpec.post enc Tryz.prog Tryz.f3 false true false false) := by
  refine returnsInHanded_of_change_sized (C := Tryz.checked) own started (by kernel_rfl) Tryz.func3
    (ChangeSpec.witness6 (enc := enc) (C := Tryz.checked) false ⟨#[], #[.slice none 0 0], []⟩ 8 (by kernel_rfl) (by kernel_rfl) (by kernel_rfl) (by kernel_rfl)) ?_
  intro W base args ds gs before hval0 hW _ hsz _
  have hval : ∀ (j : Nat) t v, Tryz.f3.params[j]? = some t → args[j]? = some v → Value.okWide Tryz.prog W .any base t v := hval0
  have hW0 := hW
  obtain ⟨p, q, hA0, hV, _, _, _⟩ := hW
  have hA : DataW.TrodAll enc Tryz.prog W 0 (fun _ => true) true Tryz.f3.params.toList args.toList ds p := hA0
  rw [Tryz.params3] at hA hval hsz
  obtain ⟨v0, vs0, d0, ds0, p0, q0, hargs, rfl, rfl, h0, r0⟩ := trodAll_cons hA
  obtain ⟨rfl, rfl, rfl⟩ := trodAll_nil r0
  obtain rfl : args = #[v0] := by cases args; simp_all
  obtain ⟨fl, fin, f63, fbd⟩ := open_cll (okWide_slice Tryz.underlying22 (hval 0 22 v0 rfl rfl)) h0
  obtain ⟨rfl, rfl⟩ := trodVars_none hV
  refine (fchecks_walk filter_ok fin f63 fbd).mono fun e W' ⟨he, hg⟩ => ?_
  subst he
  exact ⟨_, rfl, law_done (by kernel_rfl) rfl hW0 rfl (by rw [Tryz.params3]; decide +kernel) hg⟩

set_option maxRecDepth 100000 in
theorem filterChecks_over : Rows.filterChecksRow.holds Tryz.pinned (OpenSpec.ofChange Rows.filterChecksSpec) :=
  OpenClaim.holds_of_wide 3 Tryz.f3 rfl rfl rfl rfl rfl rfl rfl ⟨rfl, rfl, rfl, rfl, rfl⟩ rfl rfl rfl rfl rfl (by kernel_rfl) Tryz.func3 (by kernel_rfl)
    (of_decide_eq_true (by kernel_rfl)) (by unfold Func.isWrapper; first | (rw [if_pos (by decide +kernel)]; kernel_rfl) | (rw [if_neg (by decide +kernel)]; exact ⟨rfl, rfl⟩))
    (fun os started H enc _ => filterChecks_lifted os started H enc)

set_option maxRecDepth 100000 in
/-- The statement. -/
theorem filterChecks_holds : Rows.FilterChecksSaid := filterChecks_over
#print axioms filterChecks_holds
end Go.Proofs.YtjnpgfndbdddnaaGreat
