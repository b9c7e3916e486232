/- The document's own Same of layer 12: the very same versions. -/
import Derived.Test.YtnpnjophlajfkaaVerRef
set_option linter.unusedSimpArgs false
set_option linter.unusedVariables false
namespace Go.Proofs.Ytnpnjophlajfkaa
open Go.RowKit Go.Sort

set_option maxRecDepth 100000 in
set_option maxHeartbeats 1600000 in
theorem ref_vsame {w : World} {F G : Nat → Prop} {u v : Value} {a b : List Ver.V} (ha : Vrs w F u a) (hb : Vrs w G v b) (la : a.length ≤ 1000000) (lb : b.length ≤ 1000000) :
    Calls Try.prog 11 #[u, v] w fun e w' => e = .returned (.bool (decide (a = b))) ∧ Below w.heap.size w w' := by
  obtain ⟨A, ca, rfl, hca⟩ := ha.parts
  obtain ⟨B, cb, rfl, hcb⟩ := hb.parts
  have HA := Lib.hid ha
  have HB := Lib.hid hb
  have la' : (a.length : Int) ≤ 1000000 := by omega
  have lb' : (b.length : Int) ≤ 1000000 := by omega
  clear ha hb
  by_cases hlen : a.length = b.length
  · rw [← hlen]
    rw [← hlen] at HB
    have Hlen := Lib.hid hlen
    clear hlen
    go_enter Try.func11, Try.ntmps11
    go_wp2_with fail
    go_loopw [5] (fun i wr => ∃ n : Nat, n ≤ a.length ∧ i = .int .i64 (n : Int) ∧ Hid (a.take n = b.take n) ∧ Below w.heap.size w wr) (fun i _ => a.length - (intOf i).toNat)
    case atStart => exact ⟨0, Nat.zero_le _, rfl, Lib.hid (by rw [List.take_zero, List.take_zero]), Below.refl _ _⟩
    case round =>
      obtain ⟨n, hn, rfl, hsame, hbel⟩ := hrel
      by_cases hlt : n < a.length
      · obtain ⟨b1, o1, cap1, e, -, -, hb1⟩ := HA.out.block (by omega)
        injection e with e1 e2 e3
        subst e1 e3
        obtain ⟨b2, o2, cap2, e, -, -, hb2⟩ := HB.out.block (by have := Hlen.out; omega)
        injection e with e1 e2 e3
        subst e1 e3
        clear e2
        obtain ⟨x, hx⟩ : ∃ x, a[n]? = some x := ⟨_, List.getElem?_eq_getElem hlt⟩
        obtain ⟨y, hy⟩ : ∃ y, b[n]? = some y := ⟨_, List.getElem?_eq_getElem (show n < b.length by have := Hlen.out; omega)⟩
        obtain ⟨c0, c1⟩ := Vrs.at (HA.out.below hbel) hx
        obtain ⟨d0, d1⟩ := Vrs.at (HB.out.below hbel) hy
        have hn0 : (0 : Int) ≤ (n : Int) := by omega
        have hn1 : (n : Int) < (a.length : Int) := by omega
        have Hbel := Lib.hid hbel
        clear hbel
        by_cases hxy : x = y
        · subst hxy
          have hnext : Hid (a.take (n + 1) = b.take (n + 1)) := Lib.hid (by
            obtain ⟨h1, e1⟩ := List.getElem?_eq_some_iff.1 hx
            obtain ⟨h2, e2⟩ := List.getElem?_eq_some_iff.1 hy
            rw [List.take_succ_eq_append_getElem h1, List.take_succ_eq_append_getElem h2, e1, e2, hsame.out])
          obtain ⟨x1, x2⟩ := x
          simp only at c0 c1 d0 d1
          clear hx hy hsame
          go_wp2_with fail
          go_quiet (fail)
          go_wp2_with fail
          refine ⟨⟨n + 1, by omega, rfl, hnext, Hbel.out.trans ((ver_drews wr nq).mono Hbel.out.size)⟩, ?_⟩
          show a.length - ((n : Int) + 1).toNat < a.length - (n : Int).toNat
          omega
        · have hne : Hid (¬ a = b) := Lib.hid (fun e => hxy (by rw [e, hy] at hx; injection hx with hx; exact hx.symm))
          obtain ⟨x1, x2⟩ := x
          obtain ⟨y1, y2⟩ := y
          simp only at c0 c1 d0 d1
          have hxy' : x1 = y1 → ¬ x2 = y2 := fun h k => hxy (by rw [h, k])
          clear hx hy hsame hxy
          by_cases h1 : x1 = y1
          · have h2 := hxy' h1
            subst h1
            clear hxy'
            go_wp2_with fail
            go_quiet (fail)
            go_wp2_with fail
            go_ret
            exact ⟨by rw [decide_eq_false hne.out]; rfl, Hbel.out.trans ((ver_drews wr nq).mono Hbel.out.size)⟩
          · clear hxy'
            go_wp2_with fail
            go_quiet (fail)
            go_wp2_with fail
            go_ret
            exact ⟨by rw [decide_eq_false hne.out]; rfl, Hbel.out.trans ((ver_drews wr nq).mono Hbel.out.size)⟩
      · obtain rfl : n = a.length := by omega
        have hab : Hid (a = b) := Lib.hid (by
          have := hsame.out
          rw [List.take_length, Hlen.out, List.take_length] at this
          exact this)
        have Hbel := Lib.hid hbel
        clear hbel hsame
        go_wp2_with fail
        go_ret
        exact ⟨by rw [decide_eq_true hab.out]; rfl, Hbel.out⟩
  · have hlen' : ¬ ((a.length : Nat) : Int) = ((b.length : Nat) : Int) := by omega
    have hne : Hid (¬ a = b) := Lib.hid (fun e => hlen (by rw [e]))
    clear hlen
    go_enter Try.func11, Try.ntmps11
    go_wp2_with fail
    go_ret
    exact ⟨by rw [decide_eq_false hne.out]; rfl, Below.refl _ _⟩
end Go.Proofs.Ytnpnjophlajfkaa
