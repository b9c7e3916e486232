/- The landed sizes: Meet, Minus, Covers, Same, Many. -/
import Derived.Test.YtenlcadndfbnaaaSzPrt
import Derived.Test.YtenlcadndfbnaaaSzEq
set_option linter.unusedSimpArgs false
set_option linter.unusedVariables false
namespace Go.Proofs.Ytenlcadndfbnaaa
open Go.RowKit

section
variable {w : World} {F G : Nat → Prop} {u v : Value} {a b l : List Sz.Rg}

set_option maxRecDepth 100000 in
theorem sz_meet (ha : Rgs w F u a) (hb : Rgs w G v b) (la : a.length ≤ 1000000) (lb : b.length ≤ 1000000) :
    Calls Try.prog 17 #[u, v] w fun e w' => ∃ v', e = .returned v' ∧ Rgs w' (NewIn w w') v' (Sz.two 1 a b) ∧ Below w.heap.size w w' := by
  have HP := Lib.hid (sz_part ha hb la lb)
  clear ha hb
  go_enter Try.func17, Try.ntmps17
  go_wp2_with fail
  refine (HP.out).mono ?_
  rintro e w1 ⟨vi, vo, rfl, g1, g2, g3⟩
  have G1 := Lib.hid g1
  have G3 := Lib.hid g3
  clear g1 g2 g3
  go_wp2_with fail
  go_ret
  exact ⟨vi, rfl, G1.out, G3.out⟩

set_option maxRecDepth 100000 in
theorem sz_minus (ha : Rgs w F u a) (hb : Rgs w G v b) (la : a.length ≤ 1000000) (lb : b.length ≤ 1000000) :
    Calls Try.prog 18 #[u, v] w fun e w' => ∃ v', e = .returned v' ∧ Rgs w' (NewIn w w') v' (Sz.two 2 a b) ∧ Below w.heap.size w w' := by
  have HP := Lib.hid (sz_part ha hb la lb)
  clear ha hb
  go_enter Try.func18, Try.ntmps18
  go_wp2_with fail
  refine (HP.out).mono ?_
  rintro e w1 ⟨vi, vo, rfl, g1, g2, g3⟩
  have G2 := Lib.hid g2
  have G3 := Lib.hid g3
  clear g1 g2 g3
  go_wp2_with fail
  go_ret
  exact ⟨vo, rfl, G2.out, G3.out⟩

set_option maxRecDepth 100000 in
theorem sz_covers (ha : Rgs w F u a) (hb : Rgs w G v b) (la : a.length ≤ 1000000) (lb : b.length ≤ 1000000) :
    Calls Try.prog 19 #[u, v] w fun e w' => e = .returned (.bool (decide (Sz.Covers a b))) ∧ Below w.heap.size w w' := by
  have HM := Lib.hid (sz_minus hb ha lb la)
  clear ha hb
  by_cases hc : Sz.Covers a b
  · have hr : Hid (decide (Sz.Covers a b) = true) := Lib.hid (decide_eq_true hc)
    rw [(Sz.covers_iff a b).1 hc] at HM
    clear hc
    go_enter Try.func19, Try.ntmps19
    go_wp2_with fail
    refine (HM.out).mono ?_
    rintro e w1 ⟨vo, rfl, g1, g3⟩
    obtain ⟨A, c, rfl, -⟩ := g1.parts
    have G3 := Lib.hid g3
    clear g1 g3
    rw [List.length_nil]
    go_wp2_with fail
    go_ret
    exact ⟨by rw [hr.out]; rfl, G3.out⟩
  · have hr : Hid (decide (Sz.Covers a b) = false) := Lib.hid (decide_eq_false hc)
    have hne : Sz.two 2 b a ≠ [] := fun e => hc ((Sz.covers_iff a b).2 e)
    have hp : ¬ (((Sz.two 2 b a).length : Nat) : Int) = 0 := by have := List.length_pos_iff.2 hne; omega
    have hd : ((((Sz.two 2 b a).length : Nat) : Int) == 0) = false := by simpa using hne
    generalize Sz.two 2 b a = m at *
    clear hc hne
    go_enter Try.func19, Try.ntmps19
    go_wp2_with fail
    refine (HM.out).mono ?_
    rintro e w1 ⟨vo, rfl, g1, g3⟩
    obtain ⟨A, c, rfl, -⟩ := g1.parts
    have G3 := Lib.hid g3
    clear g1 g3
    go_wp2_with fail
    go_ret
    exact ⟨by rw [hr.out]; first | rfl | simp [hp] | simpa using hp, G3.out⟩

set_option maxRecDepth 100000 in
theorem sz_same (ha : Rgs w F u a) (hb : Rgs w G v b) (la : a.length ≤ 1000000) (lb : b.length ≤ 1000000) :
    Calls Try.prog 20 #[u, v] w fun e w' => e = .returned (.bool (decide (Sz.Covers a b ∧ Sz.Covers b a))) ∧ Below w.heap.size w w' := by
  have HA := Lib.hid (sz_norm ha la)
  have HB := Lib.hid (fun (W : World) (h : Below w.heap.size w W) => sz_norm (hb.below h) lb)
  have hr : Hid (decide (Sz.Covers a b ∧ Sz.Covers b a) = decide (Sz.norm a = Sz.norm b)) := Lib.hid (decide_eq_decide.2 (Sz.norm_eq_iff a b).symm)
  have hna := Sz.norm_len a
  have hnb := Sz.norm_len b
  clear ha hb
  have HE := Lib.hid (fun (W : World) (u v : Value) (F G : Nat → Prop) (h1 : Rgs W F u (Sz.norm a)) (h2 : Rgs W G v (Sz.norm b)) => eq_any h1 h2 (by omega) (by omega))
  generalize decide (Sz.norm a = Sz.norm b) = R at *
  clear hna hnb
  go_enter Try.func20, Try.ntmps20
  go_wp2_with fail
  refine (HA.out).mono ?_
  rintro e w1 ⟨v1, rfl, h1⟩
  have H1 := Lib.hid h1
  clear h1
  go_wp2_with fail
  refine (HB.out w1 H1.out.2).mono ?_
  rintro e w2 ⟨v2, rfl, h2⟩
  have HE2 := Lib.hid (HE.out w2 v1 v2 _ _ ((H1.out.rows (fun _ _ => rfl)).below h2.2) (h2.rows (fun _ _ => rfl)))
  have Hb2 := Lib.hid (H1.out.2.trans (h2.2.mono H1.out.2.size))
  clear h2
  go_wp2_with fail
  refine (HE2.out).mono ?_
  rintro e w3 ⟨rfl, h3⟩
  have Hb3 := Lib.hid (Hb2.out.trans (h3.mono Hb2.out.size))
  clear h3
  go_wp2_with fail
  go_ret
  exact ⟨by rw [hr.out]; rfl, Hb3.out⟩

set_option maxRecDepth 100000 in
theorem wide_take {l : List Sz.Rg} {n : Nat} {x : Sz.Rg} (hx : l[n]? = some x) : Sz.wide (l.take (n + 1)) = Sz.wide (l.take n) + (x.2 - x.1 + 1) := by
  obtain ⟨hl, he⟩ := List.getElem?_eq_some_iff.1 hx
  unfold Sz.wide
  rw [List.take_succ_eq_append_getElem hl, he, List.map_append, List.sum_append]
  simp

set_option maxRecDepth 100000 in
theorem sz_many (h : Rgs w F v l) (hl : l.length ≤ 1000000) :
    Calls Try.prog 14 #[v] w fun e w' => e = .returned (.int .i64 (Sz.many l : Int)) ∧ Below w.heap.size w w' := by
  have HN := Lib.hid (sz_norm h hl)
  have hfw := Lib.hid (Sz.form_wide l)
  have hbd := Lib.hid (Sz.norm_nm l).bd
  have hln := Sz.norm_len l
  clear h
  go_enter Try.func14, Try.ntmps14
  go_wp2_with fail
  refine (HN.out).mono ?_
  rintro e w1 ⟨v1, rfl, h1⟩
  generalize Sz.norm l = N at *
  obtain ⟨A, cap, rfl, hcap⟩ := (h1.rows (fun _ _ => rfl)).parts
  have H1 := Lib.hid h1
  have hl' : (N.length : Int) ≤ 202 := by omega
  clear h1
  go_wp2_with fail
  go_loopw [3, 9] (fun s i wr => ∃ n : Nat, n ≤ N.length ∧ i = .int .i64 (n : Int) ∧ s = .int .i64 (Sz.wide (N.take n)) ∧ 0 ≤ Sz.wide (N.take n) ∧ Sz.wide (N.take n) ≤ 201 * n ∧ Below w1.heap.size w1 wr) (fun _ i _ => N.length - (intOf i).toNat)
  case atStart => exact ⟨0, Nat.zero_le _, rfl, rfl, Int.le_refl _, Int.le_refl _, Below.refl _ _⟩
  case round =>
    obtain ⟨n, hn, rfl, rfl, s0, s1, hbel⟩ := hrel
    by_cases hlt : n < N.length
    · have HS := H1.out.rows (fun _ _ => rfl)
      obtain ⟨b, o, cap', e, -, -, hb⟩ := HS.block (by omega)
      injection e with e1 e2 e3
      subst e1 e3
      obtain ⟨x, hx⟩ : ∃ x, N[n]? = some x := ⟨_, List.getElem?_eq_getElem hlt⟩
      obtain ⟨c0, c1⟩ := Rgs.at HS hx
      have c0 : wr.cell? ⟨b, o + n * 2, none⟩ = some (.int .i64 x.1) := (hbel.cell (p := ⟨b, o + n * 2, none⟩) hb).trans c0
      have c1 : wr.cell? ⟨b, o + n * 2 + 1, none⟩ = some (.int .i64 x.2) := (hbel.cell (p := ⟨b, o + n * 2 + 1, none⟩) hb).trans c1
      have hxb := hbd.out x (List.mem_of_getElem? hx)
      have hst := wide_take hx
      have hn0 : (0 : Int) ≤ (n : Int) := by omega
      have hn1 : (n : Int) < (N.length : Int) := by omega
      clear hx HS
      obtain ⟨x1, x2⟩ := x
      simp only at c0 c1 hxb hst
      obtain ⟨x3, x4, x5⟩ := hxb
      have hst2 : Hid (Sz.wide (N.take (n + 1)) = Sz.wide (N.take n) + (x2 - x1 + 1)) := Lib.hid hst
      have hb0 := Lib.hid (hbel.alloc hbel.size (.cells #[.int .i64 x1, .int .i64 x2] 29))
      clear hst hbel
      generalize Sz.wide (N.take n) = S at *
      go_wp2_with fail
      exact ⟨⟨n + 1, by omega, by go_num, by rw [hst2.out], by rw [hst2.out]; omega, by rw [hst2.out]; omega, hb0.out⟩, by show N.length - ((n : Int) + 1).toNat < N.length - (n : Int).toNat; omega⟩
    · obtain rfl : n = N.length := by omega
      rw [List.take_length, hfw.out] at *
      have Hb := Lib.hid (H1.out.2.trans (hbel.mono H1.out.2.size))
      clear hbel
      go_wp2_with fail
      go_ret
      exact ⟨rfl, Hb.out⟩
end
end Go.Proofs.Ytenlcadndfbnaaa
