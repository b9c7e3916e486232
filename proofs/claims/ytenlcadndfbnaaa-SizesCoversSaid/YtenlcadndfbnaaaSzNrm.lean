/- The landed sizes: the normal form. -/
import Derived.Test.YtenlcadndfbnaaaSzRis
import Derived.Test.YtenlcadndfbnaaaRegion
import Derived.BigQuiet
set_option linter.unusedSimpArgs false
set_option linter.unusedVariables false
namespace Go.Proofs.Ytenlcadndfbnaaa
open Go.RowKit

set_option maxRecDepth 100000 in
theorem flat_at {l : List Sz.Rg} {m : Nat} {q : Sz.Rg} (h : l[m]? = some q) : (l.flatMap rgV)[m * 2]? = some (.int .i64 q.1) ∧ (l.flatMap rgV)[m * 2 + 1]? = some (.int .i64 q.2) :=
  ⟨rows_at (f := rgV) (k := 2) l (fun _ _ => rfl) m q h 0 _ rfl, rows_at (f := rgV) (k := 2) l (fun _ _ => rfl) m q h 1 _ rfl⟩

set_option maxRecDepth 100000 in
theorem flat_set (out : List Sz.Rg) (q : Sz.Rg) (u : Int) : ((out ++ [q]).flatMap rgV).set (out.length * 2 + 1) (.int .i64 u) = (out ++ [(q.1, u)]).flatMap rgV := by
  rw [List.flatMap_append, List.flatMap_append]
  have hl : (out.flatMap rgV).length = out.length * 2 := rows_len (f := rgV) (k := 2) out (fun _ _ => rfl)
  rw [List.set_append_right _ _ (by omega)]
  congr 1
  rw [hl, show out.length * 2 + 1 - out.length * 2 = 1 by omega]
  rfl

set_option maxRecDepth 100000 in
/-- The last one's end is set. -/
theorem RowsOwn.last {w wr : World} {out : List Sz.Rg} {q : Sz.Rg} {g cap : Nat} {T : Nat} (h : RowsOwn T 2 rgV w (out ++ [q]) (.slice (some ⟨g, 0, none⟩) (out ++ [q]).length cap) wr) (u : Int) :
    RowsOwn T 2 rgV w (out ++ [(q.1, u)]) (.slice (some ⟨g, 0, none⟩) (out ++ [q]).length cap) (wr.setCell ⟨g, out.length * 2 + 1, none⟩ (.int .i64 u)) := by
  have hg := h.1.lt g rfl
  have hs := h.1.stored (out.length * 2 + 1) (.int .i64 u)
  refine ⟨?_, h.2.grown hs.2 h.2.size (fun k hk => by injection hk with hk; omega)⟩
  have h1 := hs.1
  rw [flat_set] at h1
  rw [List.length_append, List.length_singleton] at h1 ⊢
  rw [List.length_append, List.length_singleton]
  exact h1

set_option maxRecDepth 100000 in
theorem put_cases {S out : List Sz.Rg} {n : Nat} {x : Sz.Rg} (h : Sz.Put S n out) (hS : Sz.Rising S) (hx : S[n]? = some x) :
    (out = [] ∧ Sz.Put S (n + 1) [x]) ∨ ∃ o q, out = o ++ [q] ∧ 0 ≤ q.1 ∧ q.1 ≤ q.2 ∧ q.2 ≤ 200 ∧ ((x.1 ≤ q.2 + 1 ∧ Sz.Put S (n + 1) (o ++ [(q.1, max q.2 x.2)])) ∨ (¬ x.1 ≤ q.2 + 1 ∧ Sz.Put S (n + 1) (o ++ [q] ++ [x]))) := by
  rcases List.eq_nil_or_concat out with rfl | ⟨o, q, rfl⟩
  · exact Or.inl ⟨rfl, h.first hS hx⟩
  · rw [List.concat_eq_append] at h ⊢
    right
    have hb := h.nm.bd q (by simp)
    refine ⟨o, q, rfl, hb.1, hb.2.1, hb.2.2, ?_⟩
    by_cases hq : x.1 ≤ q.2 + 1
    · exact Or.inl ⟨hq, h.on hS hx hq⟩
    · exact Or.inr ⟨hq, h.more hS hx hq⟩

set_option maxRecDepth 100000 in
set_option maxHeartbeats 3200000 in
theorem sz_norm {w : World} {F : Nat → Prop} {v : Value} {l : List Sz.Rg} (h : Rgs w F v l) (hl : l.length ≤ 1000000) :
    Calls Try.prog 7 #[v] w fun e w' => ∃ v', e = .returned v' ∧ RowsOwn 29 2 rgV w (Sz.norm l) v' w' := by
  obtain ⟨i0, hi0, hz0, hz1, hz2⟩ := info_parts rangeInfo
  have HR := Lib.hid (sz_rising h hl)
  clear h
  go_enter Try.func7, Try.ntmps7
  go_wp2_with fail
  refine (HR.out).mono ?_
  rintro e w1 ⟨sv, S, rfl, hown1, hris, hlen, hsame⟩
  obtain ⟨A, cap, rfl, hcap⟩ := (hown1.rows (fun _ _ => rfl)).parts
  have Hown1 := Lib.hid hown1
  have Hris := Lib.hid hris
  have Hsame := Lib.hid hsame
  have hl' : (S.length : Int) ≤ 1000000 := by omega
  clear hown1 hris hsame
  go_wp2_with fail
  go_loopw [3, 10] (fun o i wr => ∃ (n : Nat) (out : List Sz.Rg), n ≤ S.length ∧ i = .int .i64 (n : Int) ∧ RowsOwn 29 2 rgV w1 out o wr ∧ Hid (Sz.Put S n out)) (fun _ i _ => S.length - (intOf i).toNat)
  case atStart => exact ⟨0, [], Nat.zero_le _, rfl, RowsOwn.start _ _ _ w1, Lib.hid (Sz.Put.start S)⟩
  case round =>
    obtain ⟨n, out, hn, rfl, hown, hput⟩ := hrel
    by_cases hlt : n < S.length
    · have HS := Hown1.out.rows (fun _ _ => rfl)
      obtain ⟨b, o, cap', e, -, -, hb⟩ := HS.block (by omega)
      injection e with e1 e2 e3
      subst e1 e3
      obtain ⟨x, hx⟩ : ∃ x, S[n]? = some x := ⟨_, List.getElem?_eq_getElem hlt⟩
      obtain ⟨c0, c1⟩ := Rgs.at HS hx
      have c0 : wr.cell? ⟨b, o + n * 2, none⟩ = some (.int .i64 x.1) := (hown.2.cell (p := ⟨b, o + n * 2, none⟩) hb).trans c0
      have c1 : wr.cell? ⟨b, o + n * 2 + 1, none⟩ = some (.int .i64 x.2) := (hown.2.cell (p := ⟨b, o + n * 2 + 1, none⟩) hb).trans c1
      have hxb := Hris.out.bd x (List.mem_of_getElem? hx)
      have hcase := put_cases hput.out Hris.out hx
      have hol := hput.out.len
      have hn0 : (0 : Int) ≤ (n : Int) := by omega
      have hn1 : (n : Int) < (S.length : Int) := by omega
      clear HS hx hput
      obtain ⟨x1, x2⟩ := x
      simp only at c0 c1 hxb hcase
      have hzr := hown.2.size
      have hbox := Row.made wr 29 #[.int .i64 x1, .int .i64 x2]
      have hownW : RowsOwn 29 2 rgV w1 out u3 (wr.alloc (.cells #[.int .i64 x1, .int .i64 x2] 29)) := hown.below ((Below.refl _ _).alloc (Nat.le_refl _) _)
      clear hown
      rcases hcase with ⟨rfl, hput⟩ | ⟨out, q, rfl, q1, q2, q3, hcase⟩
      · have Hput := Lib.hid hput
        obtain ⟨A3, c3, e3, hc3⟩ := (hownW.rows (fun _ _ => rfl)).parts
        rw [List.length_nil] at e3
        subst e3
        have Hbox := Lib.hid hbox
        have Hown := Lib.hid hownW
        clear hput hownW hbox
        go_wp2_with fail
        generalize wr.alloc (.cells #[.int .i64 x1, .int .i64 x2] 29) = W at *
        generalize wr.heap.size = B at *
        go_quiet (fail)
        have Hbox2 := Lib.hid (Row.behindDraws Hbox.out nq)
        have Hown2 := Lib.hid (Hown.out.below (below_drews' _ nq))
        clear Hbox Hown
        generalize W.drewN nq = W2 at *
        have hx0 : W2.cell? ⟨B, 0, none⟩ = some (.int .i64 x1) := Hbox2.out.at 0
        have hx1 : W2.cell? ⟨B, 1, none⟩ = some (.int .i64 x2) := Hbox2.out.at 1
        have hown3 := Hown2.out.1.alloc (.cells #[.int .i64 x1, .int .i64 x2] 29)
        have hmade := rg_made W2 29 x1 x2
        have hsz3 : w1.heap.size ≤ (W2.alloc (.cells #[.int .i64 x1, .int .i64 x2] 29)).heap.size := by have := Hown2.out.2.size; simp; omega
        go_wp2_with (at_builtin; refine wp_joins (f := rgV) (k := 2) rfl _ _ 22 rfl w1.heap.size 29 i0 (.agg #[.int .i64 0, .int .i64 0]) 16 Try.underlying22 hi0 hz0 hz1 hz2 rfl (by decide) rfl rfl hown3 hmade (fun _ _ => rfl) (fun x _ => rg_one x) ?c3 ?c4 hsz3 ?_)
        case c3 => unfold maxLen; first | omega | (simp <;> omega)
        case c4 => first | omega | (simp <;> omega)
        intro v3 w3 h1 h2 _
        have hnew := Hown2.out.more (x := (x1, x2)) (v' := v3) (by simpa using h1) h2
        clear h1 h2 hown3 hmade
        go_wp2_with fail
        exact ⟨⟨n + 1, _, by omega, by go_num, hnew, Hput⟩, by show S.length - ((n : Int) + 1).toNat < S.length - (n : Int).toNat; omega⟩
      · obtain ⟨g, c3, rfl, hg0, hgl⟩ := hownW.1.form (by rw [List.length_append, List.length_singleton]; omega)
        obtain ⟨qa, qb⟩ := q
        have hHi := hownW.1.cellAt (out.length * 2 + 1) (by rw [List.length_append, List.length_singleton]; omega)
        rw [(flat_at (m := out.length) (q := (qa, qb)) (by simp)).2] at hHi
        have hFz := hownW.1.frozenAt (out.length * 2 + 1)
        have hBx : (wr.alloc (.cells #[.int .i64 x1, .int .i64 x2] 29)).cell? ⟨wr.heap.size, 1, none⟩ = some (.int .i64 x2) := hbox.at 1
        have hBx0 : (wr.alloc (.cells #[.int .i64 x1, .int .i64 x2] 29)).cell? ⟨wr.heap.size, 0, none⟩ = some (.int .i64 x1) := hbox.at 0
        have Hbox := Lib.hid hbox
        have Hown := Lib.hid hownW
        simp only at q1 q2 q3 hcase hHi
        have hm0 : (0 : Int) ≤ (out.length : Int) := by omega
        have hol2 : out.length + 1 ≤ n := by rw [List.length_append, List.length_singleton] at hol; exact hol
        have hm1 : (out.length : Int) ≤ 1000000 := by omega
        clear hownW hbox hol
        rw [show (out ++ [(qa, qb)]).length = out.length + 1 by rw [List.length_append, List.length_singleton]]
        rcases hcase with ⟨hle, hput⟩ | ⟨hle, hput⟩
        · have d1 : decide (x1 ≤ qb + 1) = true := decide_eq_true hle
          have Hput := Lib.hid hput
          clear hput
          go_wp2_with fail
          generalize wr.alloc (.cells #[.int .i64 x1, .int .i64 x2] 29) = W at *
          generalize wr.heap.size = B at *
          go_quiet (fail)
          have Hown2 := Lib.hid (Hown.out.below (below_drews' _ nq))
          have hHi : (W.drewN nq).cell? ⟨g, out.length * 2 + 1, none⟩ = some (.int .i64 qb) := hHi
          have hFz : (W.drewN nq).frozen? ⟨g, out.length * 2 + 1, none⟩ = false := hFz
          have hBx : (W.drewN nq).cell? ⟨B, 1, none⟩ = some (.int .i64 x2) := hBx
          clear Hbox Hown hBx0
          generalize W.drewN nq = W2 at *
          go_wp2_with fail
          have hlt1 : (out.length : Int) < (out.length : Int) + 1 := by omega
          refine wp_region_tail (n := 10) (S := (fun w' : World => w'.cell? ⟨g, out.length * 2 + 1, none⟩ = some (.int .i64 qb) ∧ w'.cell? ⟨B, 1, none⟩ = some (.int .i64 x2))) (by kernel_rfl) (by kernel_rfl) (by rfl) (⟨hHi, hBx⟩) (fun hHeld => ?_)
          refine wpAnyH_take (i := 0) (v := ?_) rfl (by kernel_rfl) (by kernel_rfl) (by kernel_rfl) (fun _ _ _ h => h) (Or.inl ⟨by rfl, (by intro w hSw; go_simp; try with_reducible rfl)⟩) (by assumption) ?_
          simp only [Act.put, List.getElem_toArray, List.getElem_cons_zero, List.getElem_cons_succ, List.setIfInBounds_toArray, List.set_cons_zero, List.set_cons_succ]
          refine wpAnyH_take (i := 1) (v := ?_) rfl (by kernel_rfl) (by kernel_rfl) (by kernel_rfl) (fun _ _ _ h => h) (Or.inl ⟨by rfl, (by intro w hSw; go_simp; try with_reducible rfl)⟩) (by assumption) ?_
          simp only [Act.put, List.getElem_toArray, List.getElem_cons_zero, List.getElem_cons_succ, List.setIfInBounds_toArray, List.set_cons_zero, List.set_cons_succ]
          refine wpAnyH_take (i := 2) (v := ?_) rfl (by kernel_rfl) (by kernel_rfl) (by kernel_rfl) (fun _ _ _ h => h) (Or.inl ⟨by rfl, (by intro w hSw; go_simp; try with_reducible rfl)⟩) (by assumption) ?_
          simp only [Act.put, List.getElem_toArray, List.getElem_cons_zero, List.getElem_cons_succ, List.setIfInBounds_toArray, List.set_cons_zero, List.set_cons_succ]
          refine wpAnyH_take (i := 3) (v := ?_) rfl (by kernel_rfl) (by kernel_rfl) (by kernel_rfl) (fun _ _ _ h => h) (Or.inl ⟨by rfl, (by intro w hSw; go_simp; try with_reducible rfl)⟩) (by assumption) ?_
          simp only [Act.put, List.getElem_toArray, List.getElem_cons_zero, List.getElem_cons_succ, List.setIfInBounds_toArray, List.set_cons_zero, List.set_cons_succ]
          refine wpAnyH_take (i := 4) (v := ?_) rfl (by kernel_rfl) (by kernel_rfl) (by kernel_rfl) (fun _ _ _ h => h) (Or.inl ⟨by rfl, (by intro w hSw; go_simp; try with_reducible rfl)⟩) (by assumption) ?_
          simp only [Act.put, List.getElem_toArray, List.getElem_cons_zero, List.getElem_cons_succ, List.setIfInBounds_toArray, List.set_cons_zero, List.set_cons_succ]
          refine wpAnyH_take (i := 5) (v := ?_) rfl (by kernel_rfl) (by kernel_rfl) (by kernel_rfl) (fun _ _ _ h => h) (Or.inl ⟨by rfl, (by intro w hSw; go_simp; try with_reducible rfl)⟩) (by assumption) ?_
          simp only [Act.put, List.getElem_toArray, List.getElem_cons_zero, List.getElem_cons_succ, List.setIfInBounds_toArray, List.set_cons_zero, List.set_cons_succ]
          refine wpAnyH_take (i := 6) (v := ?_) rfl (by kernel_rfl) (by kernel_rfl) (by kernel_rfl) (fun _ _ _ h => h) (Or.inl ⟨by rfl, (by intro w hSw; have c0 := hSw.1; have c1 := hSw.2; go_simp; try with_reducible rfl)⟩) (by assumption) ?_
          simp only [Act.put, List.getElem_toArray, List.getElem_cons_zero, List.getElem_cons_succ, List.setIfInBounds_toArray, List.set_cons_zero, List.set_cons_succ]
          refine wpAnyH_take (i := 7) (v := ?_) rfl (by kernel_rfl) (by kernel_rfl) (by kernel_rfl) (fun _ _ _ h => h) (Or.inl ⟨by rfl, (by intro w hSw; go_simp; try with_reducible rfl)⟩) (by assumption) ?_
          simp only [Act.put, List.getElem_toArray, List.getElem_cons_zero, List.getElem_cons_succ, List.setIfInBounds_toArray, List.set_cons_zero, List.set_cons_succ]
          refine wpAnyH_take (i := 8) (v := ?_) rfl (by kernel_rfl) (by kernel_rfl) (by kernel_rfl) (fun _ _ _ h => h) (Or.inl ⟨by rfl, (by intro w hSw; have c0 := hSw.1; have c1 := hSw.2; go_simp; try with_reducible rfl)⟩) (by assumption) ?_
          simp only [Act.put, List.getElem_toArray, List.getElem_cons_zero, List.getElem_cons_succ, List.setIfInBounds_toArray, List.set_cons_zero, List.set_cons_succ]
          refine wpAnyH_take (i := 9) (v := ?_) rfl (by kernel_rfl) (by kernel_rfl) (by kernel_rfl) (fun _ _ _ h => h) (Or.inl ⟨by rfl, (by intro w hSw; go_simp; try with_reducible rfl)⟩) (by assumption) ?_
          simp only [Act.put, List.getElem_toArray, List.getElem_cons_zero, List.getElem_cons_succ, List.setIfInBounds_toArray, List.set_cons_zero, List.set_cons_succ]
          refine wpAnyH_done (by kernel_rfl) ?_ _
          refine wpAny_of_held (S := fun _ => True) _ _ _ _ ?_
          have hHeld : True := trivial
          refine wpAnyH_take (i := 10) (v := ?_) rfl (by kernel_rfl) (by kernel_rfl) (by kernel_rfl) (fun _ _ _ h => h) (Or.inl ⟨by rfl, (by intro w hSw; go_simp; try with_reducible rfl)⟩) (by assumption) ?_
          simp only [Act.put, List.getElem_toArray, List.getElem_cons_zero, List.getElem_cons_succ, List.setIfInBounds_toArray, List.set_cons_zero, List.set_cons_succ]
          refine wpAnyH_take (i := 11) (v := ?_) rfl (by kernel_rfl) (by kernel_rfl) (by kernel_rfl) (fun _ _ _ h => h) (Or.inl ⟨by rfl, (by intro w hSw; go_simp; try with_reducible rfl)⟩) (by assumption) ?_
          simp only [Act.put, List.getElem_toArray, List.getElem_cons_zero, List.getElem_cons_succ, List.setIfInBounds_toArray, List.set_cons_zero, List.set_cons_succ]
          refine wpAnyH_ready (rs := [12]) (by kernel_rfl) (by simp) ?_
          refine AllReadyH.cons rfl (fun K hK => ?_) AllReadyH.nil
          go_simp
          refine hK.out _ _ trivial (fun hHeld => ?_)
          clear hK K
          refine wpAnyH_done (by kernel_rfl) ?_ _
          have hnew := (Hown2.out.last (max qb x2)).below (Below.drew (Below.refl _ _))
          rw [show (out ++ [(qa, qb)]).length = out.length + 1 by rw [List.length_append, List.length_singleton]] at hnew
          clear hFz hHi hBx hHeld
          go_wp2_with fail
          exact ⟨⟨n + 1, _, by omega, by go_num, hnew, Hput⟩, by show S.length - ((n : Int) + 1).toNat < S.length - (n : Int).toNat; omega⟩
        · have d1 : decide (x1 ≤ qb + 1) = false := decide_eq_false hle
          have Hput := Lib.hid hput
          clear hput hFz
          go_wp2_with fail
          generalize wr.alloc (.cells #[.int .i64 x1, .int .i64 x2] 29) = W at *
          generalize wr.heap.size = B at *
          go_quiet (fail)
          have Hbox2 := Lib.hid (Row.behindDraws Hbox.out nq)
          have Hown2 := Lib.hid (Hown.out.below (below_drews' _ nq))
          rw [show (out ++ [(qa, qb)]).length = out.length + 1 by rw [List.length_append, List.length_singleton]] at Hown2
          clear Hbox Hown hHi hBx hBx0
          generalize W.drewN nq = W2 at *
          have hx0 : W2.cell? ⟨B, 0, none⟩ = some (.int .i64 x1) := Hbox2.out.at 0
          have hx1 : W2.cell? ⟨B, 1, none⟩ = some (.int .i64 x2) := Hbox2.out.at 1
          have hown3 := Hown2.out.1.alloc (.cells #[.int .i64 x1, .int .i64 x2] 29)
          have hmade := rg_made W2 29 x1 x2
          have hsz3 : w1.heap.size ≤ (W2.alloc (.cells #[.int .i64 x1, .int .i64 x2] 29)).heap.size := by have := Hown2.out.2.size; simp; omega
          go_wp2_with (at_builtin; refine wp_joins (f := rgV) (k := 2) rfl _ _ 22 rfl w1.heap.size 29 i0 (.agg #[.int .i64 0, .int .i64 0]) 16 Try.underlying22 hi0 hz0 hz1 hz2 rfl (by decide) rfl rfl hown3 hmade (fun _ _ => rfl) (fun x _ => rg_one x) ?c3 ?c4 hsz3 ?_)
          case c3 => unfold maxLen; first | omega | (simp <;> omega)
          case c4 => first | omega | (simp <;> omega)
          intro v3 w3 h1 h2 _
          have hnew := Hown2.out.more (x := (x1, x2)) (v' := v3) (by simpa using h1) h2
          clear h1 h2 hown3 hmade
          go_wp2_with fail
          exact ⟨⟨n + 1, _, by omega, by go_num, hnew, Hput⟩, by show S.length - ((n : Int) + 1).toNat < S.length - (n : Int).toNat; omega⟩
    · obtain rfl : n = S.length := by omega
      have Hend : Hid (RowsOwn 29 2 rgV w (Sz.norm l) u3 wr) := Lib.hid (by
        rw [← hput.out.done Hsame.out]
        exact hown.since Hown1.out.2)
      clear hown hput
      go_wp2_with fail
      go_ret
      exact ⟨u3, rfl, Hend.out⟩
end Go.Proofs.Ytenlcadndfbnaaa
