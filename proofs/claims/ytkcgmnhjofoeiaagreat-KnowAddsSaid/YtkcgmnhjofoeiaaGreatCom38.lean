import Derived.Test.YtkcgmnhjofoeiaaGreatCom37
import Derived.Test.YtkcgmnhjofoeiaaGreatCom9
import Derived.Test.YtkcgmnhjofoeiaaGreatCom17
import Derived.Test.YtkcgmnhjofoeiaaGreatCom14
import Derived.BigQuiet
import Derived.Shelf.SlicesQ.Equal
import Derived.Shelf.SlicesQ.IndexFunc
import Derived.Laws.StructEq
set_option maxRecDepth 100000
set_option linter.all false
set_option maxHeartbeats 12800000
namespace Go.Proofs.YtkcgmnhjofoeiaaGreat
open Go.RowKit
theorem sz_rising {w : World} {F : Nat → Prop} {v : Value} {l : List Sz.Rg} (h : Rgs w F v l) (hl : l.length ≤ 1000000) :
  Calls Tryz.prog 150 #[v] w fun e w' => ∃ v' S, e = .returned v' ∧ RowsOwn 85 2 rgV w S v' w' ∧ Sz.Rising S ∧ S.length ≤ l.length ∧ ∀ n, Sz.holds S n = Sz.holds l n := by
 obtain ⟨A, cap, rfl, hcap⟩ := h.parts
 have H := Lib.hid h
 have hl' : (l.length : Int) ≤ 1000000 := by omega
 clear h
 go_enter Tryz.func150, Tryz.ntmps150
 go_wp2_with fail
 go_loopw [3, 8] (fun o i wr => ∃ n : Nat, n ≤ l.length ∧ i = .int .i64 (n : Int) ∧ RowsOwn 85 2 rgV w (Sz.clip (l.take n)) o wr) (fun _ i _ => l.length - (intOf i).toNat)
 case atStart => exact ⟨0, Nat.zero_le _, rfl, RowsOwn.start _ _ _ w⟩
 case round =>
  obtain ⟨n, hn, rfl, hown⟩ := hrel
  by_cases hlt : n < l.length
  ·obtain ⟨b, o, cap', e, -, -, hb⟩ := H.out.block (by omega)
   injection e with e1 e2 e3
   subst e1 e3
   obtain ⟨x, hx⟩ : ∃ x, l[n]? = some x := ⟨_, List.getElem?_eq_getElem hlt⟩
   obtain ⟨c0, c1⟩ := Rgs.at (H.out.below (Below.refl _ _)) hx
   have c0 : wr.cell? ⟨b, o + n * 2, none⟩ = some (.int .i64 x.1) := (hown.2.cell (p := ⟨b, o + n * 2, none⟩) hb).trans c0
   have c1 : wr.cell? ⟨b, o + n * 2 + 1, none⟩ = some (.int .i64 x.2) := (hown.2.cell (p := ⟨b, o + n * 2 + 1, none⟩) hb).trans c1
   have hst := Lib.hid (Sz.clip_take hx)
   have hcl := Sz.clip_len (l.take n)
   rw [List.length_take] at hcl
   have hn0 : (0 : Int) ≤ (n : Int) := by omega
   have hn1 : (n : Int) < (l.length : Int) := by omega
   clear hx
   obtain ⟨x1, x2⟩ := x
   simp only at c0 c1
   have hzr := hown.2.size
   have HA := Lib.hid (sz_add (hown.1.alloc (.cells #[.int .i64 x1, .int .i64 x2] 85)) (by simp; omega) (by omega) (max x1 0) (min x2 200))
   have hmore : Hid (∀ v' w', w'.ownsRow w.heap.size 85 2 v' (Sz.clip (l.take n) ++ ext (max x1 0) (min x2 200)).length ((Sz.clip (l.take n) ++ ext (max x1 0) (min x2 200)).flatMap rgV) → (wr.alloc (.cells #[.int .i64 x1, .int .i64 x2] 85)).grownBy w' u3.ownBlock → RowsOwn 85 2 rgV w (Sz.clip (l.take (n + 1))) v' w') := Lib.hid (by
    intro v' w' h1 h2
    rw [hst.out]
    exact ⟨h1, (hown.2.alloc hown.2.size _).grown h2 (by simp; omega) (fun k hk => (hown.1.lt k hk).1)⟩)
   clear hown hst
   go_wp2_with fail
   refine (HA.out).mono ?_
   rintro e w3 ⟨v3, rfl, h1, h2, -⟩
   have hnew := hmore.out v3 w3 h1 h2
   clear h1 h2
   go_wp2_with fail
   exact ⟨⟨n + 1, by omega, by go_num, hnew⟩, by show l.length - ((n : Int) + 1).toNat < l.length - (n : Int).toNat; omega⟩
  ·obtain rfl : n = l.length := by omega
   rw [List.take_length] at hown
   have hcl := Sz.clip_len l
   have HS := Lib.hid (ris_sort hown (by omega))
   have hfin : Hid (∀ S : List Sz.Rg, S.Perm (Sz.clip l) → (∀ (i j : Nat) (x y : Sz.Rg), i < j → S[i]? = some x → S[j]? = some y → x.1 ≤ y.1) → Sz.Rising S ∧ S.length ≤ l.length ∧ ∀ n, Sz.holds S n = Sz.holds l n) := Lib.hid (by
    intro S hp hu
    exact ⟨⟨fun x hx => Sz.clip_bd l x (hp.mem_iff.1 hx), hu⟩, by rw [hp.length_eq]; exact hcl, fun n => by rw [Sz.holds_perm hp, Sz.clip_holds]⟩)
   clear hown hcl
   go_wp2_with fail
   refine (HS.out).mono ?_
   rintro e w3 ⟨rfl, S, hown3, hp, hu⟩
   have Hown3 := Lib.hid hown3
   have Hf := Lib.hid (hfin.out S hp hu)
   clear hown3 hp hu hfin
   go_wp2_with fail
   go_ret
   exact ⟨u3, S, rfl, Hown3.out, Hf.out⟩
open Go.RowKit
theorem flat_at {l : List Sz.Rg} {m : Nat} {q : Sz.Rg} (h : l[m]? = some q) : (l.flatMap rgV)[m * 2]? = some (.int .i64 q.1) ∧ (l.flatMap rgV)[m * 2 + 1]? = some (.int .i64 q.2) :=
 ⟨rows_at (f := rgV) (k := 2) l (fun _ _ => rfl) m q h 0 _ rfl, rows_at (f := rgV) (k := 2) l (fun _ _ => rfl) m q h 1 _ rfl⟩
theorem flat_set (out : List Sz.Rg) (q : Sz.Rg) (u : Int) : ((out ++ [q]).flatMap rgV).set (out.length * 2 + 1) (.int .i64 u) = (out ++ [(q.1, u)]).flatMap rgV := by
 rw [List.flatMap_append, List.flatMap_append]
 have hl : (out.flatMap rgV).length = out.length * 2 := rows_len (f := rgV) (k := 2) out (fun _ _ => rfl)
 rw [List.set_append_right _ _ (by omega)]
 congr 1
 rw [hl, show out.length * 2 + 1 - out.length * 2 = 1 by omega]
 rfl
theorem RowsOwn.last {w wr : World} {out : List Sz.Rg} {q : Sz.Rg} {g cap : Nat} {T : Nat} (h : RowsOwn T 2 rgV w (out ++ [q]) (.slice (some ⟨g, 0, none⟩) (out ++ [q]).length cap) wr) (u : Int) :
  RowsOwn T 2 rgV w (out ++ [(q.1, u)]) (.slice (some ⟨g, 0, none⟩) (out ++ [q]).length cap) (wr.setCell ⟨g, out.length * 2 + 1, none⟩ (.int .i64 u)) := by
 have hg := h.1.lt g rfl
 have hs := h.1.stored (out.length * 2 + 1) (.int .i64 u)
 refine ⟨?_, h.2.grown hs.2 h.2.size (fun k hk => by injection hk with hk; omega)⟩
 have h1 := hs.1
 rw [flat_set] at h1
 rw [List.length_append, List.length_singleton] at h1 ⊢
 rw [List.length_append, List.length_singleton]
 exact h1
theorem put_cases {S out : List Sz.Rg} {n : Nat} {x : Sz.Rg} (h : Sz.Put S n out) (hS : Sz.Rising S) (hx : S[n]? = some x) :
  (out = [] ∧ Sz.Put S (n + 1) [x]) ∨ ∃ o q, out = o ++ [q] ∧ 0 ≤ q.1 ∧ q.1 ≤ q.2 ∧ q.2 ≤ 200 ∧ ((x.1 ≤ q.2 + 1 ∧ Sz.Put S (n + 1) (o ++ [(q.1, max q.2 x.2)])) ∨ (¬ x.1 ≤ q.2 + 1 ∧ Sz.Put S (n + 1) (o ++ [q] ++ [x]))) := by
 rcases List.eq_nil_or_concat out with rfl | ⟨o, q, rfl⟩
 ·exact Or.inl ⟨rfl, h.first hS hx⟩
 ·rw [List.concat_eq_append] at h ⊢
  right
  have hb := h.nm.bd q (by simp)
  refine ⟨o, q, rfl, hb.1, hb.2.1, hb.2.2, ?_⟩
  by_cases hq : x.1 ≤ q.2 + 1
  ·exact Or.inl ⟨hq, h.on hS hx hq⟩
  ·exact Or.inr ⟨hq, h.more hS hx hq⟩
theorem sz_norm {w : World} {F : Nat → Prop} {v : Value} {l : List Sz.Rg} (h : Rgs w F v l) (hl : l.length ≤ 1000000) :
  Calls Tryz.prog 128 #[v] w fun e w' => ∃ v', e = .returned v' ∧ RowsOwn 85 2 rgV w (Sz.norm l) v' w' := by
 obtain ⟨i0, hi0, hz0, hz1, hz2⟩ := info_parts rangeInfo
 have HR := Lib.hid (sz_rising h hl)
 clear h
 go_enter Tryz.func128, Tryz.ntmps128
 go_wp2_with fail
 refine (HR.out).mono ?_
 rintro e w1 ⟨sv, S, rfl, hown1, hris, hlen, hsame⟩
 obtain ⟨A, cap, rfl, hcap⟩ := (hown1.rows (fun _ _ => rfl)).parts
 have Hown1 := Lib.hid hown1
 have Hris := Lib.hid hris
 have Hsame := Lib.hid hsame
 have hl' : (S.length : Int) ≤ 1000000 := by omega
 clear hown1 hris hsame
 go_wp2_with fail
 go_loopw [3, 10] (fun o i wr => ∃ (n : Nat) (out : List Sz.Rg), n ≤ S.length ∧ i = .int .i64 (n : Int) ∧ RowsOwn 85 2 rgV w1 out o wr ∧ Hid (Sz.Put S n out)) (fun _ i _ => S.length - (intOf i).toNat)
 case atStart => exact ⟨0, [], Nat.zero_le _, rfl, RowsOwn.start _ _ _ w1, Lib.hid (Sz.Put.start S)⟩
 case round =>
  obtain ⟨n, out, hn, rfl, hown, hput⟩ := hrel
  by_cases hlt : n < S.length
  ·have HS := Hown1.out.rows (fun _ _ => rfl)
   obtain ⟨b, o, cap', e, -, -, hb⟩ := HS.block (by omega)
   injection e with e1 e2 e3
   subst e1 e3
   obtain ⟨x, hx⟩ : ∃ x, S[n]? = some x := ⟨_, List.getElem?_eq_getElem hlt⟩
   obtain ⟨c0, c1⟩ := Rgs.at HS hx
   have c0 : wr.cell? ⟨b, o + n * 2, none⟩ = some (.int .i64 x.1) := (hown.2.cell (p := ⟨b, o + n * 2, none⟩) hb).trans c0
   have c1 : wr.cell? ⟨b, o + n * 2 + 1, none⟩ = some (.int .i64 x.2) := (hown.2.cell (p := ⟨b, o + n * 2 + 1, none⟩) hb).trans c1
   have hxb := Hris.out.bd x (List.mem_of_getElem? hx)
   have hcase := put_cases hput.out Hris.out hx
   have hol := hput.out.len
   have hn0 : (0 : Int) ≤ (n : Int) := by omega
   have hn1 : (n : Int) < (S.length : Int) := by omega
   clear HS hx hput
   obtain ⟨x1, x2⟩ := x
   simp only at c0 c1 hxb hcase
   have hzr := hown.2.size
   have hbox := Row.made wr 85 #[.int .i64 x1, .int .i64 x2]
   have hownW : RowsOwn 85 2 rgV w1 out u3 (wr.alloc (.cells #[.int .i64 x1, .int .i64 x2] 85)) := hown.below ((Below.refl _ _).alloc (Nat.le_refl _) _)
   clear hown
   rcases hcase with ⟨rfl, hput⟩ | ⟨out, q, rfl, q1, q2, q3, hcase⟩
   ·have Hput := Lib.hid hput
    obtain ⟨A3, c3, e3, hc3⟩ := (hownW.rows (fun _ _ => rfl)).parts
    rw [List.length_nil] at e3
    subst e3
    have Hbox := Lib.hid hbox
    have Hown := Lib.hid hownW
    clear hput hownW hbox
    go_wp2_with fail
    generalize wr.alloc (.cells #[.int .i64 x1, .int .i64 x2] 85) = W at *
    generalize wr.heap.size = B at *
    go_quiet (fail)
    have Hbox2 := Lib.hid (Row.behindDraws Hbox.out nq)
    have Hown2 := Lib.hid (Hown.out.below (below_drews' _ nq))
    clear Hbox Hown
    generalize W.drewN nq = W2 at *
    have hx0 : W2.cell? ⟨B, 0, none⟩ = some (.int .i64 x1) := Hbox2.out.at 0
    have hx1 : W2.cell? ⟨B, 1, none⟩ = some (.int .i64 x2) := Hbox2.out.at 1
    have hown3 := Hown2.out.1.alloc (.cells #[.int .i64 x1, .int .i64 x2] 85)
    have hmade := rg_made W2 85 x1 x2
    have hsz3 : w1.heap.size ≤ (W2.alloc (.cells #[.int .i64 x1, .int .i64 x2] 85)).heap.size := by have := Hown2.out.2.size; simp; omega
    go_wp2_with (at_builtin; refine wp_joins (f := rgV) (k := 2) rfl _ _ 82 rfl w1.heap.size 85 i0 (.agg #[.int .i64 0, .int .i64 0]) 16 Tryz.underlying82 hi0 hz0 hz1 hz2 rfl (by decide) rfl rfl hown3 hmade (fun _ _ => rfl) (fun x _ => rg_one x) ?c3 ?c4 hsz3 ?_)
    case c3 => unfold maxLen; first | omega | (simp <;> omega)
    case c4 => first | omega | (simp <;> omega)
    intro v3 w3 h1 h2 _
    have hnew := Hown2.out.more (x := (x1, x2)) (v' := v3) (by simpa using h1) h2
    clear h1 h2 hown3 hmade
    go_wp2_with fail
    exact ⟨⟨n + 1, _, by omega, by go_num, hnew, Hput⟩, by show S.length - ((n : Int) + 1).toNat < S.length - (n : Int).toNat; omega⟩
   ·obtain ⟨g, c3, rfl, hg0, hgl⟩ := hownW.1.form (by rw [List.length_append, List.length_singleton]; omega)
    obtain ⟨qa, qb⟩ := q
    have hHi := hownW.1.cellAt (out.length * 2 + 1) (by rw [List.length_append, List.length_singleton]; omega)
    rw [(flat_at (m := out.length) (q := (qa, qb)) (by simp)).2] at hHi
    have hFz := hownW.1.frozenAt (out.length * 2 + 1)
    have hBx : (wr.alloc (.cells #[.int .i64 x1, .int .i64 x2] 85)).cell? ⟨wr.heap.size, 1, none⟩ = some (.int .i64 x2) := hbox.at 1
    have hBx0 : (wr.alloc (.cells #[.int .i64 x1, .int .i64 x2] 85)).cell? ⟨wr.heap.size, 0, none⟩ = some (.int .i64 x1) := hbox.at 0
    have Hbox := Lib.hid hbox
    have Hown := Lib.hid hownW
    simp only at q1 q2 q3 hcase hHi
    have hm0 : (0 : Int) ≤ (out.length : Int) := by omega
    have hol2 : out.length + 1 ≤ n := by rw [List.length_append, List.length_singleton] at hol; exact hol
    have hm1 : (out.length : Int) ≤ 1000000 := by omega
    clear hownW hbox hol
    rw [show (out ++ [(qa, qb)]).length = out.length + 1 by rw [List.length_append, List.length_singleton]]
    rcases hcase with ⟨hle, hput⟩ | ⟨hle, hput⟩
    ·have d1 : decide (x1 ≤ qb + 1) = true := decide_eq_true hle
     have Hput := Lib.hid hput
     clear hput
     go_wp2_with fail
     generalize wr.alloc (.cells #[.int .i64 x1, .int .i64 x2] 85) = W at *
     generalize wr.heap.size = B at *
     go_quiet (fail)
     have Hown2 := Lib.hid (Hown.out.below (below_drews' _ nq))
     have hHi : (W.drewN nq).cell? ⟨g, out.length * 2 + 1, none⟩ = some (.int .i64 qb) := hHi
     have hFz : (W.drewN nq).frozen? ⟨g, out.length * 2 + 1, none⟩ = false := hFz
     have hBx : (W.drewN nq).cell? ⟨B, 1, none⟩ = some (.int .i64 x2) := hBx
     clear Hbox Hown hBx0
     generalize W.drewN nq = W2 at *
     go_wp2_with fail
     have hlt1 : (out.length : Int) < (out.length : Int) + 1 := by omega
     refine wp_region_tail (n := 10) (S := (fun w' : World => w'.cell? ⟨g, out.length * 2 + 1, none⟩ = some (.int .i64 qb) ∧ w'.cell? ⟨B, 1, none⟩ = some (.int .i64 x2))) (by kernel_rfl) (by kernel_rfl) (by rfl) (⟨hHi, hBx⟩) (fun hHeld => ?_)
     refine wpAnyH_td (i := 0) rfl ?_
     simp only [zz]
     refine wpAnyH_td (i := 1) rfl ?_
     simp only [zz]
     refine wpAnyH_td (i := 2) rfl ?_
     simp only [zz]
     refine wpAnyH_td (i := 3) rfl ?_
     simp only [zz]
     refine wpAnyH_td (i := 4) rfl ?_
     simp only [zz]
     refine wpAnyH_td (i := 5) rfl ?_
     simp only [zz]
     refine wpAnyH_tk (i := 6) (v := ?_) rfl (Or.inl ⟨by rfl, (by intro w hSw; have c0 := hSw.1; have c1 := hSw.2; go_simp; try with_reducible rfl)⟩) (by assumption) ?_
     simp only [zz]
     refine wpAnyH_td (i := 7) rfl ?_
     simp only [zz]
     refine wpAnyH_tk (i := 8) (v := ?_) rfl (Or.inl ⟨by rfl, (by intro w hSw; have c0 := hSw.1; have c1 := hSw.2; go_simp; try with_reducible rfl)⟩) (by assumption) ?_
     simp only [zz]
     refine wpAnyH_td (i := 9) rfl ?_
     simp only [zz]
     refine wpAnyH_done (by kernel_rfl) ?_ _
     refine wpAny_of_held (S := fun _ => True) _ _ _ _ ?_
     have hHeld : True := trivial
     refine wpAnyH_td (i := 10) rfl ?_
     simp only [zz]
     refine wpAnyH_td (i := 11) rfl ?_
     simp only [zz]
     refine wpAnyH_ready (rs := [12]) (by kernel_rfl) (by simp) ?_
     refine AllReadyH.cons rfl (fun K hK => ?_) AllReadyH.nil
     go_simp
     refine hK.out _ _ trivial (fun hHeld => ?_)
     clear hK K
     refine wpAnyH_done (by kernel_rfl) ?_ _
     have hnew := (Hown2.out.last (max qb x2)).below (Below.drew (Below.refl _ _))
     rw [show (out ++ [(qa, qb)]).length = out.length + 1 by rw [List.length_append, List.length_singleton]] at hnew
     clear hFz hHi hBx hHeld
     go_wp2_with fail
     exact ⟨⟨n + 1, _, by omega, by go_num, hnew, Hput⟩, by show S.length - ((n : Int) + 1).toNat < S.length - (n : Int).toNat; omega⟩
    ·have d1 : decide (x1 ≤ qb + 1) = false := decide_eq_false hle
     have Hput := Lib.hid hput
     clear hput hFz
     go_wp2_with fail
     generalize wr.alloc (.cells #[.int .i64 x1, .int .i64 x2] 85) = W at *
     generalize wr.heap.size = B at *
     go_quiet (fail)
     have Hbox2 := Lib.hid (Row.behindDraws Hbox.out nq)
     have Hown2 := Lib.hid (Hown.out.below (below_drews' _ nq))
     rw [show (out ++ [(qa, qb)]).length = out.length + 1 by rw [List.length_append, List.length_singleton]] at Hown2
     clear Hbox Hown hHi hBx hBx0
     generalize W.drewN nq = W2 at *
     have hx0 : W2.cell? ⟨B, 0, none⟩ = some (.int .i64 x1) := Hbox2.out.at 0
     have hx1 : W2.cell? ⟨B, 1, none⟩ = some (.int .i64 x2) := Hbox2.out.at 1
     have hown3 := Hown2.out.1.alloc (.cells #[.int .i64 x1, .int .i64 x2] 85)
     have hmade := rg_made W2 85 x1 x2
     have hsz3 : w1.heap.size ≤ (W2.alloc (.cells #[.int .i64 x1, .int .i64 x2] 85)).heap.size := by have := Hown2.out.2.size; simp; omega
     go_wp2_with (at_builtin; refine wp_joins (f := rgV) (k := 2) rfl _ _ 82 rfl w1.heap.size 85 i0 (.agg #[.int .i64 0, .int .i64 0]) 16 Tryz.underlying82 hi0 hz0 hz1 hz2 rfl (by decide) rfl rfl hown3 hmade (fun _ _ => rfl) (fun x _ => rg_one x) ?c3 ?c4 hsz3 ?_)
     case c3 => unfold maxLen; first | omega | (simp <;> omega)
     case c4 => first | omega | (simp <;> omega)
     intro v3 w3 h1 h2 _
     have hnew := Hown2.out.more (x := (x1, x2)) (v' := v3) (by simpa using h1) h2
     clear h1 h2 hown3 hmade
     go_wp2_with fail
     exact ⟨⟨n + 1, _, by omega, by go_num, hnew, Hput⟩, by show S.length - ((n : Int) + 1).toNat < S.length - (n : Int).toNat; omega⟩
  ·obtain rfl : n = S.length := by omega
   have Hend : Hid (RowsOwn 85 2 rgV w (Sz.norm l) u3 wr) := Lib.hid (by
    rw [← hput.out.done Hsame.out]
    exact hown.since Hown1.out.2)
   clear hown hput
   go_wp2_with fail
   go_ret
   exact ⟨u3, rfl, Hend.out⟩
open Go.RowKit
theorem gb_set (w : World) (p : Addr) (u : Value) : w.grownBy (w.setCell p u) (some p.block) :=
 ⟨rfl, rfl, rfl, by simp [World.setCell], fun k _ hn => Below.heap_setCell w p u k (fun e => hn (by rw [e]))⟩
structure CutAt (W : World) (c hi : Int) (I O : List Sz.Rg) (vi vo : Value) (wr : World) : Prop where
 oi : wr.ownsRow (W.heap.size + 1) 85 2 vi I.length (I.flatMap rgV)
 oo : wr.ownsRow (W.heap.size + 1) 85 2 vo O.length (O.flatMap rgV)
 ap : ∀ g, vi.ownBlock = some g → vo.ownBlock ≠ some g
 row : Row wr W.heap.size 85 #[.int .i64 c, .int .i64 hi]
 bel : Below W.heap.size W wr
 sz : W.heap.size + 1 ≤ wr.heap.size
section
variable {W wr w' : World} {c hi : Int} {I O X : List Sz.Rg} {vi vo v' : Value}
theorem CutAt.start (W : World) (lo hi : Int) : CutAt W lo hi [] [] (.slice none 0 0) (.slice none 0 0) (W.alloc (.cells #[.int .i64 lo, .int .i64 hi] 85)) :=
 ⟨World.ownsRow_nil _ _ _ _, World.ownsRow_nil _ _ _ _, fun g h => (by cases h), Row.made W _ _, (Below.refl _ _).alloc (Nat.le_refl _) _, by simp⟩
theorem CutAt.alloc (h : CutAt W c hi I O vi vo wr) (o : Obj) : CutAt W c hi I O vi vo (wr.alloc o) :=
 ⟨h.oi.alloc o, h.oo.alloc o, h.ap, h.row.behindNew o, h.bel.alloc h.bel.size o, by have := h.sz; simp; omega⟩
theorem CutAt.out (h : CutAt W c hi I O vi vo wr) (ho : w'.ownsRow (W.heap.size + 1) 85 2 v' (O ++ X).length ((O ++ X).flatMap rgV)) (hg : wr.grownBy w' vo.ownBlock) (hn : Near wr vo v') : CutAt W c hi I (O ++ X) vi v' w' := by
 have hne : ∀ k, vo.ownBlock = some k → W.heap.size + 1 ≤ k := fun k hk => (h.oo.lt k hk).1
 exact ⟨own_left h.oi hg h.ap, ho, hn.apart h.ap h.oi (Nat.le_refl _), h.row.grown hg (fun e => by have := hne _ e; omega), h.bel.grown hg h.bel.size (fun k hk => by have := hne k hk; omega), by have := hg.size; have := h.sz; omega⟩
theorem CutAt.in_ (h : CutAt W c hi I O vi vo wr) (ho : w'.ownsRow (W.heap.size + 1) 85 2 v' (I ++ X).length ((I ++ X).flatMap rgV)) (hg : wr.grownBy w' vi.ownBlock) (hn : Near wr vi v') : CutAt W c hi (I ++ X) O v' vo w' := by
 have hne : ∀ k, vi.ownBlock = some k → W.heap.size + 1 ≤ k := fun k hk => (h.oi.lt k hk).1
 have ap2 : ∀ g, vo.ownBlock = some g → vi.ownBlock ≠ some g := fun g h1 h2 => h.ap g h2 h1
 have hap := hn.apart ap2 h.oo (Nat.le_refl _)
 exact ⟨ho, own_left h.oo hg ap2, fun g h1 h2 => hap g h2 h1, h.row.grown hg (fun e => by have := hne _ e; omega), h.bel.grown hg h.bel.size (fun k hk => by have := hne k hk; omega), by have := hg.size; have := h.sz; omega⟩
theorem CutAt.set (h : CutAt W c hi I O vi vo wr) (d : Int) : CutAt W d hi I O vi vo (wr.setCell ⟨W.heap.size, 0, none⟩ (.int .i64 d)) := by
 have hg := gb_set wr ⟨W.heap.size, 0, none⟩ (.int .i64 d)
 refine ⟨own_left h.oi hg (fun g e1 e2 => ?_), own_left h.oo hg (fun g e1 e2 => ?_), h.ap, by simpa using h.row.stored 0 (.int .i64 d), h.bel.grown hg h.bel.size (fun k hk => by injection hk with hk; exact Nat.le_of_eq hk), by simpa [World.setCell] using h.sz⟩
 ·have := (h.oi.lt g e1).1
  injection e2 with e2
  have e3 : W.heap.size = g := e2
  omega
 ·have := (h.oo.lt g e1).1
  injection e2 with e2
  have e3 : W.heap.size = g := e2
  omega
end
theorem cut_step {B : List Sz.Rg} {n : Nat} {s : Sz.Rg} (h : B[n]? = some s) (c hi : Int) : Sz.cutR c hi (B.drop n) =
  (ext (max c s.1) (min hi s.2) ++ (Sz.cutR (max c (s.2 + 1)) hi (B.drop (n + 1))).1, ext c (min hi (s.1 - 1)) ++ (Sz.cutR (max c (s.2 + 1)) hi (B.drop (n + 1))).2) := by
 obtain ⟨hl, he⟩ := List.getElem?_eq_some_iff.1 h
 rw [List.drop_eq_getElem_cons hl, he]
 rfl
theorem sz_cut {W : World} {F : Nat → Prop} {sv : Value} {B : List Sz.Rg} {sb : Nat} (hs : Rgs W F sv B) (hB : B.length ≤ 1000) (hnm : Sz.Nm 0 B) (hcell : W.cell? ⟨sb, 0, none⟩ = some sv) (hsb : sb < W.heap.size) (lo hi : Int) (h0 : 0 ≤ lo) (h1 : lo ≤ 200) (h2 : 0 ≤ hi) (h3 : hi ≤ 200) :
  Calls Tryz.prog 148 #[.agg #[.int .i64 lo, .int .i64 hi], .pointer (some ⟨sb, 0, none⟩)] W fun e w' => ∃ vi vo, e = .returned (.tuple #[vi, vo]) ∧ Rgs w' (NewIn W w') vi (Sz.cutR lo hi B).1 ∧ Rgs w' (NewIn W w') vo (Sz.cutR lo hi B).2 ∧ Below W.heap.size W w' := by
 obtain ⟨A, cap, rfl, hcap⟩ := hs.parts
 have H := Lib.hid hs
 have Hnm := Lib.hid hnm
 have hB' : (B.length : Int) ≤ 1000 := by omega
 clear hs hnm
 go_enter Tryz.func148, Tryz.ntmps148
 have Hst := Lib.hid (CutAt.start W lo hi)
 have hcell0 : (W.alloc (.cells #[.int .i64 lo, .int .i64 hi] 85)).cell? ⟨sb, 0, none⟩ = some (.slice A B.length cap) := (Hst.out.bel.cell (p := ⟨sb, 0, none⟩) hsb).trans hcell
 go_wp2_with fail
 go_loopw [3, 4, 9] (fun vi vo i wr => ∃ (n : Nat) (c : Int) (I O : List Sz.Rg), n ≤ B.length ∧ i = .int .i64 (n : Int) ∧ CutAt W c hi I O vi vo wr ∧ 0 ≤ c ∧ c ≤ 201 ∧ I.length ≤ n ∧ O.length ≤ n ∧ Hid (Sz.cutR lo hi B = (I ++ (Sz.cutR c hi (B.drop n)).1, O ++ (Sz.cutR c hi (B.drop n)).2))) (fun _ _ i _ => B.length - (intOf i).toNat)
 case atStart => exact ⟨0, lo, [], [], Nat.zero_le _, rfl, Hst.out, h0, by omega, Nat.le_refl _, Nat.le_refl _, Lib.hid rfl⟩
 case round =>
  obtain ⟨n, c, I, O, hn, rfl, hat, hc0, hc1, hI, hO, hcut⟩ := hrel
  have q0 : wr.cell? ⟨W.heap.size, 0, none⟩ = some (.int .i64 c) := hat.row.at 0
  have q1 : wr.cell? ⟨W.heap.size, 1, none⟩ = some (.int .i64 hi) := hat.row.at 1
  clear hcell0 Hst
  by_cases hlt : n < B.length
  ·obtain ⟨b, o, cap', e, -, -, hb⟩ := H.out.block (by omega)
   injection e with e1 e2 e3
   subst e1 e3
   obtain ⟨x, hx⟩ : ∃ x, B[n]? = some x := ⟨_, List.getElem?_eq_getElem hlt⟩
   obtain ⟨c0, c1⟩ := Rgs.at (H.out.below (Below.refl _ _)) hx
   have c0 : wr.cell? ⟨b, o + n * 2, none⟩ = some (.int .i64 x.1) := (hat.bel.cell (p := ⟨b, o + n * 2, none⟩) hb).trans c0
   have c1 : wr.cell? ⟨b, o + n * 2 + 1, none⟩ = some (.int .i64 x.2) := (hat.bel.cell (p := ⟨b, o + n * 2 + 1, none⟩) hb).trans c1
   have hxb := Hnm.out.bd x (List.mem_of_getElem? hx)
   have hst := cut_step hx c hi
   have hn0 : (0 : Int) ≤ (n : Int) := by omega
   have hn1 : (n : Int) < (B.length : Int) := by omega
   clear hx
   obtain ⟨x1, x2⟩ := x
   simp only at c0 c1 hxb hst
   obtain ⟨x3, x4, x5⟩ := hxb
   have hcut2 : Hid (Sz.cutR lo hi B = ((I ++ ext (max c x1) (min hi x2)) ++ (Sz.cutR (max c (x2 + 1)) hi (B.drop (n + 1))).1, (O ++ ext c (min hi (x1 - 1))) ++ (Sz.cutR (max c (x2 + 1)) hi (B.drop (n + 1))).2)) := Lib.hid (by
    rw [hcut.out, hst]
    simp only [List.append_assoc])
   have hat2 := hat.alloc (.cells #[.int .i64 x1, .int .i64 x2] 85)
   have hsx := Row.made wr 85 #[.int .i64 x1, .int .i64 x2]
   have hzb : W.heap.size < wr.heap.size := by have := hat.sz; omega
   have HA := Lib.hid (sz_add hat2.oo hat2.sz (by omega) c (min hi (x1 - 1)))
   have hvo : Hid (∀ g, u4.ownBlock = some g → g < wr.heap.size) := Lib.hid (fun g hg => (hat.oo.lt g hg).2)
   have hvi : Hid (∀ g, u3.ownBlock = some g → g < wr.heap.size) := Lib.hid (fun g hg => (hat.oi.lt g hg).2)
   have Hat2 := Lib.hid hat2
   have Hsx := Lib.hid hsx
   clear hat hat2 hcut hst hsx
   go_wp2_with fail
   refine (HA.out).mono ?_
   rintro e w2 ⟨v2, rfl, g1, g2, g3⟩
   have hat3 := Hat2.out.out g1 g2 g3
   have hsx3 := Hsx.out.grown g2 (fun e => by have := hvo.out _ e; omega)
   have q0 : w2.cell? ⟨W.heap.size, 0, none⟩ = some (.int .i64 c) := hat3.row.at 0
   have q1 : w2.cell? ⟨W.heap.size, 1, none⟩ = some (.int .i64 hi) := hat3.row.at 1
   have p0 : w2.cell? ⟨wr.heap.size, 0, none⟩ = some (.int .i64 x1) := hsx3.at 0
   have p1 : w2.cell? ⟨wr.heap.size, 1, none⟩ = some (.int .i64 x2) := hsx3.at 1
   have HA2 := Lib.hid (sz_add hat3.oi hat3.sz (by omega) (max c x1) (min hi x2))
   have Hat3 := Lib.hid hat3
   have Hsx3 := Lib.hid hsx3
   clear hat3 hsx3 g1 g2 g3 HA Hat2 Hsx hvo
   go_wp2_with fail
   refine (HA2.out).mono ?_
   rintro e w3 ⟨v3, rfl, g1, g2, g3⟩
   have hat4 := Hat3.out.in_ g1 g2 g3
   have hsx4 := Hsx3.out.grown g2 (fun e => by have := hvi.out _ e; omega)
   have q0 : w3.cell? ⟨W.heap.size, 0, none⟩ = some (.int .i64 c) := hat4.row.at 0
   have f0 := hat4.row.free 0
   have p1 : w3.cell? ⟨wr.heap.size, 1, none⟩ = some (.int .i64 x2) := hsx4.at 1
   have Hat5 := Lib.hid (hat4.set (max c (x2 + 1)))
   clear hat4 hsx4 g1 g2 g3 HA2 Hat3 Hsx3 hvi
   go_wp2_with fail
   have l1 := ext_len (max c x1) (min hi x2)
   have l2 := ext_len c (min hi (x1 - 1))
   exact ⟨⟨n + 1, max c (x2 + 1), _, _, by omega, by go_num, Hat5.out, by omega, by omega, by rw [List.length_append]; omega, by rw [List.length_append]; omega, hcut2⟩, by show B.length - ((n : Int) + 1).toNat < B.length - (n : Int).toNat; omega⟩
  ·obtain rfl : n = B.length := by omega
   have hcut2 : Hid (Sz.cutR lo hi B = (I, O ++ ext c hi)) := Lib.hid (by
    rw [hcut.out, List.drop_length]
    show (I ++ [], O ++ ext c hi) = _
    rw [List.append_nil])
   have HA := Lib.hid (sz_add hat.oo hat.sz (by omega) c hi)
   have Hat := Lib.hid hat
   clear hat hcut
   go_wp2_with fail
   refine (HA.out).mono ?_
   rintro e w2 ⟨v2, rfl, g1, g2, g3⟩
   have Hat3 := Lib.hid (Hat.out.out g1 g2 g3)
   clear g1 g2 g3 HA Hat
   go_wp2_with fail
   go_ret2
   refine ⟨_, _, rfl, ?_, ?_, Hat3.out.bel⟩
   ·rw [hcut2.out]
    exact Rws.ofOwn Hat3.out.oi rfl (fun _ _ => rfl) (fun b _ h1 h2 => ⟨by omega, h2⟩)
   ·rw [hcut2.out]
    exact Rws.ofOwn Hat3.out.oo rfl (fun _ _ => rfl) (fun b _ h1 h2 => ⟨by omega, h2⟩)
open Go.RowKit
def cutF (sb : Nat) : Value := .func (.func 148) #[] #[.pointer (some ⟨sb, 0, none⟩)]
theorem sz_cutter {w : World} {F : Nat → Prop} {v : Value} {l : List Sz.Rg} (h : Rgs w F v l) (hl : l.length ≤ 1000000) :
  Calls Tryz.prog 127 #[v] w fun e w' => ∃ sb sv, e = .returned (cutF sb) ∧ w'.cell? ⟨sb, 0, none⟩ = some sv ∧ Rgs w' (NewIn w w') sv (Sz.norm l) ∧ sb < w'.heap.size ∧ Below w.heap.size w w' := by
 unfold cutF
 have HN := Lib.hid (sz_norm h hl)
 clear h
 go_enter Tryz.func127, Tryz.ntmps127
 go_wp2_with fail
 refine (HN.out).mono ?_
 rintro e w1 ⟨v1, rfl, h1⟩
 obtain ⟨A, cap, rfl, hcap⟩ := (h1.rows (fun _ _ => rfl)).parts
 have Hend := Lib.hid (h1.rows (fun _ _ => rfl))
 have Hb := Lib.hid h1.2
 clear h1
 go_wp2_with fail
 go_ret
 have hb2 : Below w1.heap.size w1 (w1.alloc (.cells #[.slice A (Sz.norm l).length cap] 82)) := (Below.refl _ _).alloc (Nat.le_refl _) _
 exact ⟨w1.heap.size, _, rfl, (Row.made w1 82 #[.slice A (Sz.norm l).length cap]).at 0, (Hend.out.below hb2).mono (fun i hi => ⟨hi.1, by have := hi.2; simp; omega⟩), by simp, Hb.out.trans (hb2.mono Hb.out.size)⟩
structure PartAt (w : World) (I O : List Sz.Rg) (vi vo : Value) (wr : World) : Prop where
 oi : wr.ownsRow w.heap.size 85 2 vi I.length (I.flatMap rgV)
 oo : wr.ownsRow w.heap.size 85 2 vo O.length (O.flatMap rgV)
 ap : ∀ g, vi.ownBlock = some g → vo.ownBlock ≠ some g
 bel : Below w.heap.size w wr
section
variable {w wr w' : World} {I O X : List Sz.Rg} {vi vo v' : Value}
theorem PartAt.start (w : World) : PartAt w [] [] (.slice none 0 0) (.slice none 0 0) w := ⟨World.ownsRow_nil _ _ _ _, World.ownsRow_nil _ _ _ _, fun g h => (by cases h), Below.refl _ _⟩
theorem PartAt.below (h : PartAt w I O vi vo wr) (hb : Below wr.heap.size wr w') : PartAt w I O vi vo w' := by
 have hg : wr.grownBy w' none := ⟨hb.os, hb.tape, hb.output, hb.size, fun k hk _ => hb.block k hk⟩
 exact ⟨own_left h.oi hg (fun g _ e => by cases e), own_left h.oo hg (fun g _ e => by cases e), h.ap, h.bel.trans (hb.mono h.bel.size)⟩
theorem PartAt.out (h : PartAt w I O vi vo wr) (ho : w'.ownsRow w.heap.size 85 2 v' (O.length + X.length) (O.flatMap rgV ++ X.flatMap rgV)) (hg : wr.grownBy w' vo.ownBlock) (hn : Near wr vo v') : PartAt w I (O ++ X) vi v' w' := by
 have ho2 : w'.ownsRow w.heap.size 85 2 v' (O ++ X).length ((O ++ X).flatMap rgV) := by rw [List.length_append, List.flatMap_append]; exact ho
 exact ⟨own_left h.oi hg h.ap, ho2, hn.apart h.ap h.oi (Nat.le_refl _), h.bel.grown hg h.bel.size (fun k hk => (h.oo.lt k hk).1)⟩
theorem PartAt.in_ (h : PartAt w I O vi vo wr) (ho : w'.ownsRow w.heap.size 85 2 v' (I.length + X.length) (I.flatMap rgV ++ X.flatMap rgV)) (hg : wr.grownBy w' vi.ownBlock) (hn : Near wr vi v') : PartAt w (I ++ X) O v' vo w' := by
 have ho2 : w'.ownsRow w.heap.size 85 2 v' (I ++ X).length ((I ++ X).flatMap rgV) := by rw [List.length_append, List.flatMap_append]; exact ho
 have ap2 : ∀ g, vo.ownBlock = some g → vi.ownBlock ≠ some g := fun g h1 h2 => h.ap g h2 h1
 have hap := hn.apart ap2 h.oo (Nat.le_refl _)
 exact ⟨ho2, own_left h.oo hg ap2, fun g h1 h2 => hap g h2 h1, h.bel.grown hg h.bel.size (fun k hk => (h.oi.lt k hk).1)⟩
end
theorem sz_part {w : World} {F G : Nat → Prop} {u v : Value} {a b : List Sz.Rg} (ha : Rgs w F u a) (hb : Rgs w G v b) (la : a.length ≤ 1000000) (lb : b.length ≤ 1000000) :
  Calls Tryz.prog 104 #[u, v] w fun e w' => ∃ vi vo, e = .returned (.tuple #[vi, vo]) ∧ Rgs w' (NewIn w w') vi (Sz.two 1 a b) ∧ Rgs w' (NewIn w w') vo (Sz.two 2 a b) ∧ Below w.heap.size w w' := by
 obtain ⟨i0, hi0, hz0, hz1, hz2⟩ := info_parts rangeInfo
 have HC := Lib.hid (sz_cutter hb lb)
 have HA := Lib.hid (fun (W : World) (h : Below w.heap.size w W) => sz_norm (ha.below h) la)
 unfold cutF at HC
 clear ha hb
 go_enter Tryz.func104, Tryz.ntmps104
 go_wp2_with fail
 refine (HC.out).mono ?_
 rintro e w1 ⟨sb, sv, rfl, k1, k2, k3, k4⟩
 have Hsv := Lib.hid k2
 have Hcell := Lib.hid k1
 have Hsb := Lib.hid k3
 have Hb1 := Lib.hid k4
 clear k1 k2 k3 k4 HC
 go_wp2_with fail
 refine (HA.out w1 Hb1.out).mono ?_
 rintro e w2 ⟨v2, rfl, h2⟩
 obtain ⟨A, cap, rfl, hcap⟩ := (h2.rows (fun _ _ => rfl)).parts
 have H2 := Lib.hid h2
 have hla : ((Sz.norm a).length : Int) ≤ 202 := by have := Sz.norm_len a; omega
 clear h2 HA
 go_wp2_with fail
 go_loopw [4, 5, 16] (fun vi vo i wr => ∃ n : Nat, n ≤ (Sz.norm a).length ∧ i = .int .i64 (n : Int) ∧ PartAt w2 (Sz.partIn (Sz.norm b) ((Sz.norm a).take n)) (Sz.partOut (Sz.norm b) ((Sz.norm a).take n)) vi vo wr) (fun _ _ i _ => (Sz.norm a).length - (intOf i).toNat)
 case atStart => exact ⟨0, Nat.zero_le _, rfl, PartAt.start w2⟩
 case round =>
  obtain ⟨n, hn, rfl, hat⟩ := hrel
  by_cases hlt : n < (Sz.norm a).length
  ·have HS := H2.out.rows (fun _ _ => rfl)
   obtain ⟨b1, o, cap', e, -, -, hb⟩ := HS.block (by omega)
   injection e with e1 e2 e3
   subst e1 e3
   obtain ⟨x, hx⟩ : ∃ x, (Sz.norm a)[n]? = some x := ⟨_, List.getElem?_eq_getElem hlt⟩
   obtain ⟨c0, c1⟩ := Rgs.at HS hx
   have c0 : wr.cell? ⟨b1, o + n * 2, none⟩ = some (.int .i64 x.1) := (hat.bel.cell (p := ⟨b1, o + n * 2, none⟩) hb).trans c0
   have c1 : wr.cell? ⟨b1, o + n * 2 + 1, none⟩ = some (.int .i64 x.2) := (hat.bel.cell (p := ⟨b1, o + n * 2 + 1, none⟩) hb).trans c1
   have hxb := (Sz.norm_nm a).bd x (List.mem_of_getElem? hx)
   have hst := Lib.hid (Sz.part_take (b := Sz.norm b) hx)
   have hlen := Sz.part_len (Sz.norm b) ((Sz.norm a).take n)
   have hl1 : ((Sz.norm a).take n).length ≤ 202 := by rw [List.length_take]; omega
   have hl2 := Sz.norm_len b
   have hm1 : ((Sz.norm a).take n).length * (Sz.norm b).length ≤ 202 * 202 := Nat.mul_le_mul hl1 hl2
   have hm2 : ((Sz.norm a).take n).length * ((Sz.norm b).length + 1) ≤ 202 * 203 := Nat.mul_le_mul hl1 (by omega)
   have hcl := Sz.cutR_len (Sz.norm b) x.1 x.2
   have hn0 : (0 : Int) ≤ (n : Int) := by omega
   have hn1 : (n : Int) < ((Sz.norm a).length : Int) := by omega
   clear hx HS
   obtain ⟨x1, x2⟩ := x
   simp only at c0 c1 hxb hst hcl
   have hb0 : Below wr.heap.size wr (wr.alloc (.cells #[.int .i64 x1, .int .i64 x2] 85)) := (Below.refl _ _).alloc (Nat.le_refl _) _
   have hat3 := hat.below hb0
   have hs3 : w1.heap.size ≤ (wr.alloc (.cells #[.int .i64 x1, .int .i64 x2] 85)).heap.size := Nat.le_trans H2.out.2.size hat3.bel.size
   have hw13 : Below w1.heap.size w1 (wr.alloc (.cells #[.int .i64 x1, .int .i64 x2] 85)) := H2.out.2.trans (hat3.bel.mono H2.out.2.size)
   have HK := Lib.hid (sz_cut (Hsv.out.below hw13) (by omega) (Sz.norm_nm b) ((hw13.cell (p := ⟨sb, 0, none⟩) Hsb.out).trans Hcell.out) (Nat.lt_of_lt_of_le Hsb.out hw13.size) x1 x2 (by omega) (by omega) (by omega) (by omega))
   have Hat3 := Lib.hid hat3
   have hI : (Sz.partIn (Sz.norm b) ((Sz.norm a).take n)).length ≤ 100000 := by omega
   have hO : (Sz.partOut (Sz.norm b) ((Sz.norm a).take n)).length ≤ 100000 := by omega
   generalize Sz.partIn (Sz.norm b) ((Sz.norm a).take n) = I at *
   generalize Sz.partOut (Sz.norm b) ((Sz.norm a).take n) = O at *
   clear hat hat3 hb0 hs3 hw13 hm1 hm2 hl1
   go_wp2_with fail
   refine (HK.out).mono ?_
   rintro e w4 ⟨vi4, vo4, rfl, g1, g2, g3⟩
   have hat4 := Hat3.out.below g3
   have hlo : ∀ i, u4.ownBlock = some i → i < (wr.alloc (.cells #[.int .i64 x1, .int .i64 x2] 85)).heap.size := fun i e => (Hat3.out.oi.lt i e).2
   have Hlo := Lib.hid hlo
   have hz4 : w2.heap.size ≤ w4.heap.size := hat4.bel.size
   have Hat4 := Lib.hid hat4
   have own4 := hat4.oi
   have G2 := Lib.hid g2
   clear hat4 hlo g2 g3 HK Hat3
   go_wp2_with (at_builtin; refine wp_joins (f := rgV) (k := 2) rfl _ _ 82 rfl w2.heap.size 85 i0 (.agg #[.int .i64 0, .int .i64 0]) 16 Tryz.underlying82 hi0 hz0 hz1 hz2 rfl (by decide) rfl rfl own4 g1 (fun _ _ => rfl) (fun x _ => rg_one x) ?c3 ?c4 hz4 ?_)
   case c3 => unfold maxLen; omega
   case c4 => omega
   intro v5 w5 j1 j2 j3
   have hat5 := Hat4.out.in_ j1 j2 j3
   have g2 := G2.out.kept (Kept.ofGrown (F := fun i => u4.ownBlock = some i) j2 (fun i e => e)) (fun i hi e => by have := Hlo.out i e; have := hi.1; omega)
   have hz5 : w2.heap.size ≤ w5.heap.size := hat5.bel.size
   have Hat5 := Lib.hid hat5
   have own5 := hat5.oo
   clear hat5 j1 j2 j3 Hat4 own4 g1 G2 Hlo
   go_wp2_with (at_builtin; refine wp_joins (f := rgV) (k := 2) rfl _ _ 82 rfl w2.heap.size 85 i0 (.agg #[.int .i64 0, .int .i64 0]) 16 Tryz.underlying82 hi0 hz0 hz1 hz2 rfl (by decide) rfl rfl own5 g2 (fun _ _ => rfl) (fun x _ => rg_one x) ?c3 ?c4 hz5 ?_)
   case c3 => unfold maxLen; omega
   case c4 => omega
   intro v6 w6 j1 j2 j3
   have hat6 := Hat5.out.out j1 j2 j3
   rw [← hst.out.1, ← hst.out.2] at hat6
   have Hat6 := Lib.hid hat6
   clear hat6 j1 j2 j3 Hat5 own5 g2
   go_wp2_with fail
   exact ⟨⟨n + 1, by omega, by go_num, Hat6.out⟩, by show (Sz.norm a).length - ((n : Int) + 1).toNat < (Sz.norm a).length - (n : Int).toNat; omega⟩
  ·obtain rfl : n = (Sz.norm a).length := by omega
   rw [List.take_length, (Sz.part_is a b).1, (Sz.part_is a b).2] at hat
   have Hat := Lib.hid hat
   have hbel : Hid (Below w.heap.size w w2) := Lib.hid (Hb1.out.trans (H2.out.2.mono Hb1.out.size))
   clear hat
   go_wp2_with fail
   go_ret2
   have hz := hbel.out.size
   exact ⟨_, _, rfl, Rws.ofOwn Hat.out.oi rfl (fun _ _ => rfl) (fun b _ h1 h2 => ⟨by omega, h2⟩), Rws.ofOwn Hat.out.oo rfl (fun _ _ => rfl) (fun b _ h1 h2 => ⟨by omega, h2⟩), hbel.out.trans (Hat.out.bel.mono hbel.out.size)⟩
open Go.RowKit Go.Shelf Go.Lib
open Go.RowKit
section
variable {w : World} {F G : Nat → Prop} {u v : Value} {a b l : List Sz.Rg}
theorem sz_meet (ha : Rgs w F u a) (hb : Rgs w G v b) (la : a.length ≤ 1000000) (lb : b.length ≤ 1000000) :
  Calls Tryz.prog 82 #[u, v] w fun e w' => ∃ v', e = .returned v' ∧ Rgs w' (NewIn w w') v' (Sz.two 1 a b) ∧ Below w.heap.size w w' := by
 have HP := Lib.hid (sz_part ha hb la lb)
 clear ha hb
 go_enter Tryz.func82, Tryz.ntmps82
 go_wp2_with fail
 refine (HP.out).mono ?_
 rintro e w1 ⟨vi, vo, rfl, g1, g2, g3⟩
 have G1 := Lib.hid g1
 have G3 := Lib.hid g3
 clear g1 g2 g3
 go_wp2_with fail
 go_ret
 exact ⟨vi, rfl, G1.out, G3.out⟩
theorem sz_minus (ha : Rgs w F u a) (hb : Rgs w G v b) (la : a.length ≤ 1000000) (lb : b.length ≤ 1000000) :
  Calls Tryz.prog 92 #[u, v] w fun e w' => ∃ v', e = .returned v' ∧ Rgs w' (NewIn w w') v' (Sz.two 2 a b) ∧ Below w.heap.size w w' := by
 have HP := Lib.hid (sz_part ha hb la lb)
 clear ha hb
 go_enter Tryz.func92, Tryz.ntmps92
 go_wp2_with fail
 refine (HP.out).mono ?_
 rintro e w1 ⟨vi, vo, rfl, g1, g2, g3⟩
 have G2 := Lib.hid g2
 have G3 := Lib.hid g3
 clear g1 g2 g3
 go_wp2_with fail
 go_ret
 exact ⟨vo, rfl, G2.out, G3.out⟩
end
end Go.Proofs.YtkcgmnhjofoeiaaGreat
