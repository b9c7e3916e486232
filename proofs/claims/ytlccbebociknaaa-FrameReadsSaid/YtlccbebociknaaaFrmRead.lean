/- The package frame as it landed: Read; a text laid into a block of its own and appended. -/
import Derived.Test.YtlccbebociknaaaFrmFirst
import Derived.Deep.RegionLaw
namespace Go.Proofs.Ytlccbebociknaaa
open Go.ChangeShapes Go.WideShapes Go.ChangeAt Go.RowKit Go.Deep

theorem gb_undrew {a w : World} {r : Option Nat} (h : a.drew.grownBy w r) : a.grownBy w r := ⟨h.os, h.tape, h.output, h.size, h.block⟩

/-- A text laid into a block of its own and appended, in a region that draws its order. -/
theorem step_text {ops : Array Oper} {o : Oper} {a : Act} {base : Nat} {wr : World} {K : Act → World → Prop} {Q : Exit → Act → World → Prop} {E : Prop} (hgd : o.guard = none) (s x : Operand)
    (ho : o.op = .call { callee := .builtin .append, args := #[s, x], argTypes := #[22, 22] })
    (v : Value) (k : Nat) (q : ByteArray) (xs : List Value) (hs : a.eval s = v) (hx : a.eval x = .slice (some ⟨wr.heap.size, 0, none⟩) 1 1)
    (hown : wr.ownsRow base 9 1 v k xs) (hbase : base ≤ wr.heap.size) (hk : k + 1 ≤ 8796093022207)
    (h : ∀ v' w', w'.ownsRow base 9 1 v' (k + 1) (xs ++ [.string q]) → (wr.alloc (.cells #[.string q] 9)).drew.grownBy w' v.ownBlock → K (a.put o.dst v') w') :
    if Region.wanted o (yielded ops a.tmps) = true then Oper.wp Try.prog o a (wr.alloc (.cells #[.string q] 9)).drew K Q else E := by
  obtain ⟨i0, hi, hz0, hz1, hz2⟩ := info_parts strInfo
  refine step_append_lies _ hgd s x _ ho base 9 i0 (.string ⟨#[]⟩) 1 16 Try.underlying22 hi hz0 hz1 hz2 rfl (by decide) v k xs hs (hown.alloc _).drew ⟨wr.heap.size, 0, none⟩ 1 1 [.string q] hx (by rfl) (World.news_of_block (cs := #[.string q]) (t := 9) (fr := (0, 0)) (heap_alloc_new wr _)) (by simp [Value.oneCell']) (by decide) (by unfold maxLen; omega) (by omega) (Nat.le_trans hbase (by simp)) _ rfl ?_
  intro g2 cap2 w2 hown2 hg2 _ _
  exact h _ _ hown2 hg2

set_option maxRecDepth 100000 in
set_option maxHeartbeats 1600000 in
theorem frm_read (HC : CrcOk) (s : ByteArray) (w : World) (hs : s.size ≤ 65536) :
    Calls Try.prog 14 #[.string s] w fun e w' => ∃ v, e = .returned (.tuple #[v, .int .i64 (Frm.read s.data.toList).2]) ∧ Cells w' (NewIn w w') v (texts (Frm.read s.data.toList).1) ∧ Below w.heap.size w w' := by
  obtain ⟨S, rfl⟩ : ∃ S, s = mk S := ⟨_, (mk_of s).symm⟩
  rw [mk_data]
  rw [mk_len] at hs
  go_enter Try.func14, Try.ntmps14
  go_wp2_with fail
  go_loopw [0, 4] (fun o v wr => ∃ (d : List (List UInt8)) (r : List UInt8), o = .string (mk r) ∧ Rest S d r ∧ TextsOwn w d v wr) (fun o _ _ => sizeIn o)
  case atStart => exact ⟨[], S, rfl, rest_start S, texts_start w⟩
  case round =>
    obtain ⟨d, r, rfl, hrest, hown⟩ := hrel
    by_cases hr : r = []
    · subst hr
      have hfin := Lib.hid (rest_end hrest)
      have Hown := Lib.hid hown
      have hb : ((mk []).toList != []) = false := by rw [Lib.toList_data]; rfl
      have hb2 : (mk []).toList.isEmpty = true := by rw [Lib.toList_data]; rfl
      clear hown hrest
      go_wp2_with fail
      go_ret2
      exact ⟨u4, by rw [hfin.out]; rfl, by rw [hfin.out]; exact Hown.out.cells, Hown.out.2⟩
    · have hr0 : 0 < r.length := List.length_pos_iff.2 hr
      have hrl := hrest.1
      have hne : (mk r).toList.isEmpty = false := by
        rw [List.isEmpty_eq_false_iff, Lib.toList_data, mk_data]; exact hr
      have hne2 : ((mk r).toList != []) = true := by
        rw [bne_iff_ne, Lib.toList_data, mk_data]; exact hr
      have hfrm := fun W => frm_first HC (mk r) W (by rw [mk_len]; omega)
      rw [mk_data] at hfrm
      by_cases hx : (Frm.first r).2.2 = 0
      · obtain ⟨-, hn, hrr, -⟩ := Frm.first_only r (Frm.first r).1 (Frm.first r).2.1 (by rw [← hx])
        have hnl : (Frm.first r).2.1 ≤ r.length := by
          have e := congrArg List.length hrr
          rw [List.length_append, List.length_drop, ← hn] at e
          omega
        have hstep := Lib.hid (rest_step hrest hr hx)
        have hn5 := (Frm.first_only r (Frm.first r).1 (Frm.first r).2.1 (by rw [← hx])).2.2.2
        have hcut : Hid ((mk r).extract (Frm.first r).2.1 (mk r).size = mk (r.drop (Frm.first r).2.1)) := bytes_ext (by
          rw [Lib.extract_data, mk_data, mk_len, mk_data, ← List.length_drop, List.take_length])
        have hnl2 : ((Frm.first r).2.1 : Int) ≤ ((mk r).size : Int) := by rw [mk_len]; omega
        have hmeas : Hid ((mk (r.drop (Frm.first r).2.1)).size < (mk r).size) := Lib.hid (by rw [mk_len, mk_len, List.length_drop]; omega)
        have hdl : Hid (d.length ≤ 100000) := Lib.hid (by omega)
        have hrz : ((mk r).size : Int) ≤ 65536 := by rw [mk_len]; omega
        rw [hx] at hfrm
        have HF := Lib.hid hfrm
        clear hfrm hn hrr hnl hx hn5 hrest hr hr0 hrl
        generalize (Frm.first r).1 = t at *
        generalize (Frm.first r).2.1 = n at *
        generalize hy2 : mk (r.drop n) = y2 at *
        generalize mk r = y at *
        generalize hxx : mk t = x at *
        go_wp2_with fail
        refine (HF.out wr).mono ?_
        rintro e w1 ⟨rfl, h1⟩
        rw [hxx]
        have hown1 := hown.below h1
        have Hown1 := Lib.hid hown1
        have hz := hown1.2.size
        have hown1 := hown1.1
        have hk1 : d.length + 1 ≤ 8796093022207 := by have := hdl.out; omega
        clear h1 hown
        go_wp2_with fail
        go_region_law (first
          | (refine step_text (by rfl) _ _ (by rfl) _ _ x _ (by rfl) (by rfl) hown1 hz hk1 ?_
             intro v2 w2 hown2 hg2))
        all_goals
          have hnew := texts_more Hown1.out (x := t) (v' := v2) (by rw [hxx]; exact hown2) (gb_undrew hg2)
          simp only [Act.put, List.getElem_toArray, List.getElem_cons_zero, List.getElem_cons_succ, List.setIfInBounds_toArray, List.set_cons_zero, List.set_cons_succ]
          go_wp2_with fail
          refine ⟨⟨_, r.drop n, by rw [hcut.out, hy2], hstep.out, hnew⟩, ?_⟩
          rw [hcut.out]; exact hmeas.out
      · have hfin := Lib.hid (rest_bad hrest hr hx)
        have hb2 : ((Frm.first r).2.2 != 0) = true := by simp [hx]
        have HF := Lib.hid hfrm
        have Hown := Lib.hid hown
        clear hfrm hown hrest hr hr0 hrl
        generalize (Frm.first r).2.2 = x at *
        generalize (Frm.first r).1 = t at *
        generalize (Frm.first r).2.1 = n at *
        generalize mk r = y at *
        go_wp2_with fail
        refine (HF.out wr).mono ?_
        rintro e w1 ⟨rfl, h1⟩
        have h1 := Lib.hid h1
        go_wp2_with fail
        go_ret2
        exact ⟨.slice none 0 0, by rw [hfin.out]; rfl, by rw [hfin.out]; exact Cells.none _ _, Hown.out.2.trans (h1.out.mono Hown.out.2.size)⟩
end Go.Proofs.Ytlccbebociknaaa
